/- EventApart, walked: both may be. -/
import Derived.Test.YtcihnfgfficmlaaWEApart
import Derived.Test.YtcihnfgfficmlaaHeld
namespace Go.Proofs.Ytcihnfgfficmlaa
open Go.RowKit Go.Lib

set_option maxRecDepth 100000 in
set_option maxHeartbeats 4000000 in
theorem apart_good (a : CmdD) (x : Option Addr) (c : Nat) (oka : a.Ok) (b : CmdD) (y : Option Addr) (d : Nat) (okb : b.Ok) (w : World) (ha : Evs w x c a.evs) (hb : Evs w y d b.evs) (h1 : smallC a = true) (h2 : smallC b = true) (h3 : checkC a = 0) (h4 : checkC b = 0) :
    Calls Try.prog 9 #[a.agg x c, b.agg y d] w fun e w' => e = .returned (.bool true) ∧ Touch [] w w' := by
  have CA := hid alive_true
  have CMa := hid (fun w' (t : Touch [] w w') => small_any a x c w' (ha.ev.touch t) oka.l)
  have CMb := hid (fun w' (t : Touch [] w w') => small_any b y d w' (hb.ev.touch t) okb.l)
  have CPa := hid (fun w' (t : Touch [] w w') => evPut_any a x c w' (ha.ev.touch t))
  have CPb := hid (fun w' (t : Touch [] w w') => evPut_any b y d w' (hb.ev.touch t))
  have CS1 := hid (fun w' (t : Touch [] w w') => evSame_any a b x y c d w' (ha.ev.touch t) (hb.ev.touch t) oka.l)
  have CS2 := hid (fun w' (t : Touch [] w w') => evSame_any b a y x d c w' (hb.ev.touch t) (ha.ev.touch t) okb.l)
  have CS3 := hid (fun w' (t : Touch [] w w') => evSame_any a a x x c c w' (ha.ev.touch t) (ha.ev.touch t) oka.l)
  have hsame := hid (fun h1 h2 => putB_same (a := a) (b := b) h1 h2 (evs_oks ha.ev) (evs_oks hb.ev))
  simp only [sameC_comm b a] at CS2
  simp only [sameC_self] at CS3
  clear ha hb oka okb
  obtain ⟨W2, hW2⟩ : ∃ W2, W2 = (w.alloc (.cells #[.int .i64 a.kind, .int .i64 a.time, .string a.stream, .int .i64 a.exp, .slice x a.evs.length c, .int .i64 a.cnt, .int .i64 a.age, .int .i64 a.bef] tCmd)).alloc (.cells #[.int .i64 b.kind, .int .i64 b.time, .string b.stream, .int .i64 b.exp, .slice y b.evs.length d, .int .i64 b.cnt, .int .i64 b.age, .int .i64 b.bef] tCmd) := ⟨_, rfl⟩
  have Tw : Hid (Touch [] w W2) := by rw [hW2]; exact hid (((Touch.refl [] w).alloc _).alloc _)
  have T0 : Hid (Touch [] W2 W2) := hid (Touch.refl _ _)
  have A : W2.heap[w.heap.size]? = some (.cells #[.int .i64 a.kind, .int .i64 a.time, .string a.stream, .int .i64 a.exp, .slice x a.evs.length c, .int .i64 a.cnt, .int .i64 a.age, .int .i64 a.bef] tCmd (0, 0)) := by rw [hW2]; exact touch_blk ((Touch.refl [] _).alloc _) (heap_alloc_new w _) (by simp)
  have B : W2.heap[w.heap.size + 1]? = some (.cells #[.int .i64 b.kind, .int .i64 b.time, .string b.stream, .int .i64 b.exp, .slice y b.evs.length d, .int .i64 b.cnt, .int .i64 b.age, .int .i64 b.bef] tCmd (0, 0)) := by rw [hW2]; have h := heap_alloc_new (w.alloc (.cells #[.int .i64 a.kind, .int .i64 a.time, .string a.stream, .int .i64 a.exp, .slice x a.evs.length c, .int .i64 a.cnt, .int .i64 a.age, .int .i64 a.bef] tCmd)) (.cells #[.int .i64 b.kind, .int .i64 b.time, .string b.stream, .int .i64 b.exp, .slice y b.evs.length d, .int .i64 b.cnt, .int .i64 b.age, .int .i64 b.bef] tCmd); simpa using h
  have pa0 := hid (cell_of A 0); have pb0 := hid (cell_of B 0)
  have pa1 := hid (cell_of A 1); have pb1 := hid (cell_of B 1)
  have pa2 := hid (cell_of A 2); have pb2 := hid (cell_of B 2)
  have pa3 := hid (cell_of A 3); have pb3 := hid (cell_of B 3)
  have pa4 := hid (cell_of A 4); have pb4 := hid (cell_of B 4)
  have pa5 := hid (cell_of A 5); have pb5 := hid (cell_of B 5)
  have pa6 := hid (cell_of A 6); have pb6 := hid (cell_of B 6)
  have pa7 := hid (cell_of A 7); have pb7 := hid (cell_of B 7)
  have a0 := pa0.out; have b0 := pb0.out
  have a1 := pa1.out; have b1 := pb1.out
  have a2 := pa2.out; have b2 := pb2.out
  have a3 := pa3.out; have b3 := pb3.out
  have a4 := pa4.out; have b4 := pb4.out
  have a5 := pa5.out; have b5 := pb5.out
  have a6 := pa6.out; have b6 := pb6.out
  have a7 := pa7.out; have b7 := pb7.out
  clear A B
  unfold CmdD.agg at *
  rw [h1] at CMa
  rw [h2] at CMb
  rw [h3] at CPa hsame
  rw [h4] at CPb hsame
  clear h1 h2 h3 h4
  generalize sameC a b = g at *
  generalize putB a = S at *
  generalize putB b = R at *
  have q := hsame.out rfl rfl
  clear hsame
  go_enter Try.func9, Try.ntmps9
  go_wp2_with fail
  simp only [tCmd] at hW2
  rw [← hW2]
  clear hW2
  refine (CMa.out _ (Tw.out.trans T0.out (by simp))).mono ?_
  rintro e w1 ⟨rfl, t1⟩
  clear a0 a1 a2 a3 a4 a5 a6 a7 b0 b1 b2 b3 b4 b5 b6 b7; have T1 := hid (T0.out.trans t1 (by simp)); have a0 := T1.out.cell pa0.out; have a1 := T1.out.cell pa1.out; have a2 := T1.out.cell pa2.out; have a3 := T1.out.cell pa3.out; have a4 := T1.out.cell pa4.out; have a5 := T1.out.cell pa5.out; have a6 := T1.out.cell pa6.out; have a7 := T1.out.cell pa7.out; have b0 := T1.out.cell pb0.out; have b1 := T1.out.cell pb1.out; have b2 := T1.out.cell pb2.out; have b3 := T1.out.cell pb3.out; have b4 := T1.out.cell pb4.out; have b5 := T1.out.cell pb5.out; have b6 := T1.out.cell pb6.out; have b7 := T1.out.cell pb7.out
  go_wp2_with (first | (go_at_call 10; refine (CMb.out _ (Tw.out.trans T1.out (by simp))).mono ?_; rintro e w2 ⟨rfl, t2⟩; clear a0 a1 a2 a3 a4 a5 a6 a7 b0 b1 b2 b3 b4 b5 b6 b7; have T2 := hid (T1.out.trans t2 (by simp)); have a0 := T2.out.cell pa0.out; have a1 := T2.out.cell pa1.out; have a2 := T2.out.cell pa2.out; have a3 := T2.out.cell pa3.out; have a4 := T2.out.cell pa4.out; have a5 := T2.out.cell pa5.out; have a6 := T2.out.cell pa6.out; have a7 := T2.out.cell pa7.out; have b0 := T2.out.cell pb0.out; have b1 := T2.out.cell pb1.out; have b2 := T2.out.cell pb2.out; have b3 := T2.out.cell pb3.out; have b4 := T2.out.cell pb4.out; have b5 := T2.out.cell pb5.out; have b6 := T2.out.cell pb6.out; have b7 := T2.out.cell pb7.out) | (go_at_call 16; with_reducible refine (CPa.out _ (Tw.out.trans T2.out (by simp))).mono ?_; rintro e w3 ⟨rfl, t3⟩; clear a0 a1 a2 a3 a4 a5 a6 a7 b0 b1 b2 b3 b4 b5 b6 b7; have T3 := hid (T2.out.trans t3 (by simp)); have a0 := T3.out.cell pa0.out; have a1 := T3.out.cell pa1.out; have a2 := T3.out.cell pa2.out; have a3 := T3.out.cell pa3.out; have a4 := T3.out.cell pa4.out; have a5 := T3.out.cell pa5.out; have a6 := T3.out.cell pa6.out; have a7 := T3.out.cell pa7.out; have b0 := T3.out.cell pb0.out; have b1 := T3.out.cell pb1.out; have b2 := T3.out.cell pb2.out; have b3 := T3.out.cell pb3.out; have b4 := T3.out.cell pb4.out; have b5 := T3.out.cell pb5.out; have b6 := T3.out.cell pb6.out; have b7 := T3.out.cell pb7.out) | (go_at_call 16; with_reducible refine (CPb.out _ (Tw.out.trans T3.out (by simp))).mono ?_; rintro e w4 ⟨rfl, t4⟩; clear a0 a1 a2 a3 a4 a5 a6 a7 b0 b1 b2 b3 b4 b5 b6 b7; have T4 := hid (T3.out.trans t4 (by simp)); have a0 := T4.out.cell pa0.out; have a1 := T4.out.cell pa1.out; have a2 := T4.out.cell pa2.out; have a3 := T4.out.cell pa3.out; have a4 := T4.out.cell pa4.out; have a5 := T4.out.cell pa5.out; have a6 := T4.out.cell pa6.out; have a7 := T4.out.cell pa7.out; have b0 := T4.out.cell pb0.out; have b1 := T4.out.cell pb1.out; have b2 := T4.out.cell pb2.out; have b3 := T4.out.cell pb3.out; have b4 := T4.out.cell pb4.out; have b5 := T4.out.cell pb5.out; have b6 := T4.out.cell pb6.out; have b7 := T4.out.cell pb7.out))
  go_upto_region 7 with fail
  obtain ⟨ι, f, ⟨θ0, hθ0⟩, F0, F1, F2, F3, F4, F5, F6, F7, F8, F9, F10, F11, F12, F13, F14, F15, FT, FA, FS1, FS2, FS3⟩ : ∃ (ι : Type) (f : ι → World), (∃ θ, f θ = w4.drew) ∧ (∀ θ, (f θ).cell? ⟨w.heap.size, 0, none⟩ = some (.int .i64 a.kind)) ∧ (∀ θ, (f θ).cell? ⟨w.heap.size, 1, none⟩ = some (.int .i64 a.time)) ∧ (∀ θ, (f θ).cell? ⟨w.heap.size, 2, none⟩ = some (.string a.stream)) ∧ (∀ θ, (f θ).cell? ⟨w.heap.size, 3, none⟩ = some (.int .i64 a.exp)) ∧ (∀ θ, (f θ).cell? ⟨w.heap.size, 4, none⟩ = some (.slice x a.evs.length c)) ∧ (∀ θ, (f θ).cell? ⟨w.heap.size, 5, none⟩ = some (.int .i64 a.cnt)) ∧ (∀ θ, (f θ).cell? ⟨w.heap.size, 6, none⟩ = some (.int .i64 a.age)) ∧ (∀ θ, (f θ).cell? ⟨w.heap.size, 7, none⟩ = some (.int .i64 a.bef)) ∧ (∀ θ, (f θ).cell? ⟨w.heap.size + 1, 0, none⟩ = some (.int .i64 b.kind)) ∧ (∀ θ, (f θ).cell? ⟨w.heap.size + 1, 1, none⟩ = some (.int .i64 b.time)) ∧ (∀ θ, (f θ).cell? ⟨w.heap.size + 1, 2, none⟩ = some (.string b.stream)) ∧ (∀ θ, (f θ).cell? ⟨w.heap.size + 1, 3, none⟩ = some (.int .i64 b.exp)) ∧ (∀ θ, (f θ).cell? ⟨w.heap.size + 1, 4, none⟩ = some (.slice y b.evs.length d)) ∧ (∀ θ, (f θ).cell? ⟨w.heap.size + 1, 5, none⟩ = some (.int .i64 b.cnt)) ∧ (∀ θ, (f θ).cell? ⟨w.heap.size + 1, 6, none⟩ = some (.int .i64 b.age)) ∧ (∀ θ, (f θ).cell? ⟨w.heap.size + 1, 7, none⟩ = some (.int .i64 b.bef)) ∧ Hid (∀ θ, Touch [] w (f θ)) ∧ Hid (∀ θ, Calls Try.prog 11 #[] (f θ) fun e w'' => e = .returned (.bool true) ∧ ∃ θ', w'' = f θ') ∧ Hid (∀ θ, Calls Try.prog 25 #[.agg #[.int .i64 a.kind, .int .i64 a.time, .string a.stream, .int .i64 a.exp, .slice x a.evs.length c, .int .i64 a.cnt, .int .i64 a.age, .int .i64 a.bef], .agg #[.int .i64 b.kind, .int .i64 b.time, .string b.stream, .int .i64 b.exp, .slice y b.evs.length d, .int .i64 b.cnt, .int .i64 b.age, .int .i64 b.bef]] (f θ) fun e w'' => e = .returned (.bool g) ∧ ∃ θ', w'' = f θ') ∧ Hid (∀ θ, Calls Try.prog 25 #[.agg #[.int .i64 b.kind, .int .i64 b.time, .string b.stream, .int .i64 b.exp, .slice y b.evs.length d, .int .i64 b.cnt, .int .i64 b.age, .int .i64 b.bef], .agg #[.int .i64 a.kind, .int .i64 a.time, .string a.stream, .int .i64 a.exp, .slice x a.evs.length c, .int .i64 a.cnt, .int .i64 a.age, .int .i64 a.bef]] (f θ) fun e w'' => e = .returned (.bool g) ∧ ∃ θ', w'' = f θ') ∧ Hid (∀ θ, Calls Try.prog 25 #[.agg #[.int .i64 a.kind, .int .i64 a.time, .string a.stream, .int .i64 a.exp, .slice x a.evs.length c, .int .i64 a.cnt, .int .i64 a.age, .int .i64 a.bef], .agg #[.int .i64 a.kind, .int .i64 a.time, .string a.stream, .int .i64 a.exp, .slice x a.evs.length c, .int .i64 a.cnt, .int .i64 a.age, .int .i64 a.bef]] (f θ) fun e w'' => e = .returned (.bool true) ∧ ∃ θ', w'' = f θ') :=
    ⟨{wx // Touch [] w4 wx}, Subtype.val, ⟨⟨_, (Touch.refl [] w4).drew⟩, rfl⟩, fun θ => θ.2.cell a0, fun θ => θ.2.cell a1, fun θ => θ.2.cell a2, fun θ => θ.2.cell a3, fun θ => θ.2.cell a4, fun θ => θ.2.cell a5, fun θ => θ.2.cell a6, fun θ => θ.2.cell a7, fun θ => θ.2.cell b0, fun θ => θ.2.cell b1, fun θ => θ.2.cell b2, fun θ => θ.2.cell b3, fun θ => θ.2.cell b4, fun θ => θ.2.cell b5, fun θ => θ.2.cell b6, fun θ => θ.2.cell b7, hid fun θ => (Tw.out.trans T4.out (by simp)).trans θ.2 (by simp), hid fun θ => (CA.out _).mono fun e w'' ⟨he, h2⟩ => ⟨he, ⟨⟨w'', θ.2.trans h2 (by simp)⟩, rfl⟩⟩, hid fun θ => (CS1.out _ ((Tw.out.trans T4.out (by simp)).trans θ.2 (by simp))).mono fun e w'' ⟨he, h2⟩ => ⟨he, ⟨⟨w'', θ.2.trans h2 (by simp)⟩, rfl⟩⟩, hid fun θ => (CS2.out _ ((Tw.out.trans T4.out (by simp)).trans θ.2 (by simp))).mono fun e w'' ⟨he, h2⟩ => ⟨he, ⟨⟨w'', θ.2.trans h2 (by simp)⟩, rfl⟩⟩, hid fun θ => (CS3.out _ ((Tw.out.trans T4.out (by simp)).trans θ.2 (by simp))).mono fun e w'' ⟨he, h2⟩ => ⟨he, ⟨⟨w'', θ.2.trans h2 (by simp)⟩, rfl⟩⟩⟩
  have Hθ := hid hθ0
  have inst : Nonempty ι := ⟨θ0⟩
  clear hθ0 CA CS1 CS2 CS3 CMa CMb CPa CPb a0 a1 a2 a3 a4 a5 a6 a7 b0 b1 b2 b3 b4 b5 b6 b7
  cases g
  all_goals
    refine wp_region_held f θ0 (by kernel_rfl) (by kernel_rfl) Hθ.out ?_
    repeat go_big_quiet_step (first | with_reducible exact FA.out _ | with_reducible exact FS1.out _ | with_reducible exact FS2.out _ | with_reducible exact FS3.out _)
    refine wpQuiet_nil ?_
    intro _ hw'
    obtain ⟨θ, hw''⟩ := hw'
    subst hw''
    have T9 := hid (FT.out θ)
    go_wp2
    go_ret
    exact ⟨rfl, T9.out⟩

theorem walk_EventApart (a : CmdD) (x : Option Addr) (c : Nat) (oka : a.Ok) (b : CmdD) (y : Option Addr) (d : Nat) (okb : b.Ok) (w : World) (ha : Evs w x c a.evs) (hb : Evs w y d b.evs) :
    Calls Try.prog 9 #[a.agg x c, b.agg y d] w fun e w' => e = .returned (.bool true) ∧ Touch [] w w' := by
  by_cases h : smallC a = true ∧ smallC b = true ∧ checkC a = 0 ∧ checkC b = 0
  · exact apart_good a x c oka b y d okb w ha hb h.1 h.2.1 h.2.2.1 h.2.2.2
  · exact apart_early a x c oka b y d okb w ha hb h
end Go.Proofs.Ytcihnfgfficmlaa
