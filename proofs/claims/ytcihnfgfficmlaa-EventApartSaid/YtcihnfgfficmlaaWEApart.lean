/- EventApart, walked. -/
import Derived.Test.YtcihnfgfficmlaaAlive7
import Derived.Test.YtcihnfgfficmlaaArg7
namespace Go.Proofs.Ytcihnfgfficmlaa
open Go.RowKit Go.Lib

theorem putB_same {a b : CmdD} (ha : checkC a = 0) (hb : checkC b = 0) (oa : ∀ e ∈ a.evs, e.id ≤ 9223372036854775807 ∧ e.val < 18446744073709551616) (ob : ∀ e ∈ b.evs, e.id ≤ 9223372036854775807 ∧ e.val < 18446744073709551616) : ((putB a).toList == (putB b).toList) = sameC a b := by
  have h1 : (putB a).data.toList = layC a := by unfold putB; rw [if_pos ha]
  have h2 : (putB b).data.toList = layC b := by unfold putB; rw [if_pos hb]
  rw [ByteArray.toList_eq, ByteArray.toList_eq, h1, h2, Bool.eq_iff_iff, beq_iff_eq]
  exact lay_apart ha hb oa ob
theorem evs_oks {W : World} {x : Option Addr} {l : List EvD} (h : EvX W x l) : ∀ e ∈ l, e.id ≤ 9223372036854775807 ∧ e.val < 18446744073709551616 := by
  intro e he
  obtain ⟨i, hi, rfl⟩ := List.getElem_of_mem he
  obtain ⟨_, _, _, _, ok⟩ := h i hi
  exact ⟨ok.i1, ok.v⟩

set_option maxRecDepth 100000 in
set_option maxHeartbeats 4000000 in
theorem apart_early (a : CmdD) (x : Option Addr) (c : Nat) (oka : a.Ok) (b : CmdD) (y : Option Addr) (d : Nat) (okb : b.Ok) (w : World) (ha : Evs w x c a.evs) (hb : Evs w y d b.evs) (hno : ¬ (smallC a = true ∧ smallC b = true ∧ checkC a = 0 ∧ checkC b = 0)) :
    Calls Try.prog 9 #[a.agg x c, b.agg y d] w fun e w' => e = .returned (.bool true) ∧ Touch [] w w' := by
  have CA := hid alive_true
  have CMa := hid (fun w' (t : Touch [] w w') => small_any a x c w' (ha.ev.touch t) oka.l)
  have CMb := hid (fun w' (t : Touch [] w w') => small_any b y d w' (hb.ev.touch t) okb.l)
  have CPa := hid (fun w' (t : Touch [] w w') => evPut_any a x c w' (ha.ev.touch t))
  have CPb := hid (fun w' (t : Touch [] w w') => evPut_any b y d w' (hb.ev.touch t))
  have CS1 := hid (fun w' (t : Touch [] w w') => evSame_any a b x y c d w' (ha.ev.touch t) (hb.ev.touch t) oka.l)
  have CS2 := hid (fun w' (t : Touch [] w w') => evSame_any b a y x d c w' (hb.ev.touch t) (ha.ev.touch t) okb.l)
  have CS3 := hid (fun w' (t : Touch [] w w') => evSame_any a a x x c c w' (ha.ev.touch t) (ha.ev.touch t) oka.l)
  have hsame := hid (fun h1 h2 => putB_same (a := a) (b := b) h1 h2 (evs_oks ha.ev) (evs_oks hb.ev))
  simp only [sameC_comm b a] at CS2
  simp only [sameC_self] at CS3
  clear ha hb oka okb
  have HNO := hid hno
  clear hno
  obtain ⟨W2, hW2⟩ : ∃ W2, W2 = (w.alloc (.cells #[.int .i64 a.kind, .int .i64 a.time, .string a.stream, .int .i64 a.exp, .slice x a.evs.length c, .int .i64 a.cnt, .int .i64 a.age, .int .i64 a.bef] tCmd)).alloc (.cells #[.int .i64 b.kind, .int .i64 b.time, .string b.stream, .int .i64 b.exp, .slice y b.evs.length d, .int .i64 b.cnt, .int .i64 b.age, .int .i64 b.bef] tCmd) := ⟨_, rfl⟩
  have Tw : Hid (Touch [] w W2) := by rw [hW2]; exact hid (((Touch.refl [] w).alloc _).alloc _)
  have T0 : Hid (Touch [] W2 W2) := hid (Touch.refl _ _)
  have A : W2.heap[w.heap.size]? = some (.cells #[.int .i64 a.kind, .int .i64 a.time, .string a.stream, .int .i64 a.exp, .slice x a.evs.length c, .int .i64 a.cnt, .int .i64 a.age, .int .i64 a.bef] tCmd (0, 0)) := by rw [hW2]; exact touch_blk ((Touch.refl [] _).alloc _) (heap_alloc_new w _) (by simp)
  have B : W2.heap[w.heap.size + 1]? = some (.cells #[.int .i64 b.kind, .int .i64 b.time, .string b.stream, .int .i64 b.exp, .slice y b.evs.length d, .int .i64 b.cnt, .int .i64 b.age, .int .i64 b.bef] tCmd (0, 0)) := by rw [hW2]; have h := heap_alloc_new (w.alloc (.cells #[.int .i64 a.kind, .int .i64 a.time, .string a.stream, .int .i64 a.exp, .slice x a.evs.length c, .int .i64 a.cnt, .int .i64 a.age, .int .i64 a.bef] tCmd)) (.cells #[.int .i64 b.kind, .int .i64 b.time, .string b.stream, .int .i64 b.exp, .slice y b.evs.length d, .int .i64 b.cnt, .int .i64 b.age, .int .i64 b.bef] tCmd); simpa using h
  have pa0 := hid (cell_of A 0); have pb0 := hid (cell_of B 0)
  have pa1 := hid (cell_of A 1); have pb1 := hid (cell_of B 1)
  have pa2 := hid (cell_of A 2); have pb2 := hid (cell_of B 2)
  have pa3 := hid (cell_of A 3); have pb3 := hid (cell_of B 3)
  have pa4 := hid (cell_of A 4); have pb4 := hid (cell_of B 4)
  have pa5 := hid (cell_of A 5); have pb5 := hid (cell_of B 5)
  have pa6 := hid (cell_of A 6); have pb6 := hid (cell_of B 6)
  have pa7 := hid (cell_of A 7); have pb7 := hid (cell_of B 7)
  have a0 := pa0.out; have b0 := pb0.out
  have a1 := pa1.out; have b1 := pb1.out
  have a2 := pa2.out; have b2 := pb2.out
  have a3 := pa3.out; have b3 := pb3.out
  have a4 := pa4.out; have b4 := pb4.out
  have a5 := pa5.out; have b5 := pb5.out
  have a6 := pa6.out; have b6 := pb6.out
  have a7 := pa7.out; have b7 := pb7.out
  clear A B
  unfold CmdD.agg at *
  generalize sameC a b = g at *
  generalize smallC a = ma at *
  generalize smallC b = mb at *
  generalize putB a = S at *
  generalize putB b = R at *
  generalize checkC a = ka at *
  generalize checkC b = kb at *
  cases ma
  · clear CMb CPa CPb CS1 CS2 CS3 hsame
    go_enter Try.func9, Try.ntmps9
    go_wp2_with fail
    simp only [tCmd] at hW2
    rw [← hW2]
    clear hW2
    refine (CMa.out _ (Tw.out.trans T0.out (by simp))).mono ?_
    rintro e w1 ⟨rfl, t1⟩
    clear a0 a1 a2 a3 a4 a5 a6 a7 b0 b1 b2 b3 b4 b5 b6 b7; have T1 := hid (T0.out.trans t1 (by simp)); have a0 := T1.out.cell pa0.out; have a1 := T1.out.cell pa1.out; have a2 := T1.out.cell pa2.out; have a3 := T1.out.cell pa3.out; have a4 := T1.out.cell pa4.out; have a5 := T1.out.cell pa5.out; have a6 := T1.out.cell pa6.out; have a7 := T1.out.cell pa7.out; have b0 := T1.out.cell pb0.out; have b1 := T1.out.cell pb1.out; have b2 := T1.out.cell pb2.out; have b3 := T1.out.cell pb3.out; have b4 := T1.out.cell pb4.out; have b5 := T1.out.cell pb5.out; have b6 := T1.out.cell pb6.out; have b7 := T1.out.cell pb7.out
    go_wp2_with (first | (go_at_call 11; refine (CA.out _).mono ?_; rintro e w9 ⟨rfl, t9⟩))
    go_ret
    exact ⟨rfl, (Tw.out.trans T1.out (by simp)).trans t9 (by simp)⟩
  cases mb
  · clear CPa CPb CS1 CS2 CS3 hsame
    go_enter Try.func9, Try.ntmps9
    go_wp2_with fail
    simp only [tCmd] at hW2
    rw [← hW2]
    clear hW2
    refine (CMa.out _ (Tw.out.trans T0.out (by simp))).mono ?_
    rintro e w1 ⟨rfl, t1⟩
    clear a0 a1 a2 a3 a4 a5 a6 a7 b0 b1 b2 b3 b4 b5 b6 b7; have T1 := hid (T0.out.trans t1 (by simp)); have a0 := T1.out.cell pa0.out; have a1 := T1.out.cell pa1.out; have a2 := T1.out.cell pa2.out; have a3 := T1.out.cell pa3.out; have a4 := T1.out.cell pa4.out; have a5 := T1.out.cell pa5.out; have a6 := T1.out.cell pa6.out; have a7 := T1.out.cell pa7.out; have b0 := T1.out.cell pb0.out; have b1 := T1.out.cell pb1.out; have b2 := T1.out.cell pb2.out; have b3 := T1.out.cell pb3.out; have b4 := T1.out.cell pb4.out; have b5 := T1.out.cell pb5.out; have b6 := T1.out.cell pb6.out; have b7 := T1.out.cell pb7.out
    go_wp2_with (first | (go_at_call 10; refine (CMb.out _ (Tw.out.trans T1.out (by simp))).mono ?_; rintro e w2 ⟨rfl, t2⟩; clear a0 a1 a2 a3 a4 a5 a6 a7 b0 b1 b2 b3 b4 b5 b6 b7; have T2 := hid (T1.out.trans t2 (by simp)); have a0 := T2.out.cell pa0.out; have a1 := T2.out.cell pa1.out; have a2 := T2.out.cell pa2.out; have a3 := T2.out.cell pa3.out; have a4 := T2.out.cell pa4.out; have a5 := T2.out.cell pa5.out; have a6 := T2.out.cell pa6.out; have a7 := T2.out.cell pa7.out; have b0 := T2.out.cell pb0.out; have b1 := T2.out.cell pb1.out; have b2 := T2.out.cell pb2.out; have b3 := T2.out.cell pb3.out; have b4 := T2.out.cell pb4.out; have b5 := T2.out.cell pb5.out; have b6 := T2.out.cell pb6.out; have b7 := T2.out.cell pb7.out) | (go_at_call 11; refine (CA.out _).mono ?_; rintro e w9 ⟨rfl, t9⟩))
    go_ret
    exact ⟨rfl, (Tw.out.trans T2.out (by simp)).trans t9 (by simp)⟩
  by_cases h1 : ka = 0
  rotate_left
  · have q1 : (ka != 0) = true := by simpa using h1
    clear CS1 CS2 CS3 hsame h1
    go_enter Try.func9, Try.ntmps9
    go_wp2_with fail
    simp only [tCmd] at hW2
    rw [← hW2]
    clear hW2
    refine (CMa.out _ (Tw.out.trans T0.out (by simp))).mono ?_
    rintro e w1 ⟨rfl, t1⟩
    clear a0 a1 a2 a3 a4 a5 a6 a7 b0 b1 b2 b3 b4 b5 b6 b7; have T1 := hid (T0.out.trans t1 (by simp)); have a0 := T1.out.cell pa0.out; have a1 := T1.out.cell pa1.out; have a2 := T1.out.cell pa2.out; have a3 := T1.out.cell pa3.out; have a4 := T1.out.cell pa4.out; have a5 := T1.out.cell pa5.out; have a6 := T1.out.cell pa6.out; have a7 := T1.out.cell pa7.out; have b0 := T1.out.cell pb0.out; have b1 := T1.out.cell pb1.out; have b2 := T1.out.cell pb2.out; have b3 := T1.out.cell pb3.out; have b4 := T1.out.cell pb4.out; have b5 := T1.out.cell pb5.out; have b6 := T1.out.cell pb6.out; have b7 := T1.out.cell pb7.out
    go_wp2_with (first | (go_at_call 10; refine (CMb.out _ (Tw.out.trans T1.out (by simp))).mono ?_; rintro e w2 ⟨rfl, t2⟩; clear a0 a1 a2 a3 a4 a5 a6 a7 b0 b1 b2 b3 b4 b5 b6 b7; have T2 := hid (T1.out.trans t2 (by simp)); have a0 := T2.out.cell pa0.out; have a1 := T2.out.cell pa1.out; have a2 := T2.out.cell pa2.out; have a3 := T2.out.cell pa3.out; have a4 := T2.out.cell pa4.out; have a5 := T2.out.cell pa5.out; have a6 := T2.out.cell pa6.out; have a7 := T2.out.cell pa7.out; have b0 := T2.out.cell pb0.out; have b1 := T2.out.cell pb1.out; have b2 := T2.out.cell pb2.out; have b3 := T2.out.cell pb3.out; have b4 := T2.out.cell pb4.out; have b5 := T2.out.cell pb5.out; have b6 := T2.out.cell pb6.out; have b7 := T2.out.cell pb7.out) | (go_at_call 16; with_reducible refine (CPa.out _ (Tw.out.trans T2.out (by simp))).mono ?_; rintro e w3 ⟨rfl, t3⟩; clear a0 a1 a2 a3 a4 a5 a6 a7 b0 b1 b2 b3 b4 b5 b6 b7; have T3 := hid (T2.out.trans t3 (by simp)); have a0 := T3.out.cell pa0.out; have a1 := T3.out.cell pa1.out; have a2 := T3.out.cell pa2.out; have a3 := T3.out.cell pa3.out; have a4 := T3.out.cell pa4.out; have a5 := T3.out.cell pa5.out; have a6 := T3.out.cell pa6.out; have a7 := T3.out.cell pa7.out; have b0 := T3.out.cell pb0.out; have b1 := T3.out.cell pb1.out; have b2 := T3.out.cell pb2.out; have b3 := T3.out.cell pb3.out; have b4 := T3.out.cell pb4.out; have b5 := T3.out.cell pb5.out; have b6 := T3.out.cell pb6.out; have b7 := T3.out.cell pb7.out) | (go_at_call 16; with_reducible refine (CPb.out _ (Tw.out.trans T3.out (by simp))).mono ?_; rintro e w4 ⟨rfl, t4⟩; clear a0 a1 a2 a3 a4 a5 a6 a7 b0 b1 b2 b3 b4 b5 b6 b7; have T4 := hid (T3.out.trans t4 (by simp)); have a0 := T4.out.cell pa0.out; have a1 := T4.out.cell pa1.out; have a2 := T4.out.cell pa2.out; have a3 := T4.out.cell pa3.out; have a4 := T4.out.cell pa4.out; have a5 := T4.out.cell pa5.out; have a6 := T4.out.cell pa6.out; have a7 := T4.out.cell pa7.out; have b0 := T4.out.cell pb0.out; have b1 := T4.out.cell pb1.out; have b2 := T4.out.cell pb2.out; have b3 := T4.out.cell pb3.out; have b4 := T4.out.cell pb4.out; have b5 := T4.out.cell pb5.out; have b6 := T4.out.cell pb6.out; have b7 := T4.out.cell pb7.out) | (go_at_call 11; refine (CA.out _).mono ?_; rintro e w9 ⟨rfl, t9⟩))
    go_ret
    exact ⟨rfl, (Tw.out.trans T4.out (by simp)).trans t9 (by simp)⟩
  subst h1
  by_cases h2 : kb = 0
  rotate_left
  · have q1 : (kb != 0) = true := by simpa using h2
    clear CS1 CS2 CS3 hsame h2
    go_enter Try.func9, Try.ntmps9
    go_wp2_with fail
    simp only [tCmd] at hW2
    rw [← hW2]
    clear hW2
    refine (CMa.out _ (Tw.out.trans T0.out (by simp))).mono ?_
    rintro e w1 ⟨rfl, t1⟩
    clear a0 a1 a2 a3 a4 a5 a6 a7 b0 b1 b2 b3 b4 b5 b6 b7; have T1 := hid (T0.out.trans t1 (by simp)); have a0 := T1.out.cell pa0.out; have a1 := T1.out.cell pa1.out; have a2 := T1.out.cell pa2.out; have a3 := T1.out.cell pa3.out; have a4 := T1.out.cell pa4.out; have a5 := T1.out.cell pa5.out; have a6 := T1.out.cell pa6.out; have a7 := T1.out.cell pa7.out; have b0 := T1.out.cell pb0.out; have b1 := T1.out.cell pb1.out; have b2 := T1.out.cell pb2.out; have b3 := T1.out.cell pb3.out; have b4 := T1.out.cell pb4.out; have b5 := T1.out.cell pb5.out; have b6 := T1.out.cell pb6.out; have b7 := T1.out.cell pb7.out
    go_wp2_with (first | (go_at_call 10; refine (CMb.out _ (Tw.out.trans T1.out (by simp))).mono ?_; rintro e w2 ⟨rfl, t2⟩; clear a0 a1 a2 a3 a4 a5 a6 a7 b0 b1 b2 b3 b4 b5 b6 b7; have T2 := hid (T1.out.trans t2 (by simp)); have a0 := T2.out.cell pa0.out; have a1 := T2.out.cell pa1.out; have a2 := T2.out.cell pa2.out; have a3 := T2.out.cell pa3.out; have a4 := T2.out.cell pa4.out; have a5 := T2.out.cell pa5.out; have a6 := T2.out.cell pa6.out; have a7 := T2.out.cell pa7.out; have b0 := T2.out.cell pb0.out; have b1 := T2.out.cell pb1.out; have b2 := T2.out.cell pb2.out; have b3 := T2.out.cell pb3.out; have b4 := T2.out.cell pb4.out; have b5 := T2.out.cell pb5.out; have b6 := T2.out.cell pb6.out; have b7 := T2.out.cell pb7.out) | (go_at_call 16; with_reducible refine (CPa.out _ (Tw.out.trans T2.out (by simp))).mono ?_; rintro e w3 ⟨rfl, t3⟩; clear a0 a1 a2 a3 a4 a5 a6 a7 b0 b1 b2 b3 b4 b5 b6 b7; have T3 := hid (T2.out.trans t3 (by simp)); have a0 := T3.out.cell pa0.out; have a1 := T3.out.cell pa1.out; have a2 := T3.out.cell pa2.out; have a3 := T3.out.cell pa3.out; have a4 := T3.out.cell pa4.out; have a5 := T3.out.cell pa5.out; have a6 := T3.out.cell pa6.out; have a7 := T3.out.cell pa7.out; have b0 := T3.out.cell pb0.out; have b1 := T3.out.cell pb1.out; have b2 := T3.out.cell pb2.out; have b3 := T3.out.cell pb3.out; have b4 := T3.out.cell pb4.out; have b5 := T3.out.cell pb5.out; have b6 := T3.out.cell pb6.out; have b7 := T3.out.cell pb7.out) | (go_at_call 16; with_reducible refine (CPb.out _ (Tw.out.trans T3.out (by simp))).mono ?_; rintro e w4 ⟨rfl, t4⟩; clear a0 a1 a2 a3 a4 a5 a6 a7 b0 b1 b2 b3 b4 b5 b6 b7; have T4 := hid (T3.out.trans t4 (by simp)); have a0 := T4.out.cell pa0.out; have a1 := T4.out.cell pa1.out; have a2 := T4.out.cell pa2.out; have a3 := T4.out.cell pa3.out; have a4 := T4.out.cell pa4.out; have a5 := T4.out.cell pa5.out; have a6 := T4.out.cell pa6.out; have a7 := T4.out.cell pa7.out; have b0 := T4.out.cell pb0.out; have b1 := T4.out.cell pb1.out; have b2 := T4.out.cell pb2.out; have b3 := T4.out.cell pb3.out; have b4 := T4.out.cell pb4.out; have b5 := T4.out.cell pb5.out; have b6 := T4.out.cell pb6.out; have b7 := T4.out.cell pb7.out) | (go_at_call 11; refine (CA.out _).mono ?_; rintro e w9 ⟨rfl, t9⟩))
    go_ret
    exact ⟨rfl, (Tw.out.trans T4.out (by simp)).trans t9 (by simp)⟩
  subst h2
  exact absurd ⟨rfl, rfl, rfl, rfl⟩ HNO.out
end Go.Proofs.Ytcihnfgfficmlaa
