/- EventParts, walked. -/
import Derived.Test.YtcihnfgfficmlaaAlive7
import Derived.Test.YtcihnfgfficmlaaArg7
import Derived.Test.YtcihnfgfficmlaaPartsF
namespace Go.Proofs.Ytcihnfgfficmlaa
open Go.RowKit Go.Lib
set_option maxRecDepth 100000

set_option maxHeartbeats 4000000 in
theorem eparts_early (c : CmdD) (x : Option Addr) (cap : Nat) (ok : c.Ok) (u : Int) (w : World) (hc : EvX w x c.evs) (hno : ¬ (smallC c = true ∧ checkC c = 0)) :
    Calls Try.prog 7 #[c.agg x cap, .int .i64 u] w fun e w' => e = .returned (.bool true) ∧ Touch [] w w' := by
  have CA := hid alive_true
  have CM := hid (fun w' (t : Touch [] w w') => small_any c x cap w' (hc.touch t) ok.l)
  have CC := hid (fun w' (t : Touch [] w w') => evCheck_any c x cap w' (hc.touch t))
  have HNO := hid hno
  clear hc ok hno
  unfold CmdD.agg at *
  obtain ⟨W1, hW⟩ : ∃ W1, W1 = w.alloc (.cells #[.int .i64 c.kind, .int .i64 c.time, .string c.stream, .int .i64 c.exp, .slice x c.evs.length cap, .int .i64 c.cnt, .int .i64 c.age, .int .i64 c.bef] tCmd) := ⟨_, rfl⟩
  have T1 : Hid (Touch [] w W1) := by rw [hW]; exact hid ((Touch.refl _ _).alloc _)
  have B : Hid (W1.heap[w.heap.size]? = some (.cells #[.int .i64 c.kind, .int .i64 c.time, .string c.stream, .int .i64 c.exp, .slice x c.evs.length cap, .int .i64 c.cnt, .int .i64 c.age, .int .i64 c.bef] tCmd (0, 0))) := by rw [hW]; exact hid (heap_alloc_new w _)
  have K := hid (fun w' (h : Touch [] W1 w') => cells_of (touch_blk0 h B.out))
  simp only [tCmd] at hW
  have tt : Touch [] W1 W1 := Touch.refl _ _
  generalize smallC c = m at *
  generalize checkC c = kc at *
  cases m
  · go_enter Try.func7, Try.ntmps7
    go_upto_region 1 with fail
    rw [← hW]
    clear hW
    obtain ⟨d0, d1, d2, d3, d4, d5, d6, d7⟩ := K.out _ tt
    go_wp2_with (first | (go_at_call 10; refine (CM.out _ (T1.out.trans tt (by simp))).mono ?_; rintro e w2 ⟨rfl, t2⟩; have tt := tt.trans t2 (by simp)) | (go_at_call 11; refine (CA.out _).mono ?_; rintro e w9 ⟨rfl, t9⟩; have tt := tt.trans t9 (by simp)))
    go_ret
    exact ⟨rfl, T1.out.trans tt (by simp)⟩
  · by_cases hk : kc = 0
    · exact absurd ⟨rfl, hk⟩ HNO.out
    have q1 : (kc != 0) = true := by simpa using hk
    go_enter Try.func7, Try.ntmps7
    go_upto_region 1 with fail
    rw [← hW]
    clear hW
    obtain ⟨d0, d1, d2, d3, d4, d5, d6, d7⟩ := K.out _ tt
    go_wp2_with (first | (go_at_call 10; refine (CM.out _ (T1.out.trans tt (by simp))).mono ?_; rintro e w2 ⟨rfl, t2⟩; have tt := tt.trans t2 (by simp); obtain ⟨d0, d1, d2, d3, d4, d5, d6, d7⟩ := K.out _ tt) | (go_at_call 22; refine (CC.out _ (T1.out.trans tt (by simp))).mono ?_; rintro e w3 ⟨rfl, t3⟩; have tt := tt.trans t3 (by simp)) | (go_at_call 11; refine (CA.out _).mono ?_; rintro e w9 ⟨rfl, t9⟩; have tt := tt.trans t9 (by simp)))
    go_ret
    exact ⟨rfl, T1.out.trans tt (by simp)⟩

theorem tEvD_ok : tEvD.Ok := ⟨by decide, by decide, by decide, by decide, by decide⟩
theorem row_t {W : World} {h : Nat} (hr : W.heap[h]? = some (.cells #[.int .i64 1, .string ⟨#[116]⟩, .string ⟨#[]⟩, .float .f64 0] 32 (0, 0))) : EvX W (some ⟨h, 0, none⟩) [tEvD] := by
  intro i hi
  obtain rfl : i = 0 := by simp at hi; omega
  exact ⟨h, 0, rfl, ⟨cell_of hr 0, cell_of hr 1, cell_of hr 2, cell_of hr 3⟩, tEvD_ok⟩

set_option maxHeartbeats 4000000 in
theorem eparts_good (c : CmdD) (x : Option Addr) (cap : Nat) (ok : c.Ok) (u : Int) (w : World) (hc : EvX w x c.evs) (h1 : smallC c = true) (h2 : checkC c = 0) :
    Calls Try.prog 7 #[c.agg x cap, .int .i64 u] w fun e w' => e = .returned (.bool true) ∧ Touch [] w w' := by
  have CA := hid alive_true
  have CM := hid (fun w' (t : Touch [] w w') => small_any c x cap w' (hc.touch t) ok.l)
  have CC := hid (fun w' (t : Touch [] w w') => evCheck_any c x cap w' (hc.touch t))
  obtain ⟨k, t, s, e, l, p, q, r⟩ := c
  have P1 := parts_time h2 u
  have P2 := parts_bef h2
  have P3 := parts_evs h2
  have P4 := parts_kind t e p q r s l
  have CD := hid (fun w' (tc : Touch [] w w') => evCheck_any ⟨k, u, s, e, l, p, q, r⟩ x cap w' (hc.touch tc))
  have CE := hid (fun w' (tc : Touch [] w w') => evCheck_any ⟨k, t, s, e, l, p, q, 1⟩ x cap w' (hc.touch tc))
  have CF := hid (fun w' (y : Option Addr) (hy : EvX w' y [tEvD]) => evCheck_any ⟨k, t, s, e, [tEvD], p, q, r⟩ y 1 w' hy)
  have CG := hid (fun w' (tc : Touch [] w w') => evCheck_any ⟨9, t, s, e, l, p, q, r⟩ x cap w' (hc.touch tc))
  rw [h1] at CM
  rw [h2] at CC
  rw [P4] at CG
  unfold CmdD.agg at *
  simp only [List.length_cons, List.length_nil] at CM CC CD CE CF CG
  generalize checkC ⟨k, u, s, e, l, p, q, r⟩ = kd at *
  generalize checkC ⟨k, t, s, e, l, p, q, 1⟩ = ke at *
  generalize checkC ⟨k, t, s, e, [tEvD], p, q, r⟩ = kf at *
  clear hc ok h1 h2 P4
  obtain ⟨W1, hW⟩ : ∃ W1, W1 = w.alloc (.cells #[.int .i64 k, .int .i64 t, .string s, .int .i64 e, .slice x l.length cap, .int .i64 p, .int .i64 q, .int .i64 r] tCmd) := ⟨_, rfl⟩
  have T1 : Hid (Touch [] w W1) := by rw [hW]; exact hid ((Touch.refl _ _).alloc _)
  have B : Hid (W1.heap[w.heap.size]? = some (.cells #[.int .i64 k, .int .i64 t, .string s, .int .i64 e, .slice x l.length cap, .int .i64 p, .int .i64 q, .int .i64 r] tCmd (0, 0))) := by rw [hW]; exact hid (heap_alloc_new w _)
  have K := hid (fun w' (h : Touch [] W1 w') => cells_of (touch_blk0 h B.out))
  simp only [tCmd] at hW
  have tt : Touch [] W1 W1 := Touch.refl _ _
  simp only []
  go_enter Try.func7, Try.ntmps7
  go_upto_region 1 with fail
  rw [← hW]
  clear hW
  obtain ⟨d0, d1, d2, d3, d4, d5, d6, d7⟩ := K.out _ tt
  go_upto_region 5 with (first | (go_at_call 10; refine (CM.out _ (T1.out.trans tt (by simp))).mono ?_; rintro e w2 ⟨rfl, t2⟩; have tt := tt.trans t2 (by simp); obtain ⟨d0, d1, d2, d3, d4, d5, d6, d7⟩ := K.out _ tt) | (go_at_call 22; refine (CC.out _ (T1.out.trans tt (by simp))).mono ?_; rintro e w3 ⟨rfl, t3⟩; have tt := tt.trans t3 (by simp); obtain ⟨d0, d1, d2, d3, d4, d5, d6, d7⟩ := K.out _ tt))
  clear d0 d1 d2 d3 d4 d5 d6 d7
  obtain ⟨d0, d1, d2, d3, d4, d5, d6, d7⟩ := K.out _ tt
  go_upto_region 7 with fail
  obtain ⟨W5, hW5⟩ : ∃ W5, W5 = w3.alloc (.cells #[.int .i64 k, .int .i64 u, .string s, .int .i64 e, .slice x l.length cap, .int .i64 p, .int .i64 q, .int .i64 r] 26) := ⟨_, rfl⟩
  have D5 : Hid (W5.heap[w3.heap.size]? = some (.cells #[.int .i64 k, .int .i64 u, .string s, .int .i64 e, .slice x l.length cap, .int .i64 p, .int .i64 q, .int .i64 r] 26 (0, 0))) := by rw [hW5]; exact hid (heap_alloc_new w3 _)
  have uW5 : Touch [] w3 W5 := by rw [hW5]; exact (Touch.refl [] w3).alloc _
  rw [← hW5]
  have tt := tt.trans uW5 (by simp)
  clear d0 d1 d2 d3 d4 d5 d6 d7
  obtain ⟨d0, d1, d2, d3, d4, d5, d6, d7⟩ := K.out _ tt
  clear hW5
  generalize w3.heap.size = hd at *
  go_upto_region 9 with fail
  obtain ⟨W7, hW7⟩ : ∃ W7, W7 = W5.alloc (.cells #[.int .i64 k, .int .i64 t, .string s, .int .i64 e, .slice x l.length cap, .int .i64 p, .int .i64 q, .int .i64 1] 26) := ⟨_, rfl⟩
  have E7 : Hid (W7.heap[W5.heap.size]? = some (.cells #[.int .i64 k, .int .i64 t, .string s, .int .i64 e, .slice x l.length cap, .int .i64 p, .int .i64 q, .int .i64 1] 26 (0, 0))) := by rw [hW7]; exact hid (heap_alloc_new W5 _)
  have uW7 : Touch [] W5 W7 := by rw [hW7]; exact (Touch.refl [] W5).alloc _
  rw [← hW7]
  have tt := tt.trans uW7 (by simp)
  clear d0 d1 d2 d3 d4 d5 d6 d7
  obtain ⟨d0, d1, d2, d3, d4, d5, d6, d7⟩ := K.out _ tt
  clear hW7
  generalize W5.heap.size = he at *
  have D7 := hid (touch_blk0 uW7 D5.out)
  go_upto_region 10 with fail
  have nf0 := lt_of_block (touch_blk0 tt B.out)
  have nf1 := lt_of_block D7.out
  have nf2 := lt_of_block E7.out
  have nf3 := tt.size
  obtain ⟨W8, hW8⟩ : ∃ W8, W8 = W7.alloc (.cells #[.int .i64 k, .int .i64 t, .string s, .int .i64 e, .slice x l.length cap, .int .i64 p, .int .i64 q, .int .i64 r] 26) := ⟨_, rfl⟩
  have F8 : Hid (W8.heap[W7.heap.size]? = some (.cells #[.int .i64 k, .int .i64 t, .string s, .int .i64 e, .slice x l.length cap, .int .i64 p, .int .i64 q, .int .i64 r] 26 (0, 0))) := by rw [hW8]; exact hid (heap_alloc_new W7 _)
  have uW8 : Touch [] W7 W8 := by rw [hW8]; exact (Touch.refl [] W7).alloc _
  rw [← hW8]
  have tt := tt.trans uW8 (by simp)
  clear d0 d1 d2 d3 d4 d5 d6 d7
  obtain ⟨d0, d1, d2, d3, d4, d5, d6, d7⟩ := K.out _ tt
  clear hW8
  generalize W7.heap.size = hf at *
  have D8 := hid (touch_blk0 uW8 D7.out)
  have E8 := hid (touch_blk0 uW8 E7.out)
  have f4 := fun o : Obj => ((Touch.refl [] W8).alloc o).cell (cell_of F8.out 4)
  have g4 : ∀ o : Obj, (W8.alloc o).frozen? ⟨hf, 4, none⟩ = false := fun o => by
    rw [World.frozen?_of_block (w := W8) (Below.heap_alloc W8 o hf (lt_of_block F8.out))]
    exact free_of F8.out 4
  go_upto_region 11 with fail
  obtain ⟨W9, hW9⟩ : ∃ W9, W9 = (W8.alloc (.cells #[.int .i64 1, .string ⟨#[116]⟩, .string ⟨#[]⟩, .float .f64 0] 32)).setCell ⟨hf, 4, none⟩ (.slice (some ⟨W8.heap.size, 0, none⟩) 1 1) := ⟨_, rfl⟩
  have U9 : Touch [hf] W8 W9 := by rw [hW9]; exact ((Touch.refl _ _).alloc _).setCell (.inl (by simp)) _
  have F9 : Hid (W9.heap[hf]? = some (.cells #[.int .i64 k, .int .i64 t, .string s, .int .i64 e, .slice (some ⟨W8.heap.size, 0, none⟩) 1 1, .int .i64 p, .int .i64 q, .int .i64 r] 26 (0, 0))) := by
    rw [hW9]
    have h1 := heap_set (i := 4) (touch_blk0 ((Touch.refl [] W8).alloc (.cells #[.int .i64 1, .string ⟨#[116]⟩, .string ⟨#[]⟩, .float .f64 0] 32)) F8.out) (.slice (some ⟨W8.heap.size, 0, none⟩) 1 1)
    simp only [List.setIfInBounds_toArray, List.set_cons_succ, List.set_cons_zero] at h1
    exact hid h1
  have R9 : Hid (W9.heap[W8.heap.size]? = some (.cells #[.int .i64 1, .string ⟨#[116]⟩, .string ⟨#[]⟩, .float .f64 0] 32 (0, 0))) := by
    rw [hW9]
    exact hid ((heap_set_other _ (by show W8.heap.size ≠ hf; have := lt_of_block F8.out; omega)).trans (heap_alloc_new W8 _))
  have tt : Touch [] W1 W9 := by rw [hW9]; exact (tt.alloc _).setCell (.inr nf3) _
  have D9 := hid (touch_blk0 U9 D8.out (by simp; omega))
  have E9 := hid (touch_blk0 U9 E8.out (by simp; omega))
  rw [← hW9]
  clear hW9 d0 d1 d2 d3 d4 d5 d6 d7 f4 g4 nf1 nf2 nf3 uW5 uW7 uW8 D5 D7 E7 F8 D8 E8
  generalize W8.heap.size = hr at *
  obtain ⟨d0, d1, d2, d3, d4, d5, d6, d7⟩ := K.out _ tt
  go_upto_region 13 with fail
  obtain ⟨W10, hW10⟩ : ∃ W10, W10 = W9.alloc (.cells #[.int .i64 9, .int .i64 t, .string s, .int .i64 e, .slice x l.length cap, .int .i64 p, .int .i64 q, .int .i64 r] 26) := ⟨_, rfl⟩
  have G10 : Hid (W10.heap[W9.heap.size]? = some (.cells #[.int .i64 9, .int .i64 t, .string s, .int .i64 e, .slice x l.length cap, .int .i64 p, .int .i64 q, .int .i64 r] 26 (0, 0))) := by rw [hW10]; exact hid (heap_alloc_new W9 _)
  have uW10 : Touch [] W9 W10 := by rw [hW10]; exact (Touch.refl [] W9).alloc _
  rw [← hW10]
  have tt := tt.trans uW10 (by simp)
  clear d0 d1 d2 d3 d4 d5 d6 d7
  obtain ⟨d0, d1, d2, d3, d4, d5, d6, d7⟩ := K.out _ tt
  clear hW10
  generalize W9.heap.size = hg at *
  have D10 := hid (touch_blk0 uW10 D9.out)
  have E10 := hid (touch_blk0 uW10 E9.out)
  have F10 := hid (touch_blk0 uW10 F9.out)
  have R10 := hid (touch_blk0 uW10 R9.out)
  clear D9 E9 F9 R9 U9
  obtain ⟨ι, f, ⟨θ0, hθ0⟩, z0, d0, d1, d2, d3, d4, d5, d6, d7, e0, e1, e2, e3, e4, e5, e6, e7, f0, f1, f2, f3, f4, f5, f6, f7, g0, g1, g2, g3, g4, g5, g6, g7, FT, FA, FD, FE, FF, FG⟩ : ∃ (ι : Type) (f : ι → World), (∃ θ, f θ = W10.drew) ∧ (∀ θ, (f θ).cell? ⟨w.heap.size, 0, none⟩ = some (.int .i64 k)) ∧ (∀ θ, (f θ).cell? ⟨hd, 0, none⟩ = some (.int .i64 k)) ∧ (∀ θ, (f θ).cell? ⟨hd, 1, none⟩ = some (.int .i64 u)) ∧ (∀ θ, (f θ).cell? ⟨hd, 2, none⟩ = some (.string s)) ∧ (∀ θ, (f θ).cell? ⟨hd, 3, none⟩ = some (.int .i64 e)) ∧ (∀ θ, (f θ).cell? ⟨hd, 4, none⟩ = some (.slice x l.length cap)) ∧ (∀ θ, (f θ).cell? ⟨hd, 5, none⟩ = some (.int .i64 p)) ∧ (∀ θ, (f θ).cell? ⟨hd, 6, none⟩ = some (.int .i64 q)) ∧ (∀ θ, (f θ).cell? ⟨hd, 7, none⟩ = some (.int .i64 r)) ∧ (∀ θ, (f θ).cell? ⟨he, 0, none⟩ = some (.int .i64 k)) ∧ (∀ θ, (f θ).cell? ⟨he, 1, none⟩ = some (.int .i64 t)) ∧ (∀ θ, (f θ).cell? ⟨he, 2, none⟩ = some (.string s)) ∧ (∀ θ, (f θ).cell? ⟨he, 3, none⟩ = some (.int .i64 e)) ∧ (∀ θ, (f θ).cell? ⟨he, 4, none⟩ = some (.slice x l.length cap)) ∧ (∀ θ, (f θ).cell? ⟨he, 5, none⟩ = some (.int .i64 p)) ∧ (∀ θ, (f θ).cell? ⟨he, 6, none⟩ = some (.int .i64 q)) ∧ (∀ θ, (f θ).cell? ⟨he, 7, none⟩ = some (.int .i64 1)) ∧ (∀ θ, (f θ).cell? ⟨hf, 0, none⟩ = some (.int .i64 k)) ∧ (∀ θ, (f θ).cell? ⟨hf, 1, none⟩ = some (.int .i64 t)) ∧ (∀ θ, (f θ).cell? ⟨hf, 2, none⟩ = some (.string s)) ∧ (∀ θ, (f θ).cell? ⟨hf, 3, none⟩ = some (.int .i64 e)) ∧ (∀ θ, (f θ).cell? ⟨hf, 4, none⟩ = some (.slice (some ⟨hr, 0, none⟩) 1 1)) ∧ (∀ θ, (f θ).cell? ⟨hf, 5, none⟩ = some (.int .i64 p)) ∧ (∀ θ, (f θ).cell? ⟨hf, 6, none⟩ = some (.int .i64 q)) ∧ (∀ θ, (f θ).cell? ⟨hf, 7, none⟩ = some (.int .i64 r)) ∧ (∀ θ, (f θ).cell? ⟨hg, 0, none⟩ = some (.int .i64 9)) ∧ (∀ θ, (f θ).cell? ⟨hg, 1, none⟩ = some (.int .i64 t)) ∧ (∀ θ, (f θ).cell? ⟨hg, 2, none⟩ = some (.string s)) ∧ (∀ θ, (f θ).cell? ⟨hg, 3, none⟩ = some (.int .i64 e)) ∧ (∀ θ, (f θ).cell? ⟨hg, 4, none⟩ = some (.slice x l.length cap)) ∧ (∀ θ, (f θ).cell? ⟨hg, 5, none⟩ = some (.int .i64 p)) ∧ (∀ θ, (f θ).cell? ⟨hg, 6, none⟩ = some (.int .i64 q)) ∧ (∀ θ, (f θ).cell? ⟨hg, 7, none⟩ = some (.int .i64 r)) ∧ Hid (∀ θ, Touch [] w (f θ)) ∧ Hid (∀ θ, Calls Try.prog 11 #[] (f θ) fun e w'' => e = .returned (.bool true) ∧ ∃ θ', w'' = f θ') ∧ Hid (∀ θ, Calls Try.prog 22 #[.agg #[.int .i64 k, .int .i64 u, .string s, .int .i64 e, .slice x l.length cap, .int .i64 p, .int .i64 q, .int .i64 r]] (f θ) fun e w'' => e = .returned (.int .i64 kd) ∧ ∃ θ', w'' = f θ') ∧ Hid (∀ θ, Calls Try.prog 22 #[.agg #[.int .i64 k, .int .i64 t, .string s, .int .i64 e, .slice x l.length cap, .int .i64 p, .int .i64 q, .int .i64 1]] (f θ) fun e w'' => e = .returned (.int .i64 ke) ∧ ∃ θ', w'' = f θ') ∧ Hid (∀ θ, Calls Try.prog 22 #[.agg #[.int .i64 k, .int .i64 t, .string s, .int .i64 e, .slice (some ⟨hr, 0, none⟩) 1 1, .int .i64 p, .int .i64 q, .int .i64 r]] (f θ) fun e w'' => e = .returned (.int .i64 kf) ∧ ∃ θ', w'' = f θ') ∧ Hid (∀ θ, Calls Try.prog 22 #[.agg #[.int .i64 9, .int .i64 t, .string s, .int .i64 e, .slice x l.length cap, .int .i64 p, .int .i64 q, .int .i64 r]] (f θ) fun e w'' => e = .returned (.int .i64 1) ∧ ∃ θ', w'' = f θ') :=
    ⟨{wx // Touch [] W10 wx}, Subtype.val, ⟨⟨_, (Touch.refl [] W10).drew⟩, rfl⟩, fun θ => (K.out _ (tt.trans θ.2 (by simp))).1, fun θ => θ.2.cell (cell_of D10.out 0), fun θ => θ.2.cell (cell_of D10.out 1), fun θ => θ.2.cell (cell_of D10.out 2), fun θ => θ.2.cell (cell_of D10.out 3), fun θ => θ.2.cell (cell_of D10.out 4), fun θ => θ.2.cell (cell_of D10.out 5), fun θ => θ.2.cell (cell_of D10.out 6), fun θ => θ.2.cell (cell_of D10.out 7), fun θ => θ.2.cell (cell_of E10.out 0), fun θ => θ.2.cell (cell_of E10.out 1), fun θ => θ.2.cell (cell_of E10.out 2), fun θ => θ.2.cell (cell_of E10.out 3), fun θ => θ.2.cell (cell_of E10.out 4), fun θ => θ.2.cell (cell_of E10.out 5), fun θ => θ.2.cell (cell_of E10.out 6), fun θ => θ.2.cell (cell_of E10.out 7), fun θ => θ.2.cell (cell_of F10.out 0), fun θ => θ.2.cell (cell_of F10.out 1), fun θ => θ.2.cell (cell_of F10.out 2), fun θ => θ.2.cell (cell_of F10.out 3), fun θ => θ.2.cell (cell_of F10.out 4), fun θ => θ.2.cell (cell_of F10.out 5), fun θ => θ.2.cell (cell_of F10.out 6), fun θ => θ.2.cell (cell_of F10.out 7), fun θ => θ.2.cell (cell_of G10.out 0), fun θ => θ.2.cell (cell_of G10.out 1), fun θ => θ.2.cell (cell_of G10.out 2), fun θ => θ.2.cell (cell_of G10.out 3), fun θ => θ.2.cell (cell_of G10.out 4), fun θ => θ.2.cell (cell_of G10.out 5), fun θ => θ.2.cell (cell_of G10.out 6), fun θ => θ.2.cell (cell_of G10.out 7), hid fun θ => (T1.out.trans tt (by simp)).trans θ.2 (by simp), hid fun θ => (CA.out _).mono fun e w'' ⟨he, h2⟩ => ⟨he, ⟨⟨w'', θ.2.trans h2 (by simp)⟩, rfl⟩⟩, hid fun θ => (CD.out _ ((T1.out.trans tt (by simp)).trans θ.2 (by simp))).mono fun e w'' ⟨he, h2⟩ => ⟨he, ⟨⟨w'', θ.2.trans h2 (by simp)⟩, rfl⟩⟩, hid fun θ => (CE.out _ ((T1.out.trans tt (by simp)).trans θ.2 (by simp))).mono fun e w'' ⟨he, h2⟩ => ⟨he, ⟨⟨w'', θ.2.trans h2 (by simp)⟩, rfl⟩⟩, hid fun θ => (CF.out _ _ (row_t (touch_blk0 θ.2 R10.out))).mono fun e w'' ⟨he, h2⟩ => ⟨he, ⟨⟨w'', θ.2.trans h2 (by simp)⟩, rfl⟩⟩, hid fun θ => (CG.out _ ((T1.out.trans tt (by simp)).trans θ.2 (by simp))).mono fun e w'' ⟨he, h2⟩ => ⟨he, ⟨⟨w'', θ.2.trans h2 (by simp)⟩, rfl⟩⟩⟩
  have Hθ := hid hθ0
  have inst : Nonempty ι := ⟨θ0⟩
  clear hθ0 CA CM CC CD CE CF CG K B D10 E10 F10 R10 G10 tt T1 uW10
  generalize hb2 : (k == 2) = b2 at *
  generalize hb1 : (k == 1) = b1 at *
  have qq2 : (b2 == b2) = true := by simp
  have qq1 : (b1 == b1) = true := by simp
  by_cases g1 : u < 0
  · have q1 : decide (0 ≤ u) = false := by simpa using g1
    have Q : (kd == 0) = false := by rw [P1, q1]; rfl
    clear g1 P1
    refine wp_region_held f θ0 (by kernel_rfl) (by kernel_rfl) Hθ.out ?_
    repeat go_big_quiet_step (first | with_reducible exact FA.out _ | with_reducible exact FD.out _ | with_reducible exact FE.out _ | with_reducible exact FF.out _ | with_reducible exact FG.out _)
    refine wpQuiet_nil ?_
    intro _ hw'
    obtain ⟨θ, hw''⟩ := hw'
    subst hw''
    have T9 := hid (FT.out θ)
    go_wp2
    go_ret
    exact ⟨rfl, T9.out⟩
  by_cases g2 : 1099511627776 < u
  · have q1 : decide (0 ≤ u) = true := by simp; omega
    have q2 : decide (u ≤ 1099511627776) = false := by simp; omega
    have Q : (kd == 0) = false := by rw [P1, q1, q2]; rfl
    have q3 : (0 : Int) ≤ u := by omega
    clear g1 g2 P1
    refine wp_region_held f θ0 (by kernel_rfl) (by kernel_rfl) Hθ.out ?_
    repeat go_big_quiet_step (first | with_reducible exact FA.out _ | with_reducible exact FD.out _ | with_reducible exact FE.out _ | with_reducible exact FF.out _ | with_reducible exact FG.out _)
    refine wpQuiet_nil ?_
    intro _ hw'
    obtain ⟨θ, hw''⟩ := hw'
    subst hw''
    have T9 := hid (FT.out θ)
    go_wp2
    go_ret
    exact ⟨rfl, T9.out⟩
  have q1 : decide (0 ≤ u) = true := by simp; omega
  have q2 : decide (u ≤ 1099511627776) = true := by simp; omega
  have Q : (kd == 0) = true := by rw [P1, q1, q2]; rfl
  have q3 : (0 : Int) ≤ u := by omega
  have q4 : u ≤ (1099511627776 : Int) := by omega
  clear g1 g2 P1
  refine wp_region_held f θ0 (by kernel_rfl) (by kernel_rfl) Hθ.out ?_
  repeat go_big_quiet_step (first | with_reducible exact FA.out _ | with_reducible exact FD.out _ | with_reducible exact FE.out _ | with_reducible exact FF.out _ | with_reducible exact FG.out _)
  refine wpQuiet_nil ?_
  intro _ hw'
  obtain ⟨θ, hw''⟩ := hw'
  subst hw''
  have T9 := hid (FT.out θ)
  go_wp2
  go_ret
  exact ⟨rfl, T9.out⟩

theorem walk_EventParts (c : CmdD) (x : Option Addr) (cap : Nat) (ok : c.Ok) (u : Int) (_wu : (Lit.int .i64 u).wf = true) (w : World) (hc : Evs w x cap c.evs) :
    Calls Try.prog 7 #[c.agg x cap, .int .i64 u] w fun e w' => e = .returned (.bool true) ∧ Touch [] w w' := by
  by_cases h : smallC c = true ∧ checkC c = 0
  · exact eparts_good c x cap ok u w hc.ev h.1 h.2
  · exact eparts_early c x cap ok u w hc.ev h
end Go.Proofs.Ytcihnfgfficmlaa
