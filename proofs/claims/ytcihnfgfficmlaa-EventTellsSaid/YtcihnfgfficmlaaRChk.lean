/- event's Check: its ways. -/
import Derived.Test.YtcihnfgfficmlaaRMore
namespace Go.Proofs.Ytcihnfgfficmlaa
open Go.RowKit Go.Lib
set_option maxRecDepth 100000

theorem touch_blk0 {F : List Nat} {w w' : World} {b : Nat} {cs : Array Value} {ty : TypeId} {fz : Nat × Nat} (h : Touch F w w') (hb : w.heap[b]? = some (.cells cs ty fz)) (hn : b ∉ F := by simp) : w'.heap[b]? = some (.cells cs ty fz) := (h.block b (lt_of_block hb) hn).trans hb
theorem cells_of {w : World} {b : Nat} {v0 v1 v2 v3 v4 v5 v6 v7 : Value} {ty : TypeId} {f : Nat × Nat} (h : w.heap[b]? = some (.cells #[v0, v1, v2, v3, v4, v5, v6, v7] ty f)) :
    w.cell? ⟨b, 0, none⟩ = some v0 ∧ w.cell? ⟨b, 1, none⟩ = some v1 ∧ w.cell? ⟨b, 2, none⟩ = some v2 ∧ w.cell? ⟨b, 3, none⟩ = some v3 ∧ w.cell? ⟨b, 4, none⟩ = some v4 ∧ w.cell? ⟨b, 5, none⟩ = some v5 ∧ w.cell? ⟨b, 6, none⟩ = some v6 ∧ w.cell? ⟨b, 7, none⟩ = some v7 :=
  ⟨cell_of h 0, cell_of h 1, cell_of h 2, cell_of h 3, cell_of h 4, cell_of h 5, cell_of h 6, cell_of h 7⟩
theorem cells4_of {w : World} {b : Nat} {v0 v1 v2 v3 : Value} {ty : TypeId} {f : Nat × Nat} (h : w.heap[b]? = some (.cells #[v0, v1, v2, v3] ty f)) :
    w.cell? ⟨b, 0, none⟩ = some v0 ∧ w.cell? ⟨b, 1, none⟩ = some v1 ∧ w.cell? ⟨b, 2, none⟩ = some v2 ∧ w.cell? ⟨b, 3, none⟩ = some v3 :=
  ⟨cell_of h 0, cell_of h 1, cell_of h 2, cell_of h 3⟩

theorem moreB_yes (k t e p q r : Int) (s : ByteArray) (n : Nat) (x : Option Addr) (cap : Nat) (w : World) (h : e ≠ 0 ∨ 0 < n) :
    Calls Try.prog 58 #[.agg #[.int .i64 k, .int .i64 t, .string s, .int .i64 e, .slice x n cap, .int .i64 p, .int .i64 q, .int .i64 r], ptsV true false false true] w fun r w' => r = .returned (.bool true) ∧ Touch [] w w' := by
  by_cases he : e = 0
  · subst he; exact moreB_evs k t p q r s n x cap w (by omega)
  · exact moreB_exp k t e p q r s n x cap w (by simpa using he)
theorem moreC_yes (k t e p q r : Int) (s : ByteArray) (n : Nat) (x : Option Addr) (cap : Nat) (w : World) (h : 0 < n ∨ (p ≠ 0 ∨ q ≠ 0 ∨ r ≠ 0)) :
    Calls Try.prog 58 #[.agg #[.int .i64 k, .int .i64 t, .string s, .int .i64 e, .slice x n cap, .int .i64 p, .int .i64 q, .int .i64 r], ptsV true true false false] w fun r w' => r = .returned (.bool true) ∧ Touch [] w w' := by
  by_cases hn : n = 0
  · subst hn; exact moreC_meta k t e p q r s x cap w (by omega)
  · exact moreC_evs k t e p q r s n x cap w (by omega)
theorem moreD_yes (k t e p q r : Int) (s : ByteArray) (n : Nat) (x : Option Addr) (cap : Nat) (w : World) (h : s.size ≠ 0 ∨ e ≠ 0 ∨ 0 < n ∨ (p ≠ 0 ∨ q ≠ 0 ∨ r ≠ 0)) :
    Calls Try.prog 58 #[.agg #[.int .i64 k, .int .i64 t, .string s, .int .i64 e, .slice x n cap, .int .i64 p, .int .i64 q, .int .i64 r], ptsV false false false false] w fun r w' => r = .returned (.bool true) ∧ Touch [] w w' := by
  by_cases hs : s.size = 0
  rotate_left
  · exact moreD_stream k t e p q r s n x cap w (by rw [toList_emptyR, decide_eq_false hs])
  have hs2 : (s.toList == []) = true := by rw [toList_emptyR, decide_eq_true hs]
  by_cases he : e = 0
  rotate_left
  · exact moreD_exp k t e p q r s n x cap w hs2 (by simpa using he)
  subst he
  by_cases hn : n = 0
  · subst hn; exact moreD_meta k t p q r s x cap w hs2 (by omega)
  · exact moreD_evs k t p q r s n x cap w hs2 (by omega)

set_option maxHeartbeats 2000000 in
theorem rchk1_stream (t e p q r : Int) (s : ByteArray) (n : Nat) (x : Option Addr) (cap : Nat) (w : World) (ht : inGreat t = true) (hs : strm s.data.toList = false) :
    Calls Try.prog 22 #[.agg #[.int .i64 1, .int .i64 t, .string s, .int .i64 e, .slice x n cap, .int .i64 p, .int .i64 q, .int .i64 r]] w fun r w' => r = .returned (.int .i64 1) ∧ Touch [] w w' := by
  have CP := hid parts_1
  have CB := hid (bounded_any t)
  rw [ht] at CB
  have CS := hid (stm_any s)
  rw [hs] at CS
  unfold ptsV at CP
  clear ht hs
  obtain ⟨W1, hW⟩ : ∃ W1, W1 = w.alloc (.cells #[.int .i64 1, .int .i64 t, .string s, .int .i64 e, .slice x n cap, .int .i64 p, .int .i64 q, .int .i64 r] tCmd) := ⟨_, rfl⟩
  have T1 : Hid (Touch [] w W1) := by rw [hW]; exact hid ((Touch.refl _ _).alloc _)
  have B : Hid (W1.heap[w.heap.size]? = some (.cells #[.int .i64 1, .int .i64 t, .string s, .int .i64 e, .slice x n cap, .int .i64 p, .int .i64 q, .int .i64 r] tCmd (0, 0))) := by rw [hW]; exact hid (heap_alloc_new w _)
  go_enter Try.func22, Try.ntmps22
  go_upto_region 1 with fail
  simp only [tCmd] at hW
  rw [← hW]
  clear hW
  have c0 := cell_of B.out 0
  go_upto_region 2 with (go_at_call 54; refine (CP.out _).mono ?_; rintro e w2 ⟨rfl, t2⟩)
  obtain ⟨W3, hW3⟩ : ∃ W3, W3 = w2.alloc (.cells #[.bool true, .bool true, .bool true, .bool false] 87) := ⟨_, rfl⟩
  have T3 : Hid (Touch [] W1 W3) := by rw [hW3]; exact hid (t2.alloc _)
  have P : Hid (W3.heap[w2.heap.size]? = some (.cells #[.bool true, .bool true, .bool true, .bool false] 87 (0, 0))) := by rw [hW3]; exact hid (heap_alloc_new w2 _)
  rw [← hW3]
  generalize w2.heap.size = p0 at *
  have K := hid (fun w' (h : Touch [] W3 w') => (⟨cells_of (touch_blk0 h (touch_blk0 T3.out B.out)), cells4_of (touch_blk0 h P.out)⟩ : _ ∧ _))
  clear hW3 t2 c0
  have tt : Touch [] W3 W3 := Touch.refl _ _
  obtain ⟨⟨d0, d1, d2, d3, d4, d5, d6, d7⟩, p1, p2, p3, p4⟩ := K.out _ tt
  go_wp2_with (first
    | (go_at_call 53; refine (CB.out _).mono ?_; rintro e w5 ⟨rfl, rfl⟩)
    | (go_at_call 55; refine (CS.out _).mono ?_; rintro e w5 ⟨rfl, t5⟩; have tt := tt.trans t5 (by simp); obtain ⟨⟨d0, d1, d2, d3, d4, d5, d6, d7⟩, p1, p2, p3, p4⟩ := K.out _ tt))
  go_ret
  exact ⟨rfl, (T1.out.trans T3.out (by simp)).trans tt (by simp)⟩
set_option maxHeartbeats 2000000 in
theorem rchk2_stream (t e p q r : Int) (s : ByteArray) (n : Nat) (x : Option Addr) (cap : Nat) (w : World) (ht : inGreat t = true) (hs : strm s.data.toList = false) :
    Calls Try.prog 22 #[.agg #[.int .i64 2, .int .i64 t, .string s, .int .i64 e, .slice x n cap, .int .i64 p, .int .i64 q, .int .i64 r]] w fun r w' => r = .returned (.int .i64 1) ∧ Touch [] w w' := by
  have CP := hid parts_2
  have CB := hid (bounded_any t)
  rw [ht] at CB
  have CS := hid (stm_any s)
  rw [hs] at CS
  unfold ptsV at CP
  clear ht hs
  obtain ⟨W1, hW⟩ : ∃ W1, W1 = w.alloc (.cells #[.int .i64 2, .int .i64 t, .string s, .int .i64 e, .slice x n cap, .int .i64 p, .int .i64 q, .int .i64 r] tCmd) := ⟨_, rfl⟩
  have T1 : Hid (Touch [] w W1) := by rw [hW]; exact hid ((Touch.refl _ _).alloc _)
  have B : Hid (W1.heap[w.heap.size]? = some (.cells #[.int .i64 2, .int .i64 t, .string s, .int .i64 e, .slice x n cap, .int .i64 p, .int .i64 q, .int .i64 r] tCmd (0, 0))) := by rw [hW]; exact hid (heap_alloc_new w _)
  go_enter Try.func22, Try.ntmps22
  go_upto_region 1 with fail
  simp only [tCmd] at hW
  rw [← hW]
  clear hW
  have c0 := cell_of B.out 0
  go_upto_region 2 with (go_at_call 54; refine (CP.out _).mono ?_; rintro e w2 ⟨rfl, t2⟩)
  obtain ⟨W3, hW3⟩ : ∃ W3, W3 = w2.alloc (.cells #[.bool true, .bool false, .bool false, .bool true] 87) := ⟨_, rfl⟩
  have T3 : Hid (Touch [] W1 W3) := by rw [hW3]; exact hid (t2.alloc _)
  have P : Hid (W3.heap[w2.heap.size]? = some (.cells #[.bool true, .bool false, .bool false, .bool true] 87 (0, 0))) := by rw [hW3]; exact hid (heap_alloc_new w2 _)
  rw [← hW3]
  generalize w2.heap.size = p0 at *
  have K := hid (fun w' (h : Touch [] W3 w') => (⟨cells_of (touch_blk0 h (touch_blk0 T3.out B.out)), cells4_of (touch_blk0 h P.out)⟩ : _ ∧ _))
  clear hW3 t2 c0
  have tt : Touch [] W3 W3 := Touch.refl _ _
  obtain ⟨⟨d0, d1, d2, d3, d4, d5, d6, d7⟩, p1, p2, p3, p4⟩ := K.out _ tt
  go_wp2_with (first
    | (go_at_call 53; refine (CB.out _).mono ?_; rintro e w5 ⟨rfl, rfl⟩)
    | (go_at_call 55; refine (CS.out _).mono ?_; rintro e w5 ⟨rfl, t5⟩; have tt := tt.trans t5 (by simp); obtain ⟨⟨d0, d1, d2, d3, d4, d5, d6, d7⟩, p1, p2, p3, p4⟩ := K.out _ tt))
  go_ret
  exact ⟨rfl, (T1.out.trans T3.out (by simp)).trans tt (by simp)⟩
set_option maxHeartbeats 2000000 in
theorem rchk3_stream (t e p q r : Int) (s : ByteArray) (n : Nat) (x : Option Addr) (cap : Nat) (w : World) (ht : inGreat t = true) (hs : strm s.data.toList = false) :
    Calls Try.prog 22 #[.agg #[.int .i64 3, .int .i64 t, .string s, .int .i64 e, .slice x n cap, .int .i64 p, .int .i64 q, .int .i64 r]] w fun r w' => r = .returned (.int .i64 1) ∧ Touch [] w w' := by
  have CP := hid parts_3
  have CB := hid (bounded_any t)
  rw [ht] at CB
  have CS := hid (stm_any s)
  rw [hs] at CS
  unfold ptsV at CP
  clear ht hs
  obtain ⟨W1, hW⟩ : ∃ W1, W1 = w.alloc (.cells #[.int .i64 3, .int .i64 t, .string s, .int .i64 e, .slice x n cap, .int .i64 p, .int .i64 q, .int .i64 r] tCmd) := ⟨_, rfl⟩
  have T1 : Hid (Touch [] w W1) := by rw [hW]; exact hid ((Touch.refl _ _).alloc _)
  have B : Hid (W1.heap[w.heap.size]? = some (.cells #[.int .i64 3, .int .i64 t, .string s, .int .i64 e, .slice x n cap, .int .i64 p, .int .i64 q, .int .i64 r] tCmd (0, 0))) := by rw [hW]; exact hid (heap_alloc_new w _)
  go_enter Try.func22, Try.ntmps22
  go_upto_region 1 with fail
  simp only [tCmd] at hW
  rw [← hW]
  clear hW
  have c0 := cell_of B.out 0
  go_upto_region 2 with (go_at_call 54; refine (CP.out _).mono ?_; rintro e w2 ⟨rfl, t2⟩)
  obtain ⟨W3, hW3⟩ : ∃ W3, W3 = w2.alloc (.cells #[.bool true, .bool true, .bool false, .bool false] 87) := ⟨_, rfl⟩
  have T3 : Hid (Touch [] W1 W3) := by rw [hW3]; exact hid (t2.alloc _)
  have P : Hid (W3.heap[w2.heap.size]? = some (.cells #[.bool true, .bool true, .bool false, .bool false] 87 (0, 0))) := by rw [hW3]; exact hid (heap_alloc_new w2 _)
  rw [← hW3]
  generalize w2.heap.size = p0 at *
  have K := hid (fun w' (h : Touch [] W3 w') => (⟨cells_of (touch_blk0 h (touch_blk0 T3.out B.out)), cells4_of (touch_blk0 h P.out)⟩ : _ ∧ _))
  clear hW3 t2 c0
  have tt : Touch [] W3 W3 := Touch.refl _ _
  obtain ⟨⟨d0, d1, d2, d3, d4, d5, d6, d7⟩, p1, p2, p3, p4⟩ := K.out _ tt
  go_wp2_with (first
    | (go_at_call 53; refine (CB.out _).mono ?_; rintro e w5 ⟨rfl, rfl⟩)
    | (go_at_call 55; refine (CS.out _).mono ?_; rintro e w5 ⟨rfl, t5⟩; have tt := tt.trans t5 (by simp); obtain ⟨⟨d0, d1, d2, d3, d4, d5, d6, d7⟩, p1, p2, p3, p4⟩ := K.out _ tt))
  go_ret
  exact ⟨rfl, (T1.out.trans T3.out (by simp)).trans tt (by simp)⟩
set_option maxHeartbeats 2000000 in
theorem rchk1_none (t e p q r : Int) (s : ByteArray) (x : Option Addr) (cap : Nat) (w : World) (ht : inGreat t = true) (hs : strm s.data.toList = true) :
    Calls Try.prog 22 #[.agg #[.int .i64 1, .int .i64 t, .string s, .int .i64 e, .slice x 0 cap, .int .i64 p, .int .i64 q, .int .i64 r]] w fun r w' => r = .returned (.int .i64 1) ∧ Touch [] w w' := by
  have CP := hid parts_1
  have CB := hid (bounded_any t)
  rw [ht] at CB
  have CS := hid (stm_any s)
  rw [hs] at CS
  unfold ptsV at CP
  clear ht hs
  obtain ⟨W1, hW⟩ : ∃ W1, W1 = w.alloc (.cells #[.int .i64 1, .int .i64 t, .string s, .int .i64 e, .slice x 0 cap, .int .i64 p, .int .i64 q, .int .i64 r] tCmd) := ⟨_, rfl⟩
  have T1 : Hid (Touch [] w W1) := by rw [hW]; exact hid ((Touch.refl _ _).alloc _)
  have B : Hid (W1.heap[w.heap.size]? = some (.cells #[.int .i64 1, .int .i64 t, .string s, .int .i64 e, .slice x 0 cap, .int .i64 p, .int .i64 q, .int .i64 r] tCmd (0, 0))) := by rw [hW]; exact hid (heap_alloc_new w _)
  go_enter Try.func22, Try.ntmps22
  go_upto_region 1 with fail
  simp only [tCmd] at hW
  rw [← hW]
  clear hW
  have c0 := cell_of B.out 0
  go_upto_region 2 with (go_at_call 54; refine (CP.out _).mono ?_; rintro e w2 ⟨rfl, t2⟩)
  obtain ⟨W3, hW3⟩ : ∃ W3, W3 = w2.alloc (.cells #[.bool true, .bool true, .bool true, .bool false] 87) := ⟨_, rfl⟩
  have T3 : Hid (Touch [] W1 W3) := by rw [hW3]; exact hid (t2.alloc _)
  have P : Hid (W3.heap[w2.heap.size]? = some (.cells #[.bool true, .bool true, .bool true, .bool false] 87 (0, 0))) := by rw [hW3]; exact hid (heap_alloc_new w2 _)
  rw [← hW3]
  generalize w2.heap.size = p0 at *
  have K := hid (fun w' (h : Touch [] W3 w') => (⟨cells_of (touch_blk0 h (touch_blk0 T3.out B.out)), cells4_of (touch_blk0 h P.out)⟩ : _ ∧ _))
  clear hW3 t2 c0
  have tt : Touch [] W3 W3 := Touch.refl _ _
  obtain ⟨⟨d0, d1, d2, d3, d4, d5, d6, d7⟩, p1, p2, p3, p4⟩ := K.out _ tt
  go_wp2_with (first
    | (go_at_call 53; refine (CB.out _).mono ?_; rintro e w5 ⟨rfl, rfl⟩)
    | (go_at_call 55; refine (CS.out _).mono ?_; rintro e w5 ⟨rfl, t5⟩; have tt := tt.trans t5 (by simp); obtain ⟨⟨d0, d1, d2, d3, d4, d5, d6, d7⟩, p1, p2, p3, p4⟩ := K.out _ tt))
  go_ret
  exact ⟨rfl, (T1.out.trans T3.out (by simp)).trans tt (by simp)⟩
set_option maxHeartbeats 2000000 in
theorem rchk1_many (t e p q r : Int) (s : ByteArray) (n : Nat) (x : Option Addr) (cap : Nat) (w : World) (ht : inGreat t = true) (hs : strm s.data.toList = true) (hn : (8 : Int) < n) :
    Calls Try.prog 22 #[.agg #[.int .i64 1, .int .i64 t, .string s, .int .i64 e, .slice x n cap, .int .i64 p, .int .i64 q, .int .i64 r]] w fun r w' => r = .returned (.int .i64 2) ∧ Touch [] w w' := by
  have CP := hid parts_1
  have CB := hid (bounded_any t)
  rw [ht] at CB
  have CS := hid (stm_any s)
  rw [hs] at CS
  unfold ptsV at CP
  have n0 : ((n : Int) == 0) = false := by rw [Bool.eq_false_iff]; intro h; have := eq_of_beq h; omega
  clear ht hs
  obtain ⟨W1, hW⟩ : ∃ W1, W1 = w.alloc (.cells #[.int .i64 1, .int .i64 t, .string s, .int .i64 e, .slice x n cap, .int .i64 p, .int .i64 q, .int .i64 r] tCmd) := ⟨_, rfl⟩
  have T1 : Hid (Touch [] w W1) := by rw [hW]; exact hid ((Touch.refl _ _).alloc _)
  have B : Hid (W1.heap[w.heap.size]? = some (.cells #[.int .i64 1, .int .i64 t, .string s, .int .i64 e, .slice x n cap, .int .i64 p, .int .i64 q, .int .i64 r] tCmd (0, 0))) := by rw [hW]; exact hid (heap_alloc_new w _)
  go_enter Try.func22, Try.ntmps22
  go_upto_region 1 with fail
  simp only [tCmd] at hW
  rw [← hW]
  clear hW
  have c0 := cell_of B.out 0
  go_upto_region 2 with (go_at_call 54; refine (CP.out _).mono ?_; rintro e w2 ⟨rfl, t2⟩)
  obtain ⟨W3, hW3⟩ : ∃ W3, W3 = w2.alloc (.cells #[.bool true, .bool true, .bool true, .bool false] 87) := ⟨_, rfl⟩
  have T3 : Hid (Touch [] W1 W3) := by rw [hW3]; exact hid (t2.alloc _)
  have P : Hid (W3.heap[w2.heap.size]? = some (.cells #[.bool true, .bool true, .bool true, .bool false] 87 (0, 0))) := by rw [hW3]; exact hid (heap_alloc_new w2 _)
  rw [← hW3]
  generalize w2.heap.size = p0 at *
  have K := hid (fun w' (h : Touch [] W3 w') => (⟨cells_of (touch_blk0 h (touch_blk0 T3.out B.out)), cells4_of (touch_blk0 h P.out)⟩ : _ ∧ _))
  clear hW3 t2 c0
  have tt : Touch [] W3 W3 := Touch.refl _ _
  obtain ⟨⟨d0, d1, d2, d3, d4, d5, d6, d7⟩, p1, p2, p3, p4⟩ := K.out _ tt
  go_wp2_with (first
    | (go_at_call 53; refine (CB.out _).mono ?_; rintro e w5 ⟨rfl, rfl⟩)
    | (go_at_call 55; refine (CS.out _).mono ?_; rintro e w5 ⟨rfl, t5⟩; have tt := tt.trans t5 (by simp); obtain ⟨⟨d0, d1, d2, d3, d4, d5, d6, d7⟩, p1, p2, p3, p4⟩ := K.out _ tt))
  go_ret
  exact ⟨rfl, (T1.out.trans T3.out (by simp)).trans tt (by simp)⟩
set_option maxHeartbeats 2000000 in
theorem rchk1_bad (t e p q r : Int) (s : ByteArray) (l : List EvD) (x : Option Addr) (cap : Nat) (w : World) (ht : inGreat t = true) (hs : strm s.data.toList = true) (h1 : 1 ≤ l.length) (h2 : (l.length : Int) ≤ 8) (hx : EvX w x l) (hv : l.all validE = false) :
    Calls Try.prog 22 #[.agg #[.int .i64 1, .int .i64 t, .string s, .int .i64 e, .slice x l.length cap, .int .i64 p, .int .i64 q, .int .i64 r]] w fun r w' => r = .returned (.int .i64 1) ∧ Touch [] w w' := by
  have CP := hid parts_1
  have CB := hid (bounded_any t)
  rw [ht] at CB
  have CS := hid (stm_any s)
  rw [hs] at CS
  have CV := hid (fun w' (h : Touch [] w w') => allValid_any l x cap w' (hx.touch h) (by omega))
  rw [hv] at CV
  unfold ptsV at CP
  have n0 : ((l.length : Int) == 0) = false := by rw [Bool.eq_false_iff]; intro h; have := eq_of_beq h; omega
  clear h1
  clear ht hs hv hx
  generalize l.length = n at *
  obtain ⟨W1, hW⟩ : ∃ W1, W1 = w.alloc (.cells #[.int .i64 1, .int .i64 t, .string s, .int .i64 e, .slice x n cap, .int .i64 p, .int .i64 q, .int .i64 r] tCmd) := ⟨_, rfl⟩
  have T1 : Hid (Touch [] w W1) := by rw [hW]; exact hid ((Touch.refl _ _).alloc _)
  have B : Hid (W1.heap[w.heap.size]? = some (.cells #[.int .i64 1, .int .i64 t, .string s, .int .i64 e, .slice x n cap, .int .i64 p, .int .i64 q, .int .i64 r] tCmd (0, 0))) := by rw [hW]; exact hid (heap_alloc_new w _)
  go_enter Try.func22, Try.ntmps22
  go_upto_region 1 with fail
  simp only [tCmd] at hW
  rw [← hW]
  clear hW
  have c0 := cell_of B.out 0
  go_upto_region 2 with (go_at_call 54; refine (CP.out _).mono ?_; rintro e w2 ⟨rfl, t2⟩)
  obtain ⟨W3, hW3⟩ : ∃ W3, W3 = w2.alloc (.cells #[.bool true, .bool true, .bool true, .bool false] 87) := ⟨_, rfl⟩
  have T3 : Hid (Touch [] W1 W3) := by rw [hW3]; exact hid (t2.alloc _)
  have P : Hid (W3.heap[w2.heap.size]? = some (.cells #[.bool true, .bool true, .bool true, .bool false] 87 (0, 0))) := by rw [hW3]; exact hid (heap_alloc_new w2 _)
  rw [← hW3]
  generalize w2.heap.size = p0 at *
  have K := hid (fun w' (h : Touch [] W3 w') => (⟨cells_of (touch_blk0 h (touch_blk0 T3.out B.out)), cells4_of (touch_blk0 h P.out)⟩ : _ ∧ _))
  clear hW3 t2 c0
  have CV3 := hid (fun w' (h : Touch [] W3 w') => CV.out w' ((T1.out.trans T3.out (by simp)).trans h (by simp)))
  have tt : Touch [] W3 W3 := Touch.refl _ _
  obtain ⟨⟨d0, d1, d2, d3, d4, d5, d6, d7⟩, p1, p2, p3, p4⟩ := K.out _ tt
  go_wp2_with (first
    | (go_at_call 53; refine (CB.out _).mono ?_; rintro e w5 ⟨rfl, rfl⟩)
    | (go_at_call 55; refine (CS.out _).mono ?_; rintro e w5 ⟨rfl, t5⟩; have tt := tt.trans t5 (by simp); obtain ⟨⟨d0, d1, d2, d3, d4, d5, d6, d7⟩, p1, p2, p3, p4⟩ := K.out _ tt)
    | (go_at_call 56; refine (CV3.out _ (by assumption)).mono ?_; rintro e w6 ⟨rfl, t6⟩; have tt := tt.trans t6 (by simp); obtain ⟨⟨d0, d1, d2, d3, d4, d5, d6, d7⟩, p1, p2, p3, p4⟩ := K.out _ tt))
  go_ret
  exact ⟨rfl, (T1.out.trans T3.out (by simp)).trans tt (by simp)⟩
set_option maxHeartbeats 2000000 in
theorem rchk1_exp (t e p q r : Int) (s : ByteArray) (l : List EvD) (x : Option Addr) (cap : Nat) (w : World) (ht : inGreat t = true) (hs : strm s.data.toList = true) (h1 : 1 ≤ l.length) (h2 : (l.length : Int) ≤ 8) (hx : EvX w x l) (hv : l.all validE = true) (he : expOk e = false) :
    Calls Try.prog 22 #[.agg #[.int .i64 1, .int .i64 t, .string s, .int .i64 e, .slice x l.length cap, .int .i64 p, .int .i64 q, .int .i64 r]] w fun r w' => r = .returned (.int .i64 1) ∧ Touch [] w w' := by
  have CP := hid parts_1
  have CB := hid (bounded_any t)
  rw [ht] at CB
  have CS := hid (stm_any s)
  rw [hs] at CS
  have CV := hid (fun w' (h : Touch [] w w') => allValid_any l x cap w' (hx.touch h) (by omega))
  rw [hv] at CV
  have CE := hid (expectable_any e)
  rw [he] at CE
  unfold ptsV at CP
  have n0 : ((l.length : Int) == 0) = false := by rw [Bool.eq_false_iff]; intro h; have := eq_of_beq h; omega
  clear h1
  clear ht hs hv hx he
  generalize l.length = n at *
  obtain ⟨W1, hW⟩ : ∃ W1, W1 = w.alloc (.cells #[.int .i64 1, .int .i64 t, .string s, .int .i64 e, .slice x n cap, .int .i64 p, .int .i64 q, .int .i64 r] tCmd) := ⟨_, rfl⟩
  have T1 : Hid (Touch [] w W1) := by rw [hW]; exact hid ((Touch.refl _ _).alloc _)
  have B : Hid (W1.heap[w.heap.size]? = some (.cells #[.int .i64 1, .int .i64 t, .string s, .int .i64 e, .slice x n cap, .int .i64 p, .int .i64 q, .int .i64 r] tCmd (0, 0))) := by rw [hW]; exact hid (heap_alloc_new w _)
  go_enter Try.func22, Try.ntmps22
  go_upto_region 1 with fail
  simp only [tCmd] at hW
  rw [← hW]
  clear hW
  have c0 := cell_of B.out 0
  go_upto_region 2 with (go_at_call 54; refine (CP.out _).mono ?_; rintro e w2 ⟨rfl, t2⟩)
  obtain ⟨W3, hW3⟩ : ∃ W3, W3 = w2.alloc (.cells #[.bool true, .bool true, .bool true, .bool false] 87) := ⟨_, rfl⟩
  have T3 : Hid (Touch [] W1 W3) := by rw [hW3]; exact hid (t2.alloc _)
  have P : Hid (W3.heap[w2.heap.size]? = some (.cells #[.bool true, .bool true, .bool true, .bool false] 87 (0, 0))) := by rw [hW3]; exact hid (heap_alloc_new w2 _)
  rw [← hW3]
  generalize w2.heap.size = p0 at *
  have K := hid (fun w' (h : Touch [] W3 w') => (⟨cells_of (touch_blk0 h (touch_blk0 T3.out B.out)), cells4_of (touch_blk0 h P.out)⟩ : _ ∧ _))
  clear hW3 t2 c0
  have CV3 := hid (fun w' (h : Touch [] W3 w') => CV.out w' ((T1.out.trans T3.out (by simp)).trans h (by simp)))
  have tt : Touch [] W3 W3 := Touch.refl _ _
  obtain ⟨⟨d0, d1, d2, d3, d4, d5, d6, d7⟩, p1, p2, p3, p4⟩ := K.out _ tt
  go_wp2_with (first
    | (go_at_call 53; refine (CB.out _).mono ?_; rintro e w5 ⟨rfl, rfl⟩)
    | (go_at_call 55; refine (CS.out _).mono ?_; rintro e w5 ⟨rfl, t5⟩; have tt := tt.trans t5 (by simp); obtain ⟨⟨d0, d1, d2, d3, d4, d5, d6, d7⟩, p1, p2, p3, p4⟩ := K.out _ tt)
    | (go_at_call 56; refine (CV3.out _ (by assumption)).mono ?_; rintro e w6 ⟨rfl, t6⟩; have tt := tt.trans t6 (by simp); obtain ⟨⟨d0, d1, d2, d3, d4, d5, d6, d7⟩, p1, p2, p3, p4⟩ := K.out _ tt)
    | (go_at_call 57; refine (CE.out _).mono ?_; rintro e w7 ⟨rfl, rfl⟩))
  go_ret
  exact ⟨rfl, (T1.out.trans T3.out (by simp)).trans tt (by simp)⟩
set_option maxHeartbeats 2000000 in
theorem rchk1_end (t e p q r : Int) (s : ByteArray) (l : List EvD) (x : Option Addr) (cap : Nat) (w : World) (ht : inGreat t = true) (hs : strm s.data.toList = true) (h1 : 1 ≤ l.length) (h2 : (l.length : Int) ≤ 8) (hx : EvX w x l) (hv : l.all validE = true) (he : expOk e = true) (h : Bool) (CH : ∀ w, Calls Try.prog 58 #[.agg #[.int .i64 1, .int .i64 t, .string s, .int .i64 e, .slice x l.length cap, .int .i64 p, .int .i64 q, .int .i64 r], ptsV true true true false] w fun r w' => r = .returned (.bool h) ∧ Touch [] w w') :
    Calls Try.prog 22 #[.agg #[.int .i64 1, .int .i64 t, .string s, .int .i64 e, .slice x l.length cap, .int .i64 p, .int .i64 q, .int .i64 r]] w fun r w' => r = .returned (.int .i64 (if h = true then 1 else 0)) ∧ Touch [] w w' := by
  have CP := hid parts_1
  have CB := hid (bounded_any t)
  rw [ht] at CB
  have CS := hid (stm_any s)
  rw [hs] at CS
  have CV := hid (fun w' (h : Touch [] w w') => allValid_any l x cap w' (hx.touch h) (by omega))
  rw [hv] at CV
  have CE := hid (expectable_any e)
  rw [he] at CE
  have CH := hid CH
  unfold ptsV at CH
  unfold ptsV at CP
  have n0 : ((l.length : Int) == 0) = false := by rw [Bool.eq_false_iff]; intro h; have := eq_of_beq h; omega
  clear h1
  clear ht hs hv hx he
  generalize l.length = n at *
  obtain ⟨W1, hW⟩ : ∃ W1, W1 = w.alloc (.cells #[.int .i64 1, .int .i64 t, .string s, .int .i64 e, .slice x n cap, .int .i64 p, .int .i64 q, .int .i64 r] tCmd) := ⟨_, rfl⟩
  have T1 : Hid (Touch [] w W1) := by rw [hW]; exact hid ((Touch.refl _ _).alloc _)
  have B : Hid (W1.heap[w.heap.size]? = some (.cells #[.int .i64 1, .int .i64 t, .string s, .int .i64 e, .slice x n cap, .int .i64 p, .int .i64 q, .int .i64 r] tCmd (0, 0))) := by rw [hW]; exact hid (heap_alloc_new w _)
  cases h
  all_goals
    go_enter Try.func22, Try.ntmps22
    go_upto_region 1 with fail
    simp only [tCmd] at hW
    rw [← hW]
    clear hW
    have c0 := cell_of B.out 0
    go_upto_region 2 with (go_at_call 54; refine (CP.out _).mono ?_; rintro e w2 ⟨rfl, t2⟩)
    obtain ⟨W3, hW3⟩ : ∃ W3, W3 = w2.alloc (.cells #[.bool true, .bool true, .bool true, .bool false] 87) := ⟨_, rfl⟩
    have T3 : Hid (Touch [] W1 W3) := by rw [hW3]; exact hid (t2.alloc _)
    have P : Hid (W3.heap[w2.heap.size]? = some (.cells #[.bool true, .bool true, .bool true, .bool false] 87 (0, 0))) := by rw [hW3]; exact hid (heap_alloc_new w2 _)
    rw [← hW3]
    generalize w2.heap.size = p0 at *
    have K := hid (fun w' (h : Touch [] W3 w') => (⟨cells_of (touch_blk0 h (touch_blk0 T3.out B.out)), cells4_of (touch_blk0 h P.out)⟩ : _ ∧ _))
    clear hW3 t2 c0
    have CV3 := hid (fun w' (h : Touch [] W3 w') => CV.out w' ((T1.out.trans T3.out (by simp)).trans h (by simp)))
    have tt : Touch [] W3 W3 := Touch.refl _ _
    obtain ⟨⟨d0, d1, d2, d3, d4, d5, d6, d7⟩, p1, p2, p3, p4⟩ := K.out _ tt
    go_wp2_with (first
      | (go_at_call 53; refine (CB.out _).mono ?_; rintro e w5 ⟨rfl, rfl⟩)
      | (go_at_call 55; refine (CS.out _).mono ?_; rintro e w5 ⟨rfl, t5⟩; have tt := tt.trans t5 (by simp); obtain ⟨⟨d0, d1, d2, d3, d4, d5, d6, d7⟩, p1, p2, p3, p4⟩ := K.out _ tt)
      | (go_at_call 56; refine (CV3.out _ (by assumption)).mono ?_; rintro e w6 ⟨rfl, t6⟩; have tt := tt.trans t6 (by simp); obtain ⟨⟨d0, d1, d2, d3, d4, d5, d6, d7⟩, p1, p2, p3, p4⟩ := K.out _ tt)
      | (go_at_call 57; refine (CE.out _).mono ?_; rintro e w7 ⟨rfl, rfl⟩)
      | (go_at_call 58; refine (CH.out _).mono ?_; rintro e w9 ⟨rfl, t9⟩; have tt := tt.trans t9 (by simp)))
    go_ret
    exact ⟨rfl, (T1.out.trans T3.out (by simp)).trans tt (by simp)⟩
set_option maxHeartbeats 2000000 in
theorem rchk2_meta (t e p q r : Int) (s : ByteArray) (n : Nat) (x : Option Addr) (cap : Nat) (w : World) (ht : inGreat t = true) (hs : strm s.data.toList = true) (hv : validM p q r = false) :
    Calls Try.prog 22 #[.agg #[.int .i64 2, .int .i64 t, .string s, .int .i64 e, .slice x n cap, .int .i64 p, .int .i64 q, .int .i64 r]] w fun r w' => r = .returned (.int .i64 1) ∧ Touch [] w w' := by
  have CP := hid parts_2
  have CB := hid (bounded_any t)
  rw [ht] at CB
  have CS := hid (stm_any s)
  rw [hs] at CS
  have CM := hid (fun w => evValidMeta_any p q r w)
  rw [hv] at CM
  unfold metaV at CM
  unfold ptsV at CP
  clear ht hs hv
  obtain ⟨W1, hW⟩ : ∃ W1, W1 = w.alloc (.cells #[.int .i64 2, .int .i64 t, .string s, .int .i64 e, .slice x n cap, .int .i64 p, .int .i64 q, .int .i64 r] tCmd) := ⟨_, rfl⟩
  have T1 : Hid (Touch [] w W1) := by rw [hW]; exact hid ((Touch.refl _ _).alloc _)
  have B : Hid (W1.heap[w.heap.size]? = some (.cells #[.int .i64 2, .int .i64 t, .string s, .int .i64 e, .slice x n cap, .int .i64 p, .int .i64 q, .int .i64 r] tCmd (0, 0))) := by rw [hW]; exact hid (heap_alloc_new w _)
  go_enter Try.func22, Try.ntmps22
  go_upto_region 1 with fail
  simp only [tCmd] at hW
  rw [← hW]
  clear hW
  have c0 := cell_of B.out 0
  go_upto_region 2 with (go_at_call 54; refine (CP.out _).mono ?_; rintro e w2 ⟨rfl, t2⟩)
  obtain ⟨W3, hW3⟩ : ∃ W3, W3 = w2.alloc (.cells #[.bool true, .bool false, .bool false, .bool true] 87) := ⟨_, rfl⟩
  have T3 : Hid (Touch [] W1 W3) := by rw [hW3]; exact hid (t2.alloc _)
  have P : Hid (W3.heap[w2.heap.size]? = some (.cells #[.bool true, .bool false, .bool false, .bool true] 87 (0, 0))) := by rw [hW3]; exact hid (heap_alloc_new w2 _)
  rw [← hW3]
  generalize w2.heap.size = p0 at *
  have K := hid (fun w' (h : Touch [] W3 w') => (⟨cells_of (touch_blk0 h (touch_blk0 T3.out B.out)), cells4_of (touch_blk0 h P.out)⟩ : _ ∧ _))
  clear hW3 t2 c0
  have tt : Touch [] W3 W3 := Touch.refl _ _
  obtain ⟨⟨d0, d1, d2, d3, d4, d5, d6, d7⟩, p1, p2, p3, p4⟩ := K.out _ tt
  go_wp2_with (first
    | (go_at_call 53; refine (CB.out _).mono ?_; rintro e w5 ⟨rfl, rfl⟩)
    | (go_at_call 55; refine (CS.out _).mono ?_; rintro e w5 ⟨rfl, t5⟩; have tt := tt.trans t5 (by simp); obtain ⟨⟨d0, d1, d2, d3, d4, d5, d6, d7⟩, p1, p2, p3, p4⟩ := K.out _ tt)
    | (go_at_call 20; refine (CM.out _).mono ?_; rintro e w8 ⟨rfl, t8⟩; have tt := tt.trans t8 (by simp); obtain ⟨⟨d0, d1, d2, d3, d4, d5, d6, d7⟩, p1, p2, p3, p4⟩ := K.out _ tt))
  go_ret
  exact ⟨rfl, (T1.out.trans T3.out (by simp)).trans tt (by simp)⟩
set_option maxHeartbeats 2000000 in
theorem rchk2_end (t e p q r : Int) (s : ByteArray) (n : Nat) (x : Option Addr) (cap : Nat) (w : World) (ht : inGreat t = true) (hs : strm s.data.toList = true) (hv : validM p q r = true) (h : Bool) (CH : ∀ w, Calls Try.prog 58 #[.agg #[.int .i64 2, .int .i64 t, .string s, .int .i64 e, .slice x n cap, .int .i64 p, .int .i64 q, .int .i64 r], ptsV true false false true] w fun r w' => r = .returned (.bool h) ∧ Touch [] w w') :
    Calls Try.prog 22 #[.agg #[.int .i64 2, .int .i64 t, .string s, .int .i64 e, .slice x n cap, .int .i64 p, .int .i64 q, .int .i64 r]] w fun r w' => r = .returned (.int .i64 (if h = true then 1 else 0)) ∧ Touch [] w w' := by
  have CP := hid parts_2
  have CB := hid (bounded_any t)
  rw [ht] at CB
  have CS := hid (stm_any s)
  rw [hs] at CS
  have CM := hid (fun w => evValidMeta_any p q r w)
  rw [hv] at CM
  unfold metaV at CM
  have CH := hid CH
  unfold ptsV at CH
  unfold ptsV at CP
  clear ht hs hv
  obtain ⟨W1, hW⟩ : ∃ W1, W1 = w.alloc (.cells #[.int .i64 2, .int .i64 t, .string s, .int .i64 e, .slice x n cap, .int .i64 p, .int .i64 q, .int .i64 r] tCmd) := ⟨_, rfl⟩
  have T1 : Hid (Touch [] w W1) := by rw [hW]; exact hid ((Touch.refl _ _).alloc _)
  have B : Hid (W1.heap[w.heap.size]? = some (.cells #[.int .i64 2, .int .i64 t, .string s, .int .i64 e, .slice x n cap, .int .i64 p, .int .i64 q, .int .i64 r] tCmd (0, 0))) := by rw [hW]; exact hid (heap_alloc_new w _)
  cases h
  all_goals
    go_enter Try.func22, Try.ntmps22
    go_upto_region 1 with fail
    simp only [tCmd] at hW
    rw [← hW]
    clear hW
    have c0 := cell_of B.out 0
    go_upto_region 2 with (go_at_call 54; refine (CP.out _).mono ?_; rintro e w2 ⟨rfl, t2⟩)
    obtain ⟨W3, hW3⟩ : ∃ W3, W3 = w2.alloc (.cells #[.bool true, .bool false, .bool false, .bool true] 87) := ⟨_, rfl⟩
    have T3 : Hid (Touch [] W1 W3) := by rw [hW3]; exact hid (t2.alloc _)
    have P : Hid (W3.heap[w2.heap.size]? = some (.cells #[.bool true, .bool false, .bool false, .bool true] 87 (0, 0))) := by rw [hW3]; exact hid (heap_alloc_new w2 _)
    rw [← hW3]
    generalize w2.heap.size = p0 at *
    have K := hid (fun w' (h : Touch [] W3 w') => (⟨cells_of (touch_blk0 h (touch_blk0 T3.out B.out)), cells4_of (touch_blk0 h P.out)⟩ : _ ∧ _))
    clear hW3 t2 c0
    have tt : Touch [] W3 W3 := Touch.refl _ _
    obtain ⟨⟨d0, d1, d2, d3, d4, d5, d6, d7⟩, p1, p2, p3, p4⟩ := K.out _ tt
    go_wp2_with (first
      | (go_at_call 53; refine (CB.out _).mono ?_; rintro e w5 ⟨rfl, rfl⟩)
      | (go_at_call 55; refine (CS.out _).mono ?_; rintro e w5 ⟨rfl, t5⟩; have tt := tt.trans t5 (by simp); obtain ⟨⟨d0, d1, d2, d3, d4, d5, d6, d7⟩, p1, p2, p3, p4⟩ := K.out _ tt)
      | (go_at_call 20; refine (CM.out _).mono ?_; rintro e w8 ⟨rfl, t8⟩; have tt := tt.trans t8 (by simp); obtain ⟨⟨d0, d1, d2, d3, d4, d5, d6, d7⟩, p1, p2, p3, p4⟩ := K.out _ tt)
      | (go_at_call 58; refine (CH.out _).mono ?_; rintro e w9 ⟨rfl, t9⟩; have tt := tt.trans t9 (by simp)))
    go_ret
    exact ⟨rfl, (T1.out.trans T3.out (by simp)).trans tt (by simp)⟩
set_option maxHeartbeats 2000000 in
theorem rchk3_exp (t e p q r : Int) (s : ByteArray) (n : Nat) (x : Option Addr) (cap : Nat) (w : World) (ht : inGreat t = true) (hs : strm s.data.toList = true) (he : expOk e = false) :
    Calls Try.prog 22 #[.agg #[.int .i64 3, .int .i64 t, .string s, .int .i64 e, .slice x n cap, .int .i64 p, .int .i64 q, .int .i64 r]] w fun r w' => r = .returned (.int .i64 1) ∧ Touch [] w w' := by
  have CP := hid parts_3
  have CB := hid (bounded_any t)
  rw [ht] at CB
  have CS := hid (stm_any s)
  rw [hs] at CS
  have CE := hid (expectable_any e)
  rw [he] at CE
  unfold ptsV at CP
  clear ht hs he
  obtain ⟨W1, hW⟩ : ∃ W1, W1 = w.alloc (.cells #[.int .i64 3, .int .i64 t, .string s, .int .i64 e, .slice x n cap, .int .i64 p, .int .i64 q, .int .i64 r] tCmd) := ⟨_, rfl⟩
  have T1 : Hid (Touch [] w W1) := by rw [hW]; exact hid ((Touch.refl _ _).alloc _)
  have B : Hid (W1.heap[w.heap.size]? = some (.cells #[.int .i64 3, .int .i64 t, .string s, .int .i64 e, .slice x n cap, .int .i64 p, .int .i64 q, .int .i64 r] tCmd (0, 0))) := by rw [hW]; exact hid (heap_alloc_new w _)
  go_enter Try.func22, Try.ntmps22
  go_upto_region 1 with fail
  simp only [tCmd] at hW
  rw [← hW]
  clear hW
  have c0 := cell_of B.out 0
  go_upto_region 2 with (go_at_call 54; refine (CP.out _).mono ?_; rintro e w2 ⟨rfl, t2⟩)
  obtain ⟨W3, hW3⟩ : ∃ W3, W3 = w2.alloc (.cells #[.bool true, .bool true, .bool false, .bool false] 87) := ⟨_, rfl⟩
  have T3 : Hid (Touch [] W1 W3) := by rw [hW3]; exact hid (t2.alloc _)
  have P : Hid (W3.heap[w2.heap.size]? = some (.cells #[.bool true, .bool true, .bool false, .bool false] 87 (0, 0))) := by rw [hW3]; exact hid (heap_alloc_new w2 _)
  rw [← hW3]
  generalize w2.heap.size = p0 at *
  have K := hid (fun w' (h : Touch [] W3 w') => (⟨cells_of (touch_blk0 h (touch_blk0 T3.out B.out)), cells4_of (touch_blk0 h P.out)⟩ : _ ∧ _))
  clear hW3 t2 c0
  have tt : Touch [] W3 W3 := Touch.refl _ _
  obtain ⟨⟨d0, d1, d2, d3, d4, d5, d6, d7⟩, p1, p2, p3, p4⟩ := K.out _ tt
  go_wp2_with (first
    | (go_at_call 53; refine (CB.out _).mono ?_; rintro e w5 ⟨rfl, rfl⟩)
    | (go_at_call 55; refine (CS.out _).mono ?_; rintro e w5 ⟨rfl, t5⟩; have tt := tt.trans t5 (by simp); obtain ⟨⟨d0, d1, d2, d3, d4, d5, d6, d7⟩, p1, p2, p3, p4⟩ := K.out _ tt)
    | (go_at_call 57; refine (CE.out _).mono ?_; rintro e w7 ⟨rfl, rfl⟩))
  go_ret
  exact ⟨rfl, (T1.out.trans T3.out (by simp)).trans tt (by simp)⟩
set_option maxHeartbeats 2000000 in
theorem rchk3_end (t e p q r : Int) (s : ByteArray) (n : Nat) (x : Option Addr) (cap : Nat) (w : World) (ht : inGreat t = true) (hs : strm s.data.toList = true) (he : expOk e = true) (h : Bool) (CH : ∀ w, Calls Try.prog 58 #[.agg #[.int .i64 3, .int .i64 t, .string s, .int .i64 e, .slice x n cap, .int .i64 p, .int .i64 q, .int .i64 r], ptsV true true false false] w fun r w' => r = .returned (.bool h) ∧ Touch [] w w') :
    Calls Try.prog 22 #[.agg #[.int .i64 3, .int .i64 t, .string s, .int .i64 e, .slice x n cap, .int .i64 p, .int .i64 q, .int .i64 r]] w fun r w' => r = .returned (.int .i64 (if h = true then 1 else 0)) ∧ Touch [] w w' := by
  have CP := hid parts_3
  have CB := hid (bounded_any t)
  rw [ht] at CB
  have CS := hid (stm_any s)
  rw [hs] at CS
  have CE := hid (expectable_any e)
  rw [he] at CE
  have CH := hid CH
  unfold ptsV at CH
  unfold ptsV at CP
  clear ht hs he
  obtain ⟨W1, hW⟩ : ∃ W1, W1 = w.alloc (.cells #[.int .i64 3, .int .i64 t, .string s, .int .i64 e, .slice x n cap, .int .i64 p, .int .i64 q, .int .i64 r] tCmd) := ⟨_, rfl⟩
  have T1 : Hid (Touch [] w W1) := by rw [hW]; exact hid ((Touch.refl _ _).alloc _)
  have B : Hid (W1.heap[w.heap.size]? = some (.cells #[.int .i64 3, .int .i64 t, .string s, .int .i64 e, .slice x n cap, .int .i64 p, .int .i64 q, .int .i64 r] tCmd (0, 0))) := by rw [hW]; exact hid (heap_alloc_new w _)
  cases h
  all_goals
    go_enter Try.func22, Try.ntmps22
    go_upto_region 1 with fail
    simp only [tCmd] at hW
    rw [← hW]
    clear hW
    have c0 := cell_of B.out 0
    go_upto_region 2 with (go_at_call 54; refine (CP.out _).mono ?_; rintro e w2 ⟨rfl, t2⟩)
    obtain ⟨W3, hW3⟩ : ∃ W3, W3 = w2.alloc (.cells #[.bool true, .bool true, .bool false, .bool false] 87) := ⟨_, rfl⟩
    have T3 : Hid (Touch [] W1 W3) := by rw [hW3]; exact hid (t2.alloc _)
    have P : Hid (W3.heap[w2.heap.size]? = some (.cells #[.bool true, .bool true, .bool false, .bool false] 87 (0, 0))) := by rw [hW3]; exact hid (heap_alloc_new w2 _)
    rw [← hW3]
    generalize w2.heap.size = p0 at *
    have K := hid (fun w' (h : Touch [] W3 w') => (⟨cells_of (touch_blk0 h (touch_blk0 T3.out B.out)), cells4_of (touch_blk0 h P.out)⟩ : _ ∧ _))
    clear hW3 t2 c0
    have tt : Touch [] W3 W3 := Touch.refl _ _
    obtain ⟨⟨d0, d1, d2, d3, d4, d5, d6, d7⟩, p1, p2, p3, p4⟩ := K.out _ tt
    go_wp2_with (first
      | (go_at_call 53; refine (CB.out _).mono ?_; rintro e w5 ⟨rfl, rfl⟩)
      | (go_at_call 55; refine (CS.out _).mono ?_; rintro e w5 ⟨rfl, t5⟩; have tt := tt.trans t5 (by simp); obtain ⟨⟨d0, d1, d2, d3, d4, d5, d6, d7⟩, p1, p2, p3, p4⟩ := K.out _ tt)
      | (go_at_call 57; refine (CE.out _).mono ?_; rintro e w7 ⟨rfl, rfl⟩)
      | (go_at_call 58; refine (CH.out _).mono ?_; rintro e w9 ⟨rfl, t9⟩; have tt := tt.trans t9 (by simp)))
    go_ret
    exact ⟨rfl, (T1.out.trans T3.out (by simp)).trans tt (by simp)⟩
set_option maxHeartbeats 2000000 in
theorem rchkD_end (k t e p q r : Int) (s : ByteArray) (n : Nat) (x : Option Addr) (cap : Nat) (w : World) (ht : inGreat t = true) (CP : Hid (∀ w, Calls Try.prog 54 #[.int .i64 k] w fun r w' => r = .returned (.tuple #[ptsV false false false false, .bool true]) ∧ Touch [] w w')) (h : Bool) (CH : ∀ w, Calls Try.prog 58 #[.agg #[.int .i64 k, .int .i64 t, .string s, .int .i64 e, .slice x n cap, .int .i64 p, .int .i64 q, .int .i64 r], ptsV false false false false] w fun r w' => r = .returned (.bool h) ∧ Touch [] w w') :
    Calls Try.prog 22 #[.agg #[.int .i64 k, .int .i64 t, .string s, .int .i64 e, .slice x n cap, .int .i64 p, .int .i64 q, .int .i64 r]] w fun r w' => r = .returned (.int .i64 (if h = true then 1 else 0)) ∧ Touch [] w w' := by
  have CB := hid (bounded_any t)
  rw [ht] at CB
  have CH := hid CH
  unfold ptsV at CH
  unfold ptsV at CP
  clear ht
  obtain ⟨W1, hW⟩ : ∃ W1, W1 = w.alloc (.cells #[.int .i64 k, .int .i64 t, .string s, .int .i64 e, .slice x n cap, .int .i64 p, .int .i64 q, .int .i64 r] tCmd) := ⟨_, rfl⟩
  have T1 : Hid (Touch [] w W1) := by rw [hW]; exact hid ((Touch.refl _ _).alloc _)
  have B : Hid (W1.heap[w.heap.size]? = some (.cells #[.int .i64 k, .int .i64 t, .string s, .int .i64 e, .slice x n cap, .int .i64 p, .int .i64 q, .int .i64 r] tCmd (0, 0))) := by rw [hW]; exact hid (heap_alloc_new w _)
  cases h
  all_goals
    go_enter Try.func22, Try.ntmps22
    go_upto_region 1 with fail
    simp only [tCmd] at hW
    rw [← hW]
    clear hW
    have c0 := cell_of B.out 0
    go_upto_region 2 with (go_at_call 54; refine (CP.out _).mono ?_; rintro e w2 ⟨rfl, t2⟩)
    obtain ⟨W3, hW3⟩ : ∃ W3, W3 = w2.alloc (.cells #[.bool false, .bool false, .bool false, .bool false] 87) := ⟨_, rfl⟩
    have T3 : Hid (Touch [] W1 W3) := by rw [hW3]; exact hid (t2.alloc _)
    have P : Hid (W3.heap[w2.heap.size]? = some (.cells #[.bool false, .bool false, .bool false, .bool false] 87 (0, 0))) := by rw [hW3]; exact hid (heap_alloc_new w2 _)
    rw [← hW3]
    generalize w2.heap.size = p0 at *
    have K := hid (fun w' (h : Touch [] W3 w') => (⟨cells_of (touch_blk0 h (touch_blk0 T3.out B.out)), cells4_of (touch_blk0 h P.out)⟩ : _ ∧ _))
    clear hW3 t2 c0
    have tt : Touch [] W3 W3 := Touch.refl _ _
    obtain ⟨⟨d0, d1, d2, d3, d4, d5, d6, d7⟩, p1, p2, p3, p4⟩ := K.out _ tt
    go_wp2_with (first
      | (go_at_call 53; refine (CB.out _).mono ?_; rintro e w5 ⟨rfl, rfl⟩)
      | (go_at_call 58; refine (CH.out _).mono ?_; rintro e w9 ⟨rfl, t9⟩; have tt := tt.trans t9 (by simp)))
    go_ret
    exact ⟨rfl, (T1.out.trans T3.out (by simp)).trans tt (by simp)⟩
set_option maxHeartbeats 2000000 in
theorem rchkA_time (k t e p q r : Int) (s : ByteArray) (n : Nat) (x : Option Addr) (cap : Nat) (w : World) (ht : inGreat t = false) (CP : Hid (∀ w, Calls Try.prog 54 #[.int .i64 k] w fun r w' => r = .returned (.tuple #[ptsV true true true false, .bool true]) ∧ Touch [] w w')) :
    Calls Try.prog 22 #[.agg #[.int .i64 k, .int .i64 t, .string s, .int .i64 e, .slice x n cap, .int .i64 p, .int .i64 q, .int .i64 r]] w fun r w' => r = .returned (.int .i64 1) ∧ Touch [] w w' := by
  have CB := hid (bounded_any t)
  rw [ht] at CB
  unfold ptsV at CP
  clear ht
  obtain ⟨W1, hW⟩ : ∃ W1, W1 = w.alloc (.cells #[.int .i64 k, .int .i64 t, .string s, .int .i64 e, .slice x n cap, .int .i64 p, .int .i64 q, .int .i64 r] tCmd) := ⟨_, rfl⟩
  have T1 : Hid (Touch [] w W1) := by rw [hW]; exact hid ((Touch.refl _ _).alloc _)
  have B : Hid (W1.heap[w.heap.size]? = some (.cells #[.int .i64 k, .int .i64 t, .string s, .int .i64 e, .slice x n cap, .int .i64 p, .int .i64 q, .int .i64 r] tCmd (0, 0))) := by rw [hW]; exact hid (heap_alloc_new w _)
  go_enter Try.func22, Try.ntmps22
  go_upto_region 1 with fail
  simp only [tCmd] at hW
  rw [← hW]
  clear hW
  have c0 := cell_of B.out 0
  go_upto_region 2 with (go_at_call 54; refine (CP.out _).mono ?_; rintro e w2 ⟨rfl, t2⟩)
  obtain ⟨W3, hW3⟩ : ∃ W3, W3 = w2.alloc (.cells #[.bool true, .bool true, .bool true, .bool false] 87) := ⟨_, rfl⟩
  have T3 : Hid (Touch [] W1 W3) := by rw [hW3]; exact hid (t2.alloc _)
  have P : Hid (W3.heap[w2.heap.size]? = some (.cells #[.bool true, .bool true, .bool true, .bool false] 87 (0, 0))) := by rw [hW3]; exact hid (heap_alloc_new w2 _)
  rw [← hW3]
  generalize w2.heap.size = p0 at *
  have K := hid (fun w' (h : Touch [] W3 w') => (⟨cells_of (touch_blk0 h (touch_blk0 T3.out B.out)), cells4_of (touch_blk0 h P.out)⟩ : _ ∧ _))
  clear hW3 t2 c0
  have tt : Touch [] W3 W3 := Touch.refl _ _
  obtain ⟨⟨d0, d1, d2, d3, d4, d5, d6, d7⟩, p1, p2, p3, p4⟩ := K.out _ tt
  go_wp2_with (first
    | (go_at_call 53; refine (CB.out _).mono ?_; rintro e w5 ⟨rfl, rfl⟩))
  go_ret
  exact ⟨rfl, (T1.out.trans T3.out (by simp)).trans tt (by simp)⟩
set_option maxHeartbeats 2000000 in
theorem rchkB_time (k t e p q r : Int) (s : ByteArray) (n : Nat) (x : Option Addr) (cap : Nat) (w : World) (ht : inGreat t = false) (CP : Hid (∀ w, Calls Try.prog 54 #[.int .i64 k] w fun r w' => r = .returned (.tuple #[ptsV true false false true, .bool true]) ∧ Touch [] w w')) :
    Calls Try.prog 22 #[.agg #[.int .i64 k, .int .i64 t, .string s, .int .i64 e, .slice x n cap, .int .i64 p, .int .i64 q, .int .i64 r]] w fun r w' => r = .returned (.int .i64 1) ∧ Touch [] w w' := by
  have CB := hid (bounded_any t)
  rw [ht] at CB
  unfold ptsV at CP
  clear ht
  obtain ⟨W1, hW⟩ : ∃ W1, W1 = w.alloc (.cells #[.int .i64 k, .int .i64 t, .string s, .int .i64 e, .slice x n cap, .int .i64 p, .int .i64 q, .int .i64 r] tCmd) := ⟨_, rfl⟩
  have T1 : Hid (Touch [] w W1) := by rw [hW]; exact hid ((Touch.refl _ _).alloc _)
  have B : Hid (W1.heap[w.heap.size]? = some (.cells #[.int .i64 k, .int .i64 t, .string s, .int .i64 e, .slice x n cap, .int .i64 p, .int .i64 q, .int .i64 r] tCmd (0, 0))) := by rw [hW]; exact hid (heap_alloc_new w _)
  go_enter Try.func22, Try.ntmps22
  go_upto_region 1 with fail
  simp only [tCmd] at hW
  rw [← hW]
  clear hW
  have c0 := cell_of B.out 0
  go_upto_region 2 with (go_at_call 54; refine (CP.out _).mono ?_; rintro e w2 ⟨rfl, t2⟩)
  obtain ⟨W3, hW3⟩ : ∃ W3, W3 = w2.alloc (.cells #[.bool true, .bool false, .bool false, .bool true] 87) := ⟨_, rfl⟩
  have T3 : Hid (Touch [] W1 W3) := by rw [hW3]; exact hid (t2.alloc _)
  have P : Hid (W3.heap[w2.heap.size]? = some (.cells #[.bool true, .bool false, .bool false, .bool true] 87 (0, 0))) := by rw [hW3]; exact hid (heap_alloc_new w2 _)
  rw [← hW3]
  generalize w2.heap.size = p0 at *
  have K := hid (fun w' (h : Touch [] W3 w') => (⟨cells_of (touch_blk0 h (touch_blk0 T3.out B.out)), cells4_of (touch_blk0 h P.out)⟩ : _ ∧ _))
  clear hW3 t2 c0
  have tt : Touch [] W3 W3 := Touch.refl _ _
  obtain ⟨⟨d0, d1, d2, d3, d4, d5, d6, d7⟩, p1, p2, p3, p4⟩ := K.out _ tt
  go_wp2_with (first
    | (go_at_call 53; refine (CB.out _).mono ?_; rintro e w5 ⟨rfl, rfl⟩))
  go_ret
  exact ⟨rfl, (T1.out.trans T3.out (by simp)).trans tt (by simp)⟩
set_option maxHeartbeats 2000000 in
theorem rchkC_time (k t e p q r : Int) (s : ByteArray) (n : Nat) (x : Option Addr) (cap : Nat) (w : World) (ht : inGreat t = false) (CP : Hid (∀ w, Calls Try.prog 54 #[.int .i64 k] w fun r w' => r = .returned (.tuple #[ptsV true true false false, .bool true]) ∧ Touch [] w w')) :
    Calls Try.prog 22 #[.agg #[.int .i64 k, .int .i64 t, .string s, .int .i64 e, .slice x n cap, .int .i64 p, .int .i64 q, .int .i64 r]] w fun r w' => r = .returned (.int .i64 1) ∧ Touch [] w w' := by
  have CB := hid (bounded_any t)
  rw [ht] at CB
  unfold ptsV at CP
  clear ht
  obtain ⟨W1, hW⟩ : ∃ W1, W1 = w.alloc (.cells #[.int .i64 k, .int .i64 t, .string s, .int .i64 e, .slice x n cap, .int .i64 p, .int .i64 q, .int .i64 r] tCmd) := ⟨_, rfl⟩
  have T1 : Hid (Touch [] w W1) := by rw [hW]; exact hid ((Touch.refl _ _).alloc _)
  have B : Hid (W1.heap[w.heap.size]? = some (.cells #[.int .i64 k, .int .i64 t, .string s, .int .i64 e, .slice x n cap, .int .i64 p, .int .i64 q, .int .i64 r] tCmd (0, 0))) := by rw [hW]; exact hid (heap_alloc_new w _)
  go_enter Try.func22, Try.ntmps22
  go_upto_region 1 with fail
  simp only [tCmd] at hW
  rw [← hW]
  clear hW
  have c0 := cell_of B.out 0
  go_upto_region 2 with (go_at_call 54; refine (CP.out _).mono ?_; rintro e w2 ⟨rfl, t2⟩)
  obtain ⟨W3, hW3⟩ : ∃ W3, W3 = w2.alloc (.cells #[.bool true, .bool true, .bool false, .bool false] 87) := ⟨_, rfl⟩
  have T3 : Hid (Touch [] W1 W3) := by rw [hW3]; exact hid (t2.alloc _)
  have P : Hid (W3.heap[w2.heap.size]? = some (.cells #[.bool true, .bool true, .bool false, .bool false] 87 (0, 0))) := by rw [hW3]; exact hid (heap_alloc_new w2 _)
  rw [← hW3]
  generalize w2.heap.size = p0 at *
  have K := hid (fun w' (h : Touch [] W3 w') => (⟨cells_of (touch_blk0 h (touch_blk0 T3.out B.out)), cells4_of (touch_blk0 h P.out)⟩ : _ ∧ _))
  clear hW3 t2 c0
  have tt : Touch [] W3 W3 := Touch.refl _ _
  obtain ⟨⟨d0, d1, d2, d3, d4, d5, d6, d7⟩, p1, p2, p3, p4⟩ := K.out _ tt
  go_wp2_with (first
    | (go_at_call 53; refine (CB.out _).mono ?_; rintro e w5 ⟨rfl, rfl⟩))
  go_ret
  exact ⟨rfl, (T1.out.trans T3.out (by simp)).trans tt (by simp)⟩
set_option maxHeartbeats 2000000 in
theorem rchkD_time (k t e p q r : Int) (s : ByteArray) (n : Nat) (x : Option Addr) (cap : Nat) (w : World) (ht : inGreat t = false) (CP : Hid (∀ w, Calls Try.prog 54 #[.int .i64 k] w fun r w' => r = .returned (.tuple #[ptsV false false false false, .bool true]) ∧ Touch [] w w')) :
    Calls Try.prog 22 #[.agg #[.int .i64 k, .int .i64 t, .string s, .int .i64 e, .slice x n cap, .int .i64 p, .int .i64 q, .int .i64 r]] w fun r w' => r = .returned (.int .i64 1) ∧ Touch [] w w' := by
  have CB := hid (bounded_any t)
  rw [ht] at CB
  unfold ptsV at CP
  clear ht
  obtain ⟨W1, hW⟩ : ∃ W1, W1 = w.alloc (.cells #[.int .i64 k, .int .i64 t, .string s, .int .i64 e, .slice x n cap, .int .i64 p, .int .i64 q, .int .i64 r] tCmd) := ⟨_, rfl⟩
  have T1 : Hid (Touch [] w W1) := by rw [hW]; exact hid ((Touch.refl _ _).alloc _)
  have B : Hid (W1.heap[w.heap.size]? = some (.cells #[.int .i64 k, .int .i64 t, .string s, .int .i64 e, .slice x n cap, .int .i64 p, .int .i64 q, .int .i64 r] tCmd (0, 0))) := by rw [hW]; exact hid (heap_alloc_new w _)
  go_enter Try.func22, Try.ntmps22
  go_upto_region 1 with fail
  simp only [tCmd] at hW
  rw [← hW]
  clear hW
  have c0 := cell_of B.out 0
  go_upto_region 2 with (go_at_call 54; refine (CP.out _).mono ?_; rintro e w2 ⟨rfl, t2⟩)
  obtain ⟨W3, hW3⟩ : ∃ W3, W3 = w2.alloc (.cells #[.bool false, .bool false, .bool false, .bool false] 87) := ⟨_, rfl⟩
  have T3 : Hid (Touch [] W1 W3) := by rw [hW3]; exact hid (t2.alloc _)
  have P : Hid (W3.heap[w2.heap.size]? = some (.cells #[.bool false, .bool false, .bool false, .bool false] 87 (0, 0))) := by rw [hW3]; exact hid (heap_alloc_new w2 _)
  rw [← hW3]
  generalize w2.heap.size = p0 at *
  have K := hid (fun w' (h : Touch [] W3 w') => (⟨cells_of (touch_blk0 h (touch_blk0 T3.out B.out)), cells4_of (touch_blk0 h P.out)⟩ : _ ∧ _))
  clear hW3 t2 c0
  have tt : Touch [] W3 W3 := Touch.refl _ _
  obtain ⟨⟨d0, d1, d2, d3, d4, d5, d6, d7⟩, p1, p2, p3, p4⟩ := K.out _ tt
  go_wp2_with (first
    | (go_at_call 53; refine (CB.out _).mono ?_; rintro e w5 ⟨rfl, rfl⟩))
  go_ret
  exact ⟨rfl, (T1.out.trans T3.out (by simp)).trans tt (by simp)⟩
set_option maxHeartbeats 2000000 in
theorem rchk_kind (k t e p q r : Int) (s : ByteArray) (n : Nat) (x : Option Addr) (cap : Nat) (w : World) (hk : k < 1 ∨ 5 < k) :
    Calls Try.prog 22 #[.agg #[.int .i64 k, .int .i64 t, .string s, .int .i64 e, .slice x n cap, .int .i64 p, .int .i64 q, .int .i64 r]] w fun r w' => r = .returned (.int .i64 1) ∧ Touch [] w w' := by
  have CP := hid (fun w => parts_no w k hk)
  unfold ptsV at CP
  clear hk
  go_enter Try.func22, Try.ntmps22
  go_wp2_with (go_at_call 54; refine (CP.out _).mono ?_; rintro e w2 ⟨rfl, t2⟩)
  go_ret
  exact ⟨rfl, (((Touch.refl _ _).alloc _).trans t2 (by simp)).alloc _⟩
end Go.Proofs.Ytcihnfgfficmlaa
