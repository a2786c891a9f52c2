/- The laws' own Check: metadata, and what has no parts. -/
import Derived.Test.YtcihnfgfficmlaaEv
namespace Go.Proofs.Ytcihnfgfficmlaa
open Go.RowKit Go.Lib

set_option maxRecDepth 100000 in
set_option maxHeartbeats 4000000 in
theorem refCheck2_meta (t e p q r : Int) (s : ByteArray) (n : Nat) (x : Option Addr) (cap : Nat) (w : World) (h3 : 0 ≤ t) (h4 : t ≤ 1099511627776) (hs : strm s.data.toList = true) (hv : validM p q r = false) :
    Calls Try.prog 23 #[.agg #[.int .i64 2, .int .i64 t, .string s, .int .i64 e, .slice x n cap, .int .i64 p, .int .i64 q, .int .i64 r]] w fun r w' => r = .returned (.int .i64 1) ∧ Touch [] w w' := by
  have C := hid (fun w => refStm_any s w)
  rw [hs] at C
  clear hs
  have D := hid (fun w => refValidMeta_any p q r w)
  rw [hv] at D
  unfold metaV at D
  clear hv
  go_enter Try.func23, Try.ntmps23
  go_wp2_with (first | (go_at_call 35; refine (C.out _).mono ?_; rintro e w1 ⟨rfl, rfl⟩) | (go_at_call 21; refine (D.out _).mono ?_; rintro e w2 ⟨rfl, a2⟩; have d0 := a2.cell (cell_of (heap_alloc_new w _) 0); have d2 := a2.cell (cell_of (heap_alloc_new w _) 2); have d3 := a2.cell (cell_of (heap_alloc_new w _) 3); have d4 := a2.cell (cell_of (heap_alloc_new w _) 4); simp at d0 d2 d3 d4))
  all_goals
    go_ret
    exact ⟨rfl, ((Touch.refl _ _).alloc _).trans a2 (by simp)⟩

set_option maxRecDepth 100000 in
set_option maxHeartbeats 4000000 in
theorem refCheck2_evs (t e p q r : Int) (s : ByteArray) (n : Nat) (x : Option Addr) (cap : Nat) (w : World) (h3 : 0 ≤ t) (h4 : t ≤ 1099511627776) (hs : strm s.data.toList = true) (hv : validM p q r = true) (hn : (0 : Int) < n) :
    Calls Try.prog 23 #[.agg #[.int .i64 2, .int .i64 t, .string s, .int .i64 e, .slice x n cap, .int .i64 p, .int .i64 q, .int .i64 r]] w fun r w' => r = .returned (.int .i64 1) ∧ Touch [] w w' := by
  have C := hid (fun w => refStm_any s w)
  rw [hs] at C
  clear hs
  have D := hid (fun w => refValidMeta_any p q r w)
  rw [hv] at D
  unfold metaV at D
  clear hv
  go_enter Try.func23, Try.ntmps23
  go_wp2_with (first | (go_at_call 35; refine (C.out _).mono ?_; rintro e w1 ⟨rfl, rfl⟩) | (go_at_call 21; refine (D.out _).mono ?_; rintro e w2 ⟨rfl, a2⟩; have d0 := a2.cell (cell_of (heap_alloc_new w _) 0); have d2 := a2.cell (cell_of (heap_alloc_new w _) 2); have d3 := a2.cell (cell_of (heap_alloc_new w _) 3); have d4 := a2.cell (cell_of (heap_alloc_new w _) 4); simp at d0 d2 d3 d4))
  all_goals
    go_ret
    exact ⟨rfl, ((Touch.refl _ _).alloc _).trans a2 (by simp)⟩

set_option maxRecDepth 100000 in
set_option maxHeartbeats 4000000 in
theorem refCheck2_exp (t e p q r : Int) (s : ByteArray) (x : Option Addr) (cap : Nat) (w : World) (h3 : 0 ≤ t) (h4 : t ≤ 1099511627776) (hs : strm s.data.toList = true) (hv : validM p q r = true) (he : (e != 0) = true) :
    Calls Try.prog 23 #[.agg #[.int .i64 2, .int .i64 t, .string s, .int .i64 e, .slice x 0 cap, .int .i64 p, .int .i64 q, .int .i64 r]] w fun r w' => r = .returned (.int .i64 1) ∧ Touch [] w w' := by
  have C := hid (fun w => refStm_any s w)
  rw [hs] at C
  clear hs
  have D := hid (fun w => refValidMeta_any p q r w)
  rw [hv] at D
  unfold metaV at D
  clear hv
  go_enter Try.func23, Try.ntmps23
  go_wp2_with (first | (go_at_call 35; refine (C.out _).mono ?_; rintro e w1 ⟨rfl, rfl⟩) | (go_at_call 21; refine (D.out _).mono ?_; rintro e w2 ⟨rfl, a2⟩; have d0 := a2.cell (cell_of (heap_alloc_new w _) 0); have d2 := a2.cell (cell_of (heap_alloc_new w _) 2); have d3 := a2.cell (cell_of (heap_alloc_new w _) 3); have d4 := a2.cell (cell_of (heap_alloc_new w _) 4); simp at d0 d2 d3 d4))
  all_goals
    go_ret
    exact ⟨rfl, ((Touch.refl _ _).alloc _).trans a2 (by simp)⟩

set_option maxRecDepth 100000 in
set_option maxHeartbeats 4000000 in
theorem refCheck2_good (t p q r : Int) (s : ByteArray) (x : Option Addr) (cap : Nat) (w : World) (h3 : 0 ≤ t) (h4 : t ≤ 1099511627776) (hs : strm s.data.toList = true) (hv : validM p q r = true) :
    Calls Try.prog 23 #[.agg #[.int .i64 2, .int .i64 t, .string s, .int .i64 0, .slice x 0 cap, .int .i64 p, .int .i64 q, .int .i64 r]] w fun r w' => r = .returned (.int .i64 0) ∧ Touch [] w w' := by
  have C := hid (fun w => refStm_any s w)
  rw [hs] at C
  clear hs
  have D := hid (fun w => refValidMeta_any p q r w)
  rw [hv] at D
  unfold metaV at D
  clear hv
  go_enter Try.func23, Try.ntmps23
  go_wp2_with (first | (go_at_call 35; refine (C.out _).mono ?_; rintro e w1 ⟨rfl, rfl⟩) | (go_at_call 21; refine (D.out _).mono ?_; rintro e w2 ⟨rfl, a2⟩; have d0 := a2.cell (cell_of (heap_alloc_new w _) 0); have d2 := a2.cell (cell_of (heap_alloc_new w _) 2); have d3 := a2.cell (cell_of (heap_alloc_new w _) 3); have d4 := a2.cell (cell_of (heap_alloc_new w _) 4); simp at d0 d2 d3 d4))
  all_goals
    go_ret
    exact ⟨rfl, ((Touch.refl _ _).alloc _).trans a2 (by simp)⟩

set_option maxRecDepth 100000 in
set_option maxHeartbeats 4000000 in
theorem refCheck4_evs (k : Int) (hk : k = 4 ∨ k = 5) (t e p q r : Int) (s : ByteArray) (n : Nat) (x : Option Addr) (cap : Nat) (w : World) (h3 : 0 ≤ t) (h4 : t ≤ 1099511627776) (hn : (0 : Int) < n) :
    Calls Try.prog 23 #[.agg #[.int .i64 k, .int .i64 t, .string s, .int .i64 e, .slice x n cap, .int .i64 p, .int .i64 q, .int .i64 r]] w fun r w' => r = .returned (.int .i64 1) ∧ Touch [] w w' := by
  rcases hk with rfl | rfl
  all_goals
    go_enter Try.func23, Try.ntmps23
    go_wp2
    all_goals
      go_ret
      exact ⟨rfl, (Touch.refl _ _).alloc _⟩

set_option maxRecDepth 100000 in
set_option maxHeartbeats 4000000 in
theorem refCheck4_meta (k : Int) (hk : k = 4 ∨ k = 5) (t e p q r : Int) (s : ByteArray) (x : Option Addr) (cap : Nat) (w : World) (h3 : 0 ≤ t) (h4 : t ≤ 1099511627776) (hm : p ≠ 0 ∨ (p = 0 ∧ q ≠ 0) ∨ (p = 0 ∧ q = 0 ∧ r ≠ 0)) :
    Calls Try.prog 23 #[.agg #[.int .i64 k, .int .i64 t, .string s, .int .i64 e, .slice x 0 cap, .int .i64 p, .int .i64 q, .int .i64 r]] w fun r w' => r = .returned (.int .i64 1) ∧ Touch [] w w' := by
  rcases hk with rfl | rfl
  all_goals
    rcases hm with hm | ⟨rfl, hm⟩ | ⟨rfl, rfl, hm⟩
    all_goals
      go_enter Try.func23, Try.ntmps23
      go_wp2
      all_goals
        go_ret
        exact ⟨rfl, (Touch.refl _ _).alloc _⟩

set_option maxRecDepth 100000 in
set_option maxHeartbeats 4000000 in
theorem refCheck4_exp (k : Int) (hk : k = 4 ∨ k = 5) (t e : Int) (s : ByteArray) (x : Option Addr) (cap : Nat) (w : World) (h3 : 0 ≤ t) (h4 : t ≤ 1099511627776) (he : (e != 0) = true) :
    Calls Try.prog 23 #[.agg #[.int .i64 k, .int .i64 t, .string s, .int .i64 e, .slice x 0 cap, .int .i64 0, .int .i64 0, .int .i64 0]] w fun r w' => r = .returned (.int .i64 1) ∧ Touch [] w w' := by
  rcases hk with rfl | rfl
  all_goals
    go_enter Try.func23, Try.ntmps23
    go_wp2
    all_goals
      go_ret
      exact ⟨rfl, (Touch.refl _ _).alloc _⟩

set_option maxRecDepth 100000 in
set_option maxHeartbeats 4000000 in
theorem refCheck4_stream (k : Int) (hk : k = 4 ∨ k = 5) (t : Int) (s : ByteArray) (x : Option Addr) (cap : Nat) (w : World) (h3 : 0 ≤ t) (h4 : t ≤ 1099511627776) (hs : (s.toList == []) = false) :
    Calls Try.prog 23 #[.agg #[.int .i64 k, .int .i64 t, .string s, .int .i64 0, .slice x 0 cap, .int .i64 0, .int .i64 0, .int .i64 0]] w fun r w' => r = .returned (.int .i64 1) ∧ Touch [] w w' := by
  rcases hk with rfl | rfl
  all_goals
    go_enter Try.func23, Try.ntmps23
    go_wp2
    all_goals
      go_ret
      exact ⟨rfl, (Touch.refl _ _).alloc _⟩

set_option maxRecDepth 100000 in
set_option maxHeartbeats 4000000 in
theorem refCheck4_good (k : Int) (hk : k = 4 ∨ k = 5) (t : Int) (s : ByteArray) (x : Option Addr) (cap : Nat) (w : World) (h3 : 0 ≤ t) (h4 : t ≤ 1099511627776) (hs : (s.toList == []) = true) :
    Calls Try.prog 23 #[.agg #[.int .i64 k, .int .i64 t, .string s, .int .i64 0, .slice x 0 cap, .int .i64 0, .int .i64 0, .int .i64 0]] w fun r w' => r = .returned (.int .i64 0) ∧ Touch [] w w' := by
  rcases hk with rfl | rfl
  all_goals
    go_enter Try.func23, Try.ntmps23
    go_wp2
    all_goals
      go_ret
      exact ⟨rfl, (Touch.refl _ _).alloc _⟩
end Go.Proofs.Ytcihnfgfficmlaa
