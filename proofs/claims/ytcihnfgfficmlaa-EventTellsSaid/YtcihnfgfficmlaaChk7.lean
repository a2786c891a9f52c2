/- The laws' own Check. -/
import Derived.Test.YtcihnfgfficmlaaEv
namespace Go.Proofs.Ytcihnfgfficmlaa
open Go.RowKit Go.Lib

theorem toList_empty {x : ByteArray} : (x.toList == []) = decide (x.size = 0) := by
  rw [ByteArray.toList_eq, Bool.eq_iff_iff]
  have := list_len x
  simp only [beq_iff_eq, decide_eq_true_eq]
  constructor
  · intro h; rw [← this, h]; rfl
  · intro h; exact List.eq_nil_of_length_eq_zero (by omega)

set_option maxRecDepth 100000 in
theorem refCheck_k (c : CmdD) (x : Option Addr) (cap : Nat) (w : World) (h : c.kind < 1 ∨ (1 ≤ c.kind ∧ 5 < c.kind) ∨ (1 ≤ c.kind ∧ c.kind ≤ 5 ∧ c.time < 0) ∨ (1 ≤ c.kind ∧ c.kind ≤ 5 ∧ 0 ≤ c.time ∧ 1099511627776 < c.time)) :
    Calls Try.prog 23 #[c.agg x cap] w fun r w' => r = .returned (.int .i64 1) ∧ Touch [] w w' := by
  unfold CmdD.agg
  obtain ⟨a0, a1, a2, a3, a4, a5, a6, a7⟩ := c
  simp only [] at h ⊢
  generalize a4.length = n at *
  rcases h with h | ⟨h1, h⟩ | ⟨h1, h2, h⟩ | ⟨h1, h2, h3, h⟩
  all_goals
    go_enter Try.func23, Try.ntmps23
    go_wp2
    go_ret
    exact ⟨rfl, (Touch.refl _ _).alloc _⟩

set_option maxRecDepth 100000 in
theorem refCheck_s (c : CmdD) (x : Option Addr) (cap : Nat) (w : World) (h1 : 1 ≤ c.kind) (h2 : c.kind ≤ 3) (h3 : 0 ≤ c.time) (h4 : c.time ≤ 1099511627776) (hs : strm c.stream.data.toList = false) :
    Calls Try.prog 23 #[c.agg x cap] w fun r w' => r = .returned (.int .i64 1) ∧ Touch [] w w' := by
  have C := hid (fun w => refStm_any c.stream w)
  rw [hs] at C
  unfold CmdD.agg
  obtain ⟨a0, a1, a2, a3, a4, a5, a6, a7⟩ := c
  simp only [] at h1 h2 h3 h4 C ⊢
  generalize a4.length = n at *
  have h5 : a0 ≤ 5 := by omega
  clear hs
  go_enter Try.func23, Try.ntmps23
  go_wp2_with (go_at_call 35; refine (C.out _).mono ?_; rintro e w1 ⟨rfl, rfl⟩)
  go_ret
  exact ⟨rfl, (Touch.refl _ _).alloc _⟩

/-- The ways of what is expected. -/
theorem exp_cases (x : Int) : (x = -1 ∨ x = -2 ∨ x = -4 ∨ (0 ≤ x ∧ x ≤ 1099511627776)) ∨ (x ≠ -1 ∧ x ≠ -2 ∧ x ≠ -4 ∧ x < 0) ∨ 1099511627776 < x := by omega
theorem exp_no {x : Int} (h : (x ≠ -1 ∧ x ≠ -2 ∧ x ≠ -4 ∧ x < 0) ∨ 1099511627776 < x) : expOk x = false := by
  unfold expOk
  rw [great_no (by omega), decide_eq_false (by omega), decide_eq_false (by omega), decide_eq_false (by omega)]; rfl
theorem exp_yes {x : Int} (h : x = -1 ∨ x = -2 ∨ x = -4 ∨ (0 ≤ x ∧ x ≤ 1099511627776)) : expOk x = true := by
  unfold expOk
  rcases h with rfl | rfl | rfl | ⟨h1, h2⟩
  · rfl
  · rfl
  · rfl
  · rw [great_yes h1 h2]; simp

/-! ### A delete -/
set_option maxRecDepth 100000 in
set_option maxHeartbeats 2000000 in
theorem refCheck3_exp (t e p q r : Int) (s : ByteArray) (n : Nat) (x : Option Addr) (cap : Nat) (w : World) (h3 : 0 ≤ t) (h4 : t ≤ 1099511627776) (hs : strm s.data.toList = true) (he : (e ≠ -1 ∧ e ≠ -2 ∧ e ≠ -4 ∧ e < 0) ∨ 1099511627776 < e) :
    Calls Try.prog 23 #[.agg #[.int .i64 3, .int .i64 t, .string s, .int .i64 e, .slice x n cap, .int .i64 p, .int .i64 q, .int .i64 r]] w fun r w' => r = .returned (.int .i64 1) ∧ Touch [] w w' := by
  have C := hid (fun w => refStm_any s w)
  rw [hs] at C
  clear hs
  have e1 : (e != -1) = true := by simp; omega
  have e2 : (e != -2) = true := by simp; omega
  have e3 : (e != -4) = true := by simp; omega
  rcases he with ⟨_, _, _, he⟩ | he
  · go_enter Try.func23, Try.ntmps23
    go_wp2_with (go_at_call 35; refine (C.out _).mono ?_; rintro e w1 ⟨rfl, rfl⟩)
    go_ret
    exact ⟨rfl, (Touch.refl _ _).alloc _⟩
  · have e4 : decide (e < 0) = false := by simp; omega
    go_enter Try.func23, Try.ntmps23
    go_wp2_with (go_at_call 35; refine (C.out _).mono ?_; rintro e w1 ⟨rfl, rfl⟩)
    go_ret
    exact ⟨rfl, (Touch.refl _ _).alloc _⟩

set_option maxRecDepth 100000 in
set_option maxHeartbeats 4000000 in
theorem refCheck3_evs (t e p q r : Int) (s : ByteArray) (n : Nat) (x : Option Addr) (cap : Nat) (w : World) (h3 : 0 ≤ t) (h4 : t ≤ 1099511627776) (hs : strm s.data.toList = true) (he : e = -1 ∨ e = -2 ∨ e = -4 ∨ (0 ≤ e ∧ e ≤ 1099511627776)) (hn : (0 : Int) < n) :
    Calls Try.prog 23 #[.agg #[.int .i64 3, .int .i64 t, .string s, .int .i64 e, .slice x n cap, .int .i64 p, .int .i64 q, .int .i64 r]] w fun r w' => r = .returned (.int .i64 1) ∧ Touch [] w w' := by
  have C := hid (fun w => refStm_any s w)
  rw [hs] at C
  clear hs
  rcases he with rfl | rfl | rfl | ⟨he1, he2⟩
  rotate_right
  have e1 : (e != -1) = true := by simp; omega
  have e2 : (e != -2) = true := by simp; omega
  have e3 : (e != -4) = true := by simp; omega
  have e4 : decide (e < 0) = false := by simp; omega
  have e5 : decide (1099511627776 < e) = false := by simp; omega
  clear he1 he2
  all_goals
    go_enter Try.func23, Try.ntmps23
    go_wp2_with (first | (go_at_call 35; refine (C.out _).mono ?_; rintro e w1 ⟨rfl, rfl⟩))
    all_goals
      go_ret
      exact ⟨rfl, (Touch.refl _ _).alloc _⟩

set_option maxRecDepth 100000 in
set_option maxHeartbeats 4000000 in
theorem refCheck3_meta (t e p q r : Int) (s : ByteArray) (x : Option Addr) (cap : Nat) (w : World) (h3 : 0 ≤ t) (h4 : t ≤ 1099511627776) (hs : strm s.data.toList = true) (he : e = -1 ∨ e = -2 ∨ e = -4 ∨ (0 ≤ e ∧ e ≤ 1099511627776)) (hm : (p ≠ 0 ∨ (p = 0 ∧ q ≠ 0) ∨ (p = 0 ∧ q = 0 ∧ r ≠ 0))) :
    Calls Try.prog 23 #[.agg #[.int .i64 3, .int .i64 t, .string s, .int .i64 e, .slice x 0 cap, .int .i64 p, .int .i64 q, .int .i64 r]] w fun r w' => r = .returned (.int .i64 1) ∧ Touch [] w w' := by
  have C := hid (fun w => refStm_any s w)
  rw [hs] at C
  clear hs
  have n0 : decide ((0 : Int) < (0 : Nat)) = false := by simp
  rcases he with rfl | rfl | rfl | ⟨he1, he2⟩
  rotate_right
  have e1 : (e != -1) = true := by simp; omega
  have e2 : (e != -2) = true := by simp; omega
  have e3 : (e != -4) = true := by simp; omega
  have e4 : decide (e < 0) = false := by simp; omega
  have e5 : decide (1099511627776 < e) = false := by simp; omega
  clear he1 he2
  all_goals
    rcases hm with hm | ⟨rfl, hm⟩ | ⟨rfl, rfl, hm⟩
    all_goals
      go_enter Try.func23, Try.ntmps23
      go_wp2_with (first | (go_at_call 35; refine (C.out _).mono ?_; rintro e w1 ⟨rfl, rfl⟩))
      all_goals
        go_ret
        exact ⟨rfl, (Touch.refl _ _).alloc _⟩
  
set_option maxRecDepth 100000 in
set_option maxHeartbeats 4000000 in
theorem refCheck3_good (t e : Int) (s : ByteArray) (x : Option Addr) (cap : Nat) (w : World) (h3 : 0 ≤ t) (h4 : t ≤ 1099511627776) (hs : strm s.data.toList = true) (he : e = -1 ∨ e = -2 ∨ e = -4 ∨ (0 ≤ e ∧ e ≤ 1099511627776)) :
    Calls Try.prog 23 #[.agg #[.int .i64 3, .int .i64 t, .string s, .int .i64 e, .slice x 0 cap, .int .i64 0, .int .i64 0, .int .i64 0]] w fun r w' => r = .returned (.int .i64 0) ∧ Touch [] w w' := by
  have C := hid (fun w => refStm_any s w)
  rw [hs] at C
  clear hs
  rcases he with rfl | rfl | rfl | ⟨he1, he2⟩
  rotate_right
  have e1 : (e != -1) = true := by simp; omega
  have e2 : (e != -2) = true := by simp; omega
  have e3 : (e != -4) = true := by simp; omega
  have e4 : decide (e < 0) = false := by simp; omega
  have e5 : decide (1099511627776 < e) = false := by simp; omega
  clear he1 he2
  all_goals
    go_enter Try.func23, Try.ntmps23
    go_wp2_with (first | (go_at_call 35; refine (C.out _).mono ?_; rintro e w1 ⟨rfl, rfl⟩))
    all_goals
      go_ret
      exact ⟨rfl, (Touch.refl _ _).alloc _⟩
end Go.Proofs.Ytcihnfgfficmlaa
