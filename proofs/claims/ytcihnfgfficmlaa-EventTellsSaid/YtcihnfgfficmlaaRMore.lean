/- event's hasMore. -/
import Derived.Test.YtcihnfgfficmlaaRPart
namespace Go.Proofs.Ytcihnfgfficmlaa
open Go.RowKit Go.Lib
set_option maxRecDepth 100000

theorem toList_emptyR {x : ByteArray} : (x.toList == []) = decide (x.size = 0) := by
  rw [ByteArray.toList_eq, Bool.eq_iff_iff]
  have := list_len x
  simp only [beq_iff_eq, decide_eq_true_eq]
  constructor
  · intro h; rw [← this, h]; rfl
  · intro h; exact List.eq_nil_of_length_eq_zero (by omega)
theorem moreA_yes (k t e p q r : Int) (s : ByteArray) (n : Nat) (x : Option Addr) (cap : Nat) (w : World) (hm : p ≠ 0 ∨ (p = 0 ∧ q ≠ 0) ∨ (p = 0 ∧ q = 0 ∧ r ≠ 0)) :
    Calls Try.prog 58 #[.agg #[.int .i64 k, .int .i64 t, .string s, .int .i64 e, .slice x n cap, .int .i64 p, .int .i64 q, .int .i64 r], ptsV true true true false] w fun r w' => r = .returned (.bool true) ∧ Touch [] w w' := by
  unfold ptsV
  rcases hm with hm | ⟨rfl, hm⟩ | ⟨rfl, rfl, hm⟩
  all_goals
    go_enter Try.func58, Try.ntmps58
    go_wp2
    all_goals
      go_ret
      exact ⟨rfl, ((Touch.refl _ _).alloc _).alloc _⟩
theorem moreA_no (k t e : Int) (s : ByteArray) (n : Nat) (x : Option Addr) (cap : Nat) (w : World) :
    Calls Try.prog 58 #[.agg #[.int .i64 k, .int .i64 t, .string s, .int .i64 e, .slice x n cap, .int .i64 0, .int .i64 0, .int .i64 0], ptsV true true true false] w fun r w' => r = .returned (.bool false) ∧ Touch [] w w' := by
  unfold ptsV
  go_enter Try.func58, Try.ntmps58
  go_wp2
  all_goals
    go_ret
    exact ⟨rfl, ((Touch.refl _ _).alloc _).alloc _⟩
theorem moreB_exp (k t e p q r : Int) (s : ByteArray) (n : Nat) (x : Option Addr) (cap : Nat) (w : World) (he : (e != 0) = true) :
    Calls Try.prog 58 #[.agg #[.int .i64 k, .int .i64 t, .string s, .int .i64 e, .slice x n cap, .int .i64 p, .int .i64 q, .int .i64 r], ptsV true false false true] w fun r w' => r = .returned (.bool true) ∧ Touch [] w w' := by
  unfold ptsV
  go_enter Try.func58, Try.ntmps58
  go_wp2
  all_goals
    go_ret
    exact ⟨rfl, ((Touch.refl _ _).alloc _).alloc _⟩
theorem moreB_evs (k t p q r : Int) (s : ByteArray) (n : Nat) (x : Option Addr) (cap : Nat) (w : World) (hn : (0 : Int) < n) :
    Calls Try.prog 58 #[.agg #[.int .i64 k, .int .i64 t, .string s, .int .i64 0, .slice x n cap, .int .i64 p, .int .i64 q, .int .i64 r], ptsV true false false true] w fun r w' => r = .returned (.bool true) ∧ Touch [] w w' := by
  unfold ptsV
  go_enter Try.func58, Try.ntmps58
  go_wp2
  all_goals
    go_ret
    exact ⟨rfl, ((Touch.refl _ _).alloc _).alloc _⟩
theorem moreB_no (k t p q r : Int) (s : ByteArray) (x : Option Addr) (cap : Nat) (w : World) :
    Calls Try.prog 58 #[.agg #[.int .i64 k, .int .i64 t, .string s, .int .i64 0, .slice x 0 cap, .int .i64 p, .int .i64 q, .int .i64 r], ptsV true false false true] w fun r w' => r = .returned (.bool false) ∧ Touch [] w w' := by
  unfold ptsV
  have n0 : decide ((0 : Int) < (0 : Nat)) = false := by simp
  go_enter Try.func58, Try.ntmps58
  go_wp2
  all_goals
    go_ret
    exact ⟨rfl, ((Touch.refl _ _).alloc _).alloc _⟩
theorem moreC_evs (k t e p q r : Int) (s : ByteArray) (n : Nat) (x : Option Addr) (cap : Nat) (w : World) (hn : (0 : Int) < n) :
    Calls Try.prog 58 #[.agg #[.int .i64 k, .int .i64 t, .string s, .int .i64 e, .slice x n cap, .int .i64 p, .int .i64 q, .int .i64 r], ptsV true true false false] w fun r w' => r = .returned (.bool true) ∧ Touch [] w w' := by
  unfold ptsV
  go_enter Try.func58, Try.ntmps58
  go_wp2
  all_goals
    go_ret
    exact ⟨rfl, ((Touch.refl _ _).alloc _).alloc _⟩
theorem moreC_meta (k t e p q r : Int) (s : ByteArray) (x : Option Addr) (cap : Nat) (w : World) (hm : p ≠ 0 ∨ (p = 0 ∧ q ≠ 0) ∨ (p = 0 ∧ q = 0 ∧ r ≠ 0)) :
    Calls Try.prog 58 #[.agg #[.int .i64 k, .int .i64 t, .string s, .int .i64 e, .slice x 0 cap, .int .i64 p, .int .i64 q, .int .i64 r], ptsV true true false false] w fun r w' => r = .returned (.bool true) ∧ Touch [] w w' := by
  unfold ptsV
  have n0 : decide ((0 : Int) < (0 : Nat)) = false := by simp
  rcases hm with hm | ⟨rfl, hm⟩ | ⟨rfl, rfl, hm⟩
  all_goals
    go_enter Try.func58, Try.ntmps58
    go_wp2
    all_goals
      go_ret
      exact ⟨rfl, ((Touch.refl _ _).alloc _).alloc _⟩
theorem moreC_no (k t e : Int) (s : ByteArray) (x : Option Addr) (cap : Nat) (w : World) :
    Calls Try.prog 58 #[.agg #[.int .i64 k, .int .i64 t, .string s, .int .i64 e, .slice x 0 cap, .int .i64 0, .int .i64 0, .int .i64 0], ptsV true true false false] w fun r w' => r = .returned (.bool false) ∧ Touch [] w w' := by
  unfold ptsV
  have n0 : decide ((0 : Int) < (0 : Nat)) = false := by simp
  go_enter Try.func58, Try.ntmps58
  go_wp2
  all_goals
    go_ret
    exact ⟨rfl, ((Touch.refl _ _).alloc _).alloc _⟩
theorem moreD_stream (k t e p q r : Int) (s : ByteArray) (n : Nat) (x : Option Addr) (cap : Nat) (w : World) (hs : (s.toList == []) = false) :
    Calls Try.prog 58 #[.agg #[.int .i64 k, .int .i64 t, .string s, .int .i64 e, .slice x n cap, .int .i64 p, .int .i64 q, .int .i64 r], ptsV false false false false] w fun r w' => r = .returned (.bool true) ∧ Touch [] w w' := by
  unfold ptsV
  go_enter Try.func58, Try.ntmps58
  go_wp2
  all_goals
    go_ret
    exact ⟨rfl, ((Touch.refl _ _).alloc _).alloc _⟩
theorem moreD_exp (k t e p q r : Int) (s : ByteArray) (n : Nat) (x : Option Addr) (cap : Nat) (w : World) (hs : (s.toList == []) = true) (he : (e != 0) = true) :
    Calls Try.prog 58 #[.agg #[.int .i64 k, .int .i64 t, .string s, .int .i64 e, .slice x n cap, .int .i64 p, .int .i64 q, .int .i64 r], ptsV false false false false] w fun r w' => r = .returned (.bool true) ∧ Touch [] w w' := by
  unfold ptsV
  go_enter Try.func58, Try.ntmps58
  go_wp2
  all_goals
    go_ret
    exact ⟨rfl, ((Touch.refl _ _).alloc _).alloc _⟩
theorem moreD_evs (k t p q r : Int) (s : ByteArray) (n : Nat) (x : Option Addr) (cap : Nat) (w : World) (hs : (s.toList == []) = true) (hn : (0 : Int) < n) :
    Calls Try.prog 58 #[.agg #[.int .i64 k, .int .i64 t, .string s, .int .i64 0, .slice x n cap, .int .i64 p, .int .i64 q, .int .i64 r], ptsV false false false false] w fun r w' => r = .returned (.bool true) ∧ Touch [] w w' := by
  unfold ptsV
  go_enter Try.func58, Try.ntmps58
  go_wp2
  all_goals
    go_ret
    exact ⟨rfl, ((Touch.refl _ _).alloc _).alloc _⟩
theorem moreD_meta (k t p q r : Int) (s : ByteArray) (x : Option Addr) (cap : Nat) (w : World) (hs : (s.toList == []) = true) (hm : p ≠ 0 ∨ (p = 0 ∧ q ≠ 0) ∨ (p = 0 ∧ q = 0 ∧ r ≠ 0)) :
    Calls Try.prog 58 #[.agg #[.int .i64 k, .int .i64 t, .string s, .int .i64 0, .slice x 0 cap, .int .i64 p, .int .i64 q, .int .i64 r], ptsV false false false false] w fun r w' => r = .returned (.bool true) ∧ Touch [] w w' := by
  unfold ptsV
  have n0 : decide ((0 : Int) < (0 : Nat)) = false := by simp
  rcases hm with hm | ⟨rfl, hm⟩ | ⟨rfl, rfl, hm⟩
  all_goals
    go_enter Try.func58, Try.ntmps58
    go_wp2
    all_goals
      go_ret
      exact ⟨rfl, ((Touch.refl _ _).alloc _).alloc _⟩
theorem moreD_no (k t : Int) (s : ByteArray) (x : Option Addr) (cap : Nat) (w : World) (hs : (s.toList == []) = true) :
    Calls Try.prog 58 #[.agg #[.int .i64 k, .int .i64 t, .string s, .int .i64 0, .slice x 0 cap, .int .i64 0, .int .i64 0, .int .i64 0], ptsV false false false false] w fun r w' => r = .returned (.bool false) ∧ Touch [] w w' := by
  unfold ptsV
  have n0 : decide ((0 : Int) < (0 : Nat)) = false := by simp
  go_enter Try.func58, Try.ntmps58
  go_wp2
  all_goals
    go_ret
    exact ⟨rfl, ((Touch.refl _ _).alloc _).alloc _⟩
end Go.Proofs.Ytcihnfgfficmlaa
