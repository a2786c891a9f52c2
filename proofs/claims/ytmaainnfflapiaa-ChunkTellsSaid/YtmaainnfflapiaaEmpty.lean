/- The book's methods over the kinds of which nothing was kept. -/
import Derived.Test.YtmaainnfflapiaaBkName
namespace Go.Proofs.Ytmaainnfflapiaa
set_option maxRecDepth 100000
open Go.RowKit Go.Lib

abbrev TBook : TypeId := 36
abbrev nilS : Value := .slice none 0 0
/-- The book's block: two lists of lists of texts, and nothing else. -/
def BkBlk (W : World) (kb : Nat) (tv wv : Value) : Prop := W.heap[kb]? = some (.cells #[tv, wv, nilS, nilS, nilS, nilS, nilS, nilS, nilS, nilS, nilS, nilS] TBook (0, 0))

theorem stillInts_any (kb : Nat) (tv wv : Value) (W : World) (h : BkBlk W kb tv wv) : Calls Try.prog 34 #[.pointer (some ⟨kb, 0, none⟩)] W fun e w' => e = .returned (.bool true) ∧ W = w' := by
  have c0 := cell_of h 2
  clear h
  go_enter Try.func34, Try.ntmps34
  go_wp2
  refine wp_loop_rounds 1 ?_
  rw [rounds_succ]
  go_wp2
  go_ret
  exact ⟨rfl, rfl⟩
theorem putInts_any (kb : Nat) (tv wv : Value) (W : World) (h : BkBlk W kb tv wv) : Calls Try.prog 41 #[.pointer (some ⟨kb, 0, none⟩)] W fun e w' => e = .returned (.tuple #[]) ∧ W = w' := by
  have c0 := cell_of h 2
  clear h
  go_enter Try.func41, Try.ntmps41
  go_wp2
  refine wp_loop_rounds 1 ?_
  rw [rounds_succ]
  go_wp2
  go_end0
  exact ⟨rfl, rfl⟩
theorem growInts_any (kb : Nat) (tv wv : Value) (W : World) (h : BkBlk W kb tv wv) : Calls Try.prog 46 #[.pointer (some ⟨kb, 0, none⟩)] W fun e w' => e = .returned nilS ∧ W = w' := by
  have c0 := cell_of h 2
  clear h
  go_enter Try.func46, Try.ntmps46
  go_wp2
  refine wp_loop_rounds 1 ?_
  rw [rounds_succ]
  go_wp2
  go_ret
  exact ⟨rfl, rfl⟩
theorem markedInts_any (W : World) : Calls Try.prog 52 #[nilS] W fun e w' => e = .returned (.bool true) ∧ W = w' := by
  go_enter Try.func52, Try.ntmps52
  go_wp2
  refine wp_loop_rounds 1 ?_
  rw [rounds_succ]
  go_wp2
  go_ret
  exact ⟨rfl, rfl⟩
theorem stillStored_any (kb : Nat) (tv wv : Value) (W : World) (h : BkBlk W kb tv wv) : Calls Try.prog 35 #[.pointer (some ⟨kb, 0, none⟩)] W fun e w' => e = .returned (.bool true) ∧ W = w' := by
  have c0 := cell_of h 4
  clear h
  go_enter Try.func35, Try.ntmps35
  go_wp2
  refine wp_loop_rounds 1 ?_
  rw [rounds_succ]
  go_wp2
  go_ret
  exact ⟨rfl, rfl⟩
theorem putStored_any (kb : Nat) (tv wv : Value) (W : World) (h : BkBlk W kb tv wv) : Calls Try.prog 42 #[.pointer (some ⟨kb, 0, none⟩)] W fun e w' => e = .returned (.tuple #[]) ∧ W = w' := by
  have c0 := cell_of h 4
  clear h
  go_enter Try.func42, Try.ntmps42
  go_wp2
  refine wp_loop_rounds 1 ?_
  rw [rounds_succ]
  go_wp2
  go_end0
  exact ⟨rfl, rfl⟩
theorem growStored_any (kb : Nat) (tv wv : Value) (W : World) (h : BkBlk W kb tv wv) : Calls Try.prog 47 #[.pointer (some ⟨kb, 0, none⟩)] W fun e w' => e = .returned nilS ∧ W = w' := by
  have c0 := cell_of h 4
  clear h
  go_enter Try.func47, Try.ntmps47
  go_wp2
  refine wp_loop_rounds 1 ?_
  rw [rounds_succ]
  go_wp2
  go_ret
  exact ⟨rfl, rfl⟩
theorem markedStored_any (W : World) : Calls Try.prog 53 #[nilS] W fun e w' => e = .returned (.bool true) ∧ W = w' := by
  go_enter Try.func53, Try.ntmps53
  go_wp2
  refine wp_loop_rounds 1 ?_
  rw [rounds_succ]
  go_wp2
  go_ret
  exact ⟨rfl, rfl⟩
theorem stillEntries_any (kb : Nat) (tv wv : Value) (W : World) (h : BkBlk W kb tv wv) : Calls Try.prog 36 #[.pointer (some ⟨kb, 0, none⟩)] W fun e w' => e = .returned (.bool true) ∧ W = w' := by
  have c0 := cell_of h 6
  clear h
  go_enter Try.func36, Try.ntmps36
  go_wp2
  refine wp_loop_rounds 1 ?_
  rw [rounds_succ]
  go_wp2
  go_ret
  exact ⟨rfl, rfl⟩
theorem putEntries_any (kb : Nat) (tv wv : Value) (W : World) (h : BkBlk W kb tv wv) : Calls Try.prog 43 #[.pointer (some ⟨kb, 0, none⟩)] W fun e w' => e = .returned (.tuple #[]) ∧ W = w' := by
  have c0 := cell_of h 6
  clear h
  go_enter Try.func43, Try.ntmps43
  go_wp2
  refine wp_loop_rounds 1 ?_
  rw [rounds_succ]
  go_wp2
  go_end0
  exact ⟨rfl, rfl⟩
theorem growEntries_any (kb : Nat) (tv wv : Value) (W : World) (h : BkBlk W kb tv wv) : Calls Try.prog 48 #[.pointer (some ⟨kb, 0, none⟩)] W fun e w' => e = .returned nilS ∧ W = w' := by
  have c0 := cell_of h 6
  clear h
  go_enter Try.func48, Try.ntmps48
  go_wp2
  refine wp_loop_rounds 1 ?_
  rw [rounds_succ]
  go_wp2
  go_ret
  exact ⟨rfl, rfl⟩
theorem markedEntries_any (W : World) : Calls Try.prog 54 #[nilS] W fun e w' => e = .returned (.bool true) ∧ W = w' := by
  go_enter Try.func54, Try.ntmps54
  go_wp2
  refine wp_loop_rounds 1 ?_
  rw [rounds_succ]
  go_wp2
  go_ret
  exact ⟨rfl, rfl⟩
theorem stillPackets_any (kb : Nat) (tv wv : Value) (W : World) (h : BkBlk W kb tv wv) : Calls Try.prog 37 #[.pointer (some ⟨kb, 0, none⟩)] W fun e w' => e = .returned (.bool true) ∧ W = w' := by
  have c0 := cell_of h 8
  clear h
  go_enter Try.func37, Try.ntmps37
  go_wp2
  refine wp_loop_rounds 1 ?_
  rw [rounds_succ]
  go_wp2
  go_ret
  exact ⟨rfl, rfl⟩
theorem putPackets_any (kb : Nat) (tv wv : Value) (W : World) (h : BkBlk W kb tv wv) : Calls Try.prog 44 #[.pointer (some ⟨kb, 0, none⟩)] W fun e w' => e = .returned (.tuple #[]) ∧ W = w' := by
  have c0 := cell_of h 8
  clear h
  go_enter Try.func44, Try.ntmps44
  go_wp2
  refine wp_loop_rounds 1 ?_
  rw [rounds_succ]
  go_wp2
  go_end0
  exact ⟨rfl, rfl⟩
theorem growPackets_any (kb : Nat) (tv wv : Value) (W : World) (h : BkBlk W kb tv wv) : Calls Try.prog 49 #[.pointer (some ⟨kb, 0, none⟩)] W fun e w' => e = .returned nilS ∧ W = w' := by
  have c0 := cell_of h 8
  clear h
  go_enter Try.func49, Try.ntmps49
  go_wp2
  refine wp_loop_rounds 1 ?_
  rw [rounds_succ]
  go_wp2
  go_ret
  exact ⟨rfl, rfl⟩
theorem markedPackets_any (W : World) : Calls Try.prog 55 #[nilS] W fun e w' => e = .returned (.bool true) ∧ W = w' := by
  go_enter Try.func55, Try.ntmps55
  go_wp2
  refine wp_loop_rounds 1 ?_
  rw [rounds_succ]
  go_wp2
  go_ret
  exact ⟨rfl, rfl⟩
theorem stillSteps_any (kb : Nat) (tv wv : Value) (W : World) (h : BkBlk W kb tv wv) : Calls Try.prog 38 #[.pointer (some ⟨kb, 0, none⟩)] W fun e w' => e = .returned (.bool true) ∧ W = w' := by
  have c0 := cell_of h 10
  clear h
  go_enter Try.func38, Try.ntmps38
  go_wp2
  refine wp_loop_rounds 1 ?_
  rw [rounds_succ]
  go_wp2
  go_ret
  exact ⟨rfl, rfl⟩
theorem putSteps_any (kb : Nat) (tv wv : Value) (W : World) (h : BkBlk W kb tv wv) : Calls Try.prog 39 #[.pointer (some ⟨kb, 0, none⟩)] W fun e w' => e = .returned (.tuple #[]) ∧ W = w' := by
  have c0 := cell_of h 10
  clear h
  go_enter Try.func39, Try.ntmps39
  go_wp2
  refine wp_loop_rounds 1 ?_
  rw [rounds_succ]
  go_wp2
  go_end0
  exact ⟨rfl, rfl⟩
theorem growSteps_any (kb : Nat) (tv wv : Value) (W : World) (h : BkBlk W kb tv wv) : Calls Try.prog 50 #[.pointer (some ⟨kb, 0, none⟩)] W fun e w' => e = .returned nilS ∧ W = w' := by
  have c0 := cell_of h 10
  clear h
  go_enter Try.func50, Try.ntmps50
  go_wp2
  refine wp_loop_rounds 1 ?_
  rw [rounds_succ]
  go_wp2
  go_ret
  exact ⟨rfl, rfl⟩
theorem markedSteps_any (W : World) : Calls Try.prog 56 #[nilS] W fun e w' => e = .returned (.bool true) ∧ W = w' := by
  go_enter Try.func56, Try.ntmps56
  go_wp2
  refine wp_loop_rounds 1 ?_
  rw [rounds_succ]
  go_wp2
  go_ret
  exact ⟨rfl, rfl⟩
end Go.Proofs.Ytmaainnfflapiaa
