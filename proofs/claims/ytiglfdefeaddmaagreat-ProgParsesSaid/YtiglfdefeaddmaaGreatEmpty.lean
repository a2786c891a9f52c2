/- The book's methods over the kinds of which nothing was kept. -/
import Derived.Test.YtiglfdefeaddmaaGreatBkName
namespace Go.Proofs.YtiglfdefeaddmaaGreat
open Go.RowKit Go.Lib

abbrev TBook : TypeId := 31
abbrev nilS : Value := .slice none 0 0
/-- The book's block: two lists of lists of texts, and nothing else. -/
def BkBlk (W : World) (kb : Nat) (tv wv : Value) : Prop := W.heap[kb]? = some (.cells #[tv, wv, nilS, nilS, nilS, nilS, nilS, nilS, nilS, nilS, nilS, nilS] TBook (0, 0))

theorem stillInts_any (kb : Nat) (tv wv : Value) (W : World) (h : BkBlk W kb tv wv) : Calls Tryz.prog 19 #[.pointer (some ⟨kb, 0, none⟩)] W fun e w' => e = .returned (.bool true) ∧ W = w' := by
  have c0 := cell_of h 2
  clear h
  go_enter Tryz.func19, Tryz.ntmps19
  go_wp2
  refine wp_loop_rounds 1 ?_
  rw [rounds_succ]
  go_wp2
  go_ret
  exact ⟨rfl, rfl⟩
theorem putInts_any (kb : Nat) (tv wv : Value) (W : World) (h : BkBlk W kb tv wv) : Calls Tryz.prog 26 #[.pointer (some ⟨kb, 0, none⟩)] W fun e w' => e = .returned (.tuple #[]) ∧ W = w' := by
  have c0 := cell_of h 2
  clear h
  go_enter Tryz.func26, Tryz.ntmps26
  go_wp2
  refine wp_loop_rounds 1 ?_
  rw [rounds_succ]
  go_wp2
  go_end0
  exact ⟨rfl, rfl⟩
theorem growInts_any (kb : Nat) (tv wv : Value) (W : World) (h : BkBlk W kb tv wv) : Calls Tryz.prog 31 #[.pointer (some ⟨kb, 0, none⟩)] W fun e w' => e = .returned nilS ∧ W = w' := by
  have c0 := cell_of h 2
  clear h
  go_enter Tryz.func31, Tryz.ntmps31
  go_wp2
  refine wp_loop_rounds 1 ?_
  rw [rounds_succ]
  go_wp2
  go_ret
  exact ⟨rfl, rfl⟩
theorem markedInts_any (W : World) : Calls Tryz.prog 37 #[nilS] W fun e w' => e = .returned (.bool true) ∧ W = w' := by
  go_enter Tryz.func37, Tryz.ntmps37
  go_wp2
  refine wp_loop_rounds 1 ?_
  rw [rounds_succ]
  go_wp2
  go_ret
  exact ⟨rfl, rfl⟩
theorem stillStored_any (kb : Nat) (tv wv : Value) (W : World) (h : BkBlk W kb tv wv) : Calls Tryz.prog 20 #[.pointer (some ⟨kb, 0, none⟩)] W fun e w' => e = .returned (.bool true) ∧ W = w' := by
  have c0 := cell_of h 4
  clear h
  go_enter Tryz.func20, Tryz.ntmps20
  go_wp2
  refine wp_loop_rounds 1 ?_
  rw [rounds_succ]
  go_wp2
  go_ret
  exact ⟨rfl, rfl⟩
theorem putStored_any (kb : Nat) (tv wv : Value) (W : World) (h : BkBlk W kb tv wv) : Calls Tryz.prog 27 #[.pointer (some ⟨kb, 0, none⟩)] W fun e w' => e = .returned (.tuple #[]) ∧ W = w' := by
  have c0 := cell_of h 4
  clear h
  go_enter Tryz.func27, Tryz.ntmps27
  go_wp2
  refine wp_loop_rounds 1 ?_
  rw [rounds_succ]
  go_wp2
  go_end0
  exact ⟨rfl, rfl⟩
theorem growStored_any (kb : Nat) (tv wv : Value) (W : World) (h : BkBlk W kb tv wv) : Calls Tryz.prog 32 #[.pointer (some ⟨kb, 0, none⟩)] W fun e w' => e = .returned nilS ∧ W = w' := by
  have c0 := cell_of h 4
  clear h
  go_enter Tryz.func32, Tryz.ntmps32
  go_wp2
  refine wp_loop_rounds 1 ?_
  rw [rounds_succ]
  go_wp2
  go_ret
  exact ⟨rfl, rfl⟩
theorem markedStored_any (W : World) : Calls Tryz.prog 38 #[nilS] W fun e w' => e = .returned (.bool true) ∧ W = w' := by
  go_enter Tryz.func38, Tryz.ntmps38
  go_wp2
  refine wp_loop_rounds 1 ?_
  rw [rounds_succ]
  go_wp2
  go_ret
  exact ⟨rfl, rfl⟩
theorem stillEntries_any (kb : Nat) (tv wv : Value) (W : World) (h : BkBlk W kb tv wv) : Calls Tryz.prog 21 #[.pointer (some ⟨kb, 0, none⟩)] W fun e w' => e = .returned (.bool true) ∧ W = w' := by
  have c0 := cell_of h 6
  clear h
  go_enter Tryz.func21, Tryz.ntmps21
  go_wp2
  refine wp_loop_rounds 1 ?_
  rw [rounds_succ]
  go_wp2
  go_ret
  exact ⟨rfl, rfl⟩
theorem putEntries_any (kb : Nat) (tv wv : Value) (W : World) (h : BkBlk W kb tv wv) : Calls Tryz.prog 28 #[.pointer (some ⟨kb, 0, none⟩)] W fun e w' => e = .returned (.tuple #[]) ∧ W = w' := by
  have c0 := cell_of h 6
  clear h
  go_enter Tryz.func28, Tryz.ntmps28
  go_wp2
  refine wp_loop_rounds 1 ?_
  rw [rounds_succ]
  go_wp2
  go_end0
  exact ⟨rfl, rfl⟩
theorem growEntries_any (kb : Nat) (tv wv : Value) (W : World) (h : BkBlk W kb tv wv) : Calls Tryz.prog 33 #[.pointer (some ⟨kb, 0, none⟩)] W fun e w' => e = .returned nilS ∧ W = w' := by
  have c0 := cell_of h 6
  clear h
  go_enter Tryz.func33, Tryz.ntmps33
  go_wp2
  refine wp_loop_rounds 1 ?_
  rw [rounds_succ]
  go_wp2
  go_ret
  exact ⟨rfl, rfl⟩
theorem markedEntries_any (W : World) : Calls Tryz.prog 39 #[nilS] W fun e w' => e = .returned (.bool true) ∧ W = w' := by
  go_enter Tryz.func39, Tryz.ntmps39
  go_wp2
  refine wp_loop_rounds 1 ?_
  rw [rounds_succ]
  go_wp2
  go_ret
  exact ⟨rfl, rfl⟩
theorem stillPackets_any (kb : Nat) (tv wv : Value) (W : World) (h : BkBlk W kb tv wv) : Calls Tryz.prog 22 #[.pointer (some ⟨kb, 0, none⟩)] W fun e w' => e = .returned (.bool true) ∧ W = w' := by
  have c0 := cell_of h 8
  clear h
  go_enter Tryz.func22, Tryz.ntmps22
  go_wp2
  refine wp_loop_rounds 1 ?_
  rw [rounds_succ]
  go_wp2
  go_ret
  exact ⟨rfl, rfl⟩
theorem putPackets_any (kb : Nat) (tv wv : Value) (W : World) (h : BkBlk W kb tv wv) : Calls Tryz.prog 29 #[.pointer (some ⟨kb, 0, none⟩)] W fun e w' => e = .returned (.tuple #[]) ∧ W = w' := by
  have c0 := cell_of h 8
  clear h
  go_enter Tryz.func29, Tryz.ntmps29
  go_wp2
  refine wp_loop_rounds 1 ?_
  rw [rounds_succ]
  go_wp2
  go_end0
  exact ⟨rfl, rfl⟩
theorem growPackets_any (kb : Nat) (tv wv : Value) (W : World) (h : BkBlk W kb tv wv) : Calls Tryz.prog 34 #[.pointer (some ⟨kb, 0, none⟩)] W fun e w' => e = .returned nilS ∧ W = w' := by
  have c0 := cell_of h 8
  clear h
  go_enter Tryz.func34, Tryz.ntmps34
  go_wp2
  refine wp_loop_rounds 1 ?_
  rw [rounds_succ]
  go_wp2
  go_ret
  exact ⟨rfl, rfl⟩
theorem markedPackets_any (W : World) : Calls Tryz.prog 40 #[nilS] W fun e w' => e = .returned (.bool true) ∧ W = w' := by
  go_enter Tryz.func40, Tryz.ntmps40
  go_wp2
  refine wp_loop_rounds 1 ?_
  rw [rounds_succ]
  go_wp2
  go_ret
  exact ⟨rfl, rfl⟩
theorem stillSteps_any (kb : Nat) (tv wv : Value) (W : World) (h : BkBlk W kb tv wv) : Calls Tryz.prog 23 #[.pointer (some ⟨kb, 0, none⟩)] W fun e w' => e = .returned (.bool true) ∧ W = w' := by
  have c0 := cell_of h 10
  clear h
  go_enter Tryz.func23, Tryz.ntmps23
  go_wp2
  refine wp_loop_rounds 1 ?_
  rw [rounds_succ]
  go_wp2
  go_ret
  exact ⟨rfl, rfl⟩
theorem putSteps_any (kb : Nat) (tv wv : Value) (W : World) (h : BkBlk W kb tv wv) : Calls Tryz.prog 24 #[.pointer (some ⟨kb, 0, none⟩)] W fun e w' => e = .returned (.tuple #[]) ∧ W = w' := by
  have c0 := cell_of h 10
  clear h
  go_enter Tryz.func24, Tryz.ntmps24
  go_wp2
  refine wp_loop_rounds 1 ?_
  rw [rounds_succ]
  go_wp2
  go_end0
  exact ⟨rfl, rfl⟩
theorem growSteps_any (kb : Nat) (tv wv : Value) (W : World) (h : BkBlk W kb tv wv) : Calls Tryz.prog 35 #[.pointer (some ⟨kb, 0, none⟩)] W fun e w' => e = .returned nilS ∧ W = w' := by
  have c0 := cell_of h 10
  clear h
  go_enter Tryz.func35, Tryz.ntmps35
  go_wp2
  refine wp_loop_rounds 1 ?_
  rw [rounds_succ]
  go_wp2
  go_ret
  exact ⟨rfl, rfl⟩
theorem markedSteps_any (W : World) : Calls Tryz.prog 41 #[nilS] W fun e w' => e = .returned (.bool true) ∧ W = w' := by
  go_enter Tryz.func41, Tryz.ntmps41
  go_wp2
  refine wp_loop_rounds 1 ?_
  rw [rounds_succ]
  go_wp2
  go_ret
  exact ⟨rfl, rfl⟩
end Go.Proofs.YtiglfdefeaddmaaGreat
