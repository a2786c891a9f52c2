/- The book's methods over kinds of which nothing was kept. -/
import Derived.Test.YtdjcpdlfapfmkaaBg13
namespace Go.Proofs.Ytdjcpdlfapfmkaa
set_option maxRecDepth 100000
open Go.RowKit Go.Lib

theorem none_stillTexts (kb : Nat) (W : World) (c0 : W.cell? ⟨kb, 0, none⟩ = some nilS) : Calls Try.prog 48 #[.pointer (some ⟨kb, 0, none⟩)] W fun e w' => e = .returned (.bool true) ∧ W = w' := by
  go_enter Try.func48, Try.ntmps48
  go_wp2
  refine wp_loop_rounds 1 ?_
  rw [rounds_succ]
  go_wp2
  go_ret
  exact ⟨rfl, rfl⟩
theorem none_putTexts (kb : Nat) (W : World) (c0 : W.cell? ⟨kb, 0, none⟩ = some nilS) : Calls Try.prog 55 #[.pointer (some ⟨kb, 0, none⟩)] W fun e w' => e = .returned (.tuple #[]) ∧ W = w' := by
  go_enter Try.func55, Try.ntmps55
  go_wp2
  refine wp_loop_rounds 1 ?_
  rw [rounds_succ]
  go_wp2
  go_end0
  exact ⟨rfl, rfl⟩
theorem none_growTexts (kb : Nat) (W : World) (c0 : W.cell? ⟨kb, 0, none⟩ = some nilS) : Calls Try.prog 60 #[.pointer (some ⟨kb, 0, none⟩)] W fun e w' => e = .returned nilS ∧ W = w' := by
  go_enter Try.func60, Try.ntmps60
  go_wp2
  refine wp_loop_rounds 1 ?_
  rw [rounds_succ]
  go_wp2
  go_ret
  exact ⟨rfl, rfl⟩
theorem none_markedTexts (W : World) : Calls Try.prog 66 #[nilS] W fun e w' => e = .returned (.bool true) ∧ W = w' := by
  go_enter Try.func66, Try.ntmps66
  go_wp2
  refine wp_loop_rounds 1 ?_
  rw [rounds_succ]
  go_wp2
  go_ret
  exact ⟨rfl, rfl⟩
theorem none_stillInts (kb : Nat) (W : World) (c0 : W.cell? ⟨kb, 2, none⟩ = some nilS) : Calls Try.prog 49 #[.pointer (some ⟨kb, 0, none⟩)] W fun e w' => e = .returned (.bool true) ∧ W = w' := by
  go_enter Try.func49, Try.ntmps49
  go_wp2
  refine wp_loop_rounds 1 ?_
  rw [rounds_succ]
  go_wp2
  go_ret
  exact ⟨rfl, rfl⟩
theorem none_putInts (kb : Nat) (W : World) (c0 : W.cell? ⟨kb, 2, none⟩ = some nilS) : Calls Try.prog 56 #[.pointer (some ⟨kb, 0, none⟩)] W fun e w' => e = .returned (.tuple #[]) ∧ W = w' := by
  go_enter Try.func56, Try.ntmps56
  go_wp2
  refine wp_loop_rounds 1 ?_
  rw [rounds_succ]
  go_wp2
  go_end0
  exact ⟨rfl, rfl⟩
theorem none_growInts (kb : Nat) (W : World) (c0 : W.cell? ⟨kb, 2, none⟩ = some nilS) : Calls Try.prog 61 #[.pointer (some ⟨kb, 0, none⟩)] W fun e w' => e = .returned nilS ∧ W = w' := by
  go_enter Try.func61, Try.ntmps61
  go_wp2
  refine wp_loop_rounds 1 ?_
  rw [rounds_succ]
  go_wp2
  go_ret
  exact ⟨rfl, rfl⟩
theorem none_markedInts (W : World) : Calls Try.prog 67 #[nilS] W fun e w' => e = .returned (.bool true) ∧ W = w' := by
  go_enter Try.func67, Try.ntmps67
  go_wp2
  refine wp_loop_rounds 1 ?_
  rw [rounds_succ]
  go_wp2
  go_ret
  exact ⟨rfl, rfl⟩
theorem none_stillStored (kb : Nat) (W : World) (c0 : W.cell? ⟨kb, 4, none⟩ = some nilS) : Calls Try.prog 50 #[.pointer (some ⟨kb, 0, none⟩)] W fun e w' => e = .returned (.bool true) ∧ W = w' := by
  go_enter Try.func50, Try.ntmps50
  go_wp2
  refine wp_loop_rounds 1 ?_
  rw [rounds_succ]
  go_wp2
  go_ret
  exact ⟨rfl, rfl⟩
theorem none_putStored (kb : Nat) (W : World) (c0 : W.cell? ⟨kb, 4, none⟩ = some nilS) : Calls Try.prog 57 #[.pointer (some ⟨kb, 0, none⟩)] W fun e w' => e = .returned (.tuple #[]) ∧ W = w' := by
  go_enter Try.func57, Try.ntmps57
  go_wp2
  refine wp_loop_rounds 1 ?_
  rw [rounds_succ]
  go_wp2
  go_end0
  exact ⟨rfl, rfl⟩
theorem none_growStored (kb : Nat) (W : World) (c0 : W.cell? ⟨kb, 4, none⟩ = some nilS) : Calls Try.prog 62 #[.pointer (some ⟨kb, 0, none⟩)] W fun e w' => e = .returned nilS ∧ W = w' := by
  go_enter Try.func62, Try.ntmps62
  go_wp2
  refine wp_loop_rounds 1 ?_
  rw [rounds_succ]
  go_wp2
  go_ret
  exact ⟨rfl, rfl⟩
theorem none_markedStored (W : World) : Calls Try.prog 68 #[nilS] W fun e w' => e = .returned (.bool true) ∧ W = w' := by
  go_enter Try.func68, Try.ntmps68
  go_wp2
  refine wp_loop_rounds 1 ?_
  rw [rounds_succ]
  go_wp2
  go_ret
  exact ⟨rfl, rfl⟩
theorem none_stillEntries (kb : Nat) (W : World) (c0 : W.cell? ⟨kb, 6, none⟩ = some nilS) : Calls Try.prog 51 #[.pointer (some ⟨kb, 0, none⟩)] W fun e w' => e = .returned (.bool true) ∧ W = w' := by
  go_enter Try.func51, Try.ntmps51
  go_wp2
  refine wp_loop_rounds 1 ?_
  rw [rounds_succ]
  go_wp2
  go_ret
  exact ⟨rfl, rfl⟩
theorem none_putEntries (kb : Nat) (W : World) (c0 : W.cell? ⟨kb, 6, none⟩ = some nilS) : Calls Try.prog 58 #[.pointer (some ⟨kb, 0, none⟩)] W fun e w' => e = .returned (.tuple #[]) ∧ W = w' := by
  go_enter Try.func58, Try.ntmps58
  go_wp2
  refine wp_loop_rounds 1 ?_
  rw [rounds_succ]
  go_wp2
  go_end0
  exact ⟨rfl, rfl⟩
theorem none_growEntries (kb : Nat) (W : World) (c0 : W.cell? ⟨kb, 6, none⟩ = some nilS) : Calls Try.prog 63 #[.pointer (some ⟨kb, 0, none⟩)] W fun e w' => e = .returned nilS ∧ W = w' := by
  go_enter Try.func63, Try.ntmps63
  go_wp2
  refine wp_loop_rounds 1 ?_
  rw [rounds_succ]
  go_wp2
  go_ret
  exact ⟨rfl, rfl⟩
theorem none_markedEntries (W : World) : Calls Try.prog 69 #[nilS] W fun e w' => e = .returned (.bool true) ∧ W = w' := by
  go_enter Try.func69, Try.ntmps69
  go_wp2
  refine wp_loop_rounds 1 ?_
  rw [rounds_succ]
  go_wp2
  go_ret
  exact ⟨rfl, rfl⟩
theorem none_stillPackets (kb : Nat) (W : World) (c0 : W.cell? ⟨kb, 8, none⟩ = some nilS) : Calls Try.prog 52 #[.pointer (some ⟨kb, 0, none⟩)] W fun e w' => e = .returned (.bool true) ∧ W = w' := by
  go_enter Try.func52, Try.ntmps52
  go_wp2
  refine wp_loop_rounds 1 ?_
  rw [rounds_succ]
  go_wp2
  go_ret
  exact ⟨rfl, rfl⟩
theorem none_putPackets (kb : Nat) (W : World) (c0 : W.cell? ⟨kb, 8, none⟩ = some nilS) : Calls Try.prog 59 #[.pointer (some ⟨kb, 0, none⟩)] W fun e w' => e = .returned (.tuple #[]) ∧ W = w' := by
  go_enter Try.func59, Try.ntmps59
  go_wp2
  refine wp_loop_rounds 1 ?_
  rw [rounds_succ]
  go_wp2
  go_end0
  exact ⟨rfl, rfl⟩
theorem none_growPackets (kb : Nat) (W : World) (c0 : W.cell? ⟨kb, 8, none⟩ = some nilS) : Calls Try.prog 64 #[.pointer (some ⟨kb, 0, none⟩)] W fun e w' => e = .returned nilS ∧ W = w' := by
  go_enter Try.func64, Try.ntmps64
  go_wp2
  refine wp_loop_rounds 1 ?_
  rw [rounds_succ]
  go_wp2
  go_ret
  exact ⟨rfl, rfl⟩
theorem none_markedPackets (W : World) : Calls Try.prog 70 #[nilS] W fun e w' => e = .returned (.bool true) ∧ W = w' := by
  go_enter Try.func70, Try.ntmps70
  go_wp2
  refine wp_loop_rounds 1 ?_
  rw [rounds_succ]
  go_wp2
  go_ret
  exact ⟨rfl, rfl⟩
theorem none_stillSteps (kb : Nat) (W : World) (c0 : W.cell? ⟨kb, 10, none⟩ = some nilS) : Calls Try.prog 53 #[.pointer (some ⟨kb, 0, none⟩)] W fun e w' => e = .returned (.bool true) ∧ W = w' := by
  go_enter Try.func53, Try.ntmps53
  go_wp2
  refine wp_loop_rounds 1 ?_
  rw [rounds_succ]
  go_wp2
  go_ret
  exact ⟨rfl, rfl⟩
theorem none_putSteps (kb : Nat) (W : World) (c0 : W.cell? ⟨kb, 10, none⟩ = some nilS) : Calls Try.prog 54 #[.pointer (some ⟨kb, 0, none⟩)] W fun e w' => e = .returned (.tuple #[]) ∧ W = w' := by
  go_enter Try.func54, Try.ntmps54
  go_wp2
  refine wp_loop_rounds 1 ?_
  rw [rounds_succ]
  go_wp2
  go_end0
  exact ⟨rfl, rfl⟩
theorem none_growSteps (kb : Nat) (W : World) (c0 : W.cell? ⟨kb, 10, none⟩ = some nilS) : Calls Try.prog 65 #[.pointer (some ⟨kb, 0, none⟩)] W fun e w' => e = .returned nilS ∧ W = w' := by
  go_enter Try.func65, Try.ntmps65
  go_wp2
  refine wp_loop_rounds 1 ?_
  rw [rounds_succ]
  go_wp2
  go_ret
  exact ⟨rfl, rfl⟩
theorem none_markedSteps (W : World) : Calls Try.prog 71 #[nilS] W fun e w' => e = .returned (.bool true) ∧ W = w' := by
  go_enter Try.func71, Try.ntmps71
  go_wp2
  refine wp_loop_rounds 1 ?_
  rw [rounds_succ]
  go_wp2
  go_ret
  exact ⟨rfl, rfl⟩
end Go.Proofs.Ytdjcpdlfapfmkaa
