/- 'alive' of the laws of chapter 7: it returns true. -/
import Derived.Test.YtcihnfgfficmlaaEvt7
namespace Go.Proofs.Ytcihnfgfficmlaa
open Go.RowKit Go.Lib

def markC : CmdD := ⟨4, 5, ⟨#[]⟩, 0, [], 0, 0, 0⟩
theorem mark_ok : checkC markC = 0 := by decide +kernel
theorem mark_get : getOf (putB markC).data.toList = (markC, 0) := by
  have h : (putB markC).data.toList = layC markC := by unfold putB; rw [if_pos mark_ok]
  rw [h, get_lay markC mark_ok (fun e he => by cases he)]
  rfl
theorem mark_size : (putB markC).size ≤ 4000 := by
  have h := layC_len mark_ok
  unfold putB
  rw [if_pos mark_ok]
  simpa [ByteArray.size] using h
theorem t_valid : validE ⟨1, ⟨#[116]⟩, ⟨#[]⟩, 0⟩ = true := by decide +kernel
theorem s_bad : checkC ⟨1, 0, ⟨#[115]⟩, 0, [], 0, 0, 0⟩ = 1 := by decide +kernel

set_option maxRecDepth 100000 in
set_option maxHeartbeats 1000000 in
theorem alive_true (w : World) : Calls Try.prog 11 #[] w fun e w' => e = .returned (.bool true) ∧ Touch [] w w' := by
  have CP := hid (fun w => evPut_any markC none 0 w (fun i hi => absurd hi (Nat.not_lt_zero i)))
  rw [mark_ok] at CP
  have CG := hid (fun w => evGet_any (putB markC) w mark_size)
  unfold GetPost at CG
  rw [mark_get] at CG
  have CV := hid (fun w => evValid_any ⟨1, ⟨#[116]⟩, ⟨#[]⟩, 0⟩ w)
  rw [t_valid] at CV
  have CC := hid (fun w => evCheck_any ⟨1, 0, ⟨#[115]⟩, 0, [], 0, 0, 0⟩ none 0 w (fun i hi => absurd hi (Nat.not_lt_zero i)))
  rw [s_bad] at CC
  generalize putB markC = S at *
  unfold CmdD.agg at CP CG CC
  unfold EvD.agg at CV
  unfold markC at CP CG
  simp only [List.length_nil] at CP CG CC
  go_enter Try.func11, Try.ntmps11
  go_wp2_with (first | (go_at_call 16; refine (CP.out _).mono ?_; rintro e w1 ⟨rfl, t1⟩) | (go_at_call 18; refine (CG.out _).mono ?_; rintro e w2 ⟨y, cap, rfl, x2, t2, l2⟩) | (go_at_call 12; refine (CV.out _).mono ?_; rintro e w3 ⟨rfl, t3⟩) | (go_at_call 22; refine (CC.out _).mono ?_; rintro e w4 ⟨rfl, t4⟩))
  go_ret
  exact ⟨rfl, (((t1.trans t2 (by simp)).alloc _).trans t3 (by simp)).trans t4 (by simp)⟩
end Go.Proofs.Ytcihnfgfficmlaa
