/- chroniclelaw14.alive. -/
import Derived.Test.YtnkflmimnpolcaaAl14
namespace Go.Proofs.Ytnkflmimnpolcaa
open Go.RowKit Go.Lib Go.Shelf
set_option maxRecDepth 100000

def esA (k : Nat) : En := (1, (k : Int), (k : Int))
theorem esA_ok (j : Nat) : okE (esA j) := ⟨(by show (0 : Int) ≤ 1; omega), Int.natCast_nonneg _, Int.natCast_nonneg _⟩
theorem esA_inj (i j : Nat) (h : esA i = esA j) : i = j := by
  unfold esA at h
  simp only [Prod.mk.injEq, Int.natCast_inj] at h
  exact h.2.1
theorem esA_wf (j : Nat) (h : j ≤ 1000) : wfE (esA j) := by unfold wfE esA; simp only; omega
theorem alive_levels : (itC 2 2 (0, []) 8).2 = [0, 0, 1] := by decide
theorem alive_mem : (itC 2 2 (0, []) 8).1 = 0 := by decide
theorem alive_find : ((Sn esA 8).filter (isHV 1 5)).length = 1 := by decide
set_option maxHeartbeats 4000000 in
theorem alive14_any (w : World) : Calls Try.prog 6 #[] w fun e w' => e = .returned (.bool true) ∧ Touch [] w w' := by
  have CN := hid (new14_any 2 2 w)
  go_enter Try.func6, Try.ntmps6
  go_wp2_with (go_at_call 9; refine CN.out.mono ?_; rintro e w1 ⟨xb, rfl, hI, t1, hx⟩; have RS := hid (run_start esA (show IxAt w1 xb 2 2 .nil [] from hI) t1); have HX := hid hx; clear hI t1 hx)
  go_loopw [2] (fun iv wr => ∃ k : Nat, k ≤ 8 ∧ iv = .int .i64 k ∧ RunI w xb 2 2 esA k wr) (fun iv _ => 8 - (RowKit.intOf iv).toNat)
  case atStart => exact ⟨0, by omega, rfl, RS.out⟩
  case round =>
    obtain ⟨k, hk, rfl, R⟩ := hrel
    by_cases hlt : k < 8
    · have hlt2 : decide (k < 8) = true := by simpa using hlt
      have hIk : (k : Int) < 8 := by omega
      have CA := hid (run_next R HX.out esA_ok esA_wf esA_inj (by omega) (1, (k : Int), (k : Int)) rfl)
      clear R RS
      go_wp2_with (go_at_call 10; refine CA.out.mono ?_; rintro e w2 ⟨rfl, r2⟩; have R2 := hid r2; clear r2)
      go_roundw
      case rel => exact ⟨k + 1, by omega, by go_num, R2.out⟩
      case measure => simp [RowKit.intOf]; omega
    · obtain rfl : k = 8 := by omega
      have CL := hid (ixs_levels R.st R.ok)
      rw [alive_levels] at CL
      have ST := hid R.st
      have OK := hid R.ok
      have TT := hid R.t
      have hlen := Sn_len esA esA_ok esA_inj 8
      clear R RS
      go_wp2_with (first
        | (go_at_call 26; refine CL.out.mono ?_; rintro e w2 ⟨u, rfl, hu, t2⟩; obtain ⟨y, cap, rfl, -, hform⟩ := slice_form hu; obtain ⟨g, rfl⟩ : ∃ g : Nat, y = some ⟨g, 0, none⟩ := (by rcases hu.2 with ⟨e', h0⟩ | ⟨g', _, _, e', _⟩ <;> cases e'; exact ⟨g', rfl⟩); have q0 : w2.cell? ⟨g, 0, none⟩ = some (.int .i64 0) := (row_cell hu (i := 0) (by simp [intV])).1; have q1 : w2.cell? ⟨g, 1, none⟩ = some (.int .i64 0) := (row_cell hu (i := 1) (by simp [intV])).1; have q2 : w2.cell? ⟨g, 2, none⟩ = some (.int .i64 1) := (row_cell hu (i := 2) (by simp [intV])).1; have S2 := hid (ST.out.t0 t2); have T2 := hid t2; clear hu t2)
        | (go_at_call 21; refine (ixs_len S2.out OK.out).mono ?_; rintro e w3 ⟨rfl, t3⟩; rw [hlen]; have S3 := hid (S2.out.t0 t3); have T3 := hid t3; clear t3)
        | (go_at_call 25; refine (ixs_mem S3.out).mono ?_; rintro e w4 ⟨rfl, h⟩; have h := h.symm; subst h; rw [alive_mem])
        | (go_at_call 19; refine (ixs_find S3.out OK.out (by rw [hlen]; omega) 1 5).mono ?_; rintro e w5 ⟨u5, rfl, h5, t5⟩; rw [alive_find] at h5; obtain ⟨y5, cap5, rfl, -, -⟩ := slice_form h5; have T5 := hid t5; clear h5 t5))
      go_ret
      exact ⟨rfl, ((TT.out.trans T2.out (by simp)).trans T3.out (by simp)).trans T5.out (by simp)⟩
end Go.Proofs.Ytnkflmimnpolcaa
