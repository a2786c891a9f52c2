/- IndexLevels, walked. -/
import Derived.Test.YtnkflmimnpolcaaNl14
import Derived.Test.YtnkflmimnpolcaaAv14
namespace Go.Proofs.Ytnkflmimnpolcaa
open Go.RowKit Go.Lib Go.Shelf
set_option maxRecDepth 100000

def esL (k : Nat) : En := (((k % 5 : Nat) : Int), (k : Int), (k : Int))
theorem esL_ok (j : Nat) : okE (esL j) := ⟨Int.natCast_nonneg _, Int.natCast_nonneg _, Int.natCast_nonneg _⟩
theorem esL_inj (i j : Nat) (h : esL i = esL j) : i = j := by
  unfold esL at h
  simp only [Prod.mk.injEq, Int.natCast_inj] at h
  exact h.2.1
theorem esL_wf (j : Nat) (h : j ≤ 1000) : wfE (esL j) := by unfold wfE esL; simp only; omega
theorem cnt_cell {w : World} {base cap n : Nat} {y : Option Addr} {C : List Nat} (h : w.ownsRow base TInt 1 (.slice y n cap) n (intV (C.map fun c : Nat => (c : Int)))) (j : Nat) (hj : j < C.length) : ∃ b off, y = some ⟨b, off, none⟩ ∧ w.cell? ⟨b, off + j, none⟩ = some (.int .i64 (C[j] : Nat)) := by
  obtain ⟨b, off, e, h2⟩ := rowV_own h j (by simpa [intV] using hj)
  exact ⟨b, off, e, by rw [h2]; simp [intV]⟩
set_option maxHeartbeats 4000000 in
theorem levels_good (N room most : Nat) (hN : N ≤ 120) (hr : 1 ≤ room) (hr2 : room ≤ 20) (hm : 2 ≤ most) (hm2 : most ≤ 6) (w : World) :
    Calls Try.prog 5 #[.int .i64 N, .int .i64 room, .int .i64 most] w fun e w' => e = .returned (.bool true) ∧ Touch [] w w' := by
  have CN := hid (new14_any room most w)
  rw [show (max (room : Int) 1).toNat = room by omega, show (max (most : Int) 2).toNat = most by omega] at CN
  have NI := hid (num_it room most hr hm)
  have CA0 := hid fun W => alive14_any W
  have d1 : decide ((N : Int) < 0) = false := by simp
  have d2 : decide (120 < N) = false := by simp; omega
  have d3 : decide (room < 1) = false := by simp; omega
  have d4 : decide (20 < room) = false := by simp; omega
  have d5 : decide (most < 2) = false := by simp; omega
  have d6 : decide (6 < most) = false := by simp; omega
  have d2' : decide ((120 : Int) < (N : Int)) = false := by simp; omega
  have d3' : decide ((room : Int) < 1) = false := by simp; omega
  have d4' : decide ((20 : Int) < (room : Int)) = false := by simp; omega
  have d5' : decide ((most : Int) < 2) = false := by simp; omega
  have d6' : decide ((6 : Int) < (most : Int)) = false := by simp; omega
  have n1 : ¬ (N : Int) < 0 := by omega
  have n2 : ¬ (120 : Int) < (N : Int) := by omega
  have n3 : ¬ (room : Int) < 1 := by omega
  have n4 : ¬ (20 : Int) < (room : Int) := by omega
  have n5 : ¬ (most : Int) < 2 := by omega
  have n6 : ¬ (6 : Int) < (most : Int) := by omega
  go_enter Try.func5, Try.ntmps5
  go_wp2_with (go_at_call 9; refine CN.out.mono ?_; rintro e w1 ⟨xb, rfl, hI, t1, hx⟩; have RS := hid (run_start esL hI t1); have HX := hid hx; clear hI t1 hx)
  go_loopw [8] (fun iv wr => ∃ k : Nat, k ≤ N ∧ iv = .int .i64 k ∧ RunI w xb room most esL k wr) (fun iv _ => N - (RowKit.intOf iv).toNat)
  case atStart => exact ⟨0, Nat.zero_le _, rfl, RS.out⟩
  case round =>
    obtain ⟨k, hk, rfl, R⟩ := hrel
    by_cases hlt : k < N
    · have hlt2 : decide (k < N) = true := by simpa using hlt
      have hIk : (k : Int) < N := by omega
      have hmod : Hid (((k : Int).tmod 5, (k : Int), (k : Int)) = esL k) := hid (by unfold esL; rw [Int.tmod_eq_emod_of_nonneg (Int.natCast_nonneg k)]; rfl)
      have CA := hid (run_next R HX.out esL_ok esL_wf esL_inj (by omega) _ hmod.out)
      have NK := NI.out (k + 1)
      have hmem := NK.mem
      have hlts := hid NK.lt
      have hLC : (itC room most (0, []) (k + 1)).2.length ≤ k + 1 := by simpa using itC_len room most (0, []) (k + 1)
      have hd : decide (room ≤ (itC room most (0, []) (k + 1)).1) = false := by simp; omega
      have hd' : decide ((room : Int) ≤ ((itC room most (0, []) (k + 1)).1 : Int)) = false := by simp; omega
      have hnd : ¬ (room : Int) ≤ ((itC room most (0, []) (k + 1)).1 : Int) := by omega
      clear R RS NK
      go_wp2_with (first
        | (go_at_call 10; refine CA.out.mono ?_; rintro e w2 ⟨rfl, r2⟩; have R2 := hid r2; clear r2)
        | (go_at_call 25; refine (ixs_mem R2.out.st).mono ?_; rintro e w3 ⟨rfl, h⟩; have h := h.symm; subst h)
        | (go_at_call 26; refine (ixs_levels R2.out.st R2.out.ok).mono ?_; rintro e w4 ⟨u, rfl, hu, t4⟩; obtain ⟨y, cap, rfl, -, -⟩ := slice_form hu; have HU := hid hu; have R4 := hid (show RunI w xb room most esL (k + 1) w4 from ⟨R2.out.st.t0 t4, R2.out.ok, R2.out.t.trans t4 (by simp)⟩); clear hu t4))
      obtain ⟨C, hC⟩ : ∃ C, C = (itC room most (0, []) (k + 1)).2 := ⟨_, rfl⟩
      rw [← hC] at HU hlts hLC ⊢
      clear hC hd hd' hnd hmem
      have hCl : C.length ≤ 200 := by omega
      go_loopw [10] (fun jv w5 => ∃ j : Nat, j ≤ C.length ∧ jv = .int .i64 j ∧ w5 = w4) (fun jv _ => C.length - (RowKit.intOf jv).toNat)
      case atStart => exact ⟨0, Nat.zero_le _, rfl, rfl⟩
      case round =>
        obtain ⟨j, hj, rfl, hww⟩ := hrel
        have hww := hww.symm
        subst hww
        by_cases hjt : j < C.length
        · have hjt2 : decide (j < C.length) = true := by simpa using hjt
          have hIj : (j : Int) < C.length := by omega
          obtain ⟨b, off, rfl, g0⟩ := cnt_cell HU.out j hjt
          have hq := hlts.out _ (List.getElem_mem hjt)
          generalize C[j] = cj at *
          have hd : decide (most ≤ cj) = false := by simp; omega
          have hnd : ¬ (most : Int) ≤ (cj : Int) := by omega
          go_wp2
          go_roundw
          case rel => exact ⟨j + 1, by omega, by go_num, trivial⟩
          case measure => simp [RowKit.intOf]; omega
        · obtain rfl : j = C.length := by omega
          have hjt2 : decide (C.length < C.length) = false := by simp
          go_wp2
          go_roundw
          case rel => exact ⟨k + 1, by omega, by go_num, R4.out⟩
          case measure => simp [RowKit.intOf]; omega
    · obtain rfl : k = N := by omega
      have hlt2 : decide (k < k) = false := by simp
      have CL := hid (ixs_levels R.st R.ok)
      have ST := hid R.st
      have OK := hid R.ok
      have TT := hid R.t
      have NK := NI.out k
      have hlen := Sn_len esL esL_ok esL_inj k
      have hLC : (itC room most (0, []) k).2.length ≤ k := by simpa using itC_len room most (0, []) k
      clear R RS
      generalize itC room most (0, []) k = p at *
      obtain ⟨M, C⟩ := p
      dsimp only at *
      have hw := NK.w
      have hlast := NK.last
      dsimp only at hw hlast
      clear NK
      have hCl : C.length ≤ 200 := by omega
      have hW : Hid (∀ j, j ≤ C.length → room * most ^ j ≤ 720) := hid (by
        intro j hj
        by_cases h0 : C = []
        · subst h0
          obtain rfl : j = 0 := by simpa using hj
          simp; omega
        · have h1 := weight_le most (by omega) C room hlast h0
          have h2 : 1 ≤ C.length := List.length_pos_iff.2 h0
          have h3 : most ^ j ≤ most ^ (C.length - 1 + 1) := Nat.pow_le_pow_right (by omega) (by omega)
          have h4 : room * most ^ j ≤ room * most ^ (C.length - 1) * most := by
            rw [Nat.mul_assoc, ← Nat.pow_succ]
            exact Nat.mul_le_mul_left _ h3
          have h5 : room * most ^ (C.length - 1) * most ≤ 120 * 6 := Nat.mul_le_mul (by omega) hm2
          omega)
      have hT : Hid (∀ j, wsum most room (C.take j) ≤ 120) := hid (fun j => by have := wsum_take_le most C room j; omega)
      have hS : Hid (∀ j (h : j < C.length), wsum most room (C.take (j + 1)) = wsum most room (C.take j) + C[j] * (room * most ^ j)) := hid (fun j h => wsum_take most C room j h)
      have hE : Hid (wsum most room (C.take C.length) + M = k) := hid (by rw [List.take_length]; exact hw)
      clear hw hlast
      go_wp2_with (go_at_call 26; refine CL.out.mono ?_; rintro e w4 ⟨u, rfl, hu, t4⟩; obtain ⟨y, cap, rfl, -, -⟩ := slice_form hu; have HU := hid hu; have S4 := hid (ST.out.t0 t4); have T4 := hid t4; clear hu t4)
      go_loopw [11, 12, 14] (fun tv wv jv w5 => ∃ j : Nat, j ≤ C.length ∧ jv = .int .i64 j ∧ tv = .int .i64 (wsum most room (C.take j) : Nat) ∧ wv = .int .i64 (room * most ^ j : Nat) ∧ w5 = w4) (fun _ _ jv _ => C.length - (RowKit.intOf jv).toNat)
      case atStart => exact ⟨0, Nat.zero_le _, rfl, by simp [wsum], by simp, rfl⟩
      case round =>
        obtain ⟨j, hj, rfl, rfl, rfl, hww⟩ := hrel
        have hww := hww.symm
        subst hww
        by_cases hjt : j < C.length
        · have hjt2 : decide (j < C.length) = true := by simpa using hjt
          have hIj : (j : Int) < C.length := by omega
          obtain ⟨b, off, rfl, g0⟩ := cnt_cell HU.out j hjt
          have hs1 := hS.out j hjt
          have ht1 := hT.out (j + 1)
          have hw0 := hW.out j hj
          have hw1 := hW.out (j + 1) hjt
          rw [Nat.pow_succ, ← Nat.mul_assoc] at hw1
          have HP : Hid (room * most ^ (j + 1) = room * most ^ j * most) := hid (by rw [Nat.pow_succ, Nat.mul_assoc])
          obtain ⟨t', ht'⟩ : ∃ t', t' = wsum most room (C.take (j + 1)) := ⟨_, rfl⟩
          rw [← ht'] at hs1 ht1
          have HT' := hid ht'
          clear ht'
          generalize wsum most room (C.take j) = t at *
          generalize room * most ^ j = wt at *
          generalize C[j] = cj at *
          obtain ⟨m, hmm⟩ : ∃ m, m = cj * wt := ⟨_, rfl⟩
          obtain ⟨m2, hmm2⟩ : ∃ m2, m2 = wt * most := ⟨_, rfl⟩
          rw [← hmm] at hs1
          rw [← hmm2] at hw1
          have hmI : ((cj : Int) * (wt : Int)) = (m : Int) := by rw [hmm]; exact (Int.natCast_mul _ _).symm
          have hmI2 : ((wt : Int) * (most : Int)) = (m2 : Int) := by rw [hmm2]; exact (Int.natCast_mul _ _).symm
          have HM := hid hmm2
          have HS2 := hid hs1
          have hm1 : m ≤ 120 := by omega
          have htm : t + m ≤ 120 := by omega
          clear hmm hmm2 hs1
          go_wp2
          go_roundw
          case rel => exact ⟨j + 1, by omega, by go_num, by rw [← HT'.out, HS2.out]; go_num, by rw [HP.out, ← HM.out], trivial⟩
          case measure => simp [RowKit.intOf]; omega
        · obtain rfl : j = C.length := by omega
          have hjt2 : decide (C.length < C.length) = false := by simp
          have hE2 := hE.out
          generalize wsum most room (C.take C.length) = t at *
          generalize room * most ^ C.length = wt at *
          have hEI : (t : Int) + (M : Int) = (k : Int) := by omega
          go_wp2_with (first
            | (go_at_call 6; refine (CA0.out _).mono ?_; rintro e w6 ⟨rfl, t6⟩; have S6 := hid (S4.out.t0 t6); have T6 := hid t6; clear t6)
            | (go_at_call 25; refine (ixs_mem S6.out).mono ?_; rintro e w7 ⟨rfl, h⟩; have h := h.symm; subst h)
            | (go_at_call 21; refine (ixs_len S6.out OK.out).mono ?_; rintro e w8 ⟨rfl, t8⟩; rw [hlen]; have T8 := hid t8; clear t8))
          go_ret
          exact ⟨rfl, ((TT.out.trans T4.out (by simp)).trans T6.out (by simp)).trans T8.out (by simp)⟩
theorem walk_IndexLevels (n : Int) (wn : (Lit.int .i64 n).wf = true) (room : Int) (wr : (Lit.int .i64 room).wf = true) (most : Int) (wm : (Lit.int .i64 most).wf = true) (W : World) :
    Calls Try.prog 5 #[.int .i64 n, .int .i64 room, .int .i64 most] W fun e W' => e = .returned (.bool true) ∧ Touch [] W W' := by
  by_cases hg : 0 ≤ n ∧ n ≤ 120 ∧ 1 ≤ room ∧ room ≤ 20 ∧ 2 ≤ most ∧ most ≤ 6
  · obtain ⟨h1, h2, h3, h4, h5, h6⟩ := hg
    obtain ⟨N, rfl⟩ := Int.eq_ofNat_of_zero_le h1
    obtain ⟨R, rfl⟩ := Int.eq_ofNat_of_zero_le (show 0 ≤ room by omega)
    obtain ⟨Mo, rfl⟩ := Int.eq_ofNat_of_zero_le (show 0 ≤ most by omega)
    exact levels_good N R Mo (by omega) (by omega) (by omega) (by omega) (by omega) W
  · have CA0 := hid (alive14_any W)
    by_cases h1 : n < 0
    · go_enter Try.func5, Try.ntmps5
      go_wp2_with (go_at_call 6; refine CA0.out.mono ?_; rintro e w6 ⟨rfl, t6⟩; have T6 := hid t6; clear t6)
      go_ret
      exact ⟨rfl, T6.out⟩
    · by_cases h2 : 120 < n
      · go_enter Try.func5, Try.ntmps5
        go_wp2_with (go_at_call 6; refine CA0.out.mono ?_; rintro e w6 ⟨rfl, t6⟩; have T6 := hid t6; clear t6)
        go_ret
        exact ⟨rfl, T6.out⟩
      · by_cases h3 : room < 1
        · go_enter Try.func5, Try.ntmps5
          go_wp2_with (go_at_call 6; refine CA0.out.mono ?_; rintro e w6 ⟨rfl, t6⟩; have T6 := hid t6; clear t6)
          go_ret
          exact ⟨rfl, T6.out⟩
        · by_cases h4 : 20 < room
          · go_enter Try.func5, Try.ntmps5
            go_wp2_with (go_at_call 6; refine CA0.out.mono ?_; rintro e w6 ⟨rfl, t6⟩; have T6 := hid t6; clear t6)
            go_ret
            exact ⟨rfl, T6.out⟩
          · by_cases h5 : most < 2
            · go_enter Try.func5, Try.ntmps5
              go_wp2_with (go_at_call 6; refine CA0.out.mono ?_; rintro e w6 ⟨rfl, t6⟩; have T6 := hid t6; clear t6)
              go_ret
              exact ⟨rfl, T6.out⟩
            · have h6 : 6 < most := by omega
              go_enter Try.func5, Try.ntmps5
              go_wp2_with (go_at_call 6; refine CA0.out.mono ?_; rintro e w6 ⟨rfl, t6⟩; have T6 := hid t6; clear t6)
              go_ret
              exact ⟨rfl, T6.out⟩
end Go.Proofs.Ytnkflmimnpolcaa
