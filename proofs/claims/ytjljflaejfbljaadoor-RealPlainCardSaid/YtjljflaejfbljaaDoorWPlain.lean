/- RealPlain, walked. -/
import Derived.Test.YtjljflaejfbljaaDoorWTotal
namespace Go.Proofs.YtjljflaejfbljaaDoor
open Go.RowKit Go.Lib Ieee

theorem add_fin {a b : Nat} (ha : Wd a) (hb : Wd b) (fa : rung a < 9218868437227405312) (fb : rung b < 9218868437227405312) : DD.add a b = some (padd a b) := by
  have h : ∃ r, DD.add a b = some r := by
    unfold Format.add
    rw [read_eq a ha.lt, read_eq b hb.lt, if_pos fa, if_pos fb]
    exact ⟨_, rfl⟩
  obtain ⟨r, h⟩ := h
  unfold padd
  rw [h]; rfl
theorem fl_bits (a : Int) (h : a.natAbs ≤ 9007199254740992) : fl a = if a < 0 then 9223372036854775808 + nr a.natAbs else nr a.natAbs := by
  rw [fl_eq a h]
  unfold Format.word
  rw [swR]
  simp
theorem rank_fl (a : Int) (h : a.natAbs ≤ 9007199254740992) : rank (fl a) = if a < 0 then 9223372036854775807 - nr a.natAbs else nr a.natAbs + 9223372036854775808 := by
  have hp := fl_parts a h
  have hb := fl_bits a h
  have hn := (nr_spec _ h).2
  unfold rank
  rw [can_num hp.2.2.2.1, hb]
  split
  · rw [if_pos (by omega)]; omega
  · rw [if_neg (by omega)]
theorem rank_fl_lt (a b : Int) (ha : a.natAbs ≤ 9007199254740992) (hb : b.natAbs ≤ 9007199254740992) : rank (fl a) < rank (fl b) ↔ a < b := by
  have na := (nr_spec _ ha).2
  have nb := (nr_spec _ hb).2
  have h1 := nr_lt_iff ha hb
  have h2 := nr_lt_iff hb ha
  rw [rank_fl a ha, rank_fl b hb]
  split <;> split <;> omega

set_option maxHeartbeats 4000000 in
theorem plain_in (a b : Int) (ha : a.natAbs ≤ 9007199254740992) (hb : b.natAbs ≤ 9007199254740992) (w : World) (htab : Tab w) :
    Calls Tryd.prog 6 #[.int .i64 a, .int .i64 b] w fun e w' => e = .returned (.bool true) ∧ Touch [] w w' := by
  have Ca := hid (alive_any w htab)
  clear htab
  have a1 : -9007199254740992 ≤ a := by omega
  have a2 : a ≤ 9007199254740992 := by omega
  have b1 : -9007199254740992 ≤ b := by omega
  have b2 : b ≤ 9007199254740992 := by omega
  have pa := fl_parts a ha
  have pb := fl_parts b hb
  have wa : Wd (fl a) := pa.1
  have wb : Wd (fl b) := pb.1
  have c1 : ∀ w, (convert 3 24 (.int .i64 a)).run Tryd.prog w = .ok (.float .f64 (fl a)) w := fun w => run_convert_int_float w _ _ _ _ _ (by kernel_rfl) (by kernel_rfl)
  have c2 : ∀ w, (convert 3 24 (.int .i64 b)).run Tryd.prog w = .ok (.float .f64 (fl b)) w := fun w => run_convert_int_float w _ _ _ _ _ (by kernel_rfl) (by kernel_rfl)
  have hadd : ∀ t w, (binOp .add t (.float .f64 (fl a)) (.float .f64 (fl b))).run Tryd.prog w = .ok (.float .f64 (padd (fl a) (fl b))) w := fun t w => run_float_arith w .add t .f64 _ _ _ (add_fin wa wb pa.2.2.2.2 pb.2.2.2.2)
  have ra := rank_fl a ha
  have na := (nr_spec _ ha).2
  have i1 : decide (rank 18442240474082181120 < rank (fl a)) = true := by
    rw [decide_eq_true_eq, ra, show rank 18442240474082181120 = 4503599627370495 by decide]
    split <;> omega
  have i2 : decide (rank (fl a) < rank 9218868437227405312) = true := by
    rw [decide_eq_true_eq, ra, show rank 9218868437227405312 = 18442240474082181120 by decide]
    split <;> omega
  have i3 : decide (rank (fl a) < rank 9221120237041090561) = true := by
    rw [decide_eq_true_eq, ra, show rank 9221120237041090561 = 18444492273895866368 by decide]
    split <;> omega
  have hlt := rank_fl_lt a b ha hb
  have s1 : a = b → decide (can (fl a) = can (fl b)) = true := by rintro rfl; simp
  have wp : Wd (padd (fl a) (fl b)) := padd_wd _ _
  have wsum : Wd (sumOf [fl a, fl b]) := (padd_wd _ _).can
  have hs : decide (can (sumOf [fl a, fl b]) = can (padd (fl a) (fl b))) = true := by
    rw [decide_eq_true_eq]
    exact can_can _
  have CS := hid (fun w1 : World => sum_any (some ⟨w1.heap.size, 0, none⟩) 2 [fl a, fl b] _ (show (2 : Nat) ≤ 9223372036854775807 by decide) (Nat.le_refl 2) (flts_new w1 24 [fl a, fl b] (by intro x hx; simp at hx; rcases hx with rfl | rfl; exact wa; exact wb)))
  generalize sumOf [fl a, fl b] = S at *
  generalize padd (fl a) (fl b) = Pd at *
  clear pa pb ra na ha hb
  generalize fl a = A at *
  generalize fl b = B at *
  rcases Int.lt_trichotomy a b with h | h | h
  · have t1 : decide (rank A < rank B) = true := by rw [decide_eq_true_eq, hlt]; exact h
    have h2 : (a != b) = true := by simp; omega
    have h3 : decide (a < b) = true := by simpa using h
    clear hlt s1 h
    go_enter Tryd.func6, Tryd.ntmps6
    go_wp2_with (first | (go_at_call 12; refine Ca.out.mono ?_; rintro e w1 ⟨rfl, q1⟩; have Q1 := hid q1; clear q1) | (go_at_call 26; refine (less_any _ _ _ (by first | assumption | decide) (by first | assumption | decide)).mono ?_; rintro e w' ⟨rfl, rfl⟩) | (go_at_call 27; refine (same_any _ _ _ (by assumption) (by assumption)).mono ?_; rintro e w' ⟨rfl, rfl⟩) | (go_at_call 28; first | (refine (infP_any _).mono ?_; rintro e w' ⟨rfl, rfl⟩) | (refine (infM_any _).mono ?_; rintro e w' ⟨rfl, rfl⟩)) | (go_at_call 29; refine (nan_any _).mono ?_; rintro e w' ⟨rfl, rfl⟩) | (go_at_call 30; refine (CS.out _).mono ?_; rintro e w2 ⟨rfl, q2⟩))
    go_ret
    exact ⟨rfl, (Q1.out.alloc _).trans q2 (by simp)⟩
  · have t1 : decide (rank A < rank B) = false := by rw [decide_eq_false_iff_not, hlt]; omega
    have h2 : (a != b) = false := by simp; omega
    have h3 : decide (a < b) = false := by simp; omega
    have s2 := s1 h
    clear hlt s1 h
    go_enter Tryd.func6, Tryd.ntmps6
    go_wp2_with (first | (go_at_call 12; refine Ca.out.mono ?_; rintro e w1 ⟨rfl, q1⟩; have Q1 := hid q1; clear q1) | (go_at_call 26; refine (less_any _ _ _ (by first | assumption | decide) (by first | assumption | decide)).mono ?_; rintro e w' ⟨rfl, rfl⟩) | (go_at_call 27; refine (same_any _ _ _ (by assumption) (by assumption)).mono ?_; rintro e w' ⟨rfl, rfl⟩) | (go_at_call 28; first | (refine (infP_any _).mono ?_; rintro e w' ⟨rfl, rfl⟩) | (refine (infM_any _).mono ?_; rintro e w' ⟨rfl, rfl⟩)) | (go_at_call 29; refine (nan_any _).mono ?_; rintro e w' ⟨rfl, rfl⟩) | (go_at_call 30; refine (CS.out _).mono ?_; rintro e w2 ⟨rfl, q2⟩))
    go_ret
    exact ⟨rfl, (Q1.out.alloc _).trans q2 (by simp)⟩
  · have t1 : decide (rank A < rank B) = false := by rw [decide_eq_false_iff_not, hlt]; omega
    have h2 : (a != b) = true := by simp; omega
    have h3 : decide (a < b) = false := by simp; omega
    clear hlt s1 h
    go_enter Tryd.func6, Tryd.ntmps6
    go_wp2_with (first | (go_at_call 12; refine Ca.out.mono ?_; rintro e w1 ⟨rfl, q1⟩; have Q1 := hid q1; clear q1) | (go_at_call 26; refine (less_any _ _ _ (by first | assumption | decide) (by first | assumption | decide)).mono ?_; rintro e w' ⟨rfl, rfl⟩) | (go_at_call 27; refine (same_any _ _ _ (by assumption) (by assumption)).mono ?_; rintro e w' ⟨rfl, rfl⟩) | (go_at_call 28; first | (refine (infP_any _).mono ?_; rintro e w' ⟨rfl, rfl⟩) | (refine (infM_any _).mono ?_; rintro e w' ⟨rfl, rfl⟩)) | (go_at_call 29; refine (nan_any _).mono ?_; rintro e w' ⟨rfl, rfl⟩) | (go_at_call 30; refine (CS.out _).mono ?_; rintro e w2 ⟨rfl, q2⟩))
    go_ret
    exact ⟨rfl, (Q1.out.alloc _).trans q2 (by simp)⟩

set_option maxHeartbeats 2000000 in
theorem plain_out (a b : Int) (h : a < -9007199254740992 ∨ (-9007199254740992 ≤ a ∧ 9007199254740992 < a) ∨ (-9007199254740992 ≤ a ∧ a ≤ 9007199254740992 ∧ b < -9007199254740992) ∨ (-9007199254740992 ≤ a ∧ a ≤ 9007199254740992 ∧ -9007199254740992 ≤ b ∧ 9007199254740992 < b)) (w : World) (htab : Tab w) :
    Calls Tryd.prog 6 #[.int .i64 a, .int .i64 b] w fun e w' => e = .returned (.bool true) ∧ Touch [] w w' := by
  have Ca := hid (alive_any w htab)
  clear htab
  rcases h with h1 | ⟨h1, h2⟩ | ⟨h1, h2, h3⟩ | ⟨h1, h2, h3, h4⟩
  all_goals
    go_enter Tryd.func6, Tryd.ntmps6
    go_wp2_with (go_at_call 12; refine Ca.out.mono ?_; rintro e w1 ⟨rfl, q1⟩)
    go_ret
    exact ⟨rfl, q1⟩
theorem walk_RealPlain (a : Int) (_wa : (Lit.int .i64 a).wf = true) (b : Int) (_wb : (Lit.int .i64 b).wf = true) (w : World) (htab : Tab w) :
    Calls Tryd.prog 6 #[.int .i64 a, .int .i64 b] w fun e w' => e = .returned (.bool true) ∧ Touch [] w w' := by
  by_cases h1 : a < -9007199254740992
  · exact plain_out a b (.inl h1) w htab
  by_cases h2 : 9007199254740992 < a
  · exact plain_out a b (.inr (.inl ⟨by omega, h2⟩)) w htab
  by_cases h3 : b < -9007199254740992
  · exact plain_out a b (.inr (.inr (.inl ⟨by omega, by omega, h3⟩))) w htab
  by_cases h4 : 9007199254740992 < b
  · exact plain_out a b (.inr (.inr (.inr ⟨by omega, by omega, by omega, h4⟩))) w htab
  exact plain_in a b (by omega) (by omega) w htab
end Go.Proofs.YtjljflaejfbljaaDoor
