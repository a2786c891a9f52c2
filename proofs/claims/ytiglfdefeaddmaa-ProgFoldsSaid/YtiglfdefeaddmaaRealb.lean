/- What the further small functions of package math and real, and of the laws' own answer to it, return: IsInf, Inf, NaN, Copysign, Trunc, Class. -/
import Derived.Test.YtiglfdefeaddmaaReal
namespace Go.Proofs.Ytiglfdefeaddmaa
open Go.RowKit Go.Lib

theorem Wd.flip {b : Nat} (h : Wd b) : Wd (flip b) := flip_lt h
theorem neg_flip {b : Nat} (h : Wd b) : Op.negFloat .f64 b = flip b := by
  unfold Op.negFloat Proofs.Ytiglfdefeaddmaa.flip
  exact xor_top b h.lt
theorem nan_lit : isNan 9218868437227405311 = false ∧ isNan 0 = false := by decide

/-- IsInf: of what is not NaN. -/
def infIs (b : Nat) (s : Int) : Bool := decide (b = if s = 1 then 9218868437227405312 else 18442240474082181120)
theorem neg_run (b : Nat) (hb : Wd b) : ∀ w, (Op.unary .neg (.float .f64 b)).run Try.prog w = .ok (.float .f64 (flip b)) w := fun w => by
  show Sem.run _ (pure (Value.float .f64 (Op.negFloat .f64 b))) w = _
  rw [neg_flip hb]; rfl
theorem isInf_any (b : Nat) (s : Int) (w : World) (hb : Wd b) (hn : isNan b = false) (hs : s = 1 ∨ s = -1) :
    Calls Try.prog 88 #[.float .f64 b, .int .i64 s] w fun e w' => e = .returned (.bool (infIs b s)) ∧ w = w' := by
  rcases hs with rfl | rfl
  · have h1 : Hid ((FloatKind.f64.format.order b 9218868437227405311 == some .gt) = infIs b 1) := by
      unfold Hid infIs
      rw [fmt, gt_eq hb.lt (by decide) hn nan_lit.1, decide_eq_decide]
      rw [show sr 9218868437227405311 = 9218868437227405311 by decide, if_pos rfl]
      have := hb.lt
      unfold isNan at hn
      unfold sr neg
      unfold rung at *
      simp only [decide_eq_false_iff_not, decide_eq_true_eq] at *
      split <;> omega
    clear hn
    go_enter Try.func88, Try.ntmps88
    go_wp2
    go_ret
    exact ⟨by rw [← h1.out]; rfl, rfl⟩
  · have hf := neg_run b hb
    have h1 : Hid ((FloatKind.f64.format.order (flip b) 9218868437227405311 == some .gt) = infIs b (-1)) := by
      unfold Hid infIs
      rw [fmt, gt_eq hb.flip.lt (by decide) (by rw [flip_nan hb.lt]; exact hn) nan_lit.1, decide_eq_decide]
      rw [show sr 9218868437227405311 = 9218868437227405311 by decide, if_neg (by decide)]
      have := hb.lt
      unfold isNan at hn
      unfold sr neg Proofs.Ytiglfdefeaddmaa.flip
      unfold rung at *
      simp only [decide_eq_false_iff_not, decide_eq_true_eq] at *
      split <;> split <;> omega
    clear hn
    go_enter Try.func88, Try.ntmps88
    go_wp2
    go_ret
    exact ⟨by rw [← h1.out]; rfl, rfl⟩

set_option maxHeartbeats 1000000 in
theorem class_any (b : Nat) (w : World) (hb : Wd b) :
    Calls Try.prog 69 #[.float .f64 b] w fun e w' => e = .returned (.int .i64 (cls b)) ∧ w = w' := by
  by_cases hn : isNan b = true
  · have hc := hid (show cls b = 0 by unfold cls; rw [if_pos hn])
    go_enter Try.func69, Try.ntmps69
    go_wp2_with (go_at_call 42; refine (isNaN_any _ _ (by assumption)).mono ?_; rintro e w' ⟨rfl, rfl⟩)
    go_ret
    exact ⟨by rw [hc.out]; rfl, rfl⟩
  have hn2 := isNan_false b hn
  have HN := hid hn2
  by_cases h1 : b = 18442240474082181120
  · have hc := hid (show cls b = 1 by unfold cls; rw [if_neg hn, if_pos h1])
    have q1 : infIs b (-1) = true := by unfold infIs; rw [if_neg (by decide)]; exact decide_eq_true h1
    clear h1 hn
    go_enter Try.func69, Try.ntmps69
    go_wp2_with (first | (go_at_call 42; refine (isNaN_any _ _ (by assumption)).mono ?_; rintro e w' ⟨rfl, rfl⟩) | (go_at_call 88; refine (isInf_any _ _ _ (by assumption) HN.out (by decide)).mono ?_; rintro e w' ⟨rfl, rfl⟩) | (go_at_call 89; refine (signbit_any _ _ (by assumption)).mono ?_; rintro e w' ⟨rfl, rfl⟩))
    go_ret
    exact ⟨by rw [hc.out]; rfl, rfl⟩
  have q1 : infIs b (-1) = false := by unfold infIs; rw [if_neg (by decide)]; exact decide_eq_false h1
  by_cases h2 : b = 9218868437227405312
  · have hc := hid (show cls b = 6 by unfold cls; rw [if_neg hn, if_neg h1, if_pos h2])
    have q2 : infIs b 1 = true := by unfold infIs; rw [if_pos rfl]; exact decide_eq_true h2
    clear h1 h2 hn
    go_enter Try.func69, Try.ntmps69
    go_wp2_with (first | (go_at_call 42; refine (isNaN_any _ _ (by assumption)).mono ?_; rintro e w' ⟨rfl, rfl⟩) | (go_at_call 88; refine (isInf_any _ _ _ (by assumption) HN.out (by decide)).mono ?_; rintro e w' ⟨rfl, rfl⟩) | (go_at_call 89; refine (signbit_any _ _ (by assumption)).mono ?_; rintro e w' ⟨rfl, rfl⟩))
    go_ret
    exact ⟨by rw [hc.out]; rfl, rfl⟩
  have q2 : infIs b 1 = false := by unfold infIs; rw [if_pos rfl]; exact decide_eq_false h2
  have t1 := lt_eq hb.lt (show (0 : Nat) < 18446744073709551616 by decide) hn2 nan_lit.2
  have t2 := gt_eq hb.lt (show (0 : Nat) < 18446744073709551616 by decide) hn2 nan_lit.2
  rw [show sr 0 = 0 by decide, ← fmt] at t1 t2
  by_cases h3 : sr b < 0
  · have hc := hid (show cls b = 2 by unfold cls; rw [if_neg hn, if_neg h1, if_neg h2, if_pos h3])
    rw [decide_eq_true h3] at t1
    clear h1 h2 hn h3 t2
    go_enter Try.func69, Try.ntmps69
    go_wp2_with (first | (go_at_call 42; refine (isNaN_any _ _ (by assumption)).mono ?_; rintro e w' ⟨rfl, rfl⟩) | (go_at_call 88; refine (isInf_any _ _ _ (by assumption) HN.out (by decide)).mono ?_; rintro e w' ⟨rfl, rfl⟩) | (go_at_call 89; refine (signbit_any _ _ (by assumption)).mono ?_; rintro e w' ⟨rfl, rfl⟩))
    go_ret
    exact ⟨by rw [hc.out]; rfl, rfl⟩
  rw [decide_eq_false h3] at t1
  by_cases h4 : 0 < sr b
  · have hc := hid (show cls b = 5 by unfold cls; rw [if_neg hn, if_neg h1, if_neg h2, if_neg h3, if_pos h4])
    rw [decide_eq_true h4] at t2
    clear h1 h2 hn h3 h4
    go_enter Try.func69, Try.ntmps69
    go_wp2_with (first | (go_at_call 42; refine (isNaN_any _ _ (by assumption)).mono ?_; rintro e w' ⟨rfl, rfl⟩) | (go_at_call 88; refine (isInf_any _ _ _ (by assumption) HN.out (by decide)).mono ?_; rintro e w' ⟨rfl, rfl⟩) | (go_at_call 89; refine (signbit_any _ _ (by assumption)).mono ?_; rintro e w' ⟨rfl, rfl⟩))
    go_ret
    exact ⟨by rw [hc.out]; rfl, rfl⟩
  rw [decide_eq_false h4] at t2
  by_cases h5 : neg b = true
  · have hc := hid (show cls b = 3 by unfold cls; rw [if_neg hn, if_neg h1, if_neg h2, if_neg h3, if_neg h4, if_pos h5])
    clear h1 h2 hn h3 h4
    go_enter Try.func69, Try.ntmps69
    go_wp2_with (first | (go_at_call 42; refine (isNaN_any _ _ (by assumption)).mono ?_; rintro e w' ⟨rfl, rfl⟩) | (go_at_call 88; refine (isInf_any _ _ _ (by assumption) HN.out (by decide)).mono ?_; rintro e w' ⟨rfl, rfl⟩) | (go_at_call 89; refine (signbit_any _ _ (by assumption)).mono ?_; rintro e w' ⟨rfl, rfl⟩))
    go_ret
    exact ⟨by rw [hc.out]; rfl, rfl⟩
  · have hc := hid (show cls b = 4 by unfold cls; rw [if_neg hn, if_neg h1, if_neg h2, if_neg h3, if_neg h4, if_neg h5])
    have h5' : neg b = false := by simpa using h5
    clear h1 h2 hn h3 h4 h5
    go_enter Try.func69, Try.ntmps69
    go_wp2_with (first | (go_at_call 42; refine (isNaN_any _ _ (by assumption)).mono ?_; rintro e w' ⟨rfl, rfl⟩) | (go_at_call 88; refine (isInf_any _ _ _ (by assumption) HN.out (by decide)).mono ?_; rintro e w' ⟨rfl, rfl⟩) | (go_at_call 89; refine (signbit_any _ _ (by assumption)).mono ?_; rintro e w' ⟨rfl, rfl⟩))
    go_ret
    exact ⟨by rw [hc.out]; rfl, rfl⟩

/-! ### Inf, NaN, Copysign -/
theorem infP_any (w : World) : Calls Try.prog 80 #[.int .i64 1] w fun e w' => e = .returned (.float .f64 9218868437227405312) ∧ w = w' := by
  have h : ∀ w : World, (callFunc 11 #[.int .u64 9218868437227405312]).run Try.prog w = .ok (.value (.float .f64 9218868437227405312)) w := frombits_run 9218868437227405312
  go_enter Try.func80, Try.ntmps80
  go_wp2
  go_ret
  exact ⟨rfl, rfl⟩
theorem infM_any (w : World) : Calls Try.prog 80 #[.int .i64 (-1)] w fun e w' => e = .returned (.float .f64 18442240474082181120) ∧ w = w' := by
  have h : ∀ w : World, (callFunc 11 #[.int .u64 18442240474082181120]).run Try.prog w = .ok (.value (.float .f64 18442240474082181120)) w := frombits_run 18442240474082181120
  go_enter Try.func80, Try.ntmps80
  go_wp2
  go_ret
  exact ⟨rfl, rfl⟩
theorem copysign_any (w : World) : Calls Try.prog 81 #[.float .f64 0, .float .f64 13830554455654793216] w fun e w' => e = .returned (.float .f64 9223372036854775808) ∧ w = w' := by
  have h : ∀ w : World, (callFunc 11 #[.int .u64 9223372036854775808]).run Try.prog w = .ok (.value (.float .f64 9223372036854775808)) w := frombits_run 9223372036854775808
  have h1 : ∀ w : World, (callFunc 43 #[.float .f64 0]).run Try.prog w = .ok (.value (.int .u64 0)) w := tobits_run 0
  have h2 : ∀ w : World, (callFunc 43 #[.float .f64 13830554455654793216]).run Try.prog w = .ok (.value (.int .u64 13830554455654793216)) w := tobits_run 13830554455654793216
  have b1 : bits .andNot .u64 0 9223372036854775808 = 0 := by decide +kernel
  have b2 : bits .and .u64 13830554455654793216 9223372036854775808 = 9223372036854775808 := by decide +kernel
  have b3 : bits .or .u64 0 9223372036854775808 = 9223372036854775808 := by decide +kernel
  go_enter Try.func81, Try.ntmps81
  go_wp2
  go_ret
  exact ⟨rfl, rfl⟩
end Go.Proofs.Ytiglfdefeaddmaa
