/- What the laws' own answer to chapter 3 returns: Bits, Of, Same, Class. -/
import Derived.Test.YtiglfdefeaddmaaRealb
namespace Go.Proofs.Ytiglfdefeaddmaa
open Go.RowKit Go.Lib

theorem refBits_any (b : Nat) (w : World) (hb : Wd b) :
    Calls Try.prog 32 #[.float .f64 b] w fun e w' => e = .returned (.int .u64 (can b)) ∧ w = w' := by
  have ht := tobits_run b
  have hn := nan_order hb.lt
  by_cases h : isNan b = true
  · rw [h] at hn
    have hc := hid (can_nan h)
    clear h
    go_enter Try.func32, Try.ntmps32
    go_wp2
    go_ret
    exact ⟨by rw [hc.out]; rfl, rfl⟩
  · have h2 := isNan_false b h
    rw [h2] at hn
    have hc := hid (can_num h2)
    clear h h2
    go_enter Try.func32, Try.ntmps32
    go_wp2
    go_ret
    exact ⟨by rw [hc.out]; rfl, rfl⟩
theorem refOf_any (b : Nat) (w : World) (hb : Wd b) :
    Calls Try.prog 17 #[.int .u64 b] w fun e w' => e = .returned (.float .f64 (can b)) ∧ w = w' := by
  have ht := frombits_run b
  have ho : ∀ w : World, (callFunc 11 #[.int .u64 9221120237041090560]).run Try.prog w = .ok (.value (.float .f64 9221120237041090560)) w := frombits_run 9221120237041090560
  have hn := nan_order hb.lt
  by_cases h : isNan b = true
  · rw [h] at hn
    have hc := hid (can_nan h)
    clear h
    go_enter Try.func17, Try.ntmps17
    go_wp2
    go_ret
    exact ⟨by rw [hc.out]; rfl, rfl⟩
  · have h2 := isNan_false b h
    rw [h2] at hn
    have hc := hid (can_num h2)
    clear h h2
    go_enter Try.func17, Try.ntmps17
    go_wp2
    go_ret
    exact ⟨by rw [hc.out]; rfl, rfl⟩
theorem refSame_any (a b : Nat) (w : World) (ha : Wd a) (hb : Wd b) :
    Calls Try.prog 15 #[.float .f64 a, .float .f64 b] w fun e w' => e = .returned (.bool (decide (can a = can b))) ∧ w = w' := by
  have hq := hid (show ((can a : Int) == (can b : Int)) = decide (can a = can b) by rw [Bool.eq_iff_iff]; simp only [beq_iff_eq, decide_eq_true_eq]; omega)
  go_enter Try.func15, Try.ntmps15
  go_wp2_with (go_at_call 32; refine (refBits_any _ _ (by assumption)).mono ?_; rintro e w' ⟨rfl, rfl⟩)
  go_ret
  exact ⟨by rw [← hq.out]; rfl, rfl⟩

/-- The class by its parts. -/
def clsB (m i z : Bool) : Int := if i = true then (if m = true then 1 else 6) else if z = true then (if m = true then 3 else 4) else if m = true then 2 else 5
theorem cls_num (b : Nat) (hb : Wd b) (hn : isNan b = false) : cls b = clsB (neg b) (decide (rung b = 9218868437227405312)) (decide (rung b = 0)) := by
  have := hb.lt
  unfold cls clsB
  rw [hn]
  have hf := sr_facts b hb.lt
  have hr : isNan b = decide (9218868437227405312 < rung b) := rfl
  rw [hn] at hr
  have hr2 : ¬ 9218868437227405312 < rung b := by simpa using hr.symm
  by_cases h1 : 9223372036854775808 ≤ b
  · have hm := hf.2.2.2 h1
    have hs1 := hf.1
    have hs2 := hf.2.1
    have e : rung b = b - 9223372036854775808 := by unfold rung; omega
    rw [hm, e] at *
    by_cases g1 : b = 18442240474082181120
    · subst g1; decide
    · by_cases g2 : b = 9223372036854775808
      · subst g2; decide
      · rw [if_neg (by simp), if_neg g1, if_neg (by omega), if_pos (by omega), if_neg (by simp; omega), if_neg (by simp; omega), if_pos rfl]
  · have hm : neg b = false := by
      cases h : neg b
      · rfl
      · exact absurd (hf.2.2.1 h) h1
    have hs1 := hf.1
    have hs2 := hf.2.1
    have e : rung b = b := by unfold rung; omega
    rw [hm, e] at *
    by_cases g1 : b = 9218868437227405312
    · subst g1; decide
    · by_cases g2 : b = 0
      · subst g2; decide
      · rw [if_neg (by simp), if_neg (by omega), if_neg g1, if_neg (by omega), if_pos (by omega), if_neg (by simp; omega), if_neg (by simp; omega), if_neg (by simp)]

set_option maxHeartbeats 1000000 in
theorem refClass_any (b : Nat) (w : World) (hb : Wd b) :
    Calls Try.prog 23 #[.float .f64 b] w fun e w' => e = .returned (.int .i64 (cls b)) ∧ w = w' := by
  have hn := nan_order hb.lt
  have C := hid (refBits_any b w hb)
  by_cases h : isNan b = true
  · rw [h] at hn
    rw [can_nan h] at C
    have hc := hid (show cls b = 0 by unfold cls; rw [if_pos h])
    have hb1 : bits .and .u64 9221120237041090560 9223372036854775807 = 9221120237041090560 := by decide +kernel
    clear h
    unfold oneNan at C
    go_enter Try.func23, Try.ntmps23
    go_wp2_with (go_at_call 32; refine C.out.mono ?_; rintro e w' ⟨rfl, rfl⟩)
    go_ret
    exact ⟨by rw [hc.out]; rfl, rfl⟩
  · have h2 := isNan_false b h
    rw [h2] at hn
    have hc := hid (cls_num b hb h2)
    rw [can_num h2] at C
    have e3 : bits .and .u64 (b : Int) 9223372036854775807 = ((rung b : Nat) : Int) := by
      have := bits_and b 9223372036854775807 hb.lt (by decide)
      rw [and_low] at this
      exact this
    have e1 : ((b : Int) / 9223372036854775808 == 1) = neg b := by
      have := hb.lt
      unfold neg
      rw [Bool.eq_iff_iff]
      simp
      omega
    have e2 : ((rung b : Int) == 9218868437227405312) = decide (rung b = 9218868437227405312) := by rw [Bool.eq_iff_iff]; simp; omega
    have e4 : ((rung b : Int) == 0) = decide (rung b = 0) := by rw [Bool.eq_iff_iff]; simp
    clear h h2 hb
    generalize neg b = m at *
    generalize decide (rung b = 9218868437227405312) = i at *
    generalize decide (rung b = 0) = z at *
    generalize rung b = r at *
    cases m <;> cases i <;> cases z
    all_goals
      go_enter Try.func23, Try.ntmps23
      go_wp2_with (go_at_call 32; refine C.out.mono ?_; rintro e w' ⟨rfl, rfl⟩)
      go_ret
      exact ⟨by rw [hc.out]; rfl, rfl⟩
end Go.Proofs.Ytiglfdefeaddmaa
