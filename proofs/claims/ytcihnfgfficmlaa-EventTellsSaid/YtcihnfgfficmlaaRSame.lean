/- real.Same; event's SameEvent. -/
import Derived.Test.YtcihnfgfficmlaaCSame
namespace Go.Proofs.Ytcihnfgfficmlaa
open Go.RowKit Go.Lib
set_option maxRecDepth 100000

theorem canonR_any (b : Nat) (w : World) : Calls Try.prog 84 #[.float .f64 b] w fun e w' => e = .returned (.float .f64 (canon b)) ∧ w = w' := by
  have C := hid (isNaN_any b w)
  have hn : ∀ w : World, (callFunc 61 #[.int .u64 9221120237041090560]).run Try.prog w = .ok (.value (.float .f64 9221120237041090560)) w := frombits_run 9221120237041090560
  by_cases h : nanB b = true
  · have hc := hid (canon_nan h)
    rw [h] at C
    clear h
    go_enter Try.func84, Try.ntmps84
    go_wp2_with (go_at_call 96; refine C.out.mono ?_; rintro e w' ⟨rfl, rfl⟩)
    go_ret
    exact ⟨by rw [hc.out]; rfl, rfl⟩
  · have h2 : nanB b = false := by simpa using h
    have hc := hid (canon_num h2)
    rw [h2] at C
    clear h h2
    go_enter Try.func84, Try.ntmps84
    go_wp2_with (go_at_call 96; refine C.out.mono ?_; rintro e w' ⟨rfl, rfl⟩)
    go_ret
    exact ⟨by rw [hc.out]; rfl, rfl⟩
theorem bitsR_any (b : Nat) (w : World) : Calls Try.prog 64 #[.float .f64 b] w fun e w' => e = .returned (.int .u64 (canon b)) ∧ w = w' := by
  have C := hid (canonR_any b w)
  have hn := tobits_run (canon b)
  go_enter Try.func64, Try.ntmps64
  go_wp2_with (go_at_call 84; refine C.out.mono ?_; rintro e w' ⟨rfl, rfl⟩)
  go_ret
  exact ⟨rfl, rfl⟩
theorem sameR_any (a b : Nat) (w : World) : Calls Try.prog 36 #[.float .f64 a, .float .f64 b] w fun e w' => e = .returned (.bool ((canon a : Int) == (canon b : Int))) ∧ w = w' := by
  go_enter Try.func36, Try.ntmps36
  go_wp2_with (go_at_call 64; refine (bitsR_any _ _).mono ?_; rintro e w' ⟨rfl, rfl⟩)
  go_ret
  exact ⟨rfl, rfl⟩
theorem evSameEvent_any (a b : EvD) (w : World) : Calls Try.prog 14 #[a.agg, b.agg] w fun r w' => r = .returned (.bool (sameE a b)) ∧ Touch [] w w' := by
  unfold EvD.agg sameE
  obtain ⟨ai, at_, ad, av⟩ := a
  obtain ⟨bi, bt, bd, bv⟩ := b
  simp only []
  by_cases h1 : ai = bi
  · subst h1
    by_cases h2 : at_ = bt
    · subst h2
      by_cases h3 : ad = bd
      · subst h3
        have hq : ((canon av : Int) == (canon bv : Int)) = decide (canon av = canon bv) := by rw [Bool.eq_iff_iff]; simp only [beq_iff_eq, decide_eq_true_eq]; omega
        have C := hid (fun w => sameR_any av bv w)
        rw [hq] at C
        generalize decide (canon av = canon bv) = g at *
        clear hq
        go_enter Try.func14, Try.ntmps14
        go_wp2_with (go_at_call 36; refine (C.out _).mono ?_; rintro e w1 ⟨rfl, rfl⟩)
        go_ret
        exact ⟨by simp, ((Touch.refl _ _).alloc _).alloc _⟩
      · have q := toList_ne h3
        rw [decide_eq_false h3]
        clear h3
        go_enter Try.func14, Try.ntmps14
        go_wp2
        go_ret
        exact ⟨by simp, ((Touch.refl _ _).alloc _).alloc _⟩
    · have q := toList_ne h2
      rw [decide_eq_false h2]
      clear h2
      go_enter Try.func14, Try.ntmps14
      go_wp2
      go_ret
      exact ⟨by simp, ((Touch.refl _ _).alloc _).alloc _⟩
  · have q : (ai == bi) = false := by simpa using h1
    rw [decide_eq_false h1]
    clear h1
    go_enter Try.func14, Try.ntmps14
    go_wp2
    go_ret
    exact ⟨by simp, ((Touch.refl _ _).alloc _).alloc _⟩
end Go.Proofs.Ytcihnfgfficmlaa
