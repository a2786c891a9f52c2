/- The laws' own SameEvent and Same. -/
import Derived.Test.YtcihnfgfficmlaaEv
import Derived.Test.YtcihnfgfficmlaaHeld
namespace Go.Proofs.Ytcihnfgfficmlaa
open Go.RowKit Go.Lib

theorem txt_eq {x y : ByteArray} (h : x.data.toList = y.data.toList) : x = y := by
  rw [str_eq (s := x) rfl, str_eq (s := y) rfl, h]
theorem toList_ne {x y : ByteArray} (h : x ≠ y) : (x.toList == y.toList) = false := by
  rw [ByteArray.toList_eq, ByteArray.toList_eq, Bool.eq_false_iff]
  intro e
  exact h (txt_eq (eq_of_beq e))

set_option maxRecDepth 100000 in
theorem refSameEvent_any (a b : EvD) (w : World) : Calls Try.prog 15 #[a.agg, b.agg] w fun r w' => r = .returned (.bool (sameE a b)) ∧ Touch [] w w' := by
  unfold EvD.agg sameE
  obtain ⟨ai, at_, ad, av⟩ := a
  obtain ⟨bi, bt, bd, bv⟩ := b
  simp only []
  by_cases h1 : ai = bi
  · subst h1
    by_cases h2 : at_ = bt
    · subst h2
      by_cases h3 : ad = bd
      · subst h3
        have hq : ((canon av : Int) == (canon bv : Int)) = decide (canon av = canon bv) := by rw [Bool.eq_iff_iff]; simp only [beq_iff_eq, decide_eq_true_eq]; omega
        have C := hid (fun w => same_any av bv w)
        rw [hq] at C
        generalize decide (canon av = canon bv) = g at *
        clear hq
        go_enter Try.func15, Try.ntmps15
        go_wp2_with (go_at_call 37; refine (C.out _).mono ?_; rintro e w1 ⟨rfl, rfl⟩)
        go_ret
        exact ⟨by simp, ((Touch.refl _ _).alloc _).alloc _⟩
      · have q := toList_ne h3
        rw [decide_eq_false h3]
        clear h3
        go_enter Try.func15, Try.ntmps15
        go_wp2
        go_ret
        exact ⟨by simp, ((Touch.refl _ _).alloc _).alloc _⟩
    · have q := toList_ne h2
      rw [decide_eq_false h2]
      clear h2
      go_enter Try.func15, Try.ntmps15
      go_wp2
      go_ret
      exact ⟨by simp, ((Touch.refl _ _).alloc _).alloc _⟩
  · have q : (ai == bi) = false := by simpa using h1
    rw [decide_eq_false h1]
    clear h1
    go_enter Try.func15, Try.ntmps15
    go_wp2
    go_ret
    exact ⟨by simp, ((Touch.refl _ _).alloc _).alloc _⟩
end Go.Proofs.Ytcihnfgfficmlaa
