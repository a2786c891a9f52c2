/- May metadata be: as a plain function, in the real code, in the laws' own answer. -/
import Derived.Test.YtepbflcmghkieaaDoorBase
import Derived.Test.YtepbflcmghkieaaDoorProg
namespace Go.Proofs.YtepbflcmghkieaaDoor
open Go.RowKit Go.Lib

def great : Int := 1099511627776
def inGreat (x : Int) : Bool := decide (0 ≤ x) && decide (x ≤ great)
def validM (a b c : Int) : Bool := inGreat a && inGreat b && inGreat c
theorem great_no {x : Int} (h : x < 0 ∨ 1099511627776 < x) : inGreat x = false := by
  unfold inGreat great
  rcases h with h | h
  · rw [decide_eq_false (by omega)]; rfl
  · rw [decide_eq_false (show ¬ x ≤ 1099511627776 by omega)]; simp
theorem great_yes {x : Int} (h : 0 ≤ x) (h2 : x ≤ 1099511627776) : inGreat x = true := by
  unfold inGreat great
  rw [decide_eq_true h, decide_eq_true h2]; rfl
theorem great_iff {x : Int} : inGreat x = true ↔ 0 ≤ x ∧ x ≤ 1099511627776 := by
  unfold inGreat great
  simp only [Bool.and_eq_true, decide_eq_true_eq]
def metaV (a b c : Int) : Value := .agg #[.int .i64 a, .int .i64 b, .int .i64 c]
set_option maxRecDepth 100000 in
theorem refValidMeta_bad (a b c : Int) (w : World) (h : a < 0 ∨ (0 ≤ a ∧ 1099511627776 < a) ∨ (0 ≤ a ∧ a ≤ 1099511627776 ∧ b < 0) ∨ (0 ≤ a ∧ a ≤ 1099511627776 ∧ 0 ≤ b ∧ 1099511627776 < b) ∨
      (0 ≤ a ∧ a ≤ 1099511627776 ∧ 0 ≤ b ∧ b ≤ 1099511627776 ∧ c < 0) ∨ (0 ≤ a ∧ a ≤ 1099511627776 ∧ 0 ≤ b ∧ b ≤ 1099511627776 ∧ 0 ≤ c ∧ 1099511627776 < c)) :
    Calls Tryd.prog 20 #[metaV a b c] w fun r w' => r = .returned (.bool false) ∧ Touch [] w w' := by
  unfold metaV
  have n1 : ∀ x : Int, x < 0 → decide (0 ≤ x) = false := fun x h => by simpa using h
  have n2 : ∀ x : Int, 1099511627776 < x → decide (x ≤ 1099511627776) = false := fun x h => by simp; omega
  rcases h with h | ⟨h1, h⟩ | ⟨h1, h2, h⟩ | ⟨h1, h2, h3, h⟩ | ⟨h1, h2, h3, h4, h⟩ | ⟨h1, h2, h3, h4, h5, h⟩
  all_goals
    first | have q := n1 _ h | have q := n2 _ h
    clear n1 n2 h
    go_enter Tryd.func20, Tryd.ntmps20
    go_wp2
    go_ret
    exact ⟨rfl, (Touch.refl _ _).alloc _⟩
set_option maxRecDepth 100000 in
theorem refValidMeta_good (a b c : Int) (w : World) (h1 : 0 ≤ a) (h2 : a ≤ 1099511627776) (h3 : 0 ≤ b) (h4 : b ≤ 1099511627776) (h5 : 0 ≤ c) (h6 : c ≤ 1099511627776) :
    Calls Tryd.prog 20 #[metaV a b c] w fun r w' => r = .returned (.bool true) ∧ Touch [] w w' := by
  unfold metaV
  go_enter Tryd.func20, Tryd.ntmps20
  go_wp2
  go_ret
  exact ⟨by simp, (Touch.refl _ _).alloc _⟩
theorem refValidMeta_any (a b c : Int) (w : World) : Calls Tryd.prog 20 #[metaV a b c] w fun r w' => r = .returned (.bool (validM a b c)) ∧ Touch [] w w' := by
  unfold validM
  by_cases ha : a < 0
  · rw [great_no (.inl ha)]; exact refValidMeta_bad a b c w (.inl ha)
  by_cases ha2 : 1099511627776 < a
  · rw [great_no (.inr ha2)]; exact refValidMeta_bad a b c w (.inr (.inl ⟨by omega, ha2⟩))
  rw [great_yes (x := a) (by omega) (by omega)]
  by_cases hb : b < 0
  · rw [great_no (.inl hb)]; exact refValidMeta_bad a b c w (.inr (.inr (.inl ⟨by omega, by omega, hb⟩)))
  by_cases hb2 : 1099511627776 < b
  · rw [great_no (.inr hb2)]; exact refValidMeta_bad a b c w (.inr (.inr (.inr (.inl ⟨by omega, by omega, by omega, hb2⟩))))
  rw [great_yes (x := b) (by omega) (by omega)]
  by_cases hc : c < 0
  · rw [great_no (.inl hc)]; exact refValidMeta_bad a b c w (.inr (.inr (.inr (.inr (.inl ⟨by omega, by omega, by omega, by omega, hc⟩)))))
  by_cases hc2 : 1099511627776 < c
  · rw [great_no (.inr hc2)]; exact refValidMeta_bad a b c w (.inr (.inr (.inr (.inr (.inr ⟨by omega, by omega, by omega, by omega, by omega, hc2⟩)))))
  rw [great_yes (x := c) (by omega) (by omega)]
  exact refValidMeta_good a b c w (by omega) (by omega) (by omega) (by omega) (by omega) (by omega)
theorem bounded_any (x : Int) (w : World) : Calls Tryd.prog 28 #[.int .i64 x] w fun r w' => r = .returned (.bool (inGreat x)) ∧ w = w' := by
  by_cases h : x < 0
  · rw [great_no (.inl h)]
    have q : decide (0 ≤ x) = false := by simpa using h
    clear h
    go_enter Tryd.func28, Tryd.ntmps28
    go_wp2
    go_ret
    exact ⟨rfl, rfl⟩
  · by_cases h2 : 1099511627776 < x
    · rw [great_no (.inr h2)]
      have q1 : (0 : Int) ≤ x := by omega
      have q2 : decide (x ≤ 1099511627776) = false := by simp; omega
      clear h h2
      go_enter Tryd.func28, Tryd.ntmps28
      go_wp2
      go_ret
      exact ⟨rfl, rfl⟩
    · rw [great_yes (x := x) (by omega) (by omega)]
      have q1 : (0 : Int) ≤ x := by omega
      have q2 : x ≤ (1099511627776 : Int) := by omega
      have q3 : decide (x ≤ 1099511627776) = true := by simpa using q2
      clear h h2
      go_enter Tryd.func28, Tryd.ntmps28
      go_wp2
      go_ret
      exact ⟨by first | rfl | simp [q3], rfl⟩

theorem evValidMeta_any (a b c : Int) (w : World) : Calls Tryd.prog 16 #[metaV a b c] w fun r w' => r = .returned (.bool (validM a b c)) ∧ Touch [] w w' := by
  have CA := hid (bounded_any a)
  have CB := hid (bounded_any b)
  have CC := hid (bounded_any c)
  unfold metaV validM
  generalize inGreat c = gc at *
  cases ha : inGreat a
  · rw [ha] at CA
    clear ha
    go_enter Tryd.func16, Tryd.ntmps16
    go_wp2_with fail
    refine (CA.out _).mono ?_
    rintro e w1 ⟨rfl, rfl⟩
    go_wp2
    go_ret
    exact ⟨rfl, (Touch.refl _ _).alloc _⟩
  · rw [ha] at CA
    clear ha
    cases hb : inGreat b
    · rw [hb] at CB
      clear hb
      go_enter Tryd.func16, Tryd.ntmps16
      go_wp2_with fail
      refine (CA.out _).mono ?_
      rintro e w1 ⟨rfl, rfl⟩
      go_wp2_with fail
      refine (CB.out _).mono ?_
      rintro e w1 ⟨rfl, rfl⟩
      go_wp2
      go_ret
      exact ⟨rfl, (Touch.refl _ _).alloc _⟩
    · rw [hb] at CB
      clear hb
      go_enter Tryd.func16, Tryd.ntmps16
      go_wp2_with fail
      refine (CA.out _).mono ?_
      rintro e w1 ⟨rfl, rfl⟩
      go_wp2_with fail
      refine (CB.out _).mono ?_
      rintro e w1 ⟨rfl, rfl⟩
      go_wp2_with fail
      refine (CC.out _).mono ?_
      rintro e w1 ⟨rfl, rfl⟩
      go_wp2
      go_ret
      exact ⟨by simp, (Touch.refl _ _).alloc _⟩
end Go.Proofs.YtepbflcmghkieaaDoor
