/- Whole numbers among the numbers of 64 bits: which they are, and what goes from int and back: no walk. -/
import Derived.Test.YtiglfdefeaddmaaFloats
import Derived.Laws.FloatArith
namespace Go.Proofs.Ytiglfdefeaddmaa
open Ieee Go.RowKit

/-- The rung of a whole number. -/
def nr (n : Nat) : Nat := DD.nearest false n 0
theorem nr_spec (n : Nat) (h : n ≤ 9007199254740992) : mv (nr n) = n * U ∧ nr n < 9218868437227405312 := by
  obtain ⟨r, h1, h2, h3⟩ := near false n h
  have e : nr n = r := h1
  rw [e]
  exact ⟨h2, h3⟩
theorem nearest_eq (s : Bool) (n : Nat) (h : n ≤ 9007199254740992) : DD.nearest s n 0 = DD.word s (nr n) := by
  obtain ⟨r, h1, h2, _⟩ := near s n h
  rw [h1, mv_inj (h2.trans (nr_spec n h).1.symm)]
theorem nr_lt_iff {m n : Nat} (hm : m ≤ 9007199254740992) (hn : n ≤ 9007199254740992) : nr m < nr n ↔ m < n := by
  rw [← mv_lt_iff, (nr_spec m hm).1, (nr_spec n hn).1]
  exact Nat.mul_lt_mul_right U_pos
theorem nr_inj {m n : Nat} (hm : m ≤ 9007199254740992) (hn : n ≤ 9007199254740992) (h : nr m = nr n) : m = n := by
  rcases Nat.lt_trichotomy m n with h2 | h2 | h2
  · have := (nr_lt_iff hm hn).2 h2; omega
  · exact h2
  · have := (nr_lt_iff hn hm).2 h2; omega
theorem nr_zero : nr 0 = 0 := by decide

/-- 'float64(v)'. -/
def fl (v : Int) : Nat := floatOfInt .f64 v
theorem fl_eq (v : Int) (h : v.natAbs ≤ 9007199254740992) : fl v = DD.word (decide (v < 0)) (nr v.natAbs) := nearest_eq _ _ h
theorem fl_parts (v : Int) (h : v.natAbs ≤ 9007199254740992) : fl v < 18446744073709551616 ∧ neg (fl v) = decide (v < 0) ∧ rung (fl v) = nr v.natAbs ∧ isNan (fl v) = false ∧ rung (fl v) < 9218868437227405312 := by
  have h2 := (nr_spec _ h).2
  rw [fl_eq v h]
  obtain ⟨a, b, c⟩ := word_parts (decide (v < 0)) (nr v.natAbs) (by omega)
  refine ⟨a, b, c, ?_, by rw [c]; exact h2⟩
  unfold isNan
  rw [c]
  simp; omega
theorem fl_zero : fl 0 = 0 := by decide

/-- The int of what stands ahead of the point. -/
noncomputable def ival (b : Nat) : Int := sgn (neg b) (tr (rung b))
/-- 'math.Trunc'. -/
def trB (b : Nat) : Nat := FloatKind.f64.encode ((FloatKind.f64.decode b).integral .zero)
/-- A whole number of at most 15 digits. -/
def W (b : Nat) : Prop := mv (rung b) = tr (rung b) * U ∧ tr (rung b) < 1000000000000000
/-- Text's question. -/
def isW (b : Nat) : Bool := FloatKind.f64.format.order b (trB b) == some .eq && FloatKind.f64.format.order (rung b) 4831355200913801216 == some .lt

theorem rung_parts (b : Nat) : rung b < 9223372036854775808 ∧ rung (rung b) = rung b ∧ neg (rung b) = false := by
  unfold rung neg
  refine ⟨by omega, by omega, by simp; omega⟩
theorem tr_lt (r n : Nat) : tr r < n ↔ mv r < n * U := Nat.div_lt_iff_lt_mul U_pos
theorem small (b : Nat) (hf : rung b < 9218868437227405312) : (FloatKind.f64.format.order (rung b) 4831355200913801216 == some .lt) = decide (tr (rung b) < 1000000000000000) := by
  have h1 := rung_parts b
  have hn : isNan (rung b) = false := by unfold isNan; rw [h1.2.1]; simp; omega
  have e := lt_eq (b := rung b) (c := 4831355200913801216) (by omega) (by decide) hn (by decide)
  have e2 : nr 1000000000000000 = 4831355200913801216 := by decide +kernel
  refine e.trans ?_
  rw [decide_eq_decide, tr_lt, ← (nr_spec 1000000000000000 (by decide)).1, mv_lt_iff, e2]
  unfold sr
  rw [h1.2.2, h1.2.1, show neg 4831355200913801216 = false by decide, show rung 4831355200913801216 = 4831355200913801216 by decide]
  simp
  omega
theorem trB_eq (b : Nat) (hb : b < 18446744073709551616) (hf : rung b < 9218868437227405312) (h : tr (rung b) ≤ 9007199254740992) : trB b = DD.word (neg b) (nr (tr (rung b))) := by
  unfold trB
  rw [show FloatKind.f64.decode b = DD.read b from rfl, trunc_eq b hb hf]
  exact nearest_eq _ _ h
theorem sr_word (s : Bool) (r : Nat) (h : r < 9223372036854775808) : sr (DD.word s r) = sgn s r := by
  obtain ⟨_, h1, h2⟩ := word_parts s r h
  unfold sr sgn
  rw [h1, h2]
theorem sgn_inj (s : Bool) (m n : Nat) : sgn s m = sgn s n ↔ m = n := by
  unfold sgn
  cases s <;> simp <;> omega
theorem word_num (s : Bool) (r : Nat) (h : r < 9218868437227405312) : DD.word s r < 18446744073709551616 ∧ isNan (DD.word s r) = false := by
  obtain ⟨h0, _, h2⟩ := word_parts s r (by omega)
  refine ⟨h0, ?_⟩
  unfold isNan
  rw [h2]
  simp; omega
theorem fin_num {b : Nat} (hf : rung b < 9218868437227405312) : isNan b = false := by unfold isNan; simp; omega
theorem isW_iff (b : Nat) (hb : b < 18446744073709551616) (hf : rung b < 9218868437227405312) : isW b = true ↔ W b := by
  unfold isW W
  rw [small b hf]
  by_cases ht : tr (rung b) < 1000000000000000
  · rw [decide_eq_true ht, Bool.and_true, trB_eq b hb hf (by omega)]
    have hs := nr_spec (tr (rung b)) (by omega)
    have hw := word_num (neg b) _ hs.2
    have e := eq_eq hb hw.1 (fin_num hf) hw.2
    rw [show (FloatKind.f64.format) = DD from rfl, e, decide_eq_true_eq, sr_word _ _ (by omega)]
    rw [show sr b = sgn (neg b) (rung b) from rfl, sgn_inj]
    constructor
    · intro h
      exact ⟨(congrArg mv h).trans hs.1, ht⟩
    · intro h
      exact mv_inj (h.1.trans hs.1.symm)
  · rw [decide_eq_false ht, Bool.and_false]
    constructor
    · intro h; cases h
    · intro h; exact absurd h.2 ht

theorem ival_abs (b : Nat) : (ival b).natAbs = tr (rung b) := by unfold ival sgn; split <;> omega
theorem toInt_ival (b : Nat) (hb : b < 18446744073709551616) (hf : rung b < 9218868437227405312) (h : tr (rung b) ≤ 9007199254740992) : floatToIntVal .f64 b .i64 = some (ival b) := by
  unfold floatToIntVal
  rw [show FloatKind.f64.decode b = DD.read b from rfl, toInt_eq b hb hf]
  show (if _ then some (ival b) else none) = _
  have := ival_abs b
  have e1 : IntKind.i64.min = -9223372036854775808 := rfl
  have e2 : IntKind.i64.max = 9223372036854775807 := rfl
  rw [if_pos]
  rw [e1, e2]
  unfold ival at *
  omega
/-- A whole number goes to int and back, but for the nought below nought. -/
theorem fl_ival (b : Nat) (hb : b < 18446744073709551616) (hw : W b) (hz : b ≠ 9223372036854775808) : fl (ival b) = b := by
  have ha := ival_abs b
  have ht := hw.2
  rw [fl_eq _ (by omega), ha]
  have hs := nr_spec (tr (rung b)) (by omega)
  have hr : rung b = nr (tr (rung b)) := mv_inj (hw.1.trans hs.1.symm)
  rw [← hr]
  by_cases h0 : rung b = 0
  · have hb0 : b = 0 := by unfold rung at h0; omega
    rw [hb0]
    have e : ival 0 = 0 := by
      unfold ival tr
      rw [show rung 0 = 0 by decide, show mv 0 = 0 by decide, Nat.zero_div]
      rfl
    rw [e]
    decide
  · have ht0 : tr (rung b) ≠ 0 := by
      intro h
      have := hw.1
      rw [h, Nat.zero_mul] at this
      exact h0 (mv_zero.1 this)
    have hn : decide (ival b < 0) = neg b := by
      unfold ival sgn
      cases neg b <;> simp <;> omega
    rw [hn]
    exact word_of b hb

/-- The laws' own answer's question. -/
noncomputable def refW (b : Nat) : Bool := (FloatKind.f64.format.order b 14054727237768577016 == some .gt || FloatKind.f64.format.order b 14054727237768577016 == some .eq) && (FloatKind.f64.format.order b 4831355200913801208 == some .lt || FloatKind.f64.format.order b 4831355200913801208 == some .eq)
theorem refW_eq (b : Nat) (hb : b < 18446744073709551616) (hf : rung b < 9218868437227405312) : refW b = decide (rung b ≤ 4831355200913801208) := by
  have h1 := ge_eq (b := b) (c := 14054727237768577016) hb (by decide) (fin_num hf) (by decide)
  have h2 := le_eq (b := b) (c := 4831355200913801208) hb (by decide) (fin_num hf) (by decide)
  unfold refW
  rw [show FloatKind.f64.format = DD from rfl, h1, h2, ← Bool.decide_and, decide_eq_decide]
  rw [show sr 14054727237768577016 = -4831355200913801208 by decide, show sr 4831355200913801208 = 4831355200913801208 by decide]
  unfold sr
  cases neg b <;> simp <;> omega
theorem refW_tr (b : Nat) (hb : b < 18446744073709551616) (hf : rung b < 9218868437227405312) (h : refW b = true) : tr (rung b) ≤ 999999999999999 := by
  rw [refW_eq b hb hf, decide_eq_true_eq] at h
  have e2 : nr 999999999999999 = 4831355200913801208 := by decide +kernel
  have h3 := nr_spec 999999999999999 (by decide)
  rw [e2] at h3
  have h4 : mv (rung b) ≤ 999999999999999 * U := by
    rw [← h3.1]
    rcases Nat.lt_or_ge (rung b) 4831355200913801208 with h5 | h5
    · exact Nat.le_of_lt (mv_lt h5)
    · rw [show rung b = 4831355200913801208 by omega]; exact Nat.le_refl _
  have h5 : tr (rung b) < 1000000000000000 := by
    rw [tr_lt]
    refine Nat.lt_of_le_of_lt h4 ?_
    exact Nat.mul_lt_mul_of_pos_right (by decide) U_pos
  omega
theorem refW_iff (b : Nat) (hb : b < 18446744073709551616) (hf : rung b < 9218868437227405312) : W b ↔ (refW b = true ∧ (FloatKind.f64.format.order (fl (ival b)) b == some .eq) = true) := by
  have ha := ival_abs b
  have hq : tr (rung b) ≤ 999999999999999 → ((FloatKind.f64.format.order (fl (ival b)) b == some .eq) = true ↔ mv (rung b) = tr (rung b) * U) := fun h => by
    have hp := fl_parts (ival b) (by omega)
    have e := eq_eq hp.1 hb hp.2.2.2.1 (fin_num hf)
    have hs := nr_spec (tr (rung b)) (by omega)
    rw [show FloatKind.f64.format = DD from rfl, e, decide_eq_true_eq]
    have e1 : sr (fl (ival b)) = sgn (neg b) (nr (tr (rung b))) := by
      unfold sr sgn
      rw [hp.2.1, hp.2.2.1, ha]
      by_cases h0 : tr (rung b) = 0
      · rw [h0, nr_zero]; simp
      · have hn : decide (ival b < 0) = neg b := by
          unfold ival sgn
          cases neg b <;> simp <;> omega
        rw [hn]
    rw [e1, show sr b = sgn (neg b) (rung b) from rfl, sgn_inj]
    constructor
    · intro h2
      rw [← hs.1]; exact congrArg mv h2.symm
    · intro h2
      exact mv_inj (hs.1.trans h2.symm)
  constructor
  · intro hw
    have hw2 := hw.2
    refine ⟨?_, (hq (by omega)).2 hw.1⟩
    rw [refW_eq b hb hf, decide_eq_true_eq]
    have e2 : nr 999999999999999 = 4831355200913801208 := by decide +kernel
    have h3 := nr_spec 999999999999999 (by decide)
    rw [e2] at h3
    rcases Nat.lt_or_ge 4831355200913801208 (rung b) with h5 | h5
    · have h6 := mv_lt h5
      rw [h3.1, hw.1] at h6
      have h7 := (Nat.mul_lt_mul_right U_pos).1 h6
      omega
    · exact h5
  · rintro ⟨h1, h2⟩
    have ht := refW_tr b hb hf h1
    exact ⟨(hq ht).1 h2, by omega⟩
end Go.Proofs.Ytiglfdefeaddmaa
