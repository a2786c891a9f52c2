/- Plain facts on numbers told in digits and read again: no walk. -/
import Derived.Test.YtepbflcmghkieaaDoorNumber
namespace Go.Proofs.YtepbflcmghkieaaDoor
open Go.RowKit Go.Lib

theorem dig_of (r : Nat) (h : r < 10) : (UInt8.ofNat (48 + r)).toNat = 48 + r := by rw [UInt8.toNat_ofNat']; omega
theorem dec_dig (u : Nat) : ∀ c ∈ decDigits u, isDig c = true := by
  induction u using Nat.strongRecOn with
  | _ u ih =>
    intro c hc
    rw [decDigits] at hc
    split at hc
    · rename_i h
      simp only [List.mem_singleton] at hc
      subst hc
      simp only [isDig, dig_of u h]; simp; omega
    · rename_i h
      simp only [List.mem_append, List.mem_singleton] at hc
      rcases hc with hc | rfl
      · exact ih (u / 10) (by omega) c hc
      · simp only [isDig, dig_of (u % 10) (by omega)]; simp; omega
theorem dv_dec (u : Nat) : dv (decDigits u) = u := by
  induction u using Nat.strongRecOn with
  | _ u ih =>
    rw [decDigits]
    split
    · rename_i h
      simp only [dv, List.foldl_cons, List.foldl_nil, dig_of u h]; omega
    · rename_i h
      rw [dv_snoc, ih (u / 10) (by omega), dig_of (u % 10) (by omega)]; omega
theorem dec_ne (u : Nat) : decDigits u ≠ [] := by
  intro h
  have := decDigits_length u
  have := nDigits_pos u
  rw [h] at *
  simp at *
  omega
theorem dec_head (u : Nat) (h1 : 1 ≤ u) : (decDigits u).head? ≠ some 48 := by
  induction u using Nat.strongRecOn with
  | _ u ih =>
    rw [decDigits]
    split
    · rename_i h
      intro e
      simp only [List.head?_cons, Option.some.injEq] at e
      have := dig_of u h
      rw [e] at this
      simp at this
      omega
    · rename_i h
      have e : ∀ (x y : List UInt8), x ≠ [] → (x ++ y).head? = x.head? := fun x y hx => by cases x with | nil => exact absurd rfl hx | cons a b => rfl
      rw [e _ _ (dec_ne _)]
      exact ih (u / 10) (by omega) (by omega)
theorem ndig_le : ∀ (k u : Nat), u < 10 ^ (k + 1) → nDigits u ≤ k + 1
  | 0, u, h => by rw [nDigits_small (by simpa using h)]; omega
  | k + 1, u, h => by
    by_cases h10 : u < 10
    · rw [nDigits_small h10]; omega
    · rw [nDigits_big h10]
      have := ndig_le k (u / 10) (by rw [Nat.pow_succ] at h; omega)
      omega
theorem dec_short (u : Nat) (h : u < 1000000000000000000) : (decDigits u).length ≤ 18 := by
  rw [decDigits_length]
  exact ndig_le 17 u (by simpa using h)
theorem dec_long (u : Nat) (h : 1000000000000000000 ≤ u) : 19 ≤ (decDigits u).length := by
  rw [decDigits_length]
  have h1 := lt_pow_nDigits u
  rcases Nat.lt_or_ge (nDigits u) 19 with h2 | h2
  · have h3 : 10 ^ nDigits u ≤ 10 ^ 18 := Nat.pow_le_pow_right (by decide) (by omega)
    have h4 : (10 : Nat) ^ 18 = 1000000000000000000 := by decide
    omega
  · exact h2

theorem trim_neg (d : List UInt8) : trimPrefix (45 :: d) [45] = d := by simp [trimPrefix, hasPrefix]
theorem trim_pos (l : List UInt8) (h : l.head? ≠ some 45) : trimPrefix l [45] = l := by
  cases l with
  | nil => simp [trimPrefix, hasPrefix]
  | cons c d =>
    have hc : c ≠ 45 := fun e => h (by rw [e]; rfl)
    simp [trimPrefix, hasPrefix]
    exact fun e => hc e.symm
theorem dec_head45 (u : Nat) : (decDigits u).head? ≠ some 45 := by
  intro h
  have hm := List.mem_of_head? h
  have := dec_dig u 45 hm
  simp [isDig] at this

/-- Digits, read: the number, where there are at most 18. -/
theorem numSpec_itoa (v : Int) (h0 : -999999999999999999 ≤ v) (h1 : v ≤ 999999999999999999) : numSpec (itoa v) = .tuple #[.int .i64 v, .int .i64 0] := by
  unfold itoa
  by_cases hv : v < 0
  · rw [if_pos hv]
    unfold numSpec
    rw [trim_neg]
    have hl := dec_short v.natAbs (by omega)
    have hn := dec_ne v.natAbs
    have hd := dec_head v.natAbs (by omega)
    rw [if_neg, numRes_good (dec_dig _), dv_dec]
    · simp; omega
    · rintro (h | h | ⟨h, _⟩)
      · exact hn (List.eq_nil_of_length_eq_zero (by omega))
      · omega
      · exact hd h
  · rw [if_neg hv]
    unfold numSpec
    rw [trim_pos _ (dec_head45 _)]
    have hl := dec_short v.toNat (by omega)
    have hn := dec_ne v.toNat
    rw [if_neg, numRes_good (dec_dig _), dv_dec]
    · simp; omega
    · rintro (h | h | ⟨h, h'⟩)
      · exact hn (List.eq_nil_of_length_eq_zero (by omega))
      · omega
      · rcases Nat.lt_or_ge v.toNat 1 with h2 | h2
        · apply h'
          rw [show v.toNat = 0 by omega]
          decide +kernel
        · exact dec_head _ h2 h
theorem numSpec_long (v : Int) (h : v < -999999999999999999 ∨ 999999999999999999 < v) : numSpec (itoa v) = .tuple #[.int .i64 0, .int .i64 1] ∧ 19 ≤ (itoa v).length := by
  unfold itoa
  by_cases hv : v < 0
  · rw [if_pos hv]
    have hl := dec_long v.natAbs (by omega)
    unfold numSpec
    rw [trim_neg, if_pos (.inr (.inl (by omega)))]
    exact ⟨rfl, by simp; omega⟩
  · rw [if_neg hv]
    have hl := dec_long v.toNat (by omega)
    unfold numSpec
    rw [trim_pos _ (dec_head45 _), if_pos (.inr (.inl (by omega)))]
    exact ⟨rfl, by omega⟩
theorem itoa_ne (v : Int) : itoa v ≠ [] := by
  unfold itoa
  split
  · simp
  · exact dec_ne _

theorem numSpec_nought (v : Int) : numSpec (48 :: itoa v) = .tuple #[.int .i64 0, .int .i64 1] := by
  unfold numSpec
  rw [trim_pos _ (by simp), if_pos (.inr (.inr ⟨rfl, fun e => itoa_ne v (by simpa using e)⟩))]
theorem numSpec_badByte (l : List UInt8) (c : UInt8) (hc : isDig c = false) (h45 : c ≠ 45) (hm : c ∈ l) : numSpec l = .tuple #[.int .i64 0, .int .i64 1] := by
  have hm2 : c ∈ trimPrefix l [45] := by
    unfold trimPrefix
    split
    · cases l with
      | nil => simp at hm
      | cons a d =>
        rename_i h
        have ha : 45 = a := by simpa [hasPrefix] using h
        subst ha
        simpa [h45] using hm
    · exact hm
  unfold numSpec
  split
  · rfl
  · unfold numRes
    rw [if_neg]
    intro h
    have := h c hm2
    rw [hc] at this
    cases this
theorem numSpec_plus (v : Int) : numSpec (43 :: itoa v) = .tuple #[.int .i64 0, .int .i64 1] := numSpec_badByte _ 43 (by decide) (by decide) (by simp)
theorem numSpec_blank (v : Int) : numSpec (itoa v ++ [32]) = .tuple #[.int .i64 0, .int .i64 1] := numSpec_badByte _ 32 (by decide) (by decide) (by simp)
theorem itoa_len (v : Int) (h0 : -9223372036854775808 ≤ v) (h1 : v ≤ 9223372036854775807) : (itoa v).length ≤ 21 := by
  have h : ∀ u : Nat, u ≤ 9223372036854775808 → (decDigits u).length ≤ 20 := fun u hu => by
    rw [decDigits_length]
    exact ndig_le 19 u (by have h4 : (10 : Nat) ^ (19 + 1) = 100000000000000000000 := by decide
                           omega)
  unfold itoa
  split
  · have := h v.natAbs (by omega)
    simp; omega
  · have := h v.toNat (by omega)
    omega
end Go.Proofs.YtepbflcmghkieaaDoor
