/- What Text tells is read by Parse as it was; RealBack, walked. -/
import Derived.Test.YtiglfdefeaddmaaParse
import Derived.Test.YtiglfdefeaddmaaSum
namespace Go.Proofs.Ytiglfdefeaddmaa
open Go.RowKit Go.Lib

/-- The last n hexadecimal digits. -/
def hexn (n b : Nat) : List UInt8 := (List.range n).map fun i => UInt8.ofNat (hexC (hexD b (n - 1 - i)))
theorem hexn_len (n b : Nat) : (hexn n b).length = n := by simp [hexn]
theorem hexs_eq (b : Nat) : hexs b = hexn 16 b := rfl
theorem hexn_succ (n b : Nat) : hexn (n + 1) b = hexn n (b / 16) ++ [UInt8.ofNat (hexC (b % 16))] := by
  unfold hexn
  rw [List.range_succ, List.map_append, List.map_singleton]
  congr 1
  · apply List.map_congr_left
    intro k hk
    rw [List.mem_range] at hk
    unfold hexD
    rw [show n + 1 - 1 - k = (n - 1 - k) + 1 by omega, Nat.pow_succ, Nat.mul_comm, ← Nat.div_div_eq_div_mul]
  · unfold hexD
    simp
theorem hexC_nat (d : Nat) (h : d < 16) : (UInt8.ofNat (hexC d)).toNat = hexC d := by
  have := hexC_byte d h
  omega
theorem hexV_C (d : Nat) (h : d < 16) : hexV (UInt8.ofNat (hexC d)).toNat = d := by
  rw [hexC_nat d h]
  unfold hexV hexC
  split <;> split <;> (try split) <;> omega
theorem hv_hexn : ∀ n b : Nat, hv (hexn n b) = b % 16 ^ n
  | 0, b => by simp [hexn, hv, Nat.mod_one]
  | n + 1, b => by
    have h := hexV_C (b % 16) (by omega)
    rw [hexn_succ, hv_snoc, hv_hexn n (b / 16), h, Nat.pow_succ, Nat.mul_comm (16 ^ n) 16, Nat.mod_mul]
    omega
theorem isHex_hexn (n b : Nat) : ∀ c ∈ hexn n b, isHex c = true := by
  intro c hc
  unfold hexn at hc
  rw [List.mem_map] at hc
  obtain ⟨i, _, rfl⟩ := hc
  unfold isHex
  rw [hexV_C _ (hexD_lt _ _)]
  simp
theorem hv_hexs {b : Nat} (h : Wd b) : hv (hexs b) = b ∧ unhexOk (hexs b) := by
  refine ⟨?_, hexn_len 16 b, isHex_hexn 16 b⟩
  rw [hexs_eq, hv_hexn]
  exact Nat.mod_eq_of_lt h

theorem itoa_head (v : Int) : ∃ c d, itoa v = c :: d ∧ (c = 45 ∨ isDig c = true) ∧ (∀ x ∈ d, isDig x = true) ∧ (c = 45 → d = decDigits v.natAbs ∧ v < 0) := by
  unfold itoa
  split
  · exact ⟨45, _, rfl, .inl rfl, dec_dig _, fun _ => ⟨rfl, by omega⟩⟩
  · have hd := dec_dig v.toNat
    cases h : decDigits v.toNat with
    | nil => exact absurd h (dec_ne _)
    | cons c d =>
      rw [h] at hd
      refine ⟨c, d, rfl, .inr (hd c (by simp)), fun x hx => hd x (by simp [hx]), fun e => ?_⟩
      subst e
      have := hd 45 (by simp)
      simp [isDig] at this
theorem itoa_len16 (v : Int) (h : v.natAbs < 1000000000000000) : (itoa v).length ≤ 16 := by
  have h : ∀ u : Nat, u < 1000000000000000 → (decDigits u).length ≤ 15 := fun u hu => by
    rw [decDigits_length]
    exact ndig_le 14 u (by simpa using hu)
  unfold itoa
  split
  · have := h v.natAbs (by omega)
    simp; omega
  · have := h v.toNat (by omega)
    omega
/-- Digits are read as they were told. -/
theorem parse_itoa (v : Int) (h : v.natAbs < 1000000000000000) : parseOf (itoa v) = (fl v, 0) := by
  obtain ⟨c, d, e, hc, hd, h45⟩ := itoa_head v
  have hs := numP_of (numSpec_itoa v (by omega) (by omega))
  have e1 : itoa v ≠ [110, 97, 110] := by
    rw [e]; intro h; simp at h
    rcases hc with hc | hc
    · rw [hc] at h; simp at h
    · rw [h.1] at hc; simp [isDig] at hc
  have e2 : itoa v ≠ [45, 105, 110, 102] := by
    rw [e]; intro h; simp at h
    have := hd 105 (by rw [h.2]; simp)
    simp [isDig] at this
  have e3 : itoa v ≠ [105, 110, 102] := by
    rw [e]; intro h; simp at h
    rcases hc with hc | hc
    · rw [hc] at h; simp at h
    · rw [h.1] at hc; simp [isDig] at hc
  have e4 : itoa v ≠ [45, 48] := by
    rw [e]; intro h; simp at h
    obtain ⟨h1, h2⟩ := h45 h.1
    have := dec_head v.natAbs (by omega)
    rw [← h1, h.2] at this
    simp at this
  have e5 : ¬ hasPrefix (itoa v) [120] = true := by
    rw [e]
    simp [hasPrefix]
    rintro rfl
    rcases hc with hc | hc
    · simp at hc
    · simp [isDig] at hc
  unfold parseOf
  rw [if_neg e1, if_neg e2, if_neg e3, if_neg e4, if_neg e5, hs]
  rw [if_neg (by simp; omega)]
theorem parse_hex {b : Nat} (h : Wd b) : parseOf (120 :: hexs b) = (can b, 0) := by
  obtain ⟨h1, h2⟩ := hv_hexs h
  have ht : trimPrefix (120 :: hexs b) [120] = hexs b := by simp [trimPrefix, hasPrefix]
  unfold parseOf
  rw [if_neg (by simp), if_neg (by simp), if_neg (by simp), if_neg (by simp), if_pos (by simp [hasPrefix]), ht, if_pos h2, h1]

theorem cls_zero (b : Nat) (hb : Wd b) : (cls b == 0) = isNan b := by
  by_cases h : isNan b = true
  · rw [h]; unfold cls; rw [if_pos h]; rfl
  · have h2 := isNan_false b h
    rw [h2]
    unfold cls
    rw [if_neg h]
    have hf := sr_facts b hb.lt
    split
    · rfl
    · split
      · rfl
      · split
        · rfl
        · split
          · rfl
          · split <;> rfl
set_option maxHeartbeats 2000000 in
theorem cls_parts (b : Nat) (hb : Wd b) : (cls b = 0 → isNan b = true) ∧ (cls b = 1 → b = 18442240474082181120) ∧ (cls b = 6 → b = 9218868437227405312) ∧ (cls b = 3 → b = 9223372036854775808) ∧ (b = 9223372036854775808 → cls b = 3) := by
  have hf := sr_facts b hb.lt
  have := hb.lt
  refine ⟨?_, ?_, ?_, ?_, by rintro rfl; decide⟩
  · intro h
    have := cls_zero b hb
    rw [h] at this
    exact this.symm
  all_goals
    unfold cls
    split
    · intro h; simp at h
    · split
      · first | (intro h; simp at h; done) | (intro; assumption)
      · split
        · first | (intro h; simp at h; done) | (intro; assumption)
        · split
          · intro h; simp at h
          · split
            · intro h; simp at h
            · split
              · rename_i q1 q2 q3
                rw [hf.2.2] at q3
                rw [hf.1] at q1
                rw [hf.2.1] at q2
                first | (intro h; simp at h; done) | (intro; omega)
              · intro h; simp at h
/-- Parse of Text is the same number. -/
theorem parse_text (b : Nat) (hb : Wd b) : parseOf (textOf b) = (can b, 0) ∧ 1 ≤ (textOf b).length ∧ (textOf b).length ≤ 17 := by
  obtain ⟨c0, c1, c6, c3, c3'⟩ := cls_parts b hb
  unfold textOf
  split
  · rename_i h
    rw [can_nan (c0 h)]
    exact ⟨rfl, by decide, by decide⟩
  rename_i h0
  split
  · rename_i h
    rw [c1 h]
    exact ⟨by decide, by decide, by decide⟩
  rename_i h1
  split
  · rename_i h
    rw [c6 h]
    exact ⟨by decide, by decide, by decide⟩
  rename_i h6
  split
  · rename_i h
    rw [c3 h]
    exact ⟨by decide, by decide, by decide⟩
  rename_i h3
  obtain ⟨hf, hn⟩ := cls_fin hb h0 h1 h6
  split
  · rename_i hw
    have hw2 := (isW_iff b hb.lt hf).1 hw
    have hv : (ival b).natAbs < 1000000000000000 := by rw [ival_abs]; exact hw2.2
    rw [parse_itoa _ hv, fl_ival b hb.lt hw2 (fun e => h3 (c3' e)), can_num hn]
    have h16 := itoa_len16 _ hv
    have hne := itoa_ne (ival b)
    exact ⟨rfl, List.length_pos_iff.2 hne, by omega⟩
  · rw [parse_hex hb.can, can_can]
    have hl := hexn_len 16 (can b)
    rw [← hexs_eq] at hl
    exact ⟨rfl, by simp, by simp [hl]⟩
theorem text_can (a b : Nat) (ha : Wd a) (hb : Wd b) : textOf a = textOf b ↔ can a = can b := by
  constructor
  · intro h
    have h1 := (parse_text a ha).1
    rw [h, (parse_text b hb).1] at h1
    exact (congrArg Prod.fst h1).symm
  · intro h
    have hn := can_eq_nan h
    by_cases h1 : isNan a = true
    · have z1 : cls a = 0 := by unfold cls; rw [if_pos h1]
      have z2 : cls b = 0 := by unfold cls; rw [if_pos (by rw [← hn]; exact h1)]
      unfold textOf
      rw [if_pos z1, if_pos z2]
    · have h2 := isNan_false a h1
      rw [can_num h2, can_num (by rw [← hn]; exact h2)] at h
      rw [h]

end Go.Proofs.Ytiglfdefeaddmaa
