/- Plain facts on the bytes that are put and read: no walk. -/
import Derived.Test.YtdjcpdlfapfmkaaGreatInb
namespace Go.Proofs.YtdjcpdlfapfmkaaGreat
set_option maxRecDepth 100000
open Go.RowKit Go.Lib

theorem be_succ (n v : Nat) : be (n + 1) v = be n (v / 256) ++ [UInt8.ofNat v] := by
  unfold be
  rw [List.range_succ, List.map_append, List.map_singleton]
  congr 1
  · apply List.map_congr_left
    intro k hk
    rw [List.mem_range] at hk
    rw [show n + 1 - 1 - k = (n - 1 - k) + 1 by omega, Nat.mul_add, Nat.pow_add, Nat.mul_comm (2 ^ (8 * (n - 1 - k))), ← Nat.div_div_eq_div_mul]
  · simp

theorem val_be : ∀ n v : Nat, val (be n v) = v % 256 ^ n
  | 0, v => by simp [be, val, Nat.mod_one]
  | n + 1, v => by
    have e : 256 ^ (n + 1) = 256 * 256 ^ n := by rw [Nat.pow_succ, Nat.mul_comm]
    rw [be_succ, val_snoc, val_be n (v / 256), UInt8.toNat_ofNat', e, Nat.mod_mul]
    omega

theorem be_val : ∀ l : List UInt8, be l.length (val l) = l := by
  intro l
  suffices h : ∀ (n : Nat) (l : List UInt8), l.length = n → be n (val l) = l from h _ l rfl
  intro n
  induction n with
  | zero => intro l hl; rw [List.eq_nil_of_length_eq_zero hl]; simp [be]
  | succ n ih =>
    intro l hl
    have hne : l ≠ [] := by intro e; subst e; simp at hl
    have hd := List.dropLast_concat_getLast hne
    have hlen : l.dropLast.length = n := by rw [List.length_dropLast]; omega
    have hv : val l = val l.dropLast * 256 + (l.getLast hne).toNat := by
      have := val_snoc l.dropLast (l.getLast hne)
      rw [hd] at this
      exact this
    have hc := (l.getLast hne).toNat_lt
    rw [be_succ, hv, show (val l.dropLast * 256 + (l.getLast hne).toNat) / 256 = val l.dropLast by omega, ih _ hlen]
    conv => rhs; rw [← hd]
    congr 2
    apply UInt8.toNat_inj.1
    rw [UInt8.toNat_ofNat']
    omega

/-- A text that is put into a new one. -/
theorem text_new (l : List UInt8) (h : l.length ≤ 65536) : pText ([], 0) l = (be 4 l.length ++ l, 0) := by
  unfold pText
  rw [if_neg (by omega)]
  simp [pPut]

theorem iTake_bad (st : List UInt8 × Int) (n : Nat) (h : st.2 ≠ 0) : iTake st n = ([], st) := by unfold iTake; rw [if_pos h]
theorem iTake_short (r : List UInt8) (n : Nat) (h : r.length < n) : iTake (r, 0) n = ([], ([], 5)) := by simp [iTake, h]
theorem iTake_good (r : List UInt8) (n : Nat) (h : n ≤ r.length) : iTake (r, 0) n = (r.take n, (r.drop n, 0)) := by simp [iTake]; omega

/-- A text of which something is cut off. -/
theorem text_cut (l : List UInt8) (cut : Nat) (h : l.length ≤ 1000) (hc : cut < l.length + 4) (most : Int) (hm : (l.length : Int) ≤ most) : iText ((be 4 l.length ++ l).take cut, 0) most = ([], ([], 5)) := by
  have hb := be_length 4 l.length
  have hlen : ((be 4 l.length ++ l).take cut).length = cut := by rw [List.length_take, List.length_append, hb]; omega
  by_cases h4 : cut < 4
  · unfold iText
    rw [iTake_short _ 4 (by omega)]
    simp [iTake]
  · have ht : ((be 4 l.length ++ l).take cut).take 4 = be 4 l.length := by
      rw [List.take_take, Nat.min_eq_left (by omega), List.take_append_of_le_length (by omega), List.take_of_length_le (by omega)]
    unfold iText
    rw [iTake_good _ 4 (by omega), ht]
    simp only []
    rw [val_be, Nat.mod_eq_of_lt (by omega), if_neg (by omega), iTake_short _ _ (by rw [List.length_drop]; omega)]
end Go.Proofs.YtdjcpdlfapfmkaaGreat
