/- What frame's open tells, as plain lists: First and Last by it. -/
import Derived.Test.YtmaainnfflapiaaFr8
namespace Go.Proofs.Ytmaainnfflapiaa
open Go.RowKit Go.Lib
set_option maxRecDepth 100000

def openOf (l : List UInt8) : List UInt8 × Nat × Int :=
  if l.take 4 ≠ l.drop (l.length - 4) then ([], 0, 6)
  else if (l.drop 4).take 4 ≠ be 4 (crc (l.take 4 ++ (l.drop 8).take (l.length - 12))) then ([], 0, 7)
  else ((l.drop 8).take (l.length - 12), l.length, 0)

theorem val_same {a b : List UInt8} (ha : a.length = 4) (hb : b.length = 4) : val a = val b ↔ a = b := by
  constructor
  · intro h
    rw [← be_val a, ← be_val b, h, ha, hb]
  · intro h; rw [h]
theorem four_parts (c : List UInt8) (n : Nat) : c = c.take 4 ++ ((c.drop 4).take 4 ++ ((c.drop 8).take n ++ c.drop (n + 8))) := by
  have e1 : c.drop 8 = (c.drop 4).drop 4 := by rw [List.drop_drop]
  have e2 : c.drop (n + 8) = (c.drop 8).drop n := by rw [List.drop_drop, Nat.add_comm]
  rw [e2, List.take_append_drop, e1, List.take_append_drop, List.take_append_drop]
theorem first_open {b : List UInt8} {n : Nat} (hn : n = val (b.take 4)) (h1 : ¬ 4000 < n) (h2 : n + 12 ≤ b.length) : firstOf b = openOf (b.take (n + 12)) := by
  obtain ⟨c, hc⟩ : ∃ c, c = b.take (n + 12) := ⟨_, rfl⟩
  have hcl : c.length = n + 12 := by rw [hc, List.length_take]; omega
  have e4 : b.take 4 = c.take 4 := by rw [hc, List.take_take, Nat.min_eq_left (by omega)]
  have e8 : (b.drop (8 + n)).take 4 = c.drop (n + 8) := by rw [hc, List.drop_take, show n + 12 - (n + 8) = 4 by omega, Nat.add_comm]
  have eb : (b.drop 8).take n = (c.drop 8).take n := by rw [hc, List.drop_take, List.take_take, Nat.min_eq_left (by omega)]
  have l4 : (c.take 4).length = 4 := by rw [List.length_take]; omega
  have l8 : (c.drop (n + 8)).length = 4 := by rw [List.length_drop]; omega
  have l44 : ((c.drop 4).take 4).length = 4 := by rw [List.length_take, List.length_drop]; omega
  have lb : ((c.drop 8).take n).length = n := by rw [List.length_take, List.length_drop]; omega
  rw [← hc]
  unfold firstOf openOf
  rw [← hn, if_neg (by omega), if_neg h1, if_neg (by omega), e8, eb, ← hc, hcl, show n + 12 - 4 = n + 8 by omega, show n + 12 - 12 = n by omega]
  rw [e4] at hn
  by_cases h : c.take 4 = c.drop (n + 8)
  · have hbe : be 4 n = c.take 4 := by
      have e := be_val (c.take 4)
      rw [l4, ← hn] at e
      exact e
    have hfr : frL ((c.drop 8).take n) = c.take 4 ++ (be 4 (crc (c.take 4 ++ (c.drop 8).take n)) ++ ((c.drop 8).take n ++ c.drop (n + 8))) := by
      unfold frL
      rw [lb, hbe, ← h]
    have q1 : ¬ val (c.drop (n + 8)) ≠ n := by rw [← h, hn]; simp
    have q2 : ¬ c.take 4 ≠ c.drop (n + 8) := by simpa using h
    rw [if_neg q1, if_neg q2]
    by_cases h7 : (c.drop 4).take 4 = be 4 (crc (c.take 4 ++ (c.drop 8).take n))
    · have q3 : ¬ frL ((c.drop 8).take n) ≠ c := by rw [hfr, ← h7, ← four_parts c n]; simp
      have q4 : ¬ (c.drop 4).take 4 ≠ be 4 (crc (c.take 4 ++ (c.drop 8).take n)) := by simpa using h7
      rw [if_neg q3, if_neg q4]
    · have q3 : frL ((c.drop 8).take n) ≠ c := by
        intro e
        rw [hfr] at e
        have e3 := List.append_cancel_left (e.trans (four_parts c n))
        exact h7 (List.append_inj_left e3 (by rw [be_length, l44])).symm
      rw [if_pos q3, if_pos h7]
  · rw [if_pos (fun e => h (((val_same l8 l4).1 (e.trans hn)).symm)), if_pos h]
theorem last_open {b : List UInt8} {n : Nat} (hn : n = val (b.drop (b.length - 4))) (h1 : ¬ 4000 < n) (h2 : n + 12 ≤ b.length) : lastOf b = openOf (b.drop (b.length - (n + 12))) := by
  obtain ⟨c, hc⟩ : ∃ c, c = b.drop (b.length - (n + 12)) := ⟨_, rfl⟩
  have hcl : c.length = n + 12 := by rw [hc, List.length_drop]; omega
  have e8 : c.drop (n + 8) = b.drop (b.length - 4) := by rw [hc, List.drop_drop]; congr 1; omega
  have l4 : (c.take 4).length = 4 := by rw [List.length_take]; omega
  have l8 : (c.drop (n + 8)).length = 4 := by rw [List.length_drop]; omega
  have hd : b.length - n - 12 = b.length - (n + 12) := by omega
  unfold lastOf
  rw [← hn, if_neg (by omega), if_neg h1, if_neg (by omega), hd, ← hc]
  rw [← e8] at hn
  by_cases h : val (c.take 4) = n
  · rw [if_neg (by simpa using h), first_open h.symm h1 (by omega), List.take_of_length_le (by omega)]
  · rw [if_pos h]
    unfold openOf
    rw [if_pos (by
      intro e
      rw [hcl, show n + 12 - 4 = n + 8 by omega] at e
      exact h ((congrArg val e).trans hn.symm))]
end Go.Proofs.Ytmaainnfflapiaa
