/- A table's bytes, read: the pure side. -/
import Derived.Test.YtdjcpdlfapfmkaaGreatBu13
import Derived.Test.YtdjcpdlfapfmkaaGreatFacts
namespace Go.Proofs.YtdjcpdlfapfmkaaGreat
open Go.RowKit Go.Lib
set_option maxRecDepth 100000

def decE (r : List UInt8) : En := (wrap64 (val (r.take 8)), wrap64 (val ((r.drop 8).take 8)), wrap64 (val ((r.drop 16).take 8)))
def decs (n : Nat) (r : List UInt8) : List En := (List.range n).map fun k => decE (r.drop (24 * k))
theorem decs_len (n : Nat) (r : List UInt8) : (decs n r).length = n := by simp [decs]
theorem decs_snoc (n : Nat) (r : List UInt8) : decs (n + 1) r = decs n r ++ [decE (r.drop (24 * n))] := by simp [decs, List.range_succ]
theorem decs_cons (n : Nat) (r : List UInt8) : decs (n + 1) r = decE r :: decs n (r.drop 24) := by
  unfold decs
  rw [List.range_succ_eq_map, List.map_cons, List.map_map]
  congr 1
  apply List.map_congr_left
  intro k _
  show decE (r.drop (24 * (k + 1))) = decE ((r.drop 24).drop (24 * k))
  rw [List.drop_drop]
  congr 2
  omega
theorem word_back {x : List UInt8} (h : x.length = 8) : be 8 (wordOf (wrap64 (val x))) = x := by
  have hv := val_lt x
  rw [h] at hv
  have e : wordOf (wrap64 (val x : Int)) = val x := by
    unfold wordOf wrap64
    omega
  rw [e, ← h]
  exact be_val x
theorem enB_dec {r : List UInt8} (h : 24 ≤ r.length) : enB (decE r) = r.take 24 := by
  unfold enB decE
  simp only []
  rw [word_back (by rw [List.length_take]; omega), word_back (by rw [List.length_take, List.length_drop]; omega), word_back (by rw [List.length_take, List.length_drop]; omega)]
  have e1 : r.take 24 = r.take 8 ++ ((r.drop 8).take 8 ++ (r.drop 16).take 8) := by
    rw [show (24 : Nat) = 8 + 16 from rfl, List.take_add, show (16 : Nat) = 8 + 8 from rfl, List.take_add, List.drop_drop]
  rw [e1]
theorem ens_dec : ∀ (n : Nat) (r : List UInt8), r.length = 24 * n → ensB (decs n r) = r
  | 0, r, h => by
    have : r = [] := List.eq_nil_of_length_eq_zero (by omega)
    subst this; rfl
  | n + 1, r, h => by
    rw [decs_cons, ensB, enB_dec (by omega), ens_dec n (r.drop 24) (by rw [List.length_drop]; omega), List.take_append_drop]
theorem val_be8 (v : Nat) (h : v < 18446744073709551616) : val (be 8 v) = v := by rw [val_be]; exact Nat.mod_eq_of_lt h
theorem word_fore {v : Int} (h0 : 0 ≤ v) (h1 : v ≤ 1099511627776) : wrap64 (val (be 8 (wordOf v))) = v := by
  have e : wordOf v = v.toNat := by unfold wordOf; omega
  rw [e, val_be8 _ (by omega)]
  unfold wrap64
  omega
theorem dec_enB {e : En} (h : okM e) (t : List UInt8) : decE (enB e ++ t) = e := by
  obtain ⟨e1, e2, e3⟩ := e
  unfold okM at h
  simp only at h
  unfold enB decE
  simp only [List.append_assoc]
  have l1 : (be 8 (wordOf e1)).length = 8 := be_length _ _
  have l2 : (be 8 (wordOf e2)).length = 8 := be_length _ _
  have l3 : (be 8 (wordOf e3)).length = 8 := be_length _ _
  have t1 : (be 8 (wordOf e1) ++ (be 8 (wordOf e2) ++ (be 8 (wordOf e3) ++ t))).take 8 = be 8 (wordOf e1) := List.take_left' l1
  have d1 : (be 8 (wordOf e1) ++ (be 8 (wordOf e2) ++ (be 8 (wordOf e3) ++ t))).drop 8 = be 8 (wordOf e2) ++ (be 8 (wordOf e3) ++ t) := List.drop_left' l1
  have d2 : (be 8 (wordOf e1) ++ (be 8 (wordOf e2) ++ (be 8 (wordOf e3) ++ t))).drop 16 = be 8 (wordOf e3) ++ t := by
    rw [show (16 : Nat) = 8 + 8 from rfl, ← List.drop_drop, d1, List.drop_left' l2]
  rw [t1, d1, d2, List.take_left' l2, List.take_left' l3, word_fore h.1.1 h.1.2, word_fore h.2.1.1 h.2.1.2, word_fore h.2.2.1 h.2.2.2]
theorem dec_ens : ∀ {l : List En}, OkM l → decs l.length (ensB l) = l
  | [], _ => rfl
  | e :: l, h => by
    rw [List.length_cons, decs_cons, ensB, dec_enB (h e (by simp)), List.drop_left' (enB_len e), dec_ens fun x hx => h x (by simp [hx])]

theorem tabT_list (l : List En) : (tabT l).data.toList = [80, 84, 65, 66] ++ (be 4 l.length ++ ensB l) := by
  unfold tabT ptab laidT
  simp
/-- Which entries' bytes these are. -/
def openL (q : List UInt8) : Option (List En) := if fitE (decs ((q.length - 8) / 24) (q.drop 8)) ∧ q = (tabT (decs ((q.length - 8) / 24) (q.drop 8))).data.toList then some (decs ((q.length - 8) / 24) (q.drop 8)) else none
theorem openL_some {q : List UInt8} {l : List En} (h : openL q = some l) : fitE l ∧ q = (tabT l).data.toList := by
  unfold openL at h
  split at h
  · next hh => cases h; exact hh
  · cases h
theorem openL_tab {l : List En} (h : fitE l) : openL (tabT l).data.toList = some l := by
  have hl : (tabT l).data.toList.length = 8 + 24 * l.length := by rw [list_len, tabT_size]
  have e1 : ((tabT l).data.toList.length - 8) / 24 = l.length := by omega
  have e2 : (tabT l).data.toList.drop 8 = ensB l := by
    rw [tabT_list, show (8 : Nat) = 4 + 4 from rfl, ← List.drop_drop, List.drop_left' (show ([80, 84, 65, 66] : List UInt8).length = 4 from rfl), List.drop_left' (be_length _ _)]
  unfold openL
  rw [e1, e2, dec_ens h.1, if_pos ⟨h, rfl⟩]
theorem openL_none {q : List UInt8} (h : ∀ l, fitE l → q ≠ (tabT l).data.toList) : openL q = none := by
  cases ho : openL q with
  | none => rfl
  | some l => exact absurd (openL_some ho).2 (h l (openL_some ho).1)
/-- What is read of bytes that begin as a table's, and are as many as they say. -/
theorem tab_form {q : List UInt8} {n : Nat} (h1 : q.take 4 = [80, 84, 65, 66]) (h4 : 8 ≤ q.length) (hn : n = val ((q.drop 4).take 4)) (hr : (q.drop 8).length = 24 * n) : q = (tabT (decs n (q.drop 8))).data.toList := by
  rw [tabT_list, ens_dec n _ hr, decs_len]
  have e : be 4 n = (q.drop 4).take 4 := by
    have hl : ((q.drop 4).take 4).length = 4 := by rw [List.length_take, List.length_drop]; omega
    have := be_val ((q.drop 4).take 4)
    rw [hl] at this
    rw [hn]; exact this
  rw [e, ← h1]
  conv => lhs; rw [← List.take_append_drop 4 q, ← List.take_append_drop 4 (q.drop 4), List.drop_drop]
theorem openL_yes {q : List UInt8} {n : Nat} (h1 : q.take 4 = [80, 84, 65, 66]) (h4 : 8 ≤ q.length) (hn : n = val ((q.drop 4).take 4)) (hr : (q.drop 8).length = 24 * n) : openL q = if fitE (decs n (q.drop 8)) then some (decs n (q.drop 8)) else none := by
  have hf := tab_form h1 h4 hn hr
  by_cases h : fitE (decs n (q.drop 8))
  · rw [if_pos h]
    have := openL_tab h
    rwa [← hf] at this
  · rw [if_neg h]
    have e1 : (q.length - 8) / 24 = n := by rw [List.length_drop] at hr; omega
    unfold openL
    rw [e1, if_neg fun hh => h hh.1]
theorem openL_prefix {q : List UInt8} (h1 : q.take 4 ≠ [80, 84, 65, 66]) : openL q = none := openL_none fun l _ h => h1 (by rw [h, tabT_list, List.take_left' (show ([80, 84, 65, 66] : List UInt8).length = 4 from rfl)])
theorem openL_short {q : List UInt8} (h1 : q.length < 8) : openL q = none := openL_none fun l _ h => by
  have := congrArg List.length h
  rw [list_len, tabT_size] at this
  omega
theorem openL_count {q : List UInt8} {n : Nat} (hq : q.length ≤ 1000000) (hn : n = val ((q.drop 4).take 4)) (hr : (q.drop 8).length ≠ 24 * n) : openL q = none := openL_none fun l _ h => by
  have hl := congrArg List.length h
  rw [list_len, tabT_size] at hl
  apply hr
  have e : (q.drop 4).take 4 = be 4 l.length := by
    rw [h, tabT_list, List.drop_left' (show ([80, 84, 65, 66] : List UInt8).length = 4 from rfl), List.take_left' (be_length _ _)]
  rw [hn, e, val_be, Nat.mod_eq_of_lt (by omega), List.length_drop]
  omega
/-- What Open tells: the entries, or none; the error. -/
def openR (b : ByteArray) : Option (List En) × Int :=
  if b.size < 4 then (none, 5) else if b.extract 0 4 = ⟨(four (crc (b.extract 4 b.size).data.toList)).toArray⟩ then (match openL (b.extract 4 b.size).data.toList with | some l => (some l, 0) | none => (none, 6)) else (none, 7)
end Go.Proofs.YtdjcpdlfapfmkaaGreat
