/- Pages one behind the other, as plain lists; append of a list of stored events; alike lists. -/
import Derived.Test.YtmgglmoiepjebaaWPag16
import Derived.Laws.AppendOwnNone
import Derived.StillTailTactics
namespace Go.Proofs.Ytmgglmoiepjebaa
open Go.RowKit Go.Lib Go.ChangeShapes Go.WideShapes Go.Shelf
set_option maxRecDepth 100000

theorem filter_split (p : StoD → Bool) (L : List StoD) (k : Nat) : L.filter p = (L.take k).filter p ++ (L.drop k).filter p := by rw [← List.filter_append, List.take_append_drop]
def atF (L : List StoD) (j : Nat) : Int := if h : 0 < j ∧ j ≤ L.length then (L[j - 1]'(by omega)).position + 1 else 0
theorem atF_zero (L : List StoD) : atF L 0 = 0 := by unfold atF; rw [dif_neg (by omega)]
theorem atF_pos {L : List StoD} {j : Nat} (h0 : 0 < j) (h : j ≤ L.length) : atF L j = (L[j - 1]'(by omega)).position + 1 := by unfold atF; rw [dif_pos ⟨h0, h⟩]
theorem take_lt {L : List StoD} (hR : Rising L) {m : Nat} (hm : m < L.length) : ∀ s ∈ L.take m, s.position < L[m].position := by
  intro s hs
  obtain ⟨i, hi, rfl⟩ := List.getElem_of_mem hs
  rw [List.length_take] at hi
  rw [List.getElem_take]
  exact List.pairwise_iff_getElem.1 hR i m (by omega) hm (by omega)
theorem drop_gt {L : List StoD} (hR : Rising L) {m : Nat} (hm : m < L.length) : ∀ s ∈ L.drop (m + 1), L[m].position < s.position := by
  intro s hs
  obtain ⟨i, hi, rfl⟩ := List.getElem_of_mem hs
  rw [List.length_drop] at hi
  rw [List.getElem_drop]
  exact List.pairwise_iff_getElem.1 hR m (m + 1 + i) hm (by omega) (by omega)
theorem fw_filter {L : List StoD} (hR : Rising L) (hP : ∀ s ∈ L, 0 ≤ s.position ∧ s.position ≤ 1099511627776) {j : Nat} (hj : j ≤ L.length) : L.filter (fwdP (atF L j)) = L.drop j := by
  by_cases h0 : 0 < j
  · rw [atF_pos h0 hj]
    have e1 : (L.take j).filter (fwdP ((L[j - 1]'(by omega)).position + 1)) = [] := by
      rw [List.filter_eq_nil_iff]
      intro s hs
      obtain ⟨i, hi, rfl⟩ := List.getElem_of_mem hs
      rw [List.length_take] at hi
      rw [List.getElem_take]
      by_cases e : i = j - 1
      · subst e
        simp [fwdP]
        omega
      · have := List.pairwise_iff_getElem.1 hR i (j - 1) (by omega) (by omega) (by omega)
        simp [fwdP]
        omega
    have e2 : (L.drop j).filter (fwdP ((L[j - 1]'(by omega)).position + 1)) = L.drop j := by
      rw [List.filter_eq_self]
      intro s hs
      have := drop_gt hR (m := j - 1) (by omega) s (by rwa [Nat.sub_add_cancel h0])
      simp [fwdP]
      omega
    rw [filter_split _ L j, e1, e2, List.nil_append]
  · obtain rfl : j = 0 := by omega
    rw [atF_zero, List.drop_zero, List.filter_eq_self]
    intro s hs
    have := (hP s hs).1
    simp [fwdP]
    omega
theorem fw_next {L : List StoD} (hP : ∀ s ∈ L, 0 ≤ s.position ∧ s.position ≤ 1099511627776) {j N : Nat} (hN : 1 ≤ N) (h : j + N < L.length) (t : Int) : nxt aboveV t ((L.drop j).take N) = atF L (j + N) := by
  have hl : ((L.drop j).take N).length = N := by rw [List.length_take, List.length_drop]; omega
  unfold nxt
  rw [List.getLast?_eq_getElem?, hl, List.getElem?_eq_getElem (by rw [hl]; omega)]
  dsimp only
  rw [atF_pos (by omega) (by omega), List.getElem_take, List.getElem_drop]
  have e : j + (N - 1) = j + N - 1 := by omega
  simp only [e]
  have := (hP _ (List.getElem_mem (show j + N - 1 < L.length by omega))).2
  unfold aboveV
  rw [if_neg (by omega)]
/-- A page of the walk forward. -/
theorem fw_page {L : List StoD} (hR : Rising L) (hP : ∀ s ∈ L, 0 ≤ s.position ∧ s.position ≤ 1099511627776) {j : Nat} (hj : j ≤ L.length) {n : Int} (hn : 1 ≤ n) :
    (fwdE L (atF L j) n = true ∧ (L.take j).map canS ++ fwdL L (atF L j) n = L.map canS) ∨
      (fwdE L (atF L j) n = false ∧ j + n.toNat < L.length ∧ (L.take j).map canS ++ fwdL L (atF L j) n = (L.take (j + n.toNat)).map canS ∧ fwdN L (atF L j) n = atF L (j + n.toNat)) := by
  unfold fwdE fwdL fwdN
  rw [fw_filter hR hP hj, ← List.map_append]
  by_cases h : (L.drop j).length ≤ n.toNat
  · refine .inl ⟨decide_eq_true h, ?_⟩
    rw [List.take_of_length_le h, List.take_append_drop]
  · rw [List.length_drop] at h
    refine .inr ⟨decide_eq_false (by rw [List.length_drop]; exact h), by omega, ?_, fw_next hP (by omega) (by omega) _⟩
    rw [List.take_add]
def bT (L : List StoD) (m : Nat) : Int := if h : m < L.length then L[m].position - 1 else 2199023255552
theorem bw_filter {L : List StoD} (hR : Rising L) (hP : ∀ s ∈ L, 0 ≤ s.position ∧ s.position ≤ 1099511627776) {m : Nat} (hm : m ≤ L.length) : L.reverse.filter (bwdP (bT L m)) = (L.take m).reverse := by
  rw [List.filter_reverse]
  congr 1
  unfold bT
  split
  · rename_i h
    have e1 : (L.take m).filter (bwdP (L[m].position - 1)) = L.take m := by
      rw [List.filter_eq_self]
      intro s hs
      have := take_lt hR h s hs
      simp [bwdP]
      omega
    have e2 : (L.drop m).filter (bwdP (L[m].position - 1)) = [] := by
      rw [List.filter_eq_nil_iff]
      intro s hs
      rw [List.drop_eq_getElem_cons h] at hs
      rcases List.mem_cons.1 hs with rfl | hs
      · simp [bwdP]
        omega
      · have := drop_gt hR h s hs
        simp [bwdP]
        omega
    rw [filter_split _ L m, e1, e2, List.append_nil]
  · obtain rfl : m = L.length := by omega
    rw [List.take_length, List.filter_eq_self]
    intro s hs
    have := (hP s hs).2
    simp [bwdP]
    omega
theorem bw_next {L : List StoD} (hP : ∀ s ∈ L, 0 ≤ s.position ∧ s.position ≤ 1099511627776) {m N : Nat} (hm : m ≤ L.length) (hN : 1 ≤ N) (h : N < m) (t : Int) : nxt belowV t ((L.take m).reverse.take N) = bT L (m - N) := by
  have hl : ((L.take m).reverse.take N).length = N := by rw [List.length_take, List.length_reverse, List.length_take]; omega
  have hL : (L.take m).length = m := by rw [List.length_take]; omega
  unfold nxt
  rw [List.getLast?_eq_getElem?, hl, List.getElem?_eq_getElem (by rw [hl]; omega)]
  dsimp only
  rw [List.getElem_take, List.getElem_reverse, List.getElem_take]
  have e : (L.take m).length - 1 - (N - 1) = m - N := by omega
  simp only [e]
  have := (hP _ (List.getElem_mem (show m - N < L.length by omega))).1
  unfold belowV bT
  rw [dif_pos (by omega)]
  omega
theorem bw_back {L : List StoD} {m N : Nat} (hm : m ≤ L.length) : ((L.take m).reverse.take N).reverse ++ L.drop m = L.drop (m - N) := by
  have hL : (L.take m).length = m := by rw [List.length_take]; omega
  rw [List.take_reverse, List.reverse_reverse, hL]
  conv => rhs; rw [← List.take_append_drop m L, List.drop_append_of_le_length (by omega)]
/-- A page of the walk backward. -/
theorem bw_page {L : List StoD} (hR : Rising L) (hP : ∀ s ∈ L, 0 ≤ s.position ∧ s.position ≤ 1099511627776) {m : Nat} (hm : m ≤ L.length) {n : Int} (hn : 1 ≤ n) :
    (bwdE L (bT L m) n = true ∧ (bwdL L (bT L m) n).reverse ++ (L.drop m).map canS = L.map canS) ∨
      (bwdE L (bT L m) n = false ∧ n.toNat < m ∧ (bwdL L (bT L m) n).reverse ++ (L.drop m).map canS = (L.drop (m - n.toNat)).map canS ∧ bwdN L (bT L m) n = bT L (m - n.toNat) ∧ 0 ≤ bT L (m - n.toNat)) := by
  unfold bwdE bwdL bwdN
  rw [bw_filter hR hP hm, ← List.map_reverse, ← List.map_append, bw_back hm]
  have hL : (L.take m).reverse.length = m := by rw [List.length_reverse, List.length_take]; omega
  rw [hL]
  by_cases h : m ≤ n.toNat
  · exact .inl ⟨decide_eq_true h, by rw [show m - n.toNat = 0 by omega, List.drop_zero]⟩
  · refine .inr ⟨decide_eq_false h, by omega, rfl, bw_next hP hm (by omega) (by omega) _, ?_⟩
    unfold bT
    rw [dif_pos (by omega)]
    have a := (hP _ (List.getElem_mem (show m - n.toNat - 1 < L.length by omega))).1
    have b := List.pairwise_iff_getElem.1 hR (m - n.toNat - 1) (m - n.toNat) (by omega) (by omega) (by omega)
    omega

theorem wpList_append_stos {w : World} {ops : Array Oper} {rest : List Oper} {o : Oper} {a : Act} {Q : Exit → Act → World → Prop} (hgd : o.guard = none) (s x : Operand)
    (ho : o.op = .call { callee := .builtin .append, args := #[s, x], argTypes := #[22, 22] })
    (base : Nat) (v : Value) (n : Nat) (xs : List StoD) (hs : a.eval s = v) (hown : w.ownsRow base TSto 8 v n (stoVals xs))
    (ax : Option Addr) (m c : Nat) (l : List StoD) (hx : a.eval x = .slice ax m c) (hm : m = l.length) (htx : StoX w ax l) (hnone : ax = none → c = 0 ∧ l = []) (hb : n + m ≤ 1000000) (hbase : base ≤ w.heap.size)
    (h : ∀ y cap w', w'.ownsRow base TSto 8 (.slice y (n + m) cap) (n + m) (stoVals (xs ++ l)) → w.grownBy w' v.ownBlock → wpList Try.prog ops Q rest (a.put o.dst (.slice y (n + m) cap)) w') : wpList Try.prog ops Q (o :: rest) a w := by
  obtain ⟨i0, z0, hi, hz0, hz1, hz2, hz3⟩ := info_sto
  subst hm
  cases ax with
  | none =>
    obtain ⟨rfl, rfl⟩ := hnone rfl
    refine wpList_append_own_none hgd s x 22 ho base TSto i0 8 Try.underlying22 hi v n (stoVals xs) hs hown hx ?_
    obtain ⟨y, cap, rfl, -, -⟩ := slice_form hown
    exact h y cap w (by simpa using hown) ⟨rfl, rfl, rfl, Nat.le_refl _, fun _ _ _ => rfl⟩
  | some ad =>
    have hnews : ∀ j u, (stoVals l)[j]? = some u → w.cell? (ad.add j) = some u := fun j u hu => by
      have hj := (List.getElem?_eq_some_iff.1 hu).1
      rw [stoVals_len] at hj
      obtain ⟨b, off, e, _, _⟩ := htx 0 (by omega)
      simp at e
      subst e
      rw [add_at]
      exact stoX_cells htx j u hu
    refine wpList_append_own _ hgd s x 22 ho base TSto i0 z0 8 88 Try.underlying22 hi hz0 hz1 hz2 hz3 (by decide) v n (stoVals xs) hs hown ad l.length c (stoVals l) hx (stoVals_len l) hnews (stoVals_one l) (by unfold maxLen; omega) (by omega) hbase ?_
    intro v' w' hown' hg _
    obtain ⟨y, cap, rfl, -, -⟩ := slice_form hown'
    exact h y cap w' (by rw [show stoVals (xs ++ l) = stoVals xs ++ stoVals l by simp [stoVals]]; exact hown') hg
theorem row_one (w : World) (s : StoD) : (w.alloc (.cells #[.int .i64 s.id, .string s.typ, .string s.data, .float .f64 s.value, .string s.stream, .int .i64 s.version, .int .i64 s.position, .int .i64 s.time] TSto)).ownsRow w.heap.size TSto 8 (.slice (some ⟨w.heap.size, 0, none⟩) 1 1) 1 (stoVals [s]) :=
  ⟨rfl, .inr ⟨w.heap.size, 1, _, rfl, Nat.le_refl _, heap_alloc_new w _, Nat.le_refl _, (by unfold maxLen; omega), rfl, rfl⟩⟩

set_option maxHeartbeats 2000000 in
set_option maxRecDepth 100000 in
theorem sameList_any (x y : Option Addr) (c d : Nat) (l m : List StoD) (W : World) (hm : m.length = l.length) (hs : ∀ i (h : i < l.length), sameS (m[i]'(by omega)) l[i] = true) (hl : l.length ≤ 1000) (hx : StoX W x l) (hy : StoX W y m) :
    Calls Try.prog 17 #[.slice y l.length d, .slice x l.length c] W fun e w' => e = .returned (.bool true) ∧ Touch [] W w' := by
  have HX := hid hx
  have HY := hid hy
  have HL := hid hl
  clear hx hy hl
  go_enter Try.func17, Try.ntmps17
  go_wp2
  go_loopw [5] (fun iv wr => ∃ k : Nat, k ≤ l.length ∧ iv = .int .i64 k ∧ Touch [] W wr) (fun iv _ => l.length - (RowKit.intOf iv).toNat)
  case atStart => exact ⟨0, Nat.zero_le _, rfl, Touch.refl _ _⟩
  case round =>
    obtain ⟨k, hk, rfl, ht⟩ := hrel
    have HT := hid ht
    clear ht
    by_cases hlt : k < l.length
    · obtain ⟨b, off, rfl, g1, g2⟩ := HX.out k hlt
      obtain ⟨b', off', rfl, g1', _⟩ := HY.out k (by omega)
      obtain ⟨a0, a1, a2, a3, a4, a5, a6, a7⟩ := g1.touch HT.out
      obtain ⟨e0, e1, e2, e3, e4, e5, e6, e7⟩ := g1'.touch HT.out
      have hl2 : decide (k < l.length) = true := by simpa using hlt
      have hkI : (k : Int) < l.length := by omega
      have hk0 : (0 : Int) ≤ k := by omega
      have hk1 : (l.length : Int) ≤ 1000 := by have := HL.out; omega
      have SS := hid (fun w => refSameS_any (m[k]'(by omega)) l[k] w)
      rw [hs k hlt] at SS
      clear g1 g1' g2
      generalize l[k] = s at *
      generalize m[k]'(by omega) = s' at *
      obtain ⟨sid, styp, sdata, svalue, sstream, sversion, sposition, stime⟩ := s
      obtain ⟨tid, ttyp, tdata, tvalue, tstream, tversion, tposition, ttime⟩ := s'
      go_upto_region 6 with fail
      go_still_tail 8, (by kernel_rfl)
      change wpList _ _ _ _ _ wr.drew
      go_wp2_with fail
      refine (SS.out _).mono ?_
      rintro e w1 ⟨rfl, t1⟩
      have T1 := hid (HT.out.drew.trans t1 (by simp))
      clear t1 SS
      go_wp2
      go_roundw
      case rel => exact ⟨k + 1, by omega, by go_num, T1.out⟩
      case measure => simp [RowKit.intOf]; omega
    · obtain rfl : k = l.length := by omega
      have hl2 : decide (l.length < l.length) = false := by simp
      go_wp2
      go_ret
      exact ⟨rfl, HT.out⟩

end Go.Proofs.Ytmgglmoiepjebaa
