/- Tables of entries: how many stand ahead of one; what stands between two; which lists may be a table. The pure side. -/
import Derived.Test.YtnkflmimnpolcaaPu12
import Derived.Test.YtnkflmimnpolcaaRg12
namespace Go.Proofs.Ytnkflmimnpolcaa
open Go.RowKit Go.Lib
set_option maxRecDepth 100000

theorem ltE_mk (x : En) (a b c : Int) : ltE x (a, b, c) ↔ x.1 < a ∨ (x.1 = a ∧ (x.2.1 < b ∨ (x.2.1 = b ∧ x.2.2 < c))) := Iff.rfl
/-- How many stand ahead of an entry. -/
def cntE (l : List En) (e : En) : Nat := l.countP fun x => decide (ltE x e)
theorem cnt_le (l : List En) (e : En) : cntE l e ≤ l.length := List.countP_le_length
theorem cnt_cons_lt {x e : En} (l : List En) (h : ltE x e) : cntE (x :: l) e = cntE l e + 1 := by unfold cntE; rw [List.countP_cons_of_pos (by simpa using h)]
theorem none_lt {x e : En} {l : List En} (hs : SortedE (x :: l)) (hx : ¬ ltE x e) : ∀ y ∈ x :: l, ¬ ltE y e := fun y hy => by
  rcases List.mem_cons.1 hy with rfl | hy
  · exact hx
  · exact fun hye => hx (ltE_trans ((List.pairwise_cons.1 hs).1 y hy) hye)
theorem cnt_zero {e : En} {l : List En} (h : ∀ y ∈ l, ¬ ltE y e) : cntE l e = 0 := by
  unfold cntE
  rw [List.countP_eq_zero]
  intro y hy
  simpa using h y hy
theorem cnt_iff : ∀ {l : List En}, SortedE l → ∀ (e : En) (j : Nat) (h : j < l.length), ltE l[j] e ↔ j < cntE l e
  | [], _, _, _, h => absurd h (Nat.not_lt_zero _)
  | x :: l, hs, e, j, h => by
    have hp := List.pairwise_cons.1 hs
    by_cases hx : ltE x e
    · rw [cnt_cons_lt l hx]
      cases j with
      | zero => simp [hx]
      | succ j =>
        have := cnt_iff hp.2 e j (by simpa using h)
        rw [List.getElem_cons_succ, this]
        omega
    · have hn := none_lt hs hx
      rw [cnt_zero hn]
      exact ⟨fun hh => (hn _ (List.getElem_mem h) hh).elim, fun hh => absurd hh (Nat.not_lt_zero _)⟩
theorem take_cnt : ∀ {l : List En}, SortedE l → ∀ t : En, l.take (cntE l t) = l.filter fun x => decide (ltE x t)
  | [], _, _ => by simp
  | x :: l, hs, t => by
    have hp := List.pairwise_cons.1 hs
    by_cases hx : ltE x t
    · rw [cnt_cons_lt l hx, List.take_succ_cons, take_cnt hp.2 t, List.filter_cons_of_pos (by simpa using hx)]
    · have hn := none_lt hs hx
      rw [cnt_zero hn, List.take_zero]
      symm
      rw [List.filter_eq_nil_iff]
      intro y hy
      simpa using hn y hy
/-- What stands from one on, ahead of another one. -/
def btw (l : List En) (f t : En) : List En := l.filter fun x => !decide (ltE x f) && decide (ltE x t)
theorem btw_eq : ∀ {l : List En}, SortedE l → ∀ f t : En, (l.drop (cntE l f)).take (cntE l t - cntE l f) = btw l f t
  | [], _, _, _ => by simp [btw]
  | x :: l, hs, f, t => by
    have hp := List.pairwise_cons.1 hs
    by_cases hf : ltE x f
    · rw [cnt_cons_lt l hf, List.drop_succ_cons]
      have e1 : btw (x :: l) f t = btw l f t := by unfold btw; rw [List.filter_cons_of_neg (by simp [hf])]
      rw [e1]
      by_cases ht : ltE x t
      · rw [cnt_cons_lt l ht, Nat.add_sub_add_right]
        exact btw_eq hp.2 f t
      · have hn := none_lt hs ht
        rw [cnt_zero hn, Nat.zero_sub, List.take_zero]
        symm
        unfold btw
        rw [List.filter_eq_nil_iff]
        intro y hy
        have := hn y (List.mem_cons_of_mem _ hy)
        simp [this]
    · have hn := none_lt hs hf
      rw [cnt_zero hn, Nat.sub_zero, List.drop_zero, take_cnt hs t]
      unfold btw
      refine List.filter_congr fun y hy => ?_
      have := hn y hy
      simp [this]
theorem btw_len (l : List En) (f t : En) : (btw l f t).length ≤ l.length := List.length_filter_le _ _

/-- May a number stand in a table? -/
def okM (e : En) : Prop := (0 ≤ e.1 ∧ e.1 ≤ 1099511627776) ∧ (0 ≤ e.2.1 ∧ e.2.1 ≤ 1099511627776) ∧ (0 ≤ e.2.2 ∧ e.2.2 ≤ 1099511627776)
instance (e : En) : Decidable (okM e) := by unfold okM; infer_instance
abbrev OkM (l : List En) : Prop := ∀ x ∈ l, okM x
/-- May they be a table's? -/
def fitE (l : List En) : Prop := OkM l ∧ SortedE l
instance (l : List En) : Decidable (fitE l) := by unfold fitE; infer_instance
theorem OkM.ok {l : List En} (h : OkM l) : OkL l := fun x hx => ⟨(h x hx).1.1, (h x hx).2.1.1, (h x hx).2.2.1⟩

theorem btw_find {l : List En} (h : OkM l) (a v : Int) : btw l (a, v, 0) (a, v, 9223372036854775807) = l.filter (isHV a v) := by
  unfold btw
  refine List.filter_congr fun x hx => ?_
  have := h x hx
  unfold okM at this
  rw [Bool.eq_iff_iff]
  simp only [isHV, Bool.and_eq_true, Bool.not_eq_true', decide_eq_true_eq, decide_eq_false_iff_not, ltE_mk]
  omega
/-- The entries of the versions of a hash from one on, below another one. -/
def rngL (l : List En) (a f t : Int) : List En := l.filter fun x => decide (x.1 = a) && (decide (f ≤ x.2.1) && decide (x.2.1 < t))
theorem btw_range {l : List En} (h : OkM l) (a f t : Int) : btw l (a, f, 0) (a, t, 0) = rngL l a f t := by
  unfold btw rngL
  refine List.filter_congr fun x hx => ?_
  have := h x hx
  unfold okM at this
  rw [Bool.eq_iff_iff]
  simp only [Bool.and_eq_true, Bool.not_eq_true', decide_eq_true_eq, decide_eq_false_iff_not, ltE_mk]
  omega
theorem tab_range {l : List En} (hs : SortedE l) (hk : OkL l) (a f t : Int) : (fromE l (a, f, 0)).takeWhile (isHR a t) = rngL l a f t := by
  have e1 : (fromE l (a, f, 0)).takeWhile (isHR a t) = (fromE l (a, f, 0)).filter (isHR a t) := by
    have hsf : SortedE (fromE l (a, f, 0)) := hs.filter _
    have hm : ∀ x ∈ fromE l (a, f, 0), ¬ ltE x (a, f, 0) := fun x hx => by
      have := (List.mem_filter.1 hx).2
      simpa using this
    generalize fromE l (a, f, 0) = m at *
    have hz := stretch (m := isHR a t) (f := (a, f, 0)) hsf (fun x hx _ => hm x hx) (fun x hx y hy h1 h2 hmy => by
      simp only [isHR, Bool.and_eq_true, decide_eq_true_eq] at hmy ⊢
      unfold ltE at h1 h2
      simp only at h1
      omega)
    have e2 : fromE m (a, f, 0) = m := by
      unfold fromE
      rw [List.filter_eq_self]
      intro x hx
      simpa using hm x hx
    rwa [e2] at hz
  rw [e1]
  unfold fromE rngL
  rw [List.filter_filter]
  refine List.filter_congr fun x hx => ?_
  have := hk x hx
  unfold okE at this
  rw [Bool.eq_iff_iff]
  simp only [isHR, Bool.and_eq_true, Bool.not_eq_true', decide_eq_true_eq, decide_eq_false_iff_not, ltE_mk]
  omega
/-- The last one of a hash, by how many stand ahead of what is behind it. -/
theorem last_cnt {l : List En} (hs : SortedE l) (h : OkM l) (a : Int) (c : Nat) (hcc : cntE l (a, 9223372036854775807, 9223372036854775807) = c) :
    lastE l a = (if 0 < c then (l[c - 1]?).filter (fun e => decide (e.1 = a)) else none) := by
  have hc := cnt_le l (a, 9223372036854775807, 9223372036854775807)
  have e1 : (l.filter fun e => decide (e.1 ≤ a)) = l.take (cntE l (a, 9223372036854775807, 9223372036854775807)) := by
    rw [take_cnt hs]
    refine List.filter_congr fun x hx => ?_
    have := h x hx
    unfold okM at this
    rw [decide_eq_decide, ltE_mk]
    omega
  unfold lastE
  rw [e1, hcc]
  rw [hcc] at hc
  split
  · next h0 =>
    have e2 : (l.take c).getLast? = l[c - 1]? := by
      rw [List.getLast?_eq_getElem?, List.length_take, Nat.min_eq_left hc, List.getElem?_take, if_pos (by omega)]
    rw [e2]
  · next h0 =>
    obtain rfl : c = 0 := by omega
    simp

theorem range_cnt8 (n c : Nat) : (List.range n).countP (fun k => decide (8 * k < c)) = min n ((c + 7) / 8) := by
  induction n with
  | zero => simp
  | succ n ih =>
    rw [List.range_succ, List.countP_append, ih]
    by_cases h : 8 * n < c
    · simp [h]; omega
    · simp [h]; omega
theorem range_cnt1 (n f c : Nat) : (List.range n).countP (fun k => decide (f + k < c)) = min n (c - f) := by
  induction n with
  | zero => simp
  | succ n ih =>
    rw [List.range_succ, List.countP_append, ih]
    by_cases h : f + n < c
    · simp [h]; omega
    · simp [h]; omega

/-- Does the next one stand behind the last one? -/
theorem sorted_snoc {l : List En} {x : En} (h : SortedE l) (hx : ∀ y, l.getLast? = some y → ltE y x) : SortedE (l ++ [x]) := by
  refine List.pairwise_append.2 ⟨h, by simp, fun a ha b hb => ?_⟩
  simp at hb
  subst hb
  rcases List.eq_nil_or_concat l with rfl | ⟨l', y, rfl⟩
  · simp at ha
  · have hy := hx y (by simp)
    rw [List.concat_eq_append] at ha h
    replace h := List.pairwise_append.1 h
    rcases List.mem_append.1 ha with ha | ha
    · exact ltE_trans (h.2.2 a ha y (by simp)) hy
    · simp at ha; subst ha; exact hy
theorem fit_take {l : List En} {k : Nat} (hk : k < l.length) (h : fitE (l.take k)) (h1 : okM l[k]) (h2 : ∀ h : 0 < k, ltE (l[k - 1]'(by omega)) l[k]) : fitE (l.take (k + 1)) := by
  rw [List.take_succ_eq_append_getElem hk]
  refine ⟨fun x hx => ?_, sorted_snoc h.2 fun y hy => ?_⟩
  · rcases List.mem_append.1 hx with hx | hx
    · exact h.1 x hx
    · simp at hx; subst hx; exact h1
  · by_cases h0 : 0 < k
    · have e : (l.take k).getLast? = some (l[k - 1]'(by omega)) := by
        rw [List.getLast?_eq_getElem?, List.length_take, Nat.min_eq_left (by omega), List.getElem?_take, if_pos (by omega), List.getElem?_eq_getElem]
      rw [e] at hy
      cases hy
      exact h2 h0
    · obtain rfl : k = 0 := by omega
      simp at hy
theorem not_fit_at {l : List En} {k : Nat} (hk : k < l.length) (h : ¬ okM l[k]) : ¬ fitE l := fun hf => h (hf.1 _ (List.getElem_mem hk))
theorem not_fit_next {l : List En} {k : Nat} (hk : k < l.length) (h0 : 0 < k) (h : ¬ ltE (l[k - 1]'(by omega)) l[k]) : ¬ fitE l := fun hf => h ((List.pairwise_iff_getElem.1 hf.2) (k - 1) k (by omega) hk (by omega))
end Go.Proofs.Ytnkflmimnpolcaa
