/- What Flush does to the levels, purely: how many tables each has; which entries there are. -/
import Derived.Test.YtnkflmimnpolcaaWt14
namespace Go.Proofs.Ytnkflmimnpolcaa
open Go.RowKit Go.Lib Go.Shelf
set_option maxRecDepth 100000

/-- How many tables each level has. -/
def cnts (L : List LvV) : List Nat := L.map fun v => v.ts.length
theorem cnts_len (L : List LvV) : (cnts L).length = L.length := by simp [cnts]
/-- From a level on: d tables come in; a level that has most of them becomes one of the next. -/
def car (most : Nat) : Nat → List Nat → List Nat
  | d, [] => if d = 0 then [] else [d]
  | d, a :: r => if most ≤ a + d then 0 :: car most 1 r else (a + d) :: car most 0 r
theorem car_len (most : Nat) : ∀ (d : Nat) (r : List Nat), r.length ≤ (car most d r).length ∧ (car most d r).length ≤ r.length + 1
  | d, [] => by unfold car; split <;> simp
  | d, a :: r => by
    have h1 := car_len most 1 r
    have h0 := car_len most 0 r
    unfold car
    split <;> simp only [List.length_cons] <;> omega
/-- One more behind a level. -/
def putC (c : List Nat) (k : Nat) : List Nat := (if k = c.length then c ++ [0] else c).modify k (· + 1)
theorem putT_cnt {L L' : List LvV} {k : Nat} {t : TabV} (h : L'.map LvV.ts = putT (L.map LvV.ts) k t) : cnts L' = putC (cnts L) k := by
  have e1 : cnts L' = (L'.map LvV.ts).map List.length := by simp [cnts]
  have e2 : cnts L = (L.map LvV.ts).map List.length := by simp [cnts]
  rw [e1, e2, h]
  generalize L.map LvV.ts = ls
  unfold putT putC
  have hm : ∀ (xs : List (List TabV)), (xs.modify k (· ++ [t])).map List.length = (xs.map List.length).modify k (· + 1) := fun xs => by
    refine List.ext_getElem? fun j => ?_
    rw [List.getElem?_map, List.getElem?_modify, List.getElem?_modify, List.getElem?_map]
    by_cases hj : k = j
    · subst hj
      cases xs[k]? <;> simp
    · simp [hj]
  rw [hm]
  congr 1
  by_cases hk : k = ls.length
  · rw [if_pos hk, if_pos (by simpa using hk)]; simp
  · rw [if_neg hk, if_neg (by simpa using hk)]
theorem putC_zero (c : List Nat) (most : Nat) (hm : 2 ≤ most) : car most 0 (putC c 0) = car most 1 c := by
  cases c with
  | nil =>
    simp only [putC, List.length_nil, if_true, List.nil_append, List.modify_zero_cons, car]
    rw [if_neg (by omega)]
    simp
  | cons a r =>
    simp only [putC, List.length_cons]
    rw [if_neg (by omega)]
    simp only [List.modify_zero_cons, car, Nat.add_zero]
theorem putC_app : ∀ (pre r : List Nat), putC (pre ++ r) pre.length = pre ++ putC r 0
  | [], r => rfl
  | x :: pre, r => by
    have h := putC_app pre r
    unfold putC at h ⊢
    simp only [List.cons_append, List.length_cons, List.modify_succ_cons] at h ⊢
    by_cases hk : pre.length = (pre ++ r).length
    · rw [if_pos hk] at h
      rw [if_pos (by omega)]
      simp only [List.cons_append, List.modify_succ_cons]
      rw [h]
    · rw [if_neg hk] at h
      rw [if_neg (by omega)]
      simp only [List.modify_succ_cons]
      rw [h]
theorem split_at {α : Type} {c : List α} {k : Nat} (h : k < c.length) : ∃ pre r, c = pre ++ c[k] :: r ∧ pre.length = k :=
  ⟨c.take k, c.drop (k + 1), by rw [List.getElem_cons_drop, List.take_append_drop], by rw [List.length_take]; omega⟩
/-- What the loop of Flush keeps, at level k. -/
structure AtC (most : Nat) (c0 c : List Nat) (k : Nat) : Prop where
  le : k ≤ c.length
  eq : c.take k ++ car most 0 (c.drop k) = car most 1 c0
theorem AtC.start (most : Nat) (hm : 2 ≤ most) (c0 : List Nat) : AtC most c0 (putC c0 0) 0 := ⟨Nat.zero_le _, by simpa using putC_zero c0 most hm⟩
theorem AtC.len {most : Nat} {c0 c : List Nat} {k : Nat} (h : AtC most c0 c k) : c.length ≤ c0.length + 1 := by
  have h1 := congrArg List.length h.eq
  have h2 := (car_len most 1 c0).2
  have h3 := (car_len most 0 (c.drop k)).1
  have h4 := h.le
  rw [List.length_append, List.length_take] at h1
  rw [List.length_drop] at h3
  omega
theorem AtC.done {most : Nat} {c0 c : List Nat} {k : Nat} (h : AtC most c0 c k) (hk : k = c.length) : c = car most 1 c0 := by
  have := h.eq
  subst hk
  simpa [car] using this
theorem AtC.small {most : Nat} {c0 c : List Nat} {k : Nat} (h : AtC most c0 c k) (hk : k < c.length) (hm : c[k] < most) : AtC most c0 c (k + 1) := by
  refine ⟨hk, ?_⟩
  rw [← h.eq, ← List.getElem_cons_drop hk, car, if_neg (by omega), List.take_succ_eq_append_getElem hk, List.append_assoc]
  rfl
theorem AtC.big {most : Nat} {c0 c : List Nat} {k : Nat} (hm2 : 2 ≤ most) (h : AtC most c0 c k) (hk : k < c.length) (hm : most ≤ c[k]) : AtC most c0 ((putC c (k + 1)).set k 0) (k + 1) := by
  obtain ⟨pre, r, hc, rfl⟩ := split_at hk
  have he := h.eq
  generalize c[pre.length] = a at *
  subst hc
  have e1 : putC (pre ++ a :: r) (pre.length + 1) = pre ++ a :: putC r 0 := by
    have := putC_app (pre ++ [a]) r
    simpa using this
  have e2 : (putC (pre ++ a :: r) (pre.length + 1)).set pre.length 0 = pre ++ 0 :: putC r 0 := by rw [e1]; simp
  rw [e2]
  refine ⟨by simp, ?_⟩
  rw [← he]
  have t1 : (pre ++ 0 :: putC r 0).take (pre.length + 1) = pre ++ [0] := by
    rw [show pre ++ 0 :: putC r 0 = (pre ++ [0]) ++ putC r 0 by simp, show pre.length + 1 = (pre ++ [0]).length by simp, List.take_left]
  have t2 : (pre ++ 0 :: putC r 0).drop (pre.length + 1) = putC r 0 := by
    rw [show pre ++ 0 :: putC r 0 = (pre ++ [0]) ++ putC r 0 by simp, show pre.length + 1 = (pre ++ [0]).length by simp, List.drop_left]
  rw [t1, t2, putC_zero r most hm2, List.take_left, List.drop_left, car, if_pos (by omega)]
  simp
theorem putT_app {α : Type} (t : α) : ∀ (pre r : List (List α)), putT (pre ++ r) pre.length t = pre ++ putT r 0 t
  | [], r => rfl
  | x :: pre, r => by
    have h := putT_app t pre r
    unfold putT at h ⊢
    simp only [List.cons_append, List.length_cons, List.modify_succ_cons] at h ⊢
    by_cases hk : pre.length = (pre ++ r).length
    · rw [if_pos hk] at h
      rw [if_pos (by omega)]
      simp only [List.cons_append, List.modify_succ_cons]
      rw [h]
    · rw [if_neg hk] at h
      rw [if_neg (by omega)]
      simp only [List.modify_succ_cons]
      rw [h]
theorem putT_perm {α : Type} (ls : List (List α)) (k : Nat) (t : α) (hk : k ≤ ls.length) : (putT ls k t).flatten.Perm (t :: ls.flatten) := by
  have e : ls = ls.take k ++ ls.drop k := (List.take_append_drop k ls).symm
  have hl : (ls.take k).length = k := by rw [List.length_take]; omega
  generalize ls.take k = pre at *
  generalize ls.drop k = r at *
  subst e
  subst hl
  rw [putT_app]
  cases r with
  | nil =>
    simp only [putT, List.length_nil, if_true, List.nil_append, List.modify_zero_cons, List.flatten_append, List.flatten_cons, List.flatten_nil, List.append_nil]
    exact List.perm_append_comm
  | cons a r =>
    simp only [putT, List.length_cons]
    rw [if_neg (by omega)]
    simp only [List.modify_zero_cons, List.flatten_append, List.flatten_cons]
    simpa [List.append_assoc] using (List.perm_middle (a := t) (l₁ := pre.flatten ++ a) (l₂ := r.flatten))
theorem tabs_eq (L : List LvV) : tabsL L = (L.map LvV.ts).flatten := by unfold tabsL; rw [List.flatMap_def]
theorem set_perm {L : List LvV} {k : Nat} (hk : k < L.length) (x : Option Addr) (c : Nat) : (tabsL L).Perm (L[k].ts ++ tabsL (L.set k ⟨x, c, []⟩)) := by
  obtain ⟨pre, r, hc, hl⟩ := split_at hk
  generalize L[k] = v at *
  subst hc
  subst hl
  simp only [tabsL, List.set_append_right _ _ (Nat.le_refl _), Nat.sub_self, List.set_cons_zero, List.flatMap_append, List.flatMap_cons, List.nil_append]
  exact List.perm_append_comm_assoc _ _ _
theorem flatT_perm {a b : List TabV} (h : a.Perm b) : (flatT a).Perm (flatT b) := (h.map TabV.l).flatten
theorem flatT_app (a b : List TabV) : flatT (a ++ b) = flatT a ++ flatT b := by simp [flatT]
theorem flatT_cons (t : TabV) (b : List TabV) : flatT (t :: b) = t.l ++ flatT b := by simp [flatT]
theorem step_perm {L L1 : List LvV} {k : Nat} {t : TabV} (hk : k < L.length) (h : L1.map LvV.ts = putT (L.map LvV.ts) (k + 1) t) (ht : t.l.Perm (flatT L[k].ts)) (x : Option Addr) (c : Nat) (hk1 : k < L1.length) : (flatT (tabsL (L1.set k ⟨x, c, []⟩))).Perm (flatT (tabsL L)) := by
  have h1 : (tabsL L1).Perm (t :: tabsL L) := by
    rw [tabs_eq, tabs_eq, h]
    exact putT_perm _ _ _ (by rw [List.length_map]; omega)
  have h2 := set_perm hk1 x c
  have e1 : L1[k].ts = L[k].ts := by
    have a1 : (L1.map LvV.ts)[k]? = some L1[k].ts := by simp [hk1]
    have a2 : (putT (L.map LvV.ts) (k + 1) t)[k]? = some L[k].ts := by
      unfold putT
      by_cases hl : k + 1 = (L.map LvV.ts).length
      · rw [if_pos hl, List.getElem?_modify, List.getElem?_append_left (by simpa using hk)]
        simp [hk]
      · rw [if_neg hl, List.getElem?_modify]
        simp [hk]
    rw [h, a2] at a1
    exact (Option.some.inj a1).symm
  have h3 := flatT_perm (h2.symm.trans h1)
  rw [e1, flatT_app, flatT_cons] at h3
  exact (List.perm_append_left_iff (flatT L[k].ts)).1 (h3.trans (ht.append_right _))
end Go.Proofs.Ytnkflmimnpolcaa
