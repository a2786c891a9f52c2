/- What a tab tells, as plain lists. -/
import Derived.Test.YtnkflmimnpolcaaEn12
namespace Go.Proofs.Ytnkflmimnpolcaa
open Go.RowKit Go.Lib
set_option maxRecDepth 100000

abbrev OkL (l : List En) : Prop := ∀ x ∈ l, okE x
theorem ok_put1 {l : List En} (h : OkL l) (e : En) : OkL (put1 l e) := by
  intro x hx
  unfold put1 at hx
  split at hx
  · next hk =>
    rcases (mem_ins l e x).1 hx with rfl | hx
    · exact hk
    · exact h x hx
  · exact h x hx
theorem ok_addAll : ∀ (es : List En) {l : List En}, OkL l → OkL (addAll l es)
  | [], _, h => h
  | e :: es, _, h => ok_addAll es (ok_put1 h e)
theorem from_zero {l : List En} (h : OkL l) : fromE l (0, 0, 0) = l := by
  unfold fromE
  rw [List.filter_eq_self]
  intro x hx
  have := h x hx
  unfold okE at this
  have hn : ¬ ltE x (0, 0, 0) := by unfold ltE; simp only; omega
  simp [hn]
/-- In a list in order a stretch that begins where it may is all that there is. -/
theorem stretch {m : En → Bool} {f : En} : ∀ {l : List En}, SortedE l → (∀ x ∈ l, m x = true → ¬ ltE x f) → (∀ x ∈ l, ∀ y ∈ l, ¬ ltE x f → ltE x y → m y = true → m x = true) → (fromE l f).takeWhile m = l.filter m
  | [], _, _, _ => rfl
  | x :: l, hs, h1, h2 => by
    have hp := List.pairwise_cons.1 hs
    have ih := stretch hp.2 (fun y hy => h1 y (by simp [hy])) (fun y hy z hz => h2 y (by simp [hy]) z (by simp [hz]))
    by_cases hx : ltE x f
    · have e1 : fromE (x :: l) f = fromE l f := by unfold fromE; simp [hx]
      have hm : m x = false := by
        cases hmx : m x with
        | false => rfl
        | true => exact (h1 x (by simp) hmx hx).elim
      rw [e1, ih, List.filter_cons, hm]
      simp
    · have e1 : fromE (x :: l) f = x :: fromE l f := by unfold fromE; simp [hx]
      rw [e1, List.takeWhile_cons]
      cases hmx : m x with
      | true => rw [if_pos rfl, ih, List.filter_cons, hmx]; simp
      | false =>
        rw [List.filter_cons, hmx]
        have : l.filter m = [] := by
          rw [List.filter_eq_nil_iff]
          intro y hy hmy
          have := h2 x (by simp) y (by simp [hy]) hx (hp.1 y hy) hmy
          rw [hmx] at this
          cases this
        simp [this]
theorem find_list {l : List En} (hs : SortedE l) (hk : OkL l) (h v : Int) : (fromE l (h, v, 0)).takeWhile (isHV h v) = l.filter (isHV h v) := by
  refine stretch hs ?_ ?_
  · intro x hx hm hlt
    have := hk x hx
    simp only [isHV, Bool.and_eq_true, decide_eq_true_eq] at hm
    unfold okE at this
    unfold ltE at hlt
    simp only at hlt
    omega
  · intro x hx y hy h1 h2 hm
    simp only [isHV, Bool.and_eq_true, decide_eq_true_eq] at hm ⊢
    unfold ltE at h1 h2
    simp only at h1
    omega
theorem last_list {l : List En} (hs : SortedE l) (h : Int) : lastE l h = (l.filter fun e => decide (e.1 = h)).getLast? := by
  unfold lastE
  induction l with
  | nil => rfl
  | cons x l ih =>
    have hp := List.pairwise_cons.1 hs
    have ih := ih hp.2
    have hge : ∀ y ∈ l, x.1 ≤ y.1 := fun y hy => by have := hp.1 y hy; unfold ltE at this; omega
    by_cases hx : x.1 ≤ h
    · rw [List.filter_cons, if_pos (by simpa using hx), List.getLast?_cons]
      cases hg : (l.filter fun e => decide (e.1 ≤ h)).getLast? with
      | some z =>
        rw [hg] at ih
        rw [List.filter_cons]
        split
        · rw [List.getLast?_cons, ← ih]
          next hxe =>
            simp only [Option.getD_some]
            by_cases hz : z.1 = h
            · have e1 : Option.filter (fun e : En => decide (e.1 = h)) (some z) = some z := by simp [Option.filter, hz]
              rw [e1]
              simp [e1]
            · exfalso
              have hzm : z ∈ l.filter fun e => decide (e.1 ≤ h) := List.mem_of_getLast? hg
              have h1 := List.mem_filter.1 hzm
              have h2 := hge z h1.1
              simp at h1 hxe
              omega
        · simpa using ih
      | none =>
        rw [List.getLast?_eq_none_iff] at hg
        have h0 : l.filter (fun e => decide (e.1 = h)) = [] := by
          rw [List.filter_eq_nil_iff] at hg ⊢
          intro y hy hye
          refine hg y hy ?_
          simp at hye ⊢
          omega
        rw [List.filter_cons, h0]
        simp
        split <;> simp_all
    · have h1 : (x :: l).filter (fun e => decide (e.1 ≤ h)) = [] := by
        rw [List.filter_eq_nil_iff]
        intro y hy
        rcases List.mem_cons.1 hy with rfl | hy
        · simp; omega
        · have := hge y hy; simp; omega
      have h2 : (x :: l).filter (fun e => decide (e.1 = h)) = [] := by
        rw [List.filter_eq_nil_iff]
        intro y hy
        rcases List.mem_cons.1 hy with rfl | hy
        · simp; omega
        · have := hge y hy; simp; omega
      rw [h1, h2]
      rfl
end Go.Proofs.Ytnkflmimnpolcaa
