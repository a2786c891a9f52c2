/- append of a list of texts onto a row of one's own, nil or not. -/
import Derived.Test.YtepbflcmghkieaaDoorBkIn
namespace Go.Proofs.YtepbflcmghkieaaDoor
set_option maxRecDepth 100000
open Go.RowKit Go.Lib Go.ChangeShapes Go.WideShapes

theorem slice_own {w : World} {base n : Nat} {v : Value} {xs : List Value} (h : w.ownsRow base TStr 1 v n xs) : ∃ y cap, v = .slice y n cap := by
  rcases h.2 with ⟨rfl, h0⟩ | ⟨g, cap, cur, rfl, _⟩
  · exact ⟨none, 0, by rw [h0]⟩
  · exact ⟨_, cap, rfl⟩
theorem texts_row {w : World} {base n cap : Nat} {y : Option Addr} {l : List ByteArray} (h : w.ownsRow base TStr 1 (.slice y n cap) n (svals l)) (hw : ∀ s ∈ l, s.size ≤ maxLen) : TextsX w y l ∧ n = l.length ∧ (y = none → cap = 0 ∧ l = []) := by
  have hn : n = l.length := by have := h.1; simp [svals] at this; exact this.symm
  obtain ⟨x, c, he, _, _, ht⟩ := texts_own h hn hw
  cases he
  refine ⟨ht, hn, fun e => ?_⟩
  subst e
  rcases h.2 with ⟨he, h0⟩ | ⟨g, cap, cur, he, _⟩
  · simp only [Value.slice.injEq] at he
    exact ⟨he.2.2, List.eq_nil_of_length_eq_zero (by omega)⟩
  · simp at he
theorem TextsX.sizes {w : World} {x : Option Addr} {l : List ByteArray} (h : TextsX w x l) : ∀ s ∈ l, s.size ≤ maxLen := fun s hs => by
  obtain ⟨i, hi, rfl⟩ := List.getElem_of_mem hs
  obtain ⟨_, _, _, _, h3⟩ := h i hi
  exact h3

theorem wpList_append_texts {w : World} {ops : Array Oper} {rest : List Oper} {o : Oper} {a : Act} {Q : Exit → Act → World → Prop} (hgd : o.guard = none) (s x : Operand)
    (ho : o.op = .call { callee := .builtin .append, args := #[s, x], argTypes := #[40, 40] })
    (base : Nat) (v : Value) (n : Nat) (xs : List ByteArray) (hs : a.eval s = v) (hown : w.ownsRow base TStr 1 v n (svals xs))
    (ax : Option Addr) (m c : Nat) (l : List ByteArray) (hx : a.eval x = .slice ax m c) (hm : m = l.length) (htx : TextsX w ax l) (hnone : ax = none → c = 0 ∧ l = []) (hb : n + m ≤ 1000000) (hbase : base ≤ w.heap.size)
    (h : ∀ y cap w', w'.ownsRow base TStr 1 (.slice y (n + m) cap) (n + m) (svals (xs ++ l)) → w.grownBy w' v.ownBlock → wpList Tryd.prog ops Q rest (a.put o.dst (.slice y (n + m) cap)) w') : wpList Tryd.prog ops Q (o :: rest) a w := by
  obtain ⟨i0, hi, hz0, hz1, hz2⟩ := info_parts infoStrP
  subst hm
  cases ax with
  | none =>
    obtain ⟨rfl, rfl⟩ := hnone rfl
    refine wpList_append_own_none hgd s x 40 ho base TStr i0 1 Tryd.underlying40 hi v n (svals xs) hs hown hx ?_
    obtain ⟨y, cap, rfl⟩ := slice_own hown
    exact h y cap w (by simpa using hown) ⟨rfl, rfl, rfl, Nat.le_refl _, fun _ _ _ => rfl⟩
  | some ad =>
    have hnews : ∀ j u, (svals l)[j]? = some u → w.cell? (ad.add j) = some u := fun j u hu => by
      unfold svals at hu
      rw [List.getElem?_map] at hu
      cases hj : l[j]? with
      | none => rw [hj] at hu; cases hu
      | some t =>
        rw [hj] at hu
        obtain ⟨hlt, rfl⟩ := List.getElem?_eq_some_iff.1 hj
        obtain ⟨b, off, he, h2, _⟩ := htx j hlt
        obtain rfl := Option.some.inj he
        rw [show (⟨b, off, none⟩ : Addr).add j = ⟨b, off + j, none⟩ from by unfold Addr.add; split <;> simp_all, h2]
        exact hu
    refine wpList_append_own _ hgd s x 40 ho base TStr i0 (.string ⟨#[]⟩) 1 16 Tryd.underlying40 hi hz0 hz1 hz2 rfl (by decide) v n (svals xs) hs hown ad l.length c (svals l) hx (by simp [svals]) hnews (by intro u hu; simp [svals] at hu; obtain ⟨t, _, rfl⟩ := hu; rfl) (by unfold maxLen; omega) (by omega) hbase ?_
    intro v' w' hown' hg _
    obtain ⟨y, cap, rfl⟩ := slice_own hown'
    exact h y cap w' (by unfold svals at *; rw [List.map_append]; exact hown') hg
end Go.Proofs.YtepbflcmghkieaaDoor
