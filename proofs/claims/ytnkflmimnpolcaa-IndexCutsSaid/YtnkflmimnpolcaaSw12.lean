/- A row of entries of one's own: stored into, swapped; what it leaves of a tab. -/
import Derived.Test.YtnkflmimnpolcaaPu12
import Derived.Test.YtnkflmimnpolcaaIl12
import Derived.Laws.AppendOwnNone
namespace Go.Proofs.Ytnkflmimnpolcaa
open Go.RowKit Go.Lib Go.ChangeShapes Go.WideShapes
set_option maxRecDepth 100000

/-- Entries in a block of one's own. -/
def RowE (w : World) (g : Nat) (l : List En) : Prop := ∃ cur, w.heap[g]? = some (.cells cur TEn) ∧ cur.toList.take (l.length * 3) = envals l ∧ l.length * 3 ≤ cur.size
theorem RowE.x {w : World} {g : Nat} {l : List En} (h : RowE w g l) : EntX w (some ⟨g, 0, none⟩) l := by
  obtain ⟨cur, hg, ht, _⟩ := h
  exact entX_block hg ht rfl
theorem RowE.t0 {w w' : World} {g : Nat} {l : List En} (h : RowE w g l) (t : Touch [] w w') : RowE w' g l := by
  obtain ⟨cur, hg, r⟩ := h
  exact ⟨cur, touch_other t hg (by simp), r⟩
theorem RowE.free {w : World} {g : Nat} {l : List En} (h : RowE w g l) (i : Nat) : w.frozen? ⟨g, i, none⟩ = false := by
  obtain ⟨cur, hg, r⟩ := h
  exact free_of hg i
theorem envals_set : ∀ (l : List En) (k : Nat) (e : En), k < l.length → envals (l.set k e) = (((envals l).set (k * 3) (.int .i64 e.1)).set (k * 3 + 1) (.int .i64 e.2.1)).set (k * 3 + 2) (.int .i64 e.2.2)
  | [], k, e, h => by simp at h
  | x :: l, 0, e, _ => by simp [envals, enc3]
  | x :: l, k + 1, e, h => by
    have := envals_set l k e (by simpa using h)
    have e1 : (k + 1) * 3 = k * 3 + 3 := by omega
    rw [e1]
    simp [envals, enc3, this]
theorem RowE.store {w : World} {g : Nat} {l : List En} (h : RowE w g l) (k : Nat) (e : En) (hk : k < l.length) :
    RowE (((w.setCell ⟨g, k * 3, none⟩ (.int .i64 e.1)).setCell ⟨g, k * 3 + 1, none⟩ (.int .i64 e.2.1)).setCell ⟨g, k * 3 + 2, none⟩ (.int .i64 e.2.2)) g (l.set k e) := by
  obtain ⟨cur, hg, ht, hs⟩ := h
  have h1 := heap_set (i := k * 3) hg (.int .i64 e.1)
  have h2 := heap_set (i := k * 3 + 1) h1 (.int .i64 e.2.1)
  have h3 := heap_set (i := k * 3 + 2) h2 (.int .i64 e.2.2)
  refine ⟨_, h3, ?_, by simpa using hs⟩
  rw [List.length_set, envals_set l k e hk, ← ht]
  simp [List.take_set]
theorem swap_mem {l : List En} {a b : Nat} (ha : a < l.length) (hb : b < l.length) (x : En) : x ∈ (l.set a l[b]).set b l[a] ↔ x ∈ l := by
  constructor
  · intro h
    rcases List.mem_or_eq_of_mem_set h with h | h
    · rcases List.mem_or_eq_of_mem_set h with h | h
      · exact h
      · rw [h]; exact List.getElem_mem hb
    · rw [h]; exact List.getElem_mem ha
  · intro h
    obtain ⟨i, hi, rfl⟩ := List.getElem_of_mem h
    rw [List.mem_iff_getElem]
    by_cases h1 : i = a
    · subst h1
      exact ⟨b, by simpa using hb, by simp⟩
    · by_cases h2 : i = b
      · subst h2
        refine ⟨a, by simpa using ha, ?_⟩
        rw [List.getElem_set]
        split
        · next h => exact absurd h h1
        · simp
      · exact ⟨i, by simpa using hi, by rw [List.getElem_set_ne (by omega), List.getElem_set_ne (by omega)]⟩
theorem mem_put1 (l : List En) (e x : En) : x ∈ put1 l e ↔ x ∈ l ∨ (x = e ∧ okE x) := by
  unfold put1
  split
  · next h =>
    rw [mem_ins]
    constructor
    · rintro (rfl | h1)
      · exact .inr ⟨rfl, h⟩
      · exact .inl h1
    · rintro (h1 | ⟨rfl, _⟩)
      · exact .inr h1
      · exact .inl rfl
  · next h =>
    constructor
    · exact .inl
    · rintro (h1 | ⟨rfl, h2⟩)
      · exact h1
      · exact (h h2).elim
theorem mem_addAll : ∀ (es : List En) (l : List En) (x : En), x ∈ addAll l es ↔ x ∈ l ∨ (x ∈ es ∧ okE x)
  | [], l, x => by simp [addAll]
  | e :: es, l, x => by
    have h1 : addAll l (e :: es) = addAll (put1 l e) es := rfl
    rw [h1, mem_addAll es, mem_put1, List.mem_cons]
    constructor
    · rintro ((h | ⟨h, k⟩) | ⟨h, k⟩)
      · exact .inl h
      · exact .inr ⟨.inl h, k⟩
      · exact .inr ⟨.inr h, k⟩
    · rintro (h | ⟨h | h, k⟩)
      · exact .inl (.inl h)
      · exact .inl (.inr ⟨h, k⟩)
      · exact .inr ⟨h, k⟩
theorem addAll_same {l m : List En} (h : ∀ x, x ∈ m ↔ x ∈ l) : addAll [] m = addAll [] l :=
  sorted_ext (sorted_addAll m (by simp)) (sorted_addAll l (by simp)) fun x => by rw [mem_addAll, mem_addAll, h]
theorem addAll_again (l : List En) : addAll (addAll [] l) l = addAll [] l :=
  sorted_ext (sorted_addAll l (sorted_addAll l (by simp))) (sorted_addAll l (by simp)) fun x => by
    rw [mem_addAll, mem_addAll]
    constructor
    · rintro (h | h)
      · exact h
      · exact .inr h
    · exact .inl

/-- append of a list of entries that came in to none, at a plain region's list. -/
theorem wpList_append_ents (w : World) {ops : Array Oper} {rest : List Oper} {o : Oper} {a : Act} {Q : Exit → Act → World → Prop} (hgd : o.guard = none) (s x : Operand)
    (ho : o.op = .call { callee := .builtin .append, args := #[s, x], argTypes := #[TEns, TEns] }) (hs : a.eval s = .slice none 0 0)
    (y : Option Addr) (c : Nat) (l : List En) (hx : a.eval x = .slice y l.length c) (hl : l.length ≤ 1000000) (hX : EntX w y l) (hc0 : y = none → c = 0)
    (h : ∀ v' w', w'.ownsRow w.heap.size TEn 3 v' l.length (envals l) → Touch [] w w' → wpList Try.prog ops Q rest (a.put o.dst v') w') : wpList Try.prog ops Q (o :: rest) a w := by
  obtain ⟨i0, hi, hz0, hz1, hz2⟩ := info_parts infoEn
  by_cases h0 : y = none
  · subst h0
    have hl0 : l = [] := by
      cases l with
      | nil => rfl
      | cons e l => obtain ⟨b, off, hb, _⟩ := hX 0 (by simp); cases hb
    subst hl0
    obtain rfl : c = 0 := hc0 rfl
    exact wpList_append_own_none hgd s x TEns ho w.heap.size TEn i0 3 Try.underlying22 hi _ 0 [] hs (World.ownsRow_nil _ _ _ _) hx (h _ w (World.ownsRow_nil _ _ _ _) (Touch.refl _ _))
  · obtain ⟨ad, rfl⟩ := Option.ne_none_iff_exists'.1 h0
    have hcell : ∀ j u, (envals l)[j]? = some u → w.cell? (ad.add j) = some u := by
      intro j u hj
      have hjl : j < l.length * 3 := by rw [← envals_len]; exact (List.getElem?_eq_some_iff.1 hj).1
      obtain ⟨b, off, hb, c0, c1, c2⟩ := hX (j / 3) (by omega)
      cases hb
      have had : (⟨b, off, none⟩ : Addr).add j = ⟨b, off + j, none⟩ := by unfold Addr.add; split <;> simp_all
      rw [had]
      have key : ∀ (l : List En) (i : Nat) (h : i < l.length), (envals l)[i * 3]? = some (.int .i64 (l[i]'h).1) ∧ (envals l)[i * 3 + 1]? = some (.int .i64 (l[i]'h).2.1) ∧ (envals l)[i * 3 + 2]? = some (.int .i64 (l[i]'h).2.2) := by
        intro l
        induction l with
        | nil => intro i h; simp at h
        | cons e l ih =>
          intro i h
          cases i with
          | zero => simp [envals, enc3]
          | succ i =>
            have := ih i (by simpa using h)
            have e1 : (i + 1) * 3 = i * 3 + 3 := by omega
            rw [e1]
            simpa [envals, enc3] using this
      obtain ⟨k0, k1, k2⟩ := key l (j / 3) (by omega)
      have hm : j % 3 = 0 ∨ j % 3 = 1 ∨ j % 3 = 2 := by omega
      rcases hm with hm | hm | hm
      · have e : j = j / 3 * 3 := by omega
        rw [← e] at k0 c0
        rw [k0] at hj; cases hj; exact c0
      · have e : j = j / 3 * 3 + 1 := by omega
        rw [← e] at k1
        rw [show off + j / 3 * 3 + 1 = off + j by omega] at c1
        rw [k1] at hj; cases hj; exact c1
      · have e : j = j / 3 * 3 + 2 := by omega
        rw [← e] at k2
        rw [show off + j / 3 * 3 + 2 = off + j by omega] at c2
        rw [k2] at hj; cases hj; exact c2
    refine wpList_plain hgd fun K hK => ?_
    obtain ⟨v', w', hr, hG⟩ := append_full (P := Try.prog) w w.heap.size TEns o.type TEn i0 (.agg #[.int .i64 0, .int .i64 0, .int .i64 0]) 3 24 Try.underlying22 hi hz0 hz1 hz2 rfl (by decide) (.slice none 0 0) 0 [] (World.ownsRow_nil _ _ _ _) ad l.length c (envals l) (envals_len l) hcell
      (by
        have : ∀ (l : List En), ∀ u ∈ envals l, u.oneCell' = true := by
          intro l
          induction l with
          | nil => simp [envals]
          | cons e l ih =>
            intro u hu
            simp only [envals, List.mem_append] at hu
            rcases hu with hu | hu
            · simp [enc3] at hu; rcases hu with rfl | rfl | rfl <;> rfl
            · exact ih u hu
        exact this l) (by omega) (by decide) (Nat.le_refl _)
    unfold Oper.wp execOp
    simp only [ho, resolve, invoke, builtin, Sem.run_bind, Sem.run_pure, Result.andThen_ok, List.map_toArray, List.map_cons, List.map_nil, hs, hx, hr]
    refine hK _ _ (h v' w' (by simpa using hG.own) ?_)
    have hg := hG.grown
    exact (Touch.refl [] w).grown hg (fun k e => by cases e)
end Go.Proofs.Ytnkflmimnpolcaa
