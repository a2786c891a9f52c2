/- Entries in order, as a tree: the pure side. -/
import Derived.Test.YtnkflmimnpolcaaBase
namespace Go.Proofs.Ytnkflmimnpolcaa
set_option maxRecDepth 100000
open Go.RowKit Go.Lib

/-- An entry: its hash, version, place. -/
abbrev En := Int × Int × Int
def ltE (a b : En) : Prop := a.1 < b.1 ∨ (a.1 = b.1 ∧ (a.2.1 < b.2.1 ∨ (a.2.1 = b.2.1 ∧ a.2.2 < b.2.2)))
instance (a b : En) : Decidable (ltE a b) := by unfold ltE; infer_instance
theorem ltE_irrefl (a : En) : ¬ ltE a a := by unfold ltE; omega
theorem ltE_asymm {a b : En} (h : ltE a b) : ¬ ltE b a := by unfold ltE at *; omega
theorem ltE_trans {a b c : En} (h : ltE a b) (k : ltE b c) : ltE a c := by unfold ltE at *; omega
theorem ltE_tri (a b : En) : a = b ∨ ltE a b ∨ ltE b a := by
  obtain ⟨a1, a2, a3⟩ := a
  obtain ⟨b1, b2, b3⟩ := b
  simp only [ltE, Prod.mk.injEq]
  omega
theorem ltE_ne {a b : En} (h : ltE a b) : a ≠ b := fun e => ltE_irrefl b (e ▸ h)

/-- Entries that stand in order, each once. -/
abbrev SortedE (l : List En) : Prop := l.Pairwise ltE
/-- An entry more, in its place, if it isn't there. -/
def ins : List En → En → List En
  | [], e => [e]
  | x :: l, e => if e = x then x :: l else if ltE e x then e :: x :: l else x :: ins l e
theorem mem_ins (l : List En) (e x : En) : x ∈ ins l e ↔ x = e ∨ x ∈ l := by
  induction l with
  | nil => simp [ins]
  | cons y l ih =>
    unfold ins
    split
    · next h => subst h; simp
    · split
      · simp
      · simp only [List.mem_cons, ih]
        constructor
        · rintro (h | h | h) <;> simp [h]
        · rintro (h | h | h) <;> simp [h]
theorem sorted_ins {l : List En} (h : SortedE l) (e : En) : SortedE (ins l e) := by
  induction l with
  | nil => simp [ins]
  | cons y l ih =>
    have h1 := List.pairwise_cons.1 h
    unfold ins
    split
    · exact h
    · next hne =>
      split
      · next hlt =>
        refine List.pairwise_cons.2 ⟨?_, h⟩
        intro x hx
        rcases List.mem_cons.1 hx with rfl | hx
        · exact hlt
        · exact ltE_trans hlt (h1.1 x hx)
      · next hlt =>
        refine List.pairwise_cons.2 ⟨?_, ih h1.2⟩
        intro x hx
        rcases (mem_ins l e x).1 hx with rfl | hx
        · rcases ltE_tri x y with h | h | h
          · exact (hne h).elim
          · exact (hlt h).elim
          · exact h
        · exact h1.1 x hx
/-- Is it not there? -/
def news (l : List En) (e : En) : Nat := if e ∈ l then 0 else 1
theorem len_ins {l : List En} (h : SortedE l) (e : En) : (ins l e).length = l.length + news l e := by
  induction l with
  | nil => simp [ins, news]
  | cons y l ih =>
    have h1 := List.pairwise_cons.1 h
    unfold ins news
    split
    · next he => simp [he]
    · next hne =>
      split
      · next hlt =>
        have : e ∉ y :: l := by
          intro hx
          rcases List.mem_cons.1 hx with hx | hx
          · exact hne hx
          · exact ltE_asymm hlt (h1.1 e hx)
        rw [if_neg this]; simp
      · have := ih h1.2
        unfold news at this
        simp only [List.length_cons, this, List.mem_cons, hne, false_or]
        omega
theorem ins_left {l r : List En} {x e : En} (h : ltE e x) : ins (l ++ x :: r) e = ins l e ++ x :: r := by
  induction l with
  | nil => simp [ins, ltE_ne h, h]
  | cons y l ih =>
    simp only [List.cons_append, ins]
    split
    · rfl
    · split
      · rfl
      · rw [ih]; rfl
theorem ins_right {l r : List En} {x e : En} (hs : SortedE (l ++ x :: r)) (h : ltE x e) : ins (l ++ x :: r) e = l ++ x :: ins r e := by
  induction l with
  | nil => simp [ins, (ltE_ne h).symm, ltE_asymm h]
  | cons y l ih =>
    have h1 := List.pairwise_cons.1 hs
    have hy : ltE y e := ltE_trans (h1.1 x (by simp)) h
    simp only [List.cons_append, ins, if_neg (ltE_ne hy).symm, if_neg (ltE_asymm hy)]
    rw [ih h1.2]
theorem ins_mid {l r : List En} {x : En} (hs : SortedE (l ++ x :: r)) : ins (l ++ x :: r) x = l ++ x :: r := by
  induction l with
  | nil => simp [ins]
  | cons y l ih =>
    have h1 := List.pairwise_cons.1 hs
    have hy : ltE y x := h1.1 x (by simp)
    simp only [List.cons_append, ins, if_neg (ltE_ne hy).symm, if_neg (ltE_asymm hy)]
    rw [ih h1.2]
/-- Sorted lists with the same entries are the same. -/
theorem sorted_ext : ∀ {l m : List En}, SortedE l → SortedE m → (∀ x, x ∈ l ↔ x ∈ m) → l = m
  | [], [], _, _, _ => rfl
  | [], y :: m, _, _, h => by have := (h y).2 (by simp); simp at this
  | y :: l, [], _, _, h => by have := (h y).1 (by simp); simp at this
  | x :: l, y :: m, hl, hm, h => by
    have l1 := List.pairwise_cons.1 hl
    have m1 := List.pairwise_cons.1 hm
    have hxy : x = y := by
      rcases List.mem_cons.1 ((h x).1 (by simp)) with e | e
      · exact e
      · rcases List.mem_cons.1 ((h y).2 (by simp)) with k | k
        · exact k.symm
        · exact (ltE_asymm (m1.1 x e) (l1.1 y k)).elim
    subst hxy
    congr 1
    refine sorted_ext l1.2 m1.2 fun z => ?_
    constructor
    · intro hz
      rcases List.mem_cons.1 ((h z).1 (by simp [hz])) with rfl | k
      · exact (ltE_irrefl _ (l1.1 _ hz)).elim
      · exact k
    · intro hz
      rcases List.mem_cons.1 ((h z).2 (by simp [hz])) with rfl | k
      · exact (ltE_irrefl _ (m1.1 _ hz)).elim
      · exact k

inductive Tr where
  | nil
  | node (l : Tr) (e : En) (r : Tr)
def Tr.ht : Tr → Nat
  | .nil => 0
  | .node l _ r => max l.ht r.ht + 1
def Tr.ct : Tr → Nat
  | .nil => 0
  | .node l _ r => l.ct + r.ct + 1
def Tr.io : Tr → List En
  | .nil => []
  | .node l e r => l.io ++ e :: r.io
theorem Tr.ct_io (t : Tr) : t.ct = t.io.length := by
  induction t with
  | nil => rfl
  | node l e r hl hr => simp [Tr.ct, Tr.io, hl, hr]; omega
theorem Tr.ht_ct (t : Tr) : t.ht ≤ t.ct := by
  induction t with
  | nil => exact Nat.le_refl _
  | node l e r hl hr => simp only [Tr.ct, Tr.ht]; omega
/-- The tree of an entry between two sides. -/
def bal (l : Tr) (e : En) (r : Tr) : Tr :=
  if r.ht + 1 < l.ht then
    match l with
    | .nil => .node l e r
    | .node ll le lr => if ll.ht < lr.ht then (match lr with
        | .nil => .node l e r
        | .node a ie b => .node (.node ll le a) ie (.node b e r)) else .node ll le (.node lr e r)
  else if l.ht + 1 < r.ht then
    match r with
    | .nil => .node l e r
    | .node rl re rr => if rr.ht < rl.ht then (match rl with
        | .nil => .node l e r
        | .node a ie b => .node (.node l e a) ie (.node b re rr)) else .node (.node l e rl) re rr
  else .node l e r
theorem bal_io (l : Tr) (e : En) (r : Tr) : (bal l e r).io = l.io ++ e :: r.io := by
  unfold bal
  repeat' split
  all_goals simp [Tr.io]
def wi : Tr → En → Tr
  | .nil, e => .node .nil e .nil
  | .node l x r, e => if x = e then .node l x r else if ltE e x then bal (wi l e) x r else bal l x (wi r e)
theorem wi_io (t : Tr) (e : En) (h : SortedE t.io) : (wi t e).io = ins t.io e := by
  induction t with
  | nil => rfl
  | node l x r hl hr =>
    have hp := List.pairwise_append.1 h
    have hq := List.pairwise_cons.1 hp.2.1
    unfold wi
    split
    · next hx => subst hx; exact (ins_mid h).symm
    · next hx =>
      split
      · next hlt => rw [bal_io, hl hp.1]; exact (ins_left hlt).symm
      · next hlt =>
        rw [bal_io, hr hq.2]
        refine (ins_right h ?_).symm
        rcases ltE_tri e x with k | k | k
        · exact (hx k.symm).elim
        · exact (hlt k).elim
        · exact k
theorem wi_ct (t : Tr) (e : En) (h : SortedE t.io) : (wi t e).ct ≤ t.ct + 1 := by
  rw [Tr.ct_io, Tr.ct_io, wi_io t e h, len_ins h]
  unfold news
  split <;> omega
end Go.Proofs.Ytnkflmimnpolcaa
