/- append, told in full: what lies where; rows that lie apart; the book's own names and marks. -/
import Derived.Test.YtepbflcmghkieaaDoorAppT
import Derived.OneCell
import Derived.Maps.AppendAt
import Derived.Laws.OwnMore
import Derived.Laws.IdiomStrings
import Derived.IntWalk
namespace Go.Proofs.YtepbflcmghkieaaDoor
set_option maxRecDepth 100000
open Go.RowKit Go.Lib Go.ChangeShapes Go.WideShapes

/-- A longer row in the same place: the shorter one is still there. -/
theorem own_short {w : World} {base : Nat} {e : TypeId} {size n m g cap : Nat} {xs news : List Value} (h : w.ownsRow base e size (.slice (some ⟨g, 0, none⟩) (n + m) cap) (n + m) (xs ++ news)) (hx : xs.length = n * size) : w.ownsRow base e size (.slice (some ⟨g, 0, none⟩) n cap) n xs := by
  refine ⟨hx, ?_⟩
  rcases h.2 with ⟨h1, _⟩ | ⟨g', cap', cur, h1, hb, hh, hc, hm, hs, ht⟩
  · simp at h1
  · simp only [Value.slice.injEq, Option.some.injEq, Addr.mk.injEq, and_true, true_and] at h1
    obtain ⟨rfl, rfl⟩ := h1
    refine .inr ⟨g, cap, cur, rfl, hb, hh, by omega, hm, hs, ?_⟩
    have h2 := congrArg (List.take (n * size)) ht
    rw [List.take_take, Nat.min_eq_left (Nat.mul_le_mul_right _ (by omega)), List.take_left' hx] at h2
    exact h2
/-- What an append leaves. -/
structure Grew (w w' : World) (base : Nat) (e : TypeId) (size : Nat) (v v' : Value) (n m : Nat) (xs news : List Value) : Prop where
  own : w'.ownsRow base e size v' (n + m) (xs ++ news)
  old : w'.ownsRow base e size v n xs
  at' : (v'.ownBlock = v.ownBlock ∧ w.grownBy w' v.ownBlock ∧ ∃ y c, v = .slice y n c ∧ v' = .slice y (n + m) c) ∨ (v'.ownBlock = some w.heap.size ∧ w.grownBy w' none)
theorem append_full {P : Program} (w : World) (base : Nat) (t ty e : TypeId) (i : TypeInfo) (z : Value) (size bytes : Nat) (ht : P.underlying t = some (.slice e)) (hi : P.info? e = some i) (hz : i.zero = some z)
    (hsize : i.size = size) (hby : i.bytes = bytes) (hzs : z.cells.size = size) (hsz : 0 < size) (v : Value) (n : Nat) (xs : List Value) (hown : w.ownsRow base e size v n xs)
    (a : Addr) (m c : Nat) (news : List Value) (hl : news.length = m * size) (hnews : ∀ j u, news[j]? = some u → w.cell? (a.add j) = some u) (h1 : ∀ u ∈ news, u.oneCell' = true)
    (h63 : n + m ≤ 1000000000) (hb : bytes ≤ 1000) (hbase : base ≤ w.heap.size) :
    ∃ v' w', (Builtin.append_ #[t, t] ty #[v, .slice (some a) m c]).run P w = .ok v' w' ∧ Grew w w' base e size v v' n m xs news := by
  have hbytes : (n + m) * bytes ≤ 140737488355328 := Nat.le_trans (Nat.mul_le_mul h63 hb) (by decide)
  have hmax : n + m ≤ maxLen := by unfold maxLen; omega
  rcases hown.2 with ⟨rfl, rfl⟩ | ⟨g, cap, cur, rfl, hbg, hg, hnc, hcm, hcs, htake⟩
  · obtain ⟨v', w', hr, ho, hgr, hiff, hat⟩ := run_append_own_at (P := P) w base t ty e i z size bytes ht hi hz hsize hby hzs hsz (.slice none 0 0) 0 xs hown a m c news hl hnews h1 hmax hbytes hbase
    refine ⟨v', w', hr, ho, hown.kept hgr (.inl rfl), ?_⟩
    rcases hat with hat | hat
    · refine .inl ⟨hat, hgr, none, 0, rfl, ?_⟩
      rcases ho.2 with ⟨h1, h2⟩ | ⟨g, cap, cur, rfl, _⟩
      · rw [h1, h2]
      · cases hat
    · exact .inr ⟨hat, hgr⟩
  · by_cases hroom : n + m ≤ cap
    · obtain ⟨w', hr, ho, hgr⟩ := run_append_fits (P := P) w base t ty e i size ht hi hsize g n cap xs hown a m c news hl hnews h1 hroom
      exact ⟨_, w', hr, ho, own_short ho hown.1, .inl ⟨rfl, hgr, _, _, rfl, rfl⟩⟩
    · obtain ⟨v', w', hr, ho, hgr, hiff, hat⟩ := run_append_own_at (P := P) w base t ty e i z size bytes ht hi hz hsize hby hzs hsz _ n xs hown a m c news hl hnews h1 hmax hbytes hbase
      subst hsize
      have hxs := hown.1
      have holds : ∀ j u, xs[j]? = some u → w.cell? ((⟨g, 0, none⟩ : Addr).add j) = some u := fun j u hu => hown.cells (g := g) rfl j u hu
      subst hby
      have hfit := growslice_fits (old := cap) (by omega) hbytes
      have hr2 := run_append_grow (P := P) w t ty e i z ht hi hz ⟨g, 0, none⟩ n cap xs hxs holds a m c news hl hnews (by omega) (by omega) hfit
      rw [hr2] at hr
      cases hr
      refine ⟨_, _, hr2, ho, ?_, .inr ⟨rfl, ⟨rfl, rfl, rfl, by simp, fun k hk _ => heap_alloc_old w.drew _ (by simpa using hk)⟩⟩⟩
      exact hown.kept ⟨rfl, rfl, rfl, by simp, fun k hk _ => heap_alloc_old w.drew _ (by simpa using hk)⟩ (row := none) (.inr (by simp [Value.ownBlock]))

theorem slice_form {w : World} {base n size : Nat} {e : TypeId} {v : Value} {xs : List Value} (h : w.ownsRow base e size v n xs) : ∃ y cap, v = .slice y n cap ∧ (y = none → cap = 0 ∧ n = 0) ∧ (∀ a, y = some a → ∃ g, a = ⟨g, 0, none⟩) := by
  rcases h.2 with ⟨rfl, h0⟩ | ⟨g, cap, cur, rfl, _⟩
  · exact ⟨none, 0, by rw [h0], ⟨fun _ => ⟨rfl, h0⟩, fun a e => by cases e⟩⟩
  · exact ⟨_, cap, rfl, ⟨fun e => (by cases e), fun a e => ⟨g, by cases e; rfl⟩⟩⟩
theorem grew_none {w : World} {base n size : Nat} {e : TypeId} {v : Value} {xs : List Value} (h : w.ownsRow base e size v n xs) : Grew w w base e size v v n 0 xs [] :=
by
  obtain ⟨y, cap, rfl, _, _⟩ := slice_form h
  exact ⟨by simpa using h, h, .inl ⟨rfl, ⟨rfl, rfl, rfl, Nat.le_refl _, fun _ _ _ => rfl⟩, y, cap, rfl, rfl⟩⟩

/-- append of a row, at a plain region's list. -/
theorem wpList_append_row {P : Program} (w : World) {ops : Array Oper} {rest : List Oper} {o : Oper} {a : Act} {Q : Exit → Act → World → Prop} (hgd : o.guard = none) (s x : Operand) (t : TypeId)
    (ho : o.op = .call { callee := .builtin .append, args := #[s, x], argTypes := #[t, t] })
    (base : Nat) (e : TypeId) (i : TypeInfo) (z : Value) (bytes : Nat) (ht : P.underlying t = some (.slice e)) (hi : P.info? e = some i) (hz : i.zero = some z) (hsize : i.size = 1) (hby : i.bytes = bytes) (hzs : z.cells.size = 1)
    (v : Value) (n : Nat) (xs : List Value) (hs : a.eval s = v) (hown : w.ownsRow base e 1 v n xs)
    (vx : Value) (m bx : Nat) (news : List Value) (hx : a.eval x = vx) (hsrc : w.ownsRow bx e 1 vx m news) (h1 : ∀ u ∈ news, u.oneCell' = true) (h63 : n + m ≤ 1000000000) (hb : bytes ≤ 1000) (hbase : base ≤ w.heap.size)
    (h : ∀ y cap w', Grew w w' base e 1 v (.slice y (n + m) cap) n m xs news → wpList P ops Q rest (a.put o.dst (.slice y (n + m) cap)) w') : wpList P ops Q (o :: rest) a w := by
  rcases hsrc.2 with ⟨rfl, rfl⟩ | ⟨g, cap, cur, rfl, hbg, hg, hnc, hcm, hcs, htake⟩
  · have hnil : news = [] := List.eq_nil_of_length_eq_zero (by simpa using hsrc.1)
    subst hnil
    obtain ⟨y, cap, rfl, _, _⟩ := slice_form hown
    exact wpList_append_own_none hgd s x t ho base e i 1 ht hi _ n xs hs hown hx (h y cap w (by simpa using grew_none hown))
  · refine wpList_plain hgd fun K hK => ?_
    obtain ⟨v', w', hr, hG⟩ := append_full (P := P) w base t o.type e i z 1 bytes ht hi hz hsize hby hzs (by decide) v n xs hown ⟨g, 0, none⟩ m cap news (by simpa using hsrc.1) (fun j u hu => hsrc.cells (g := g) rfl j u hu) h1 h63 hb hbase
    obtain ⟨y, cap', rfl, _, _⟩ := slice_form hG.own
    unfold Oper.wp execOp
    simp only [ho, resolve, invoke, builtin, Sem.run_bind, Sem.run_pure, Result.andThen_ok, List.map_toArray, List.map_cons, List.map_nil, hs, hx, hr]
    exact hK _ _ (h y cap' w' hG)

/-- append of a row, at a step of a region that draws its order. -/
theorem step_append_row {P : Program} (w : World) {ops : Array Oper} {o : Oper} {a : Act} {K : Act → World → Prop} {Q : Exit → Act → World → Prop} {E : Prop} (hgd : o.guard = none) (s x : Operand) (t : TypeId)
    (ho : o.op = .call { callee := .builtin .append, args := #[s, x], argTypes := #[t, t] })
    (base : Nat) (e : TypeId) (i : TypeInfo) (z : Value) (bytes : Nat) (ht : P.underlying t = some (.slice e)) (hi : P.info? e = some i) (hz : i.zero = some z) (hsize : i.size = 1) (hby : i.bytes = bytes) (hzs : z.cells.size = 1)
    (v : Value) (n : Nat) (xs : List Value) (hs : a.eval s = v) (hown : w.ownsRow base e 1 v n xs)
    (g m cap : Nat) (bx : Nat) (news : List Value) (hx : a.eval x = .slice (some ⟨g, 0, none⟩) m cap) (hsrc : w.ownsRow bx e 1 (.slice (some ⟨g, 0, none⟩) m cap) m news) (h1 : ∀ u ∈ news, u.oneCell' = true) (h63 : n + m ≤ 1000000000) (hb : bytes ≤ 1000) (hbase : base ≤ w.heap.size)
    (h : ∀ y cap w', Grew w w' base e 1 v (.slice y (n + m) cap) n m xs news → K (a.put o.dst (.slice y (n + m) cap)) w') :
    if Region.wanted o (yielded ops a.tmps) = true then Oper.wp P o a w K Q else E := by
  rw [if_pos (by simp [Region.wanted, hgd])]
  obtain ⟨v', w', hr, hG⟩ := append_full (P := P) w base t o.type e i z 1 bytes ht hi hz hsize hby hzs (by decide) v n xs hown ⟨g, 0, none⟩ m cap news (by simpa using hsrc.1) (fun j u hu => hsrc.cells (g := g) rfl j u hu) h1 h63 hb hbase
  obtain ⟨y, cap', rfl, _, _⟩ := slice_form hG.own
  unfold Oper.wp execOp
  simp only [ho, resolve, invoke, builtin, Sem.run_bind, Sem.run_pure, Result.andThen_ok, List.map_toArray, List.map_cons, List.map_nil, hs, hx, hr]
  exact h y cap' w' hG

/-! ### Rows that lie apart -/
def Far (u v : Value) : Prop := ∀ k, u.ownBlock = some k → v.ownBlock ≠ some k
theorem Far.symm {u v : Value} (h : Far u v) : Far v u := fun k hk hu => h k hu hk
theorem far_nil (v : Value) (n c : Nat) : Far (.slice none n c) v := fun k hk => by cases hk
/-- A row that has just been grown is as far from another one as it was. -/
theorem Grew.far {w w' : World} {base n m size bu nu : Nat} {e eu : TypeId} {v v' u : Value} {xs news xu : List Value} {su : Nat} (h : Grew w w' base e size v v' n m xs news) (hf : Far v u) (hu : w.ownsRow bu eu su u nu xu) : Far v' u := by
  intro k hk huk
  rcases h.at' with ⟨h1, _, _⟩ | ⟨h1, _⟩
  · exact hf k (by rw [← h1]; exact hk) huk
  · rw [h1] at hk
    have := (hu.lt k huk).2
    cases hk
    omega
/-- Another row stays. -/
theorem Grew.other {w w' : World} {base n m size bu nu : Nat} {e eu : TypeId} {v v' u : Value} {xs news xu : List Value} {su : Nat} (h : Grew w w' base e size v v' n m xs news) (hf : Far v u) (hu : w.ownsRow bu eu su u nu xu) : w'.ownsRow bu eu su u nu xu := by
  rcases h.at' with ⟨_, hg, _⟩ | ⟨_, hg⟩
  · refine hu.kept hg ?_
    cases hb : u.ownBlock with
    | none => exact .inl rfl
    | some k => exact .inr fun e => hf k e.symm hb
  · refine hu.kept hg ?_
    cases hb : u.ownBlock with
    | none => exact .inl rfl
    | some k => exact .inr (by simp)
/-- A block of another type stays. -/
theorem Grew.block {w w' : World} {base n m size b : Nat} {e t : TypeId} {v v' : Value} {xs news : List Value} {cs : Array Value} {fz : Nat × Nat} (h : Grew w w' base e size v v' n m xs news) (hv : w.ownsRow base e size v n xs) (hb : w.heap[b]? = some (.cells cs t fz)) (ht : t ≠ e) : w'.heap[b]? = some (.cells cs t fz) := by
  rcases h.at' with ⟨_, hg, _⟩ | ⟨_, hg⟩
  · refine (hg.block b (lt_of_block hb) fun hk => ?_).trans hb
    rcases hv.2 with ⟨rfl, _⟩ | ⟨g, cap, cur, rfl, _, hh, _⟩
    · cases hk
    · simp only [Value.ownBlock, Option.some.injEq] at hk
      subst hk
      rw [hh] at hb
      cases hb
      exact ht rfl
  · exact (hg.block b (lt_of_block hb) (by simp)).trans hb
theorem Grew.touch {w0 w w' : World} {base n m size : Nat} {e : TypeId} {v v' : Value} {xs news : List Value} (h : Grew w w' base e size v v' n m xs news) (hv : w.ownsRow base e size v n xs) (ht : Touch [] w0 w) (hb : w0.heap.size ≤ base) : Touch [] w0 w' := by
  rcases h.at' with ⟨_, hg, _⟩ | ⟨_, hg⟩
  · exact ht.grown hg fun k hk => .inr (by have := own_row hv k hk; omega)
  · exact ht.grown hg fun k hk => by cases hk
/-- Rows of different types lie apart. -/
theorem far_types {w : World} {b1 b2 s1 s2 n1 n2 : Nat} {e1 e2 : TypeId} {u v : Value} {x1 x2 : List Value} (hu : w.ownsRow b1 e1 s1 u n1 x1) (hv : w.ownsRow b2 e2 s2 v n2 x2) (he : e1 ≠ e2) : Far u v := by
  intro k hk hk2
  rcases hu.2 with ⟨rfl, _⟩ | ⟨g, cap, cur, rfl, _, hh, _⟩
  · cases hk
  · rcases hv.2 with ⟨rfl, _⟩ | ⟨g2, cap2, cur2, rfl, _, hh2, _⟩
    · cases hk2
    · simp only [Value.ownBlock, Option.some.injEq] at hk hk2
      subst hk
      subst hk2
      rw [hh] at hh2
      cases hh2
      exact he rfl
/-- A row that was there is apart from a newer one. -/
theorem far_new {w w' : World} {b1 b2 s1 s2 n1 n2 : Nat} {e1 e2 : TypeId} {u v : Value} {x1 x2 : List Value} (hu : w.ownsRow b1 e1 s1 u n1 x1) (hv : w'.ownsRow b2 e2 s2 v n2 x2) (h : w.heap.size ≤ b2) : Far u v := by
  intro k hk hk2
  have h1 := (hu.lt k hk).2
  have h2 := (hv.lt k hk2).1
  omega
theorem own_up {base base' : Nat} {e : TypeId} {size : Nat} {v : Value} {n : Nat} {xs : List Value} {W : World} (h : W.ownsRow base e size v n xs) (hb : base' ≤ base) : W.ownsRow base' e size v n xs := own_base h hb
/-- The texts of a row. -/
theorem row_texts {w : World} {base n : Nat} {v : Value} {l : List ByteArray} (h : w.ownsRow base TStr 1 v n (svals l)) (hw : ∀ s ∈ l, s.size ≤ maxLen) : ∃ y cap, v = .slice y l.length cap ∧ n = l.length ∧ TextsX w y l ∧ (y = none → cap = 0 ∧ l = []) := by
  obtain ⟨y, cap, rfl⟩ := slice_own h
  obtain ⟨h1, h2, h3⟩ := texts_row h hw
  subst h2
  exact ⟨y, cap, rfl, rfl, h1, h3⟩
end Go.Proofs.YtepbflcmghkieaaDoor
