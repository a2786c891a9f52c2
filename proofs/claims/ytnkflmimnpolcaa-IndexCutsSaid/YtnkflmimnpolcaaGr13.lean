/- append, told in full, at a plain region's list and at a step of a region that draws; rows that lie apart. -/
import Derived.Test.YtnkflmimnpolcaaAl12
import Derived.OneCell
import Derived.Maps.AppendAt
import Derived.Laws.OwnMore
import Derived.Laws.IdiomStrings
import Derived.Laws.AppendOwnNone
import Derived.IntWalk
namespace Go.Proofs.Ytnkflmimnpolcaa
set_option maxRecDepth 100000
open Go.RowKit Go.Lib Go.ChangeShapes Go.WideShapes

theorem grew_none {w : World} {base n size : Nat} {e : TypeId} {v : Value} {xs : List Value} (h : w.ownsRow base e size v n xs) : Grew w w base e size v v n 0 xs [] := by
  obtain ⟨y, cap, rfl, _, _⟩ := slice_form h
  exact ⟨by simpa using h, h, .inl ⟨rfl, ⟨rfl, rfl, rfl, Nat.le_refl _, fun _ _ _ => rfl⟩, y, cap, rfl, rfl⟩⟩

/-- append of what lies in cells, at a plain region's list. -/
theorem wpList_append_cells {P : Program} (w : World) {ops : Array Oper} {rest : List Oper} {o : Oper} {a : Act} {Q : Exit → Act → World → Prop} (hgd : o.guard = none) (s x : Operand) (t : TypeId)
    (ho : o.op = .call { callee := .builtin .append, args := #[s, x], argTypes := #[t, t] })
    (base : Nat) (e : TypeId) (i : TypeInfo) (z : Value) (size bytes : Nat) (ht : P.underlying t = some (.slice e)) (hi : P.info? e = some i) (hz : i.zero = some z) (hsize : i.size = size) (hby : i.bytes = bytes) (hzs : z.cells.size = size) (hsz : 0 < size)
    (v : Value) (n : Nat) (xs : List Value) (hs : a.eval s = v) (hown : w.ownsRow base e size v n xs)
    (ad : Addr) (m c : Nat) (news : List Value) (hx : a.eval x = .slice (some ad) m c) (hl : news.length = m * size) (hnews : ∀ j u, news[j]? = some u → w.cell? (ad.add j) = some u) (h1 : ∀ u ∈ news, u.oneCell' = true) (h63 : n + m ≤ 1000000000) (hb : bytes ≤ 1000) (hbase : base ≤ w.heap.size)
    (h : ∀ y cap w', Grew w w' base e size v (.slice y (n + m) cap) n m xs news → wpList P ops Q rest (a.put o.dst (.slice y (n + m) cap)) w') : wpList P ops Q (o :: rest) a w := by
  refine wpList_plain hgd fun K hK => ?_
  obtain ⟨v', w', hr, hG⟩ := append_full (P := P) w base t o.type e i z size bytes ht hi hz hsize hby hzs hsz v n xs hown ad m c news hl hnews h1 h63 hb hbase
  obtain ⟨y, cap', rfl, _, _⟩ := slice_form hG.own
  unfold Oper.wp execOp
  simp only [ho, resolve, invoke, builtin, Sem.run_bind, Sem.run_pure, Result.andThen_ok, List.map_toArray, List.map_cons, List.map_nil, hs, hx, hr]
  exact hK _ _ (h y cap' w' hG)

/-- append of a row, at a plain region's list. -/
theorem wpList_append_grew {P : Program} (w : World) {ops : Array Oper} {rest : List Oper} {o : Oper} {a : Act} {Q : Exit → Act → World → Prop} (hgd : o.guard = none) (s x : Operand) (t : TypeId)
    (ho : o.op = .call { callee := .builtin .append, args := #[s, x], argTypes := #[t, t] })
    (base : Nat) (e : TypeId) (i : TypeInfo) (z : Value) (size bytes : Nat) (ht : P.underlying t = some (.slice e)) (hi : P.info? e = some i) (hz : i.zero = some z) (hsize : i.size = size) (hby : i.bytes = bytes) (hzs : z.cells.size = size) (hsz : 0 < size)
    (v : Value) (n : Nat) (xs : List Value) (hs : a.eval s = v) (hown : w.ownsRow base e size v n xs)
    (vx : Value) (m bx : Nat) (news : List Value) (hx : a.eval x = vx) (hsrc : w.ownsRow bx e size vx m news) (h1 : ∀ u ∈ news, u.oneCell' = true) (h63 : n + m ≤ 1000000000) (hb : bytes ≤ 1000) (hbase : base ≤ w.heap.size)
    (h : ∀ y cap w', Grew w w' base e size v (.slice y (n + m) cap) n m xs news → wpList P ops Q rest (a.put o.dst (.slice y (n + m) cap)) w') : wpList P ops Q (o :: rest) a w := by
  rcases hsrc.2 with ⟨rfl, rfl⟩ | ⟨g, cap, cur, rfl, hbg, hg, hnc, hcm, hcs, htake⟩
  · have hnil : news = [] := List.eq_nil_of_length_eq_zero (by simpa using hsrc.1)
    subst hnil
    obtain ⟨y, cap, rfl, _, _⟩ := slice_form hown
    exact wpList_append_own_none hgd s x t ho base e i size ht hi _ n xs hs hown hx (h y cap w (by simpa using grew_none hown))
  · exact wpList_append_cells w hgd s x t ho base e i z size bytes ht hi hz hsize hby hzs hsz v n xs hs hown ⟨g, 0, none⟩ m cap news hx hsrc.1 (fun j u hu => hsrc.cells (g := g) rfl j u hu) h1 h63 hb hbase h

/-- append of a row, at a step of a region that draws its order. -/
theorem step_append_grew {P : Program} (w : World) {ops : Array Oper} {o : Oper} {a : Act} {K : Act → World → Prop} {Q : Exit → Act → World → Prop} {E : Prop} (hgd : o.guard = none) (s x : Operand) (t : TypeId)
    (ho : o.op = .call { callee := .builtin .append, args := #[s, x], argTypes := #[t, t] })
    (base : Nat) (e : TypeId) (i : TypeInfo) (z : Value) (size bytes : Nat) (ht : P.underlying t = some (.slice e)) (hi : P.info? e = some i) (hz : i.zero = some z) (hsize : i.size = size) (hby : i.bytes = bytes) (hzs : z.cells.size = size) (hsz : 0 < size)
    (v : Value) (n : Nat) (xs : List Value) (hs : a.eval s = v) (hown : w.ownsRow base e size v n xs)
    (ad : Addr) (m c : Nat) (news : List Value) (hx : a.eval x = .slice (some ad) m c) (hl : news.length = m * size) (hnews : ∀ j u, news[j]? = some u → w.cell? (ad.add j) = some u) (h1 : ∀ u ∈ news, u.oneCell' = true) (h63 : n + m ≤ 1000000000) (hb : bytes ≤ 1000) (hbase : base ≤ w.heap.size)
    (h : ∀ y cap w', Grew w w' base e size v (.slice y (n + m) cap) n m xs news → K (a.put o.dst (.slice y (n + m) cap)) w') :
    if Region.wanted o (yielded ops a.tmps) = true then Oper.wp P o a w K Q else E := by
  rw [if_pos (by simp [Region.wanted, hgd])]
  obtain ⟨v', w', hr, hG⟩ := append_full (P := P) w base t o.type e i z size bytes ht hi hz hsize hby hzs hsz v n xs hown ad m c news hl hnews h1 h63 hb hbase
  obtain ⟨y, cap', rfl, _, _⟩ := slice_form hG.own
  unfold Oper.wp execOp
  simp only [ho, resolve, invoke, builtin, Sem.run_bind, Sem.run_pure, Result.andThen_ok, List.map_toArray, List.map_cons, List.map_nil, hs, hx, hr]
  exact h y cap' w' hG
/-- A call of a function of the program's, at a step of a region that draws its order. -/
theorem step_call {P : Program} (w : World) {ops : Array Oper} {o : Oper} {a : Act} {K : Act → World → Prop} {Q : Exit → Act → World → Prop} {E : Prop} {f : FuncId} {args : Array Value} {R : Ending → World → Prop} (hgd : o.guard = none)
    (hop : (execOp a.eval o).run P w = .ok (.enter f args) w) (hc : Calls P f args w R) (h : ∀ e w', R e w' → ∃ v, e = .returned v ∧ K (a.put o.dst v) w') :
    if Region.wanted o (yielded ops a.tmps) = true then Oper.wp P o a w K Q else E := by
  rw [if_pos (by simp [Region.wanted, hgd])]
  unfold Oper.wp
  rw [hop, Oper.upon_enter]
  exact hc.mono fun e w' hR => by obtain ⟨v, rfl, hK⟩ := h e w' hR; exact hK

/-! ### Rows that lie apart -/
theorem own_row {w : World} {b n size : Nat} {e : TypeId} {v : Value} {xs : List Value} (h : w.ownsRow b e size v n xs) : ∀ k, v.ownBlock = some k → b ≤ k := fun k hk => (h.lt k hk).1
def Far (u v : Value) : Prop := ∀ k, u.ownBlock = some k → v.ownBlock ≠ some k
theorem Far.symm {u v : Value} (h : Far u v) : Far v u := fun k hk hu => h k hu hk
theorem far_nil (v : Value) (n c : Nat) : Far (.slice none n c) v := fun k hk => by cases hk
/-- A row that has just been grown is as far from another one as it was. -/
theorem Grew.far {w w' : World} {base n m size bu nu : Nat} {e eu : TypeId} {v v' u : Value} {xs news xu : List Value} {su : Nat} (h : Grew w w' base e size v v' n m xs news) (hf : Far v u) (hu : w.ownsRow bu eu su u nu xu) : Far v' u := by
  intro k hk huk
  rcases h.at' with ⟨h1, _, _⟩ | ⟨h1, _⟩
  · exact hf k (by rw [← h1]; exact hk) huk
  · rw [h1] at hk
    have := (hu.lt k huk).2
    cases hk
    omega
/-- Another row stays. -/
theorem Grew.other {w w' : World} {base n m size bu nu : Nat} {e eu : TypeId} {v v' u : Value} {xs news xu : List Value} {su : Nat} (h : Grew w w' base e size v v' n m xs news) (hf : Far v u) (hu : w.ownsRow bu eu su u nu xu) : w'.ownsRow bu eu su u nu xu := by
  rcases h.at' with ⟨_, hg, _⟩ | ⟨_, hg⟩
  · refine hu.kept hg ?_
    cases hb : u.ownBlock with
    | none => exact .inl rfl
    | some k => exact .inr fun e => hf k e.symm hb
  · refine hu.kept hg ?_
    cases hb : u.ownBlock with
    | none => exact .inl rfl
    | some k => exact .inr (by simp)
/-- A block of another type stays. -/
theorem Grew.block {w w' : World} {base n m size b : Nat} {e t : TypeId} {v v' : Value} {xs news : List Value} {cs : Array Value} {fz : Nat × Nat} (h : Grew w w' base e size v v' n m xs news) (hv : w.ownsRow base e size v n xs) (hb : w.heap[b]? = some (.cells cs t fz)) (ht : t ≠ e) : w'.heap[b]? = some (.cells cs t fz) := by
  rcases h.at' with ⟨_, hg, _⟩ | ⟨_, hg⟩
  · refine (hg.block b (lt_of_block hb) fun hk => ?_).trans hb
    rcases hv.2 with ⟨rfl, _⟩ | ⟨g, cap, cur, rfl, _, hh, _⟩
    · cases hk
    · simp only [Value.ownBlock, Option.some.injEq] at hk
      subst hk
      rw [hh] at hb
      cases hb
      exact ht rfl
  · exact (hg.block b (lt_of_block hb) (by simp)).trans hb
theorem Grew.touch {w0 w w' : World} {base n m size : Nat} {e : TypeId} {v v' : Value} {xs news : List Value} (h : Grew w w' base e size v v' n m xs news) (hv : w.ownsRow base e size v n xs) (ht : Touch [] w0 w) (hb : w0.heap.size ≤ base) : Touch [] w0 w' := by
  rcases h.at' with ⟨_, hg, _⟩ | ⟨_, hg⟩
  · exact ht.grown hg fun k hk => .inr (by have := own_row hv k hk; omega)
  · exact ht.grown hg fun k hk => by cases hk
theorem Grew.size {w w' : World} {base n m size : Nat} {e : TypeId} {v v' : Value} {xs news : List Value} (h : Grew w w' base e size v v' n m xs news) : w.heap.size ≤ w'.heap.size := by
  rcases h.at' with ⟨_, hg, _⟩ | ⟨_, hg⟩
  · exact hg.size
  · exact hg.size
/-- Rows of different types lie apart. -/
theorem far_types {w : World} {b1 b2 s1 s2 n1 n2 : Nat} {e1 e2 : TypeId} {u v : Value} {x1 x2 : List Value} (hu : w.ownsRow b1 e1 s1 u n1 x1) (hv : w.ownsRow b2 e2 s2 v n2 x2) (he : e1 ≠ e2) : Far u v := by
  intro k hk hk2
  rcases hu.2 with ⟨rfl, _⟩ | ⟨g, cap, cur, rfl, _, hh, _⟩
  · cases hk
  · rcases hv.2 with ⟨rfl, _⟩ | ⟨g2, cap2, cur2, rfl, _, hh2, _⟩
    · cases hk2
    · simp only [Value.ownBlock, Option.some.injEq] at hk hk2
      subst hk
      subst hk2
      rw [hh] at hh2
      cases hh2
      exact he rfl
/-- A row that was there is apart from a newer one. -/
theorem far_new {w w' : World} {b1 b2 s1 s2 n1 n2 : Nat} {e1 e2 : TypeId} {u v : Value} {x1 x2 : List Value} (hu : w.ownsRow b1 e1 s1 u n1 x1) (hv : w'.ownsRow b2 e2 s2 v n2 x2) (h : w.heap.size ≤ b2) : Far u v := by
  intro k hk hk2
  have h1 := (hu.lt k hk).2
  have h2 := (hv.lt k hk2).1
  omega
theorem own_up {base base' : Nat} {e : TypeId} {size : Nat} {v : Value} {n : Nat} {xs : List Value} {W : World} (h : W.ownsRow base e size v n xs) (hb : base' ≤ base) : W.ownsRow base' e size v n xs := by
  refine ⟨h.1, ?_⟩
  rcases h.2 with h | ⟨g, cap, cur, hv, hg, r⟩
  · exact .inl h
  · exact .inr ⟨g, cap, cur, hv, Nat.le_trans hb hg, r⟩
theorem owns_touch {w w' : World} {base n size : Nat} {e : TypeId} {v : Value} {xs : List Value} (h : w.ownsRow base e size v n xs) (t : Touch [] w w') : w'.ownsRow base e size v n xs := by
  refine ⟨h.1, ?_⟩
  rcases h.2 with h | ⟨g, cap, cur, hv, hg, hb, r⟩
  · exact .inl h
  · exact .inr ⟨g, cap, cur, hv, hg, touch_other t hb (by simp), r⟩
/-- A literal of one element, one cell each; of one entry. -/
theorem lit_one (w : World) (v : Value) (t : TypeId) (n : Nat) (h : n = w.heap.size) : (w.alloc (.cells #[v] t)).ownsRow 0 t 1 (.slice (some ⟨n, 0, none⟩) 1 1) 1 [v] := by
  subst h
  exact World.ownsRow_lit w (e := t) (size := 1) #[v] 1 (Nat.zero_le _) (by decide) rfl
theorem lit_en (w : World) (e : En) (n : Nat) (h : n = w.heap.size) : (w.alloc (.cells #[.int .i64 e.1, .int .i64 e.2.1, .int .i64 e.2.2] TEn)).ownsRow 0 TEn 3 (.slice (some ⟨n, 0, none⟩) 1 1) 1 (enc3 e) := by
  subst h
  exact World.ownsRow_lit w (e := TEn) (size := 3) #[.int .i64 e.1, .int .i64 e.2.1, .int .i64 e.2.2] 1 (Nat.zero_le _) (by decide) rfl
theorem enc3_one (e : En) : ∀ u ∈ enc3 e, u.oneCell' = true := by
  intro u hu
  simp [enc3] at hu
  rcases hu with rfl | rfl | rfl <;> rfl
end Go.Proofs.Ytnkflmimnpolcaa
