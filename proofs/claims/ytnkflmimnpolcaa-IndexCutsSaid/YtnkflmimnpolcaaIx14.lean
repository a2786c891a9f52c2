/- How an index lies in memory: tables of entries, levels of tables. -/
import Derived.Test.YtnkflmimnpolcaaCu12
import Derived.Test.YtnkflmimnpolcaaRg12
import Derived.Test.YtnkflmimnpolcaaGr13
import Derived.Test.YtnkflmimnpolcaaSi13
import Derived.Test.YtnkflmimnpolcaaSw12
namespace Go.Proofs.Ytnkflmimnpolcaa
open Go.RowKit Go.Lib Go.Shelf
set_option maxRecDepth 100000

abbrev TIx : TypeId := 51
/-- May a table have these entries? -/
def Good (l : List En) : Prop := SortedE l ∧ (∀ e ∈ l, okE e ∧ wfE e) ∧ l ≠ [] ∧ l.length ≤ 100000
/-- A table's slice: where it lies, its room, its entries. -/
structure TabV where
  x : Option Addr
  c : Nat
  l : List En
def TabV.val (t : TabV) : Value := .slice t.x t.l.length t.c
structure TabV.At (w : World) (t : TabV) : Prop where
  own : w.ownsRow 0 TEn 3 t.val t.l.length (envals t.l)
  good : Good t.l
theorem row_cap {w : World} {base n size m c : Nat} {e : TypeId} {x : Option Addr} {xs : List Value} (h : w.ownsRow base e size (.slice x m c) n xs) : n ≤ c ∧ (x = none → c = 0) := by
  rcases h.2 with ⟨e', h0⟩ | ⟨g, cap, cur, e', _, hg, hnc, _⟩
  · cases e'; exact ⟨by omega, fun _ => rfl⟩
  · cases e'; exact ⟨hnc, fun h => by cases h⟩
theorem TabV.At.hc {w : World} {t : TabV} (h : t.At w) : t.l.length ≤ t.c := (row_cap h.own).1
theorem TabV.At.hz {w : World} {t : TabV} (h : t.At w) : t.x = none → t.c = 0 := (row_cap h.own).2
theorem TabV.At.ent {w : World} {t : TabV} (h : t.At w) : EntX w t.x t.l := by
  obtain ⟨x, c, e, -, hx⟩ := entX_own h.own
  cases e
  exact hx
theorem TabV.At.t0 {w w' : World} {t : TabV} (h : t.At w) (k : Touch [] w w') : t.At w' := ⟨owns_touch h.own k, h.good⟩
/-- A row of one cell an element, wherever it lies. -/
def RowV (w : World) (x : Option Addr) (vs : List Value) : Prop := ∀ (i : Nat) (h : i < vs.length), ∃ b off, x = some ⟨b, off, none⟩ ∧ w.cell? ⟨b, off + i, none⟩ = some (vs[i]'h)
theorem RowV.t0 {w w' : World} {x : Option Addr} {vs : List Value} (h : RowV w x vs) (t : Touch [] w w') : RowV w' x vs := fun i hi => by
  obtain ⟨b, off, e, g⟩ := h i hi
  exact ⟨b, off, e, t.cell g⟩
theorem rowV_own {w : World} {base n m c : Nat} {e : TypeId} {x : Option Addr} {vs : List Value} (h : w.ownsRow base e 1 (.slice x m c) n vs) : RowV w x vs := fun i hi => by
  rcases h.2 with ⟨e', h0⟩ | ⟨g, cap, cur, e', _, hg, hnc, _⟩
  · have := h.1; omega
  · cases e'
    refine ⟨g, 0, rfl, ?_⟩
    have := h.cells (g := g) rfl i vs[i] (List.getElem?_eq_getElem hi)
    rwa [show (⟨g, 0, none⟩ : Addr).add i = ⟨g, 0 + i, none⟩ by unfold Addr.add; split <;> simp_all] at this
abbrev TTb : TypeId := 57
abbrev TTbs : TypeId := 55
abbrev TLvs : TypeId := 49
/-- A level's slice. -/
structure LvV where
  x : Option Addr
  c : Nat
  ts : List TabV
def LvV.val (v : LvV) : Value := .slice v.x v.ts.length v.c
structure LvV.At (w : World) (v : LvV) : Prop where
  own : w.ownsRow 0 TTb 1 v.val v.ts.length (v.ts.map TabV.val)
  tab : ∀ t ∈ v.ts, t.At w
theorem LvV.At.row {w : World} {v : LvV} (h : v.At w) : RowV w v.x (v.ts.map TabV.val) := rowV_own h.own
theorem LvV.At.t0 {w w' : World} {v : LvV} (h : v.At w) (k : Touch [] w w') : v.At w' := ⟨owns_touch h.own k, fun t ht => (h.tab t ht).t0 k⟩
/-- All levels' slice. -/
structure LvsAt (w : World) (x : Option Addr) (c : Nat) (L : List LvV) : Prop where
  own : w.ownsRow 0 TTbs 1 (.slice x L.length c) L.length (L.map LvV.val)
  lv : ∀ v ∈ L, v.At w
theorem LvsAt.row {w : World} {x : Option Addr} {c : Nat} {L : List LvV} (h : LvsAt w x c L) : RowV w x (L.map LvV.val) := rowV_own h.own
theorem LvsAt.t0 {w w' : World} {x : Option Addr} {c : Nat} {L : List LvV} (h : LvsAt w x c L) (k : Touch [] w w') : LvsAt w' x c L := ⟨owns_touch h.own k, fun v hv => (h.lv v hv).t0 k⟩
/-- An index's block: its two numbers, its memory's tree, its levels. -/
structure IxAt (w : World) (xb : Nat) (room most : Nat) (T : Tr) (L : List LvV) : Prop where
  blk : ∃ r x c, w.heap[xb]? = some (.cells #[.int .i64 room, .int .i64 most, .pointer r, .slice x L.length c] TIx) ∧ TreeAt w r T ∧ LvsAt w x c L
  room : 1 ≤ room
  most : 2 ≤ most
theorem IxAt.t0 {w w' : World} {xb room most : Nat} {T : Tr} {L : List LvV} (h : IxAt w xb room most T L) (t : Touch [] w w') : IxAt w' xb room most T L := by
  obtain ⟨⟨r, x, c, h1, h2, h3⟩, h4, h5⟩ := h
  exact ⟨⟨r, x, c, touch_other t h1 (by simp), h2.t0 t, h3.t0 t⟩, h4, h5⟩
theorem IxAt.mem {w : World} {xb room most : Nat} {T : Tr} {L : List LvV} (h : IxAt w xb room most T L) : TabAt w (some ⟨xb, 2, none⟩) T := by
  obtain ⟨⟨r, x, c, h1, h2, h3⟩, h4, h5⟩ := h
  exact .inr ⟨xb, 2, _, _, rfl, h1, by decide, r, rfl, h2⟩
/-- All tables, level by level; how many there are ahead of a level. -/
def tabsL (L : List LvV) : List TabV := L.flatMap LvV.ts
def offL (L : List LvV) (i : Nat) : Nat := (tabsL (L.take i)).length
theorem off_succ {L : List LvV} {i : Nat} (h : i < L.length) : offL L (i + 1) = offL L i + (L[i]).ts.length := by
  unfold offL tabsL
  rw [List.take_succ_eq_append_getElem h, List.flatMap_append, List.length_append]
  simp [List.flatMap]
theorem off_all (L : List LvV) : offL L L.length = (tabsL L).length := by unfold offL; rw [List.take_length]
theorem tabs_at {L : List LvV} {i j : Nat} (h : i < L.length) (hj : j < (L[i]).ts.length) : (tabsL L)[offL L i + j]? = some (L[i]).ts[j] := by
  have e : L = L.take i ++ L[i] :: L.drop (i + 1) := by rw [List.getElem_cons_drop, List.take_append_drop]
  have e2 : tabsL L = tabsL (L.take i) ++ ((L[i]).ts ++ tabsL (L.drop (i + 1))) := by
    conv => lhs; rw [e]
    unfold tabsL
    rw [List.flatMap_append, List.flatMap_cons]
  rw [e2, List.getElem?_append_right (by unfold offL; omega)]
  unfold offL
  rw [Nat.add_sub_cancel_left, List.getElem?_append_left hj, List.getElem?_eq_getElem hj]
theorem LvsAt.tab {w : World} {x : Option Addr} {c : Nat} {L : List LvV} (h : LvsAt w x c L) : ∀ t ∈ tabsL L, t.At w := fun t ht => by
  obtain ⟨v, hv, hvt⟩ := List.mem_flatMap.1 ht
  exact (h.lv v hv).tab t hvt
/-- A table that lies in a world. -/
abbrev TabG (w : World) := { t : TabV // t.At w }
def gtabs (w : World) (L : List LvV) (h : ∀ t ∈ tabsL L, t.At w) : List (TabG w) := (tabsL L).pmap (fun t ht => ⟨t, ht⟩) h
theorem gtabs_len (w : World) (L : List LvV) (h : ∀ t ∈ tabsL L, t.At w) : (gtabs w L h).length = (tabsL L).length := by simp [gtabs]
theorem gtabs_val (w : World) (L : List LvV) (h : ∀ t ∈ tabsL L, t.At w) : (gtabs w L h).map Subtype.val = tabsL L := by simp [gtabs, List.map_pmap]
theorem gtabs_at (w : World) (L : List LvV) (h : ∀ t ∈ tabsL L, t.At w) {i : Nat} {t : TabV} (hi : (tabsL L)[i]? = some t) : ∃ g : TabG w, (gtabs w L h)[i]? = some g ∧ g.1 = t := by
  obtain ⟨hlt, he⟩ := List.getElem?_eq_some_iff.1 hi
  have hl : i < (gtabs w L h).length := by rw [gtabs_len]; exact hlt
  refine ⟨(gtabs w L h)[i], List.getElem?_eq_getElem hl, ?_⟩
  simp [gtabs, he]
end Go.Proofs.Ytnkflmimnpolcaa
