/- The book, of whatever kinds of lists: what is kept, marked, grown; what stays. -/
import Derived.Test.YtdjcpdlfapfmkaaGreatGr13
import Derived.Deep.RegionHeld3
import Derived.Deep.RegionLaw
import Derived.StillTailTactics
namespace Go.Proofs.YtdjcpdlfapfmkaaGreat
set_option maxRecDepth 100000
open Go.RowKit Go.Lib Go.ChangeShapes Go.WideShapes

abbrev TBook : TypeId := 40
abbrev nilS : Value := .slice none 0 0
/-- The book's cells: of each kind the lists, and the copies. -/
abbrev Cs := Fin 12 → Value
def BkBlk (W : World) (kb : Nat) (c : Cs) : Prop := W.heap[kb]? = some (.cells #[c 0, c 1, c 2, c 3, c 4, c 5, c 6, c 7, c 8, c 9, c 10, c 11] TBook (0, 0))
def upd (c : Cs) (i : Fin 12) (v : Value) : Cs := fun j => if j = i then v else c j
theorem upd_same (c : Cs) (i : Fin 12) (v : Value) : upd c i v i = v := if_pos rfl
theorem upd_other (c : Cs) {i j : Fin 12} (v : Value) (h : j ≠ i) : upd c i v j = c j := if_neg h
theorem bk_cell {W : World} {kb : Nat} {c : Cs} (h : BkBlk W kb c) (i : Nat) (hi : i < 12) : W.cell? ⟨kb, i, none⟩ = some (c ⟨i, hi⟩) := by
  match i, hi with
  | 0, _ => exact cell_of h 0
  | 1, _ => exact cell_of h 1
  | 2, _ => exact cell_of h 2
  | 3, _ => exact cell_of h 3
  | 4, _ => exact cell_of h 4
  | 5, _ => exact cell_of h 5
  | 6, _ => exact cell_of h 6
  | 7, _ => exact cell_of h 7
  | 8, _ => exact cell_of h 8
  | 9, _ => exact cell_of h 9
  | 10, _ => exact cell_of h 10
  | 11, _ => exact cell_of h 11
theorem bk_set {W : World} {kb : Nat} {c : Cs} (h : BkBlk W kb c) (i : Nat) (hi : i < 12) (u : Value) : BkBlk (W.setCell ⟨kb, i, none⟩ u) kb (upd c ⟨i, hi⟩ u) := by
  match i, hi with
  | 0, _ => exact heap_set h u
  | 1, _ => exact heap_set h u
  | 2, _ => exact heap_set h u
  | 3, _ => exact heap_set h u
  | 4, _ => exact heap_set h u
  | 5, _ => exact heap_set h u
  | 6, _ => exact heap_set h u
  | 7, _ => exact heap_set h u
  | 8, _ => exact heap_set h u
  | 9, _ => exact heap_set h u
  | 10, _ => exact heap_set h u
  | 11, _ => exact heap_set h u
theorem bk_touch {W W' : World} {kb : Nat} {c : Cs} (h : BkBlk W kb c) (t : Touch [] W W') : BkBlk W' kb c := touch_other t h (by simp)

/-- Blocks of other types stay. -/
def Rest (ts : List TypeId) (W W' : World) : Prop := ∀ (b : Nat) (cs : Array Value) (t : TypeId) (fz : Nat × Nat), W.heap[b]? = some (.cells cs t fz) → t ∉ ts → W'.heap[b]? = some (.cells cs t fz)
theorem Rest.refl (ts : List TypeId) (W : World) : Rest ts W W := fun _ _ _ _ h _ => h
theorem Rest.trans {ts : List TypeId} {a b c : World} (h1 : Rest ts a b) (h2 : Rest ts b c) : Rest ts a c := fun x cs t fz h n => h2 x cs t fz (h1 x cs t fz h n) n
theorem Rest.mono {ts us : List TypeId} {a b : World} (h1 : Rest ts a b) (h : ∀ t ∈ ts, t ∈ us) : Rest us a b := fun x cs t fz hb n => h1 x cs t fz hb fun hm => n (h t hm)
theorem Rest.touch {ts : List TypeId} {W W' : World} (h : Touch [] W W') : Rest ts W W' := fun _ _ _ _ hb _ => touch_other h hb (by simp)
theorem Rest.row {ts : List TypeId} {W W' : World} (h : Rest ts W W') {base n s : Nat} {e : TypeId} {v : Value} {xs : List Value} (hv : W.ownsRow base e s v n xs) (he : e ∉ ts) : W'.ownsRow base e s v n xs := by
  refine ⟨hv.1, ?_⟩
  rcases hv.2 with h2 | ⟨b, cap, cur, hx, hb, hh, r⟩
  · exact .inl h2
  · exact .inr ⟨b, cap, cur, hx, hb, h b cur e (0, 0) hh he, r⟩
theorem Rest.blk {ts : List TypeId} {W W' : World} (h : Rest ts W W') {kb : Nat} {c : Cs} (hb : BkBlk W kb c) (he : TBook ∉ ts) : BkBlk W' kb c := h _ _ _ _ hb he
theorem Rest.set {W : World} {kb : Nat} {c : Cs} (h : BkBlk W kb c) (i : Nat) (u : Value) {ts : List TypeId} (hm : TBook ∈ ts) : Rest ts W (W.setCell ⟨kb, i, none⟩ u) := fun b cs t fz hb n1 => by
  rw [Below.heap_setCell _ _ _ _ (fun e => ?_)]
  · exact hb
  · simp only at e
    subst e
    rw [h] at hb
    cases hb
    exact n1 hm
theorem Rest.set_own {ts : List TypeId} {W0 W : World} (r : Rest ts W0 W) {g b s n cap : Nat} {e : TypeId} {xs : List Value} (h : W.ownsRow b e s (.slice (some ⟨g, 0, none⟩) n cap) n xs) (i : Nat) (u : Value) (hm : e ∈ ts := by simp) : Rest ts W0 (W.setCell ⟨g, i, none⟩ u) := fun b cs t fz hb n1 => by
  have hb := r b cs t fz hb n1
  rw [Below.heap_setCell _ _ _ _ (fun e2 => ?_)]
  · exact hb
  · simp only at e2
    subst e2
    rcases h.2 with ⟨h2, _⟩ | ⟨g', cap', cur, h2, _, hh, _⟩
    · simp at h2
    · simp only [Value.slice.injEq, Option.some.injEq, Addr.mk.injEq, and_true, true_and] at h2
      obtain ⟨rfl, rfl⟩ := h2
      rw [hh] at hb
      cases hb
      exact n1 hm
theorem Grew.rest {w w' : World} {base n m s : Nat} {e : TypeId} {v v' : Value} {xs news : List Value} {ts : List TypeId} (h : Grew w w' base e s v v' n m xs news) (hv : w.ownsRow base e s v n xs) (hm : e ∈ ts) : Rest ts w w' := fun _ _ _ _ hb n2 => h.block hv hb fun e2 => n2 (e2 ▸ hm)

/-- What is newer than W0 alone was turned. -/
def Newer (W : World) (base : Nat) (W' : World) : Prop := ∀ W0, Touch [] W0 W → W0.heap.size ≤ base → Touch [] W0 W'
theorem Newer.refl (W : World) (base : Nat) : Newer W base W := fun _ h _ => h
theorem Newer.touch {W W1 W2 : World} {base : Nat} (h : Newer W base W1) (t : Touch [] W1 W2) : Newer W base W2 := fun W0 h0 hs => (h W0 h0 hs).trans t (by simp)
theorem Newer.trans {W W1 W2 : World} {base : Nat} (h : Newer W base W1) (h2 : Newer W1 base W2) : Newer W base W2 := fun W0 h0 hs => h2 W0 (h W0 h0 hs) hs
theorem Newer.block {W W1 W2 : World} {base : Nat} (h : Newer W base W1) {F : List Nat} (t : Touch F W1 W2) (hF : ∀ k ∈ F, base ≤ k) : Newer W base W2 := fun W0 h0 hs =>
  (h W0 h0 hs).trans t (fun k hk => by right; exact Nat.le_trans hs (hF k hk))
theorem Newer.grew {W W1 W2 : World} {base n m : Nat} {e : TypeId} {v v' : Value} {xs news : List Value} {b s : Nat} (h : Newer W base W1) (G : Grew W1 W2 b e s v v' n m xs news) (hv : W1.ownsRow b e s v n xs) (hb : base ≤ b) : Newer W base W2 := fun W0 h0 hs => G.touch hv (h W0 h0 hs) (Nat.le_trans hs hb)
theorem Newer.set {W W1 : World} {base kb i : Nat} (h : Newer W base W1) (hb : base ≤ kb) (u : Value) : Newer W base (W1.setCell ⟨kb, i, none⟩ u) := fun W0 h0 hs => (h W0 h0 hs).setCell (.inr (Nat.le_trans hs hb)) _

/-- A row stays while the book's own block is written. -/
theorem own_set_book {w : World} {kb : Nat} {c : Cs} (hB : BkBlk w kb c) {b : Nat} {e : TypeId} {s n : Nat} {v : Value} {xs : List Value} (h : w.ownsRow b e s v n xs) (he : e ≠ TBook) (i : Nat) (u : Value) : (w.setCell ⟨kb, i, none⟩ u).ownsRow b e s v n xs := by
  refine ownsRow_setCell_other h (fun hk => ?_) u
  rcases h.2 with ⟨rfl, _⟩ | ⟨g, cap, cur, rfl, _, hh, _⟩
  · cases hk
  · simp only [Value.ownBlock, Option.some.injEq] at hk
    subst hk
    rw [hB] at hh
    cases hh
    exact he rfl
theorem own_touch_far {W W' : World} {F : List Nat} {b s n : Nat} {e : TypeId} {v : Value} {xs : List Value} (h : W.ownsRow b e s v n xs) (t : Touch F W W') (hF : ∀ k, v.ownBlock = some k → k ∉ F) : W'.ownsRow b e s v n xs := by
  refine ⟨h.1, ?_⟩
  rcases h.2 with h2 | ⟨g, cap, cur, rfl, hb, hh, r⟩
  · exact .inl h2
  · exact .inr ⟨g, cap, cur, rfl, hb, touch_other t hh (hF g rfl), r⟩
theorem not_book {w : World} {kb b s n k : Nat} {c : Cs} {v : Value} {e : TypeId} {xs : List Value} (hB : BkBlk w kb c) (h : w.ownsRow b e s v n xs) (he : e ≠ TBook) (hk : v.ownBlock = some k) : k ≠ kb := fun e2 => by
  rcases h.2 with ⟨rfl, _⟩ | ⟨g, cap, cur, rfl, _, hh, _⟩
  · cases hk
  · simp only [Value.ownBlock, Option.some.injEq] at hk
    subst hk
    subst e2
    rw [hB] at hh
    cases hh
    exact he rfl
theorem far_of_pair {vs : List Value} (h : vs.Pairwise Far) {i j : Nat} (hi : i < vs.length) (hj : j < vs.length) (hne : i ≠ j) : Far vs[i] vs[j] := by
  rw [List.pairwise_iff_getElem] at h
  rcases Nat.lt_or_gt_of_ne hne with hlt | hlt
  · exact h i j hi hj hlt
  · exact (h j i hj hi hlt).symm
theorem pairwise_add {vs us : List Value} {v u : Value} (h : (vs ++ us).Pairwise Far) (hv : ∀ x ∈ vs ++ us, Far x v) (hu : ∀ x ∈ vs ++ us, Far x u) (hvu : Far v u) : ((vs ++ [v]) ++ (us ++ [u])).Pairwise Far := by
  rw [List.pairwise_append] at h
  obtain ⟨h1, h2, h3⟩ := h
  rw [List.pairwise_append, List.pairwise_append, List.pairwise_append]
  refine ⟨⟨h1, by simp, fun a ha b hb => ?_⟩, ⟨h2, by simp, fun a ha b hb => ?_⟩, fun a ha b hb => ?_⟩
  · simp at hb; subst hb; exact hv a (List.mem_append_left _ ha)
  · simp at hb; subst hb; exact hu a (List.mem_append_right _ ha)
  · rw [List.mem_append] at ha hb
    rcases ha with ha | ha
    · rcases hb with hb | hb
      · exact h3 a ha b hb
      · simp at hb; subst hb; exact hu a (List.mem_append_left _ ha)
    · simp at ha; subst ha
      rcases hb with hb | hb
      · exact (hv b (List.mem_append_right _ hb)).symm
      · simp at hb; subst hb; exact hvu
/-- The cell of a row of slices. -/
theorem rows_at {w : World} {base n : Nat} {t : TypeId} {v : Value} {xs : List Value} (h : w.ownsRow base t 1 v n xs) (k : Nat) (hk : k < n) (hx : k < xs.length) : ∃ g cap, v = .slice (some ⟨g, 0, none⟩) n cap ∧ w.cell? ⟨g, k, none⟩ = some xs[k] ∧ g < w.heap.size := by
  obtain ⟨g, cap, rfl, _, hlt⟩ := h.form (by omega)
  refine ⟨g, cap, rfl, ?_, hlt⟩
  rw [h.cellAt k (by omega)]
  exact List.getElem?_eq_getElem hx

/-- A kind of lists: its elements, how they lie in cells, its marks. -/
structure Kd where
  α : Type
  TE : TypeId
  TSS : TypeId
  sz : Nat
  enc : List α → List Value
  mar : Nat → Nat → α
structure KdOk (K : Kd) : Prop where
  len : ∀ l, (K.enc l).length = l.length * K.sz
  app : ∀ l m, K.enc (l ++ m) = K.enc l ++ K.enc m
  one : ∀ l, ∀ u ∈ K.enc l, u.oneCell' = true
  tE : K.TE ≠ TBook
  tS : K.TSS ≠ TBook
  tt : K.TE ≠ K.TSS
/-- The marks of list i, from a place on, so many. -/
def marks (K : Kd) (i f n : Nat) : List K.α := (List.range n).map fun j => K.mar i (f + j)
theorem marks_len (K : Kd) (i f n : Nat) : (marks K i f n).length = n := by simp [marks]
theorem marks_snoc (K : Kd) (i f n : Nat) : marks K i f n ++ [K.mar i (f + n)] = marks K i f (n + 1) := by simp [marks, List.range_succ]
theorem marks_add (K : Kd) (i f n m : Nat) : marks K i f n ++ marks K i (f + n) m = marks K i f (n + m) := by
  induction m with
  | zero => simp [marks]
  | succ m ih => rw [← marks_snoc, ← List.append_assoc, ih, ← Nat.add_assoc n m 1, ← marks_snoc, Nat.add_assoc]

/-- The lists that are kept: where each lies, and what is in it. -/
structure Kept (K : Kd) (W : World) (base : Nat) (tv wv : Value) (vs us : List Value) (Ls : List (List K.α)) : Prop where
  n1 : vs.length = Ls.length
  n2 : us.length = Ls.length
  own1 : W.ownsRow base K.TSS 1 tv Ls.length vs
  own2 : W.ownsRow base K.TSS 1 wv Ls.length us
  far : Far tv wv
  r1 : ∀ i (h : i < Ls.length) (h1 : i < vs.length), W.ownsRow base K.TE K.sz vs[i] Ls[i].length (K.enc Ls[i])
  r2 : ∀ i (h : i < Ls.length) (h2 : i < us.length), W.ownsRow base K.TE K.sz us[i] Ls[i].length (K.enc Ls[i])
  ap : (vs ++ us).Pairwise Far
  sz : ∀ L ∈ Ls, L.length ≤ 3100
  few : Ls.length ≤ 250
theorem Kept.none (K : Kd) (W : World) (base : Nat) : Kept K W base nilS nilS [] [] [] :=
  ⟨rfl, rfl, World.ownsRow_nil _ _ _ _, World.ownsRow_nil _ _ _ _, far_nil _ _ _, fun i h => absurd h (Nat.not_lt_zero i), fun i h => absurd h (Nat.not_lt_zero i), by simp, by simp, Nat.zero_le _⟩
theorem Kept.rest {K : Kd} {W W' : World} {base : Nat} {tv wv : Value} {vs us : List Value} {Ls : List (List K.α)} {ts : List TypeId} (h : Kept K W base tv wv vs us Ls) (r : Rest ts W W') (h1 : K.TE ∉ ts) (h2 : K.TSS ∉ ts) : Kept K W' base tv wv vs us Ls :=
  ⟨h.n1, h.n2, r.row h.own1 h2, r.row h.own2 h2, h.far, fun i a b => r.row (h.r1 i a b) h1, fun i a b => r.row (h.r2 i a b) h1, h.ap, h.sz, h.few⟩
theorem Kept.touch {K : Kd} {W W' : World} {base : Nat} {tv wv : Value} {vs us : List Value} {Ls : List (List K.α)} (h : Kept K W base tv wv vs us Ls) (t : Touch [] W W') : Kept K W' base tv wv vs us Ls :=
  h.rest (ts := []) (Rest.touch t) (by simp) (by simp)
theorem Kept.row {K : Kd} {W : World} {base : Nat} {tv wv : Value} {vs us : List Value} {Ls : List (List K.α)} (h : Kept K W base tv wv vs us Ls) : ∀ x ∈ vs ++ us, ∃ n xs, W.ownsRow base K.TE K.sz x n xs := fun x hx => by
  rw [List.mem_append] at hx
  rcases hx with hx | hx
  · obtain ⟨i, hi, rfl⟩ := List.getElem_of_mem hx
    exact ⟨_, _, h.r1 i (by rw [← h.n1]; exact hi) hi⟩
  · obtain ⟨i, hi, rfl⟩ := List.getElem_of_mem hx
    exact ⟨_, _, h.r2 i (by rw [← h.n2]; exact hi) hi⟩

/-- The lists that are kept, and what is in each: so many elements, M. -/
structure Rows1 (K : Kd) (W : World) (base : Nat) (tv : Value) (vs : List Value) (ns : Nat → Nat) (M : Nat → List K.α) : Prop where
  own1 : W.ownsRow base K.TSS 1 tv vs.length vs
  r1 : ∀ j (h : j < vs.length), W.ownsRow base K.TE K.sz vs[j] (ns j) (K.enc (M j))
  ap : vs.Pairwise Far
  few : vs.length ≤ 250
  small : ∀ j, ns j ≤ 3100
theorem Rows1.rest {K : Kd} {W W' : World} {base : Nat} {tv : Value} {vs : List Value} {ns : Nat → Nat} {M : Nat → List K.α} {ts : List TypeId} (h : Rows1 K W base tv vs ns M) (r : Rest ts W W') (h1 : K.TE ∉ ts) (h2 : K.TSS ∉ ts) : Rows1 K W' base tv vs ns M :=
  ⟨r.row h.own1 h2, fun j hj => r.row (h.r1 j hj) h1, h.ap, h.few, h.small⟩
theorem Rows1.touch {K : Kd} {W W' : World} {base : Nat} {tv : Value} {vs : List Value} {ns : Nat → Nat} {M : Nat → List K.α} (h : Rows1 K W base tv vs ns M) (t : Touch [] W W') : Rows1 K W' base tv vs ns M :=
  h.rest (ts := []) (Rest.touch t) (by simp) (by simp)
theorem Kept.rows1 {K : Kd} {W : World} {base : Nat} {tv wv : Value} {vs us : List Value} {Ls : List (List K.α)} (h : Kept K W base tv wv vs us Ls) : Rows1 K W base tv vs (fun j => (Ls[j]?.getD []).length) (fun j => Ls[j]?.getD []) := by
  refine ⟨by rw [h.n1]; exact h.own1, fun j hj => ?_, ?_, by rw [h.n1]; exact h.few, fun j => ?_⟩
  · have hj2 : j < Ls.length := by rw [← h.n1]; exact hj
    have := h.r1 j hj2 hj
    simpa only [List.getElem?_eq_getElem hj2, Option.getD_some] using this
  · have := h.ap
    rw [List.pairwise_append] at this
    exact this.1
  · show (Ls[j]?.getD []).length ≤ 3100
    cases hj : Ls[j]? with
    | none => simp
    | some L => exact h.sz L (List.mem_of_getElem? hj)
/-- After list i was turned. -/
theorem Rows1.turn {K : Kd} (ok : KdOk K) {W W' : World} {base i : Nat} {tv : Value} {vs : List Value} {ns : Nat → Nat} {M : Nat → List K.α} (h : Rows1 K W base tv vs ns M) (hi : i < vs.length) {F : List Nat} (hF : ∀ k ∈ F, vs[i].ownBlock = some k) (t : Touch F W W') {L : List K.α} (hL : W'.ownsRow base K.TE K.sz vs[i] (ns i) (K.enc L)) :
    Rows1 K W' base tv vs ns (fun j => if j = i then L else M j) := by
  refine ⟨own_touch_far h.own1 t (fun k hk hkF => far_types h.own1 (h.r1 i hi) ok.tt.symm k hk (hF _ hkF)), fun j hj => ?_, h.ap, h.few, h.small⟩
  by_cases hji : j = i
  · subst hji
    simpa using hL
  · rw [if_neg hji]
    exact own_touch_far (h.r1 j hj) t (fun k hk hkF => far_of_pair h.ap hj hi hji k hk (hF _ hkF))
/-- The marks of the first lists, and of the others what is in them. -/
def part (K : Kd) (ns : Nat → Nat) (M : Nat → List K.α) (i : Nat) : Nat → List K.α := fun j => if j < i then marks K j 0 (ns j) else M j
theorem part_zero (K : Kd) (ns : Nat → Nat) (M : Nat → List K.α) : part K ns M 0 = M := by funext j; simp [part]
theorem part_step (K : Kd) (ns : Nat → Nat) (M : Nat → List K.α) (i : Nat) : (fun j => if j = i then marks K i 0 (ns i) else part K ns M i j) = part K ns M (i + 1) := by
  funext j
  unfold part
  by_cases h1 : j = i
  · subst h1; simp
  · rw [if_neg h1]
    by_cases h2 : j < i
    · rw [if_pos h2, if_pos (by omega)]
    · rw [if_neg h2, if_neg (by omega)]
theorem Rows1.marked {K : Kd} {W : World} {base : Nat} {tv : Value} {vs : List Value} {ns : Nat → Nat} {M : Nat → List K.α} (h : Rows1 K W base tv vs ns (part K ns M vs.length)) : Rows1 K W base tv vs ns (fun j => marks K j 0 (ns j)) :=
  ⟨h.own1, fun j hj => by have := h.r1 j hj; unfold part at this; rwa [if_pos hj] at this, h.ap, h.few, h.small⟩

/-- The lists that are kept, marked, and those that came of them, longer. -/
structure Grown (K : Kd) (W : World) (base : Nat) (tv : Value) (vs gs : List Value) (ns : Nat → Nat) : Prop where
  r : Rows1 K W base tv vs ns (fun j => marks K j 0 (ns j))
  g1 : ∀ j (h : j < gs.length), W.ownsRow base K.TE K.sz gs[j] (ns j + 72) (K.enc (marks K j 0 (ns j + 72)))
  le : gs.length ≤ vs.length
  ap : gs.Pairwise Far
  apart : ∀ i j (h1 : i < gs.length) (h2 : j < vs.length), i ≠ j → Far gs[i] vs[j]
theorem Grown.rest {K : Kd} {W W' : World} {base : Nat} {tv : Value} {vs gs : List Value} {ns : Nat → Nat} {ts : List TypeId} (h : Grown K W base tv vs gs ns) (r : Rest ts W W') (h1 : K.TE ∉ ts) (h2 : K.TSS ∉ ts) : Grown K W' base tv vs gs ns :=
  ⟨h.r.rest r h1 h2, fun j hj => r.row (h.g1 j hj) h1, h.le, h.ap, h.apart⟩
theorem Grown.touch {K : Kd} {W W' : World} {base : Nat} {tv : Value} {vs gs : List Value} {ns : Nat → Nat} (h : Grown K W base tv vs gs ns) (t : Touch [] W W') : Grown K W' base tv vs gs ns :=
  h.rest (ts := []) (Rest.touch t) (by simp) (by simp)
/-- List i is grown in place, or anew. -/
theorem Grown.grew {K : Kd} (ok : KdOk K) {W W' : World} {base i n m : Nat} {tv l l' : Value} {vs gs : List Value} {ns : Nat → Nat} {xs news : List Value} (h : Grown K W base tv vs gs ns) (hi : i < vs.length) (hg : gs.length ≤ i)
    (hl : W.ownsRow base K.TE K.sz l n xs) (hfar : ∀ u, (∃ j, ∃ h : j < gs.length, u = gs[j]) ∨ (∃ j, ∃ h : j < vs.length, j ≠ i ∧ u = vs[j]) → Far l u) (hself : W'.ownsRow base K.TE K.sz vs[i] (ns i) (K.enc (marks K i 0 (ns i)))) (G : Grew W W' base K.TE K.sz l l' n m xs news) :
    Grown K W' base tv vs gs ns := by
  refine ⟨⟨G.other (far_types hl h.r.own1 ok.tt) h.r.own1, fun j hj => ?_, h.r.ap, h.r.few, h.r.small⟩, fun j hj => ?_, h.le, h.ap, h.apart⟩
  · by_cases hji : j = i
    · subst hji; exact hself
    · exact G.other (hfar _ (.inr ⟨j, hj, hji, rfl⟩)) (h.r.r1 j hj)
  · exact G.other (hfar _ (.inl ⟨j, hj, rfl⟩)) (h.g1 j hj)
/-- What l is while list i grows: t elements longer; and the list itself is as it was. -/
structure Longer (K : Kd) (W : World) (base : Nat) (tv : Value) (vs gs : List Value) (ns : Nat → Nat) (i t : Nat) (l : Value) : Prop where
  g : Grown K W base tv vs gs ns
  own : W.ownsRow base K.TE K.sz l (ns i + t) (K.enc (marks K i 0 (ns i + t)))
  far : ∀ u, (∃ j, ∃ h : j < gs.length, u = gs[j]) ∨ (∃ j, ∃ h : j < vs.length, j ≠ i ∧ u = vs[j]) → Far l u
  self : ∀ h : i < vs.length, Far l vs[i] ∨ ∃ y c, vs[i] = .slice y (ns i) c ∧ l = .slice y (ns i + t) c
theorem Longer.touch {K : Kd} {W W' : World} {base i t : Nat} {tv l : Value} {vs gs : List Value} {ns : Nat → Nat} (h : Longer K W base tv vs gs ns i t l) (ht : Touch [] W W') : Longer K W' base tv vs gs ns i t l :=
  ⟨h.g.touch ht, owns_touch h.own ht, h.far, h.self⟩
theorem Longer.rows {K : Kd} {W : World} {base i t : Nat} {tv l : Value} {vs gs : List Value} {ns : Nat → Nat} (h : Longer K W base tv vs gs ns i t l) : ∀ u, (∃ j, ∃ h : j < gs.length, u = gs[j]) ∨ (∃ j, ∃ h : j < vs.length, j ≠ i ∧ u = vs[j]) → ∃ n xs, W.ownsRow base K.TE K.sz u n xs := fun u hu => by
  rcases hu with ⟨j, hj, rfl⟩ | ⟨j, hj, _, rfl⟩
  · exact ⟨_, _, h.g.g1 j hj⟩
  · exact ⟨_, _, h.g.r.r1 j hj⟩
/-- One step further. -/
theorem Longer.next {K : Kd} (ok : KdOk K) {W W' : World} {base i t m : Nat} {tv l l' : Value} {vs gs : List Value} {ns : Nat → Nat} (h : Longer K W base tv vs gs ns i t l) (hi : i < vs.length) (hg : gs.length ≤ i)
    (G : Grew W W' base K.TE K.sz l l' (ns i + t) m (K.enc (marks K i 0 (ns i + t))) (K.enc (marks K i (ns i + t) m))) : Longer K W' base tv vs gs ns i (t + m) l' := by
  have hself : W'.ownsRow base K.TE K.sz vs[i] (ns i) (K.enc (marks K i 0 (ns i))) := by
    rcases h.self hi with hf | ⟨y, c, e1, e2⟩
    · exact G.other hf (h.g.r.r1 i hi)
    · have ho := G.old
      rw [e2] at ho
      rw [e1]
      have hm : marks K i 0 (ns i + t) = marks K i 0 (ns i) ++ marks K i (ns i) t := by
        have := marks_add K i 0 (ns i) t
        rw [Nat.zero_add] at this
        exact this.symm
      rw [hm, ok.app] at ho
      obtain ⟨y', c', e3, hy1, hy2⟩ := slice_form ho
      simp only [Value.slice.injEq, true_and] at e3
      obtain ⟨rfl, rfl⟩ := e3
      cases y with
      | none =>
        obtain ⟨h1, h2⟩ := hy1 rfl
        have h3 : ns i = 0 := by omega
        have h4 : K.enc (marks K i 0 0) = [] := List.eq_nil_of_length_eq_zero (by rw [ok.len, marks_len, Nat.zero_mul])
        rw [h1, h3, h4]
        exact World.ownsRow_nil _ _ _ _
      | some a =>
        obtain ⟨g, rfl⟩ := hy2 a rfl
        exact own_short ho (by rw [ok.len, marks_len])
  refine ⟨h.g.grew ok hi hg h.own h.far hself G, ?_, fun u hu => ?_, fun _ => ?_⟩
  · have := G.own
    rw [← ok.app] at this
    have hm := marks_add K i 0 (ns i + t) m
    rw [Nat.zero_add] at hm
    rw [hm, Nat.add_assoc] at this
    exact this
  · obtain ⟨n, xs, hr⟩ := h.rows u hu
    exact G.far (h.far u hu) hr
  · rcases h.self hi with hf | ⟨y, c, e1, e2⟩
    · exact .inl (G.far hf (h.g.r.r1 i hi))
    · rcases G.at' with ⟨_, _, y', c', e3, e4⟩ | ⟨h1, _⟩
      · right
        rw [e2] at e3
        simp only [Value.slice.injEq, true_and] at e3
        obtain ⟨rfl, rfl⟩ := e3
        exact ⟨y, c, e1, by rw [e4, Nat.add_assoc]⟩
      · left
        intro k hk hk2
        rw [h1] at hk
        have := ((h.g.r.r1 i hi).lt k hk2).2
        cases hk
        omega
/-- The first one: the list itself. -/
theorem Grown.start {K : Kd} {W : World} {base i : Nat} {tv : Value} {vs gs : List Value} {ns : Nat → Nat} (h : Grown K W base tv vs gs ns) (hi : i < vs.length) (hg : gs.length = i) : Longer K W base tv vs gs ns i 0 vs[i] := by
  refine ⟨h, h.r.r1 i hi, fun u hu => ?_, fun _ => ?_⟩
  · rcases hu with ⟨j, hj, rfl⟩ | ⟨j, hj, hne, rfl⟩
    · exact (h.apart j i hj hi (by omega)).symm
    · exact far_of_pair h.r.ap hi hj (fun e => hne e.symm)
  · obtain ⟨y, c, e, _, _⟩ := slice_form (h.r.r1 i hi)
    exact .inr ⟨y, c, e, e⟩
/-- The last one: one more that came. -/
theorem Longer.done {K : Kd} {W : World} {base i : Nat} {tv l : Value} {vs gs : List Value} {ns : Nat → Nat} (h : Longer K W base tv vs gs ns i 72 l) (hi : i < vs.length) (hg : gs.length = i) : Grown K W base tv vs (gs ++ [l]) ns := by
  have hl : (gs ++ [l]).length = i + 1 := by simp [hg]
  refine ⟨h.g.r, fun j hj => ?_, by rw [hl]; omega, ?_, fun a b ha hb hne => ?_⟩
  · by_cases hj2 : j < gs.length
    · have := h.g.g1 j hj2
      simpa only [List.getElem_append_left hj2] using this
    · obtain rfl : j = i := by rw [hl] at hj; omega
      have e : (gs ++ [l])[j]'hj = l := by simp [← hg]
      rw [e]
      exact h.own
  · rw [List.pairwise_append]
    refine ⟨h.g.ap, by simp, fun a ha b hb => ?_⟩
    simp at hb
    subst hb
    obtain ⟨j, hj, rfl⟩ := List.getElem_of_mem ha
    exact (h.far _ (.inl ⟨j, hj, rfl⟩)).symm
  · by_cases ha2 : a < gs.length
    · have := h.g.apart a b ha2 hb hne
      simpa only [List.getElem_append_left ha2] using this
    · obtain rfl : a = i := by rw [hl] at ha; omega
      have e : (gs ++ [l])[a]'ha = l := by simp [← hg]
      rw [e]
      exact h.far _ (.inr ⟨b, hb, fun e => hne e.symm, rfl⟩)
/-- A list of lists of its own was grown. -/
theorem Grown.strs {K : Kd} (ok : KdOk K) {W W' : World} {base b n m : Nat} {tv o o' : Value} {vs gs xs news : List Value} {ns : Nat → Nat} (h : Grown K W base tv vs gs ns) (hf : Far o tv) (ho : W.ownsRow b K.TSS 1 o n xs) (G : Grew W W' b K.TSS 1 o o' n m xs news) : Grown K W' base tv vs gs ns :=
  ⟨⟨G.other hf h.r.own1, fun j hj => G.other (far_types ho (h.r.r1 j hj) ok.tt.symm) (h.r.r1 j hj), h.r.ap, h.r.few, h.r.small⟩, fun j hj => G.other (far_types ho (h.g1 j hj) ok.tt.symm) (h.g1 j hj), h.le, h.ap, h.apart⟩
end Go.Proofs.YtdjcpdlfapfmkaaGreat
