/- Blocks of other types stay; a cell of a row of one's own; append to a slice without room. -/
import Derived.Test.YtnkflmimnpolcaaCc14
namespace Go.Proofs.Ytnkflmimnpolcaa
open Go.RowKit Go.Lib Go.Shelf
set_option maxRecDepth 100000

def Rest (ts : List TypeId) (W W' : World) : Prop := ∀ (b : Nat) (cs : Array Value) (t : TypeId) (fz : Nat × Nat), W.heap[b]? = some (.cells cs t fz) → t ∉ ts → W'.heap[b]? = some (.cells cs t fz)
theorem Rest.refl (ts : List TypeId) (W : World) : Rest ts W W := fun _ _ _ _ h _ => h
theorem Rest.trans {ts : List TypeId} {a b c : World} (h1 : Rest ts a b) (h2 : Rest ts b c) : Rest ts a c := fun x cs t fz h n => h2 x cs t fz (h1 x cs t fz h n) n
theorem Rest.touch {ts : List TypeId} {W W' : World} (h : Touch [] W W') : Rest ts W W' := fun _ _ _ _ hb _ => touch_other h hb (by simp)
theorem Rest.row {ts : List TypeId} {W W' : World} (h : Rest ts W W') {base n s : Nat} {e : TypeId} {v : Value} {xs : List Value} (hv : W.ownsRow base e s v n xs) (he : e ∉ ts) : W'.ownsRow base e s v n xs := by
  refine ⟨hv.1, ?_⟩
  rcases hv.2 with h2 | ⟨b, cap, cur, hx, hb, hh, r⟩
  · exact .inl h2
  · exact .inr ⟨b, cap, cur, hx, hb, h _ _ _ _ hh he, r⟩
theorem Grew.rest {w w' : World} {base n m s : Nat} {e : TypeId} {v v' : Value} {xs news : List Value} {ts : List TypeId} (h : Grew w w' base e s v v' n m xs news) (hv : w.ownsRow base e s v n xs) (hm : e ∈ ts) : Rest ts w w' := fun _ _ _ _ hb n2 => h.block hv hb fun e2 => n2 (e2 ▸ hm)
theorem TabV.At.rest {ts : List TypeId} {W W' : World} {t : TabV} (h : t.At W) (r : Rest ts W W') (h1 : TEn ∉ ts) : t.At W' := ⟨r.row h.own h1, h.good⟩
theorem LvV.At.rest {ts : List TypeId} {W W' : World} {v : LvV} (h : v.At W) (r : Rest ts W W') (h1 : TEn ∉ ts) (h2 : TTb ∉ ts) : v.At W' := ⟨r.row h.own h2, fun t ht => (h.tab t ht).rest r h1⟩
theorem row_set {w : World} {B g n c i : Nat} {e : TypeId} {xs : List Value} (h : w.ownsRow B e 1 (.slice (some ⟨g, 0, none⟩) n c) n xs) (hi : i < n) (u : Value) :
    (w.setCell ⟨g, i, none⟩ u).ownsRow B e 1 (.slice (some ⟨g, 0, none⟩) n c) n (xs.set i u) := by
  obtain ⟨hl, h2⟩ := h
  rcases h2 with ⟨e', h0⟩ | ⟨g', cap, cur, e', hb, hg, hnc, hcm, hcs, htake⟩
  · cases e'
  · cases e'
    refine ⟨by simpa using hl, .inr ⟨g, c, _, rfl, hb, heap_set hg u, hnc, hcm, by simpa using hcs, ?_⟩⟩
    rw [Array.toList_setIfInBounds, List.take_set, htake]
theorem row_cell {w : World} {B g n c i : Nat} {e : TypeId} {xs : List Value} (h : w.ownsRow B e 1 (.slice (some ⟨g, 0, none⟩) n c) n xs) (hi : i < xs.length) : w.cell? ⟨g, i, none⟩ = some xs[i] ∧ w.frozen? ⟨g, i, none⟩ = false := by
  rcases h.2 with ⟨e', h0⟩ | ⟨g', cap, cur, e', hb, hg, _⟩
  · cases e'
  · cases e'
    have := h.cells (g := g) rfl i xs[i] (List.getElem?_eq_getElem hi)
    rw [show (⟨g, 0, none⟩ : Addr).add i = ⟨g, i, none⟩ by unfold Addr.add; split <;> simp_all] at this
    exact ⟨this, free_of hg i⟩
theorem rest_set {w : World} {B g n c i : Nat} {e : TypeId} {xs : List Value} {ts : List TypeId} (h : w.ownsRow B e 1 (.slice (some ⟨g, 0, none⟩) n c) n xs) (he : e ∈ ts) (u : Value) : Rest ts w (w.setCell ⟨g, i, none⟩ u) := fun b cs t fz hb hn => by
  refine (heap_set_other u ?_).trans hb
  rintro rfl
  rcases h.2 with ⟨e', h0⟩ | ⟨g', cap, cur, e', _, hg, _⟩
  · cases e'
  · cases e'
    rw [hg] at hb
    cases hb
    exact hn he
theorem append_clip (W : World) (x : Option Addr) (n : Nat) (vs : List Value) (hv : RowV W x vs) (h1v : ∀ u ∈ vs, u.oneCell' = true) (hn : vs.length = n) (hz : x = none → n = 0) (hb : n ≤ 1000000) (u0 : Value) (h1 : u0.oneCell' = true) (ty : TypeId) :
    ∃ y c w', (Builtin.append_ #[TTbs, TTbs] ty #[.slice x n n, .slice (some ⟨W.heap.size, 0, none⟩) 1 1]).run Try.prog (W.alloc (.cells #[u0] TTb)) = .ok (.slice y (n + 1) c) w' ∧ w'.ownsRow W.heap.size TTb 1 (.slice y (n + 1) c) (n + 1) (vs ++ [u0]) ∧ Touch [] W w' := by
  obtain ⟨i0, hi, hz0, hz1, hz2⟩ := info_parts infoTb
  have hc := (heap_alloc_new W (.cells #[u0] TTb))
  cases x with
  | none =>
    obtain rfl := hz rfl
    obtain rfl : vs = [] := List.eq_nil_of_length_eq_zero hn
    obtain ⟨v', w', hr, hG⟩ := append_full (P := Try.prog) (W.alloc (.cells #[u0] TTb)) W.heap.size TTbs ty TTb i0 (.slice none 0 0) 1 24 Try.underlying55 hi hz0 hz1 hz2 rfl (by decide) (.slice none 0 0) 0 [] (World.ownsRow_nil _ _ _ _) ⟨W.heap.size, 0, none⟩ 1 1 [u0] rfl (by
      intro j u hj
      cases j with
      | zero => cases hj; exact cell_of hc 0
      | succ j => simp at hj) (by simpa using h1) (by omega) (by decide) (by simp)
    obtain ⟨y, cap, rfl, _, _⟩ := slice_form hG.own
    exact ⟨y, cap, w', hr, by simpa using hG.own, hG.touch (World.ownsRow_nil _ _ _ _) ((Touch.refl [] W).alloc _) (Nat.le_refl _)⟩
  | some b =>
    have hlo : vs.length = n * i0.size := by rw [hz1]; omega
    have holds : ∀ j u, vs[j]? = some u → (W.alloc (.cells #[u0] TTb)).cell? (b.add j) = some u := fun j u hj => by
      obtain ⟨hjl, rfl⟩ := List.getElem?_eq_some_iff.mp hj
      obtain ⟨g, off, e', hk⟩ := (RowV.t0 (w := W) (w' := W.alloc (.cells #[u0] TTb)) hv ((Touch.refl [] W).alloc _)) j hjl
      cases e'
      rw [show (⟨g, off, none⟩ : Addr).add j = ⟨g, off + j, none⟩ by unfold Addr.add; split <;> simp_all]
      exact hk
    have hr := run_append_grow (P := Try.prog) (w := W.alloc (.cells #[u0] TTb)) TTbs ty TTb i0 (.slice none 0 0) Try.underlying55 hi hz0 b n n vs hlo holds ⟨W.heap.size, 0, none⟩ 1 1 [u0] (by rw [hz1]; rfl) (by
      intro j u hj
      cases j with
      | zero => cases hj; exact cell_of hc 0
      | succ j => simp at hj) (by omega) (by omega) (growslice_fits (by omega) (by rw [hz2]; omega))
    have hge := grownCap_ge (W.alloc (.cells #[u0] TTb)) (n + 1) n TTb
    have hcm' : grownCap (W.alloc (.cells #[u0] TTb)) (n + 1) n TTb ≤ maxLen := grownCap_le_maxLen _ (n + 1) n TTb (by unfold maxLen; omega)
    have hlen : (vs ++ [u0]).length = (n + 1) * 1 := by simp [hn]
    refine ⟨_, _, _, hr, ⟨hlen, .inr ⟨(W.alloc (.cells #[u0] TTb)).heap.size, _, _, rfl, by simp, heap_alloc_new (W.alloc (.cells #[u0] TTb)).drew _, hge, hcm', ?_, ?_⟩⟩, ((Touch.refl [] W).alloc _).drew.alloc _⟩
    · have h3 : (Value.slice none 0 0).cells.size = 1 := by decide
      simp only [Array.size_append, List.size_toArray, size_zeroCells, h3]
      simp only [List.length_singleton, hn]
      omega
    · simp only [Array.toList_append, List.append_assoc]
      rw [← List.append_assoc, ← hlen]
      exact List.take_left
end Go.Proofs.Ytnkflmimnpolcaa
