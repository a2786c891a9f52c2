/- Numbers that are sorted: slices.Sort of a row of one's own. -/
import Derived.Test.YtnkflmimnpolcaaSo14
import Derived.Test.YtnkflmimnpolcaaSt14
namespace Go.Proofs.Ytnkflmimnpolcaa
open Go.RowKit Go.Lib Go.Shelf Go.Sort
set_option maxRecDepth 100000

def srtI (zs : List Int) : List Int := zs.mergeSort fun x y => decide (x ≤ y)
theorem srtI_len (zs : List Int) : (srtI zs).length = zs.length := List.length_mergeSort ..
theorem intV_ln (zs : List Int) : (intV zs).length = zs.length := by simp [intV]
theorem holds_ints {w : World} {base b n c : Nat} {zs : List Int} (h : w.ownsRow base TInt 1 (.slice (some ⟨b, 0, none⟩) n c) n (intV zs)) : Holds (Value.int .i64) w b 0 zs.toArray := by
  intro j hj
  have hj' : j < zs.length := by simpa using hj
  have := row_cell h (i := j) (by rw [intV_ln]; exact hj')
  rw [Nat.zero_add]
  refine ⟨?_, this.2⟩
  rw [this.1, getElem!_pos zs.toArray j hj]
  simp [intV]
theorem sort_ints_row {w : World} {base b n c : Nat} {zs : List Int} (h : w.ownsRow base TInt 1 (.slice (some ⟨b, 0, none⟩) n c) n (intV zs)) (ys : List Int) (hd : ys.length = zs.length) (m : Nat) (os : Array Obj) :
    (grow (putRow (Value.int .i64) (Sort.ahead w m) b 0 ys.toArray) os).ownsRow base TInt 1 (.slice (some ⟨b, 0, none⟩) n c) n (intV ys) ∧ Touch [b] w (grow (putRow (Value.int .i64) (Sort.ahead w m) b 0 ys.toArray) os) := by
  obtain ⟨hlen, h2⟩ := h
  rcases h2 with ⟨e, _⟩ | ⟨g, cap, cur, e, hb, hg, hnc, hcm, hcs, htake⟩
  · cases e
  · cases e
    have hlt := lt_of_block hg
    have hn : n = zs.length := by rw [intV_ln] at hlen; omega
    have hh : ∀ k, k < w.heap.size → (grow (putRow (Value.int .i64) (Sort.ahead w m) b 0 ys.toArray) os).heap[k]? = (w.heap.modify b (onCells (putCells (Value.int .i64) 0 ys.toArray)))[k]? := fun k hk => by
      show ((mapBlock (Sort.ahead w m) b _).heap ++ os)[k]? = _
      rw [Array.getElem?_append_left (by simpa [mapBlock, Sort.ahead] using hk)]
      rfl
    have hbk : (grow (putRow (Value.int .i64) (Sort.ahead w m) b 0 ys.toArray) os).heap[b]? = some (.cells (putCells (Value.int .i64) 0 ys.toArray cur) TInt (0, 0)) := by
      rw [hh b hlt, Array.getElem?_modify, if_pos rfl, hg]
      rfl
    refine ⟨⟨by rw [intV_ln]; omega, .inr ⟨b, c, _, rfl, hb, hbk, hnc, hcm, by simpa [putCells] using hcs, ?_⟩⟩, rfl, rfl, rfl, ?_, ?_⟩
    · apply List.ext_getElem
      · simp [putCells, hcs, intV]; omega
      · intro t k1 k2
        have hF : t < ys.length := by simpa [intV] using k2
        rw [List.getElem_take]
        simp only [putCells, Array.getElem_toList, Array.getElem_mapIdx]
        rw [if_pos (by simp; omega), Nat.sub_zero, getElem!_pos _ t (by simpa using hF)]
        simp [intV]
    · show _ ≤ ((mapBlock (Sort.ahead w m) b _).heap ++ os).size
      simp [mapBlock, Sort.ahead]
    · intro k hk hkb
      rw [hh k hk, Array.getElem?_modify, if_neg (fun e => hkb (by simp [e]))]
structure SortI (base : Nat) (u : Value) (zs : List Int) (w w' : World) : Prop where
  own : w'.ownsRow base TInt 1 u zs.length (intV (srtI zs))
  t : ∀ w0, Touch [] w0 w → w0.heap.size ≤ base → Touch [] w0 w'
  block : ∀ (k : Nat) (o : Obj), w.heap[k]? = some o → (∀ cs fz, o ≠ .cells cs TInt fz) → w'.heap[k]? = some o
theorem sortInts_any (base : Nat) (u : Value) (zs : List Int) (w : World) (h : w.ownsRow base TInt 1 u zs.length (intV zs)) (hl : zs.length ≤ 1000000000) :
    Calls Try.prog 45 #[u] w fun e w' => e = .returned (.tuple #[]) ∧ SortI base u zs w w' := by
  rcases h.2 with ⟨rfl, h0⟩ | ⟨g, cap, cur, rfl, hb, hg, _⟩
  · refine (Try.slices_Sort_int_none none 0 w).mono ?_
    rintro e w' ⟨rfl, rfl⟩
    obtain rfl := List.eq_nil_of_length_eq_zero h0
    exact ⟨rfl, by simpa [srtI, intV] using World.ownsRow_nil w' base TInt 1, fun w0 t _ => t, fun k o h _ => h⟩
  · refine (Try.slices_Sort_int g 0 cap zs w (holds_ints h) (lt_of_block hg) (by omega)).mono ?_
    rintro e w' ⟨rfl, n, os, rfl⟩
    obtain ⟨r1, r2⟩ := sort_ints_row h (srtI zs) (srtI_len zs) n os
    refine ⟨rfl, r1, fun w0 t0 h0 => t0.trans r2 (fun x hx => ?_), fun k o hk ht => touch_other r2 hk ?_⟩
    · simp at hx; subst hx; exact .inr (by omega)
    · intro e
      obtain rfl := List.mem_singleton.1 e
      rw [hg] at hk
      exact ht _ _ (Option.some.inj hk).symm
end Go.Proofs.Ytnkflmimnpolcaa
