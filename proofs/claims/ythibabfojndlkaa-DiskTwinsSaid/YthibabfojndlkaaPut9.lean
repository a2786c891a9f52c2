/- put and drop. -/
import Derived.Test.YthibabfojndlkaaDi9
import Derived.Test.YthibabfojndlkaaSlD
import Derived.Test.YthibabfojndlkaaSlG
namespace Go.Proofs.Ythibabfojndlkaa
open Go.RowKit Go.Lib
set_option maxRecDepth 100000

def putP (L : List Px) (y : Px) : List Px := L.take (plc (L.map (·.f)) y.f.name) ++ y :: L.drop (if (getF (L.map (·.f)) y.f.name).isSome then plc (L.map (·.f)) y.f.name + 1 else plc (L.map (·.f)) y.f.name)
theorem putP_files {L : List Px} {y : Px} (h : Sorted (L.map (·.f))) : (putP L y).map (·.f) = putF (L.map (·.f)) y.f := by
  rw [put_plc h]
  simp [putP, List.map_take, List.map_drop]
theorem putP_len (L : List Px) (y : Px) (h : Sorted (L.map (·.f))) : (putP L y).length = if (getF (L.map (·.f)) y.f.name).isSome then L.length else L.length + 1 := by
  have h1 := plc_le (L.map (·.f)) y.f.name
  rw [List.length_map] at h1
  unfold putP
  split
  · rename_i hs
    have h3 := find_plc (nm := y.f.name) h
    have h5 : plc (L.map (·.f)) y.f.name < L.length := by
      rcases Nat.lt_or_ge (plc (L.map (·.f)) y.f.name) L.length with h5 | h5
      · exact h5
      · rw [List.getElem?_eq_none (by simpa using h5)] at h3
        rw [h3] at hs
        cases hs
    simp; omega
  · simp; omega
theorem isSome_lt {L : List Px} {nm : ByteArray} (h : Sorted (L.map (·.f))) (hs : (getF (L.map (·.f)) nm).isSome = true) : plc (L.map (·.f)) nm < L.length := by
  have h3 := find_plc (nm := nm) h
  rcases Nat.lt_or_ge (plc (L.map (·.f)) nm) L.length with h5 | h5
  · exact h5
  · rw [List.getElem?_eq_none (by simpa using h5)] at h3
    rw [h3] at hs
    cases hs
theorem rowVals_one (L : List Px) : ∀ u ∈ rowVals L, u.oneCell' = true := by
  intro u hu
  obtain ⟨x, _, rfl⟩ := List.mem_map.1 hu
  rfl
theorem set_row (l : List Value) (cur : Array Value) (i n : Nat) (x : Value) (hi : i < n) (hn : n ≤ cur.size) (ht : cur.toList.take n = l) : (cur.setIfInBounds i x).toList.take n = l.take i ++ x :: l.drop (i + 1) := by
  rw [Array.toList_setIfInBounds, List.take_set, ht]
  have hl : l.length = n := by rw [← ht]; simp; omega
  rw [List.set_eq_take_append_cons_drop, if_pos (by omega)]

/-- What put and drop leave: the disk's block with another row, in a block of the call's own. -/
def RowPost (d : Nat) (k : Dk) (kv : Value) (L' : List Px) (w : World) (e : Ending) (w' : World) : Prop :=
  e = .returned (.tuple #[]) ∧ ∃ rv', w'.heap[d]? = some (.cells (dkCells k rv' kv) tDisk (0, 0)) ∧ RowAt w' rv' L' ∧ (∀ i ∈ rv'.ownBlock.toList, w.heap.size ≤ i) ∧ Touch [d] w w'

theorem setRv {w : World} {d : Nat} {k : Dk} {rv kv : Value} (h : w.heap[d]? = some (.cells (dkCells k rv kv) tDisk (0, 0))) (rv' : Value) : (w.setCell ⟨d, 3, none⟩ rv').heap[d]? = some (.cells (dkCells k rv' kv) tDisk (0, 0)) := heap_set h rv'
theorem own_ne_d {w : World} {d : Nat} {cs : Array Value} {base n : Nat} {v : Value} {xs : List Value} (hd : w.heap[d]? = some (.cells cs tDisk (0, 0))) (h : w.ownsRow base tPF 1 v n xs) : ∀ i ∈ v.ownBlock.toList, i ≠ d := by
  intro i hi
  rcases h.2 with ⟨rfl, _⟩ | ⟨g, cap, cur, rfl, hb, hg, _⟩
  · simp [Value.ownBlock] at hi
  · simp [Value.ownBlock] at hi
    subst hi
    exact ne_type hg hd (by decide)

theorem clone_row {base n : Nat} {v : Value} {xs : List Value} {w : World} (h : w.ownsRow base tPF 1 v n xs) (h0 : 0 < n) (hn : n ≤ 1000) (h1 : ∀ u ∈ xs, u.oneCell' = true) :
    Calls Try.prog 53 #[v] w fun e w' => ∃ g c cur, e = .returned (.slice (some ⟨g, 0, none⟩) n c) ∧ w.heap.size ≤ g ∧ w'.heap[g]? = some (.cells cur tPF (0, 0)) ∧ n ≤ c ∧ c ≤ maxLen ∧ cur.size = c ∧ cur.toList.take n = xs ∧ Touch [] w w' := by
  refine (clone_pf h (by omega) h1).mono ?_
  rintro e w' ⟨v', rfl, o, t⟩
  rcases o.2 with ⟨-, e0⟩ | ⟨g, c, cur, rfl, hb, hg, hc, hm, hs, ht⟩
  · omega
  · exact ⟨g, c, cur, rfl, hb, hg, hc, hm, by omega, by simpa using ht, t⟩

set_option maxHeartbeats 2000000 in
theorem put_there {w : World} {d : Nat} {k : Dk} {rv kv : Value} {L : List Px} {y : Px} (hd : w.heap[d]? = some (.cells (dkCells k rv kv) tDisk (0, 0))) (h : RowOk w d rv L) (hy : HeadAt w y) (hs : (getF (L.map (·.f)) y.f.name).isSome = true) :
    Calls Try.prog 38 #[ptr d, ptr y.b] w (RowPost d k kv (putP L y) w) := by
  have hlt := isSome_lt h.sorted hs
  have hlen := h.len
  have C1 := hid (find_any h y.f.name)
  have C2 := hid (clone_row h.row (by omega) (by omega) (rowVals_one L))
  have HL : putP L y = L.take (plc (L.map (·.f)) y.f.name) ++ y :: L.drop (plc (L.map (·.f)) y.f.name + 1) := by unfold putP; rw [if_pos hs]
  have n0 := (head_cells hy).1
  have c3 := h.cell
  rw [HL]
  rw [hs] at C1
  have HD := hid hd
  have hfin : Hid (∀ w2 g c cur, w.heap.size ≤ g → w2.heap[g]? = some (.cells cur tPF (0, 0)) → L.length ≤ c → c ≤ maxLen → cur.size = c → cur.toList.take L.length = rowVals L → Touch [] w w2 → plc (L.map (·.f)) y.f.name < L.length →
      RowPost d k kv (L.take (plc (L.map (·.f)) y.f.name) ++ y :: L.drop (plc (L.map (·.f)) y.f.name + 1)) w (.returned (.tuple #[])) ((w2.setCell ⟨d, 3, none⟩ (.slice (some ⟨g, 0, none⟩) L.length c)).setCell ⟨g, plc (L.map (·.f)) y.f.name, none⟩ (.pointer (some ⟨y.b, 0, none⟩)))) := hid (by
    intro w2 g c cur hb hg hc hm hs' ht t hp
    have d2 := (t.block d (lt_of_block hd) (by simp)).trans hd
    have hgd := ne_type hg d2 (by decide)
    have e2 : (L.take (plc (L.map (·.f)) y.f.name) ++ y :: L.drop (plc (L.map (·.f)) y.f.name + 1)).length = L.length := by simp; omega
    refine ⟨rfl, .slice (some ⟨g, 0, none⟩) L.length c, ?_, ⟨by simp [rowVals], .inr ⟨g, c, _, by rw [e2], Nat.zero_le _, heap_set ((heap_set_other (p := ⟨d, 3, none⟩) _ hgd).trans hg) _, by rw [e2]; exact hc, hm, by simp; exact hs', ?_⟩⟩, ?_, ?_⟩
    · exact (heap_set_other _ hgd.symm).trans (setRv d2 _)
    · rw [e2, Nat.mul_one, set_row (rowVals L) cur _ L.length _ hp (by omega) ht]
      simp [rowVals, ptr, List.map_take, List.map_drop]
    · intro i hi
      simp [Value.ownBlock] at hi
      omega
    · exact ((t.mono (G := [d]) (by simp)).setCell (.inl (by simp)) _).setCell (.inr hb) _)
  unfold ptr at C1 ⊢
  generalize hp : plc (L.map (·.f)) y.f.name = p at *
  generalize y.f.name = nm at *
  clear h hd hy hs hp HL
  generalize RowPost d k kv (L.take p ++ y :: L.drop (p + 1)) w = M at *
  go_enter Try.func38, Try.ntmps38
  go_wp2_with (first
    | (go_at_call 36; refine C1.out.mono ?_; rintro e w1 ⟨rfl, rfl⟩)
    | (go_at_call 53; refine C2.out.mono ?_; rintro e w2 ⟨g2, cp2, cur3, rfl, hb3, hg3, hc3, hm3, hs3, ht3, t2⟩; have d2 := (t2.block d (lt_of_block HD.out) (by simp)).trans HD.out; have q3 := cell_of d2 3; have q4 := free_of d2 3; have q5 := (heap_set_other (p := ⟨d, 3, none⟩) (.slice (some ⟨g2, 0, none⟩) L.length cp2) (ne_type hg3 d2 (by decide))).trans hg3; have q6 := cell_of q5 p; have q7 := free_of q5 p; have q8 := setRv d2 (.slice (some ⟨g2, 0, none⟩) L.length cp2); have q9 := cell_of q8 3; obtain ⟨u6, hu6⟩ : ∃ u, cur3[p]? = some u := ⟨_, Array.getElem?_eq_getElem (by omega)⟩; rw [hu6] at q6; simp [dkCells] at q3 q9; have FF := hid (hfin.out _ _ _ _ hb3 hg3 hc3 hm3 hs3 ht3 t2 hlt); clear hg3 hb3 hm3 hs3 ht3 hu6 q8 q5 t2 d2))
  exact bodyPost_ret (results_none rfl _ _ _) rfl FF.out

set_option maxHeartbeats 2000000 in
theorem put_new {w : World} {d : Nat} {k : Dk} {rv kv : Value} {L : List Px} {y : Px} (hd : w.heap[d]? = some (.cells (dkCells k rv kv) tDisk (0, 0))) (h : RowOk w d rv L) (hy : HeadAt w y) (hs : (getF (L.map (·.f)) y.f.name).isSome = false) :
    Calls Try.prog 38 #[ptr d, ptr y.b] w (RowPost d k kv (putP L y) w) := by
  have hple := plc_le (L.map (·.f)) y.f.name
  rw [List.length_map] at hple
  have hlen := h.len
  have C1 := hid (find_any h y.f.name)
  have C2 := hid (clone_pf h.row (by omega) (rowVals_one L))
  have HL : putP L y = L.take (plc (L.map (·.f)) y.f.name) ++ y :: L.drop (plc (L.map (·.f)) y.f.name) := by unfold putP; rw [if_neg (by simp [hs])]
  have n0 := (head_cells hy).1
  have c3 := h.cell
  rw [HL]
  rw [hs] at C1
  have HD := hid hd
  have hK : Hid (∀ (w2 w3 : World) (v2 : Value), w2.ownsRow w.heap.size tPF 1 v2 L.length (rowVals L) → Touch [] w w2 → w3 = (w2.setCell ⟨d, 3, none⟩ v2).alloc (.cells #[ptr y.b] tPF) →
      Calls Try.prog 54 #[v2, .int .i64 (plc (L.map (·.f)) y.f.name : Nat), .slice (some ⟨w2.heap.size, 0, none⟩) 1 1] w3 fun e w' => ∃ v' y' n' c', v' = .slice y' n' c' ∧ e = .returned v' ∧ (∃ cs, w'.heap[d]? = some (.cells cs tDisk (0, 0)) ∧ ∃ u, cs[3]? = some u) ∧
        RowPost d k kv (L.take (plc (L.map (·.f)) y.f.name) ++ y :: L.drop (plc (L.map (·.f)) y.f.name)) w (.returned (.tuple #[])) (w'.setCell ⟨d, 3, none⟩ v')) := hid (by
    intro w2 w3 v2 o t hw
    have d2 := (t.block d (lt_of_block hd) (by simp)).trans hd
    have hnd := own_ne_d d2 o
    have t3 : Touch [d] w2 w3 := by rw [hw]; exact ((Touch.refl _ _).setCell (.inl (by simp)) _).alloc _
    have o3 : w3.ownsRow w.heap.size tPF 1 v2 L.length (rowVals L) := own_touch o t3 (fun i hi => by simpa using hnd i hi)
    have hx : w3.heap[w2.heap.size]? = some (.cells #[ptr y.b] tPF (0, 0)) := by
      rw [hw]
      have := heap_alloc_new (w2.setCell ⟨d, 3, none⟩ v2) (.cells #[ptr y.b] tPF)
      simpa using this
    have d3 : w3.heap[d]? = some (.cells (dkCells k v2 kv) tDisk (0, 0)) := by
      rw [hw]
      exact (Below.heap_alloc _ _ _ (by simpa using lt_of_block d2)).trans (setRv d2 v2)
    refine (insert_any o3 (Nat.le_trans t.size t3.size) hple hx (fun hm => by have := own_lt o _ hm; omega) rfl (rowVals_one L) (by omega)).mono ?_
    rintro e w' ⟨v', rfl, o', t', hk'⟩
    have d4 := (t'.block d (lt_of_block d3) (fun hm => hnd d hm rfl)).trans d3
    have hnd' := own_ne_d d4 o'
    obtain ⟨y', c', hv', -⟩ := own_form o'
    refine ⟨v', y', _, c', hv', rfl, ⟨_, d4, _, rfl⟩, rfl, v', setRv d4 v', ?_, ?_, ?_⟩
    · have e1 : (L.take (plc (L.map (·.f)) y.f.name) ++ y :: L.drop (plc (L.map (·.f)) y.f.name)).length = L.length + 1 := by simp; omega
      unfold RowAt
      rw [e1]
      have : rowVals (L.take (plc (L.map (·.f)) y.f.name) ++ y :: L.drop (plc (L.map (·.f)) y.f.name)) = (rowVals L).take (plc (L.map (·.f)) y.f.name) ++ ptr y.b :: (rowVals L).drop (plc (L.map (·.f)) y.f.name) := by simp [rowVals, List.map_take, List.map_drop]
      rw [this]
      exact own_touch (F := [d]) (own_zero o') ((Touch.refl _ _).setCell (.inl (by simp)) _) (fun i hi => by simpa using hnd' i hi)
    · exact own_base o'
    · refine Touch.setCell ?_ (.inl (by simp)) _
      refine (((t.mono (G := [d]) (by simp)).trans t3 (by simp)).trans t' (fun i hi => .inr (own_base o i hi))))
  unfold ptr at C1 hK ⊢
  generalize plc (L.map (·.f)) y.f.name = p at *
  generalize y.f.name = nm at *
  clear h hd hy hs HL
  generalize RowPost d k kv (L.take p ++ y :: L.drop p) w = M at *
  go_enter Try.func38, Try.ntmps38
  go_wp2_with (first
    | (go_at_call 36; refine C1.out.mono ?_; rintro e w1 ⟨rfl, rfl⟩)
    | (go_at_call 53; refine C2.out.mono ?_; rintro e w2 ⟨v2, rfl, o2, t2⟩; obtain ⟨y2, c2, rfl, -⟩ := own_form o2; have d2 := (t2.block d (lt_of_block HD.out) (by simp)).trans HD.out; have q3 := cell_of d2 3; have q4 := free_of d2 3; have q8 := setRv d2 (.slice y2 L.length c2); have q9 := cell_of q8 3; simp [dkCells] at q3 q9; have FF := hid (hK.out w2 _ (.slice y2 L.length c2) o2 t2 rfl); clear q8 o2 t2 d2)
    | (go_at_call 54; refine FF.out.mono ?_; rintro e w4 ⟨v4, y4, n4, c4, rfl, rfl, ⟨cs4, h4, u4, hu4⟩, FM⟩; have r3 := (cell_of h4 3).trans hu4; have r4 := free_of h4 3; have FN := hid FM; clear FM h4 hu4))
  exact bodyPost_end (results_none rfl _ _ _) rfl FN.out

theorem put_any {w : World} {d : Nat} {k : Dk} {rv kv : Value} {L : List Px} {y : Px} (hd : w.heap[d]? = some (.cells (dkCells k rv kv) tDisk (0, 0))) (h : RowOk w d rv L) (hy : HeadAt w y) :
    Calls Try.prog 38 #[ptr d, ptr y.b] w (RowPost d k kv (putP L y) w) := by
  cases hs : (getF (L.map (·.f)) y.f.name).isSome
  · exact put_new hd h hy hs
  · exact put_there hd h hy hs
end Go.Proofs.Ythibabfojndlkaa
