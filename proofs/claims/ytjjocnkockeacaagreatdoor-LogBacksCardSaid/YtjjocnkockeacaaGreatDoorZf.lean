/- put and drop. drop. Crash: what stays of a row of files. Crash. -/
import Derived.Test.YtjjocnkockeacaaGreatDoorZd
import Derived.Test.YtjjocnkockeacaaGreatDoorZe
import Derived.Deep.AppendLies
namespace Go.Proofs.YtjjocnkockeacaaGreatDoor
open Go.RowKit Go.Lib
set_option maxRecDepth 100000

def putP (L : List Px) (y : Px) : List Px := L.take (plc (L.map (·.f)) y.f.name) ++ y :: L.drop (if (getF (L.map (·.f)) y.f.name).isSome then plc (L.map (·.f)) y.f.name + 1 else plc (L.map (·.f)) y.f.name)
theorem putP_files {L : List Px} {y : Px} (h : Sorted (L.map (·.f))) : (putP L y).map (·.f) = putF (L.map (·.f)) y.f := by
  rw [put_plc h]
  simp [putP, List.map_take, List.map_drop]
theorem putP_len (L : List Px) (y : Px) (h : Sorted (L.map (·.f))) : (putP L y).length = if (getF (L.map (·.f)) y.f.name).isSome then L.length else L.length + 1 := by
  have h1 := plc_le (L.map (·.f)) y.f.name
  rw [List.length_map] at h1
  unfold putP
  split
  · rename_i hs
    have h3 := find_plc (nm := y.f.name) h
    have h5 : plc (L.map (·.f)) y.f.name < L.length := by
      rcases Nat.lt_or_ge (plc (L.map (·.f)) y.f.name) L.length with h5 | h5
      · exact h5
      · rw [List.getElem?_eq_none (by simpa using h5)] at h3
        rw [h3] at hs
        cases hs
    simp; omega
  · simp; omega
theorem isSome_lt {L : List Px} {nm : ByteArray} (h : Sorted (L.map (·.f))) (hs : (getF (L.map (·.f)) nm).isSome = true) : plc (L.map (·.f)) nm < L.length := by
  have h3 := find_plc (nm := nm) h
  rcases Nat.lt_or_ge (plc (L.map (·.f)) nm) L.length with h5 | h5
  · exact h5
  · rw [List.getElem?_eq_none (by simpa using h5)] at h3
    rw [h3] at hs
    cases hs
theorem rowVals_one (L : List Px) : ∀ u ∈ rowVals L, u.oneCell' = true := by
  intro u hu
  obtain ⟨x, _, rfl⟩ := List.mem_map.1 hu
  rfl
theorem set_row (l : List Value) (cur : Array Value) (i n : Nat) (x : Value) (hi : i < n) (hn : n ≤ cur.size) (ht : cur.toList.take n = l) : (cur.setIfInBounds i x).toList.take n = l.take i ++ x :: l.drop (i + 1) := by
  rw [Array.toList_setIfInBounds, List.take_set, ht]
  have hl : l.length = n := by rw [← ht]; simp; omega
  rw [List.set_eq_take_append_cons_drop, if_pos (by omega)]

/-- What put and drop leave: the disk's block with another row, in a block of the call's own. -/
def RowPost (d : Nat) (k : Dk) (kv : Value) (L' : List Px) (w : World) (e : Ending) (w' : World) : Prop :=
  e = .returned (.tuple #[]) ∧ ∃ rv', w'.heap[d]? = some (.cells (dkCells k rv' kv) tDisk (0, 0)) ∧ RowAt w' rv' L' ∧ (∀ i ∈ rv'.ownBlock.toList, w.heap.size ≤ i) ∧ Touch [d] w w'

theorem setRv {w : World} {d : Nat} {k : Dk} {rv kv : Value} (h : w.heap[d]? = some (.cells (dkCells k rv kv) tDisk (0, 0))) (rv' : Value) : (w.setCell ⟨d, 3, none⟩ rv').heap[d]? = some (.cells (dkCells k rv' kv) tDisk (0, 0)) := heap_set h rv'
theorem own_ne_d {w : World} {d : Nat} {cs : Array Value} {base n : Nat} {v : Value} {xs : List Value} (hd : w.heap[d]? = some (.cells cs tDisk (0, 0))) (h : w.ownsRow base tPF 1 v n xs) : ∀ i ∈ v.ownBlock.toList, i ≠ d := by
  intro i hi
  rcases h.2 with ⟨rfl, _⟩ | ⟨g, cap, cur, rfl, hb, hg, _⟩
  · simp [Value.ownBlock] at hi
  · simp [Value.ownBlock] at hi
    subst hi
    exact ne_type hg hd (by decide)

theorem clone_row {base n : Nat} {v : Value} {xs : List Value} {w : World} (h : w.ownsRow base tPF 1 v n xs) (h0 : 0 < n) (hn : n ≤ 1000) (h1 : ∀ u ∈ xs, u.oneCell' = true) :
    Calls Tryz.prog 108 #[v] w fun e w' => ∃ g c cur, e = .returned (.slice (some ⟨g, 0, none⟩) n c) ∧ w.heap.size ≤ g ∧ w'.heap[g]? = some (.cells cur tPF (0, 0)) ∧ n ≤ c ∧ c ≤ maxLen ∧ cur.size = c ∧ cur.toList.take n = xs ∧ Touch [] w w' := by
  refine (clone_pf h (by omega) h1).mono ?_
  rintro e w' ⟨v', rfl, o, t⟩
  rcases o.2 with ⟨-, e0⟩ | ⟨g, c, cur, rfl, hb, hg, hc, hm, hs, ht⟩
  · omega
  · exact ⟨g, c, cur, rfl, hb, hg, hc, hm, by omega, by simpa using ht, t⟩

set_option maxHeartbeats 2000000 in
theorem put_there {w : World} {d : Nat} {k : Dk} {rv kv : Value} {L : List Px} {y : Px} (hd : w.heap[d]? = some (.cells (dkCells k rv kv) tDisk (0, 0))) (h : RowOk w d rv L) (hy : HeadAt w y) (hs : (getF (L.map (·.f)) y.f.name).isSome = true) :
    Calls Tryz.prog 78 #[ptr d, ptr y.b] w (RowPost d k kv (putP L y) w) := by
  have hlt := isSome_lt h.sorted hs
  have hlen := h.len
  have C1 := hid (find_any h y.f.name)
  have C2 := hid (clone_row h.row (by omega) (by omega) (rowVals_one L))
  have HL : putP L y = L.take (plc (L.map (·.f)) y.f.name) ++ y :: L.drop (plc (L.map (·.f)) y.f.name + 1) := by unfold putP; rw [if_pos hs]
  have n0 := (head_cells hy).1
  have c3 := h.cell
  rw [HL]
  rw [hs] at C1
  have HD := hid hd
  have hfin : Hid (∀ w2 g c cur, w.heap.size ≤ g → w2.heap[g]? = some (.cells cur tPF (0, 0)) → L.length ≤ c → c ≤ maxLen → cur.size = c → cur.toList.take L.length = rowVals L → Touch [] w w2 → plc (L.map (·.f)) y.f.name < L.length →
      RowPost d k kv (L.take (plc (L.map (·.f)) y.f.name) ++ y :: L.drop (plc (L.map (·.f)) y.f.name + 1)) w (.returned (.tuple #[])) ((w2.setCell ⟨d, 3, none⟩ (.slice (some ⟨g, 0, none⟩) L.length c)).setCell ⟨g, plc (L.map (·.f)) y.f.name, none⟩ (.pointer (some ⟨y.b, 0, none⟩)))) := hid (by
    intro w2 g c cur hb hg hc hm hs' ht t hp
    have d2 := (t.block d (lt_of_block hd) (by simp)).trans hd
    have hgd := ne_type hg d2 (by decide)
    have e2 : (L.take (plc (L.map (·.f)) y.f.name) ++ y :: L.drop (plc (L.map (·.f)) y.f.name + 1)).length = L.length := by simp; omega
    refine ⟨rfl, .slice (some ⟨g, 0, none⟩) L.length c, ?_, ⟨by simp [rowVals], .inr ⟨g, c, _, by rw [e2], Nat.zero_le _, heap_set ((heap_set_other (p := ⟨d, 3, none⟩) _ hgd).trans hg) _, by rw [e2]; exact hc, hm, by simp; exact hs', ?_⟩⟩, ?_, ?_⟩
    · exact (heap_set_other _ hgd.symm).trans (setRv d2 _)
    · rw [e2, Nat.mul_one, set_row (rowVals L) cur _ L.length _ hp (by omega) ht]
      simp [rowVals, ptr, List.map_take, List.map_drop]
    · intro i hi
      simp [Value.ownBlock] at hi
      omega
    · exact ((t.mono (G := [d]) (by simp)).setCell (.inl (by simp)) _).setCell (.inr hb) _)
  unfold ptr at C1 ⊢
  generalize hp : plc (L.map (·.f)) y.f.name = p at *
  generalize y.f.name = nm at *
  clear h hd hy hs hp HL
  generalize RowPost d k kv (L.take p ++ y :: L.drop (p + 1)) w = M at *
  go_enter Tryz.func78, Tryz.ntmps78
  go_wp2_with (first
    | (go_at_call 85; refine C1.out.mono ?_; rintro e w1 ⟨rfl, rfl⟩)
    | (go_at_call 108; refine C2.out.mono ?_; rintro e w2 ⟨g2, cp2, cur3, rfl, hb3, hg3, hc3, hm3, hs3, ht3, t2⟩; have d2 := (t2.block d (lt_of_block HD.out) (by simp)).trans HD.out; have q3 := cell_of d2 3; have q4 := free_of d2 3; have q5 := (heap_set_other (p := ⟨d, 3, none⟩) (.slice (some ⟨g2, 0, none⟩) L.length cp2) (ne_type hg3 d2 (by decide))).trans hg3; have q6 := cell_of q5 p; have q7 := free_of q5 p; have q8 := setRv d2 (.slice (some ⟨g2, 0, none⟩) L.length cp2); have q9 := cell_of q8 3; obtain ⟨u6, hu6⟩ : ∃ u, cur3[p]? = some u := ⟨_, Array.getElem?_eq_getElem (by omega)⟩; rw [hu6] at q6; simp [dkCells] at q3 q9; have FF := hid (hfin.out _ _ _ _ hb3 hg3 hc3 hm3 hs3 ht3 t2 hlt); clear hg3 hb3 hm3 hs3 ht3 hu6 q8 q5 t2 d2))
  exact bodyPost_ret (results_none rfl _ _ _) rfl FF.out

set_option maxHeartbeats 2000000 in
theorem put_new {w : World} {d : Nat} {k : Dk} {rv kv : Value} {L : List Px} {y : Px} (hd : w.heap[d]? = some (.cells (dkCells k rv kv) tDisk (0, 0))) (h : RowOk w d rv L) (hy : HeadAt w y) (hs : (getF (L.map (·.f)) y.f.name).isSome = false) :
    Calls Tryz.prog 78 #[ptr d, ptr y.b] w (RowPost d k kv (putP L y) w) := by
  have hple := plc_le (L.map (·.f)) y.f.name
  rw [List.length_map] at hple
  have hlen := h.len
  have C1 := hid (find_any h y.f.name)
  have C2 := hid (clone_pf h.row (by omega) (rowVals_one L))
  have HL : putP L y = L.take (plc (L.map (·.f)) y.f.name) ++ y :: L.drop (plc (L.map (·.f)) y.f.name) := by unfold putP; rw [if_neg (by simp [hs])]
  have n0 := (head_cells hy).1
  have c3 := h.cell
  rw [HL]
  rw [hs] at C1
  have HD := hid hd
  have hK : Hid (∀ (w2 w3 : World) (v2 : Value), w2.ownsRow w.heap.size tPF 1 v2 L.length (rowVals L) → Touch [] w w2 → w3 = (w2.setCell ⟨d, 3, none⟩ v2).alloc (.cells #[ptr y.b] tPF) →
      Calls Tryz.prog 109 #[v2, .int .i64 (plc (L.map (·.f)) y.f.name : Nat), .slice (some ⟨w2.heap.size, 0, none⟩) 1 1] w3 fun e w' => ∃ v' y' n' c', v' = .slice y' n' c' ∧ e = .returned v' ∧ (∃ cs, w'.heap[d]? = some (.cells cs tDisk (0, 0)) ∧ ∃ u, cs[3]? = some u) ∧
        RowPost d k kv (L.take (plc (L.map (·.f)) y.f.name) ++ y :: L.drop (plc (L.map (·.f)) y.f.name)) w (.returned (.tuple #[])) (w'.setCell ⟨d, 3, none⟩ v')) := hid (by
    intro w2 w3 v2 o t hw
    have d2 := (t.block d (lt_of_block hd) (by simp)).trans hd
    have hnd := own_ne_d d2 o
    have t3 : Touch [d] w2 w3 := by rw [hw]; exact ((Touch.refl _ _).setCell (.inl (by simp)) _).alloc _
    have o3 : w3.ownsRow w.heap.size tPF 1 v2 L.length (rowVals L) := own_touch o t3 (fun i hi => by simpa using hnd i hi)
    have hx : w3.heap[w2.heap.size]? = some (.cells #[ptr y.b] tPF (0, 0)) := by
      rw [hw]
      have := heap_alloc_new (w2.setCell ⟨d, 3, none⟩ v2) (.cells #[ptr y.b] tPF)
      simpa using this
    have d3 : w3.heap[d]? = some (.cells (dkCells k v2 kv) tDisk (0, 0)) := by
      rw [hw]
      exact (Below.heap_alloc _ _ _ (by simpa using lt_of_block d2)).trans (setRv d2 v2)
    refine (insert_any o3 (Nat.le_trans t.size t3.size) hple hx (fun hm => by have := own_lt o _ hm; omega) rfl (rowVals_one L) (by omega)).mono ?_
    rintro e w' ⟨v', rfl, o', t', hk'⟩
    have d4 := (t'.block d (lt_of_block d3) (fun hm => hnd d hm rfl)).trans d3
    have hnd' := own_ne_d d4 o'
    obtain ⟨y', c', hv', -⟩ := own_form o'
    refine ⟨v', y', _, c', hv', rfl, ⟨_, d4, _, rfl⟩, rfl, v', setRv d4 v', ?_, ?_, ?_⟩
    · have e1 : (L.take (plc (L.map (·.f)) y.f.name) ++ y :: L.drop (plc (L.map (·.f)) y.f.name)).length = L.length + 1 := by simp; omega
      unfold RowAt
      rw [e1]
      have : rowVals (L.take (plc (L.map (·.f)) y.f.name) ++ y :: L.drop (plc (L.map (·.f)) y.f.name)) = (rowVals L).take (plc (L.map (·.f)) y.f.name) ++ ptr y.b :: (rowVals L).drop (plc (L.map (·.f)) y.f.name) := by simp [rowVals, List.map_take, List.map_drop]
      rw [this]
      exact own_touch (F := [d]) (own_zero o') ((Touch.refl _ _).setCell (.inl (by simp)) _) (fun i hi => by simpa using hnd' i hi)
    · exact own_base o'
    · refine Touch.setCell ?_ (.inl (by simp)) _
      refine (((t.mono (G := [d]) (by simp)).trans t3 (by simp)).trans t' (fun i hi => .inr (own_base o i hi))))
  unfold ptr at C1 hK ⊢
  generalize plc (L.map (·.f)) y.f.name = p at *
  generalize y.f.name = nm at *
  clear h hd hy hs HL
  generalize RowPost d k kv (L.take p ++ y :: L.drop p) w = M at *
  go_enter Tryz.func78, Tryz.ntmps78
  go_wp2_with (first
    | (go_at_call 85; refine C1.out.mono ?_; rintro e w1 ⟨rfl, rfl⟩)
    | (go_at_call 108; refine C2.out.mono ?_; rintro e w2 ⟨v2, rfl, o2, t2⟩; obtain ⟨y2, c2, rfl, -⟩ := own_form o2; have d2 := (t2.block d (lt_of_block HD.out) (by simp)).trans HD.out; have q3 := cell_of d2 3; have q4 := free_of d2 3; have q8 := setRv d2 (.slice y2 L.length c2); have q9 := cell_of q8 3; simp [dkCells] at q3 q9; have FF := hid (hK.out w2 _ (.slice y2 L.length c2) o2 t2 rfl); clear q8 o2 t2 d2)
    | (go_at_call 109; refine FF.out.mono ?_; rintro e w4 ⟨v4, y4, n4, c4, rfl, rfl, ⟨cs4, h4, u4, hu4⟩, FM⟩; have r3 := (cell_of h4 3).trans hu4; have r4 := free_of h4 3; have FN := hid FM; clear FM h4 hu4))
  exact bodyPost_end (results_none rfl _ _ _) rfl FN.out

theorem put_any {w : World} {d : Nat} {k : Dk} {rv kv : Value} {L : List Px} {y : Px} (hd : w.heap[d]? = some (.cells (dkCells k rv kv) tDisk (0, 0))) (h : RowOk w d rv L) (hy : HeadAt w y) :
    Calls Tryz.prog 78 #[ptr d, ptr y.b] w (RowPost d k kv (putP L y) w) := by
  cases hs : (getF (L.map (·.f)) y.f.name).isSome
  · exact put_new hd h hy hs
  · exact put_there hd h hy hs
end Go.Proofs.YtjjocnkockeacaaGreatDoor

namespace Go.Proofs.YtjjocnkockeacaaGreatDoor
open Go.RowKit Go.Lib
set_option maxRecDepth 100000
set_option maxHeartbeats 2000000 in
theorem drop_any {w : World} {d : Nat} {k : Dk} {rv kv : Value} {L : List Px} {p : Nat} (hd : w.heap[d]? = some (.cells (dkCells k rv kv) tDisk (0, 0))) (h : RowOk w d rv L) (hp : p < L.length) :
    Calls Tryz.prog 105 #[ptr d, .int .i64 p] w (RowPost d k kv (L.take p ++ L.drop (p + 1)) w) := by
  have hlen := h.len
  have C2 := hid (clone_pf h.row (by omega) (rowVals_one L))
  have c3 := h.cell
  have HD := hid hd
  have hK : Hid (∀ (w2 : World) (v2 : Value), w2.ownsRow w.heap.size tPF 1 v2 L.length (rowVals L) → Touch [] w w2 →
      Calls Tryz.prog 134 #[v2, .int .i64 p, .int .i64 ((p : Int) + 1)] w2 fun e w' => ∃ v' y' n' c', v' = .slice y' n' c' ∧ e = .returned v' ∧ (∃ cs, w'.heap[d]? = some (.cells cs tDisk (0, 0)) ∧ ∃ u, cs[3]? = some u) ∧
        RowPost d k kv (L.take p ++ L.drop (p + 1)) w (.returned (.tuple #[])) (w'.setCell ⟨d, 3, none⟩ v')) := hid (by
    intro w2 v2 o t
    have d2 := (t.block d (lt_of_block hd) (by simp)).trans hd
    have hnd := own_ne_d d2 o
    refine (delete_any rfl o hp (rowVals_one L)).mono ?_
    rintro e w' ⟨v', rfl, hob, o', t'⟩
    have d4 := (t'.block d (lt_of_block d2) (fun hm => hnd d hm rfl)).trans d2
    have hnd' := own_ne_d d4 o'
    obtain ⟨y', c', hv', -⟩ := own_form o'
    refine ⟨v', y', _, c', hv', rfl, ⟨_, d4, _, rfl⟩, rfl, v', setRv d4 v', ?_, ?_, ?_⟩
    · have e1 : (L.take p ++ L.drop (p + 1)).length = L.length - 1 := by simp; omega
      unfold RowAt
      rw [e1]
      have : rowVals (L.take p ++ L.drop (p + 1)) = (rowVals L).take p ++ (rowVals L).drop (p + 1) := by simp [rowVals, List.map_take, List.map_drop]
      rw [this]
      exact own_touch (F := [d]) (own_zero o') ((Touch.refl _ _).setCell (.inl (by simp)) _) (fun i hi => by simpa using hnd' i hi)
    · exact own_base o'
    · refine Touch.setCell ?_ (.inl (by simp)) _
      refine ((t.mono (G := [d]) (by simp)).trans t' (fun i hi => .inr (own_base o i hi))))
  have hpn : (p : Int) + 1 ≤ 9223372036854775807 := by omega
  unfold ptr
  generalize RowPost d k kv (L.take p ++ L.drop (p + 1)) w = M at *
  clear h hd
  go_enter Tryz.func105, Tryz.ntmps105
  go_wp2_with (first
    | (go_at_call 108; refine C2.out.mono ?_; rintro e w2 ⟨v2, rfl, o2, t2⟩; obtain ⟨y2, c2, rfl, -⟩ := own_form o2; have FF := hid (hK.out w2 (.slice y2 L.length c2) o2 t2); clear o2 t2)
    | (go_at_call 134; refine FF.out.mono ?_; rintro e w4 ⟨v4, y4, n4, c4, rfl, rfl, ⟨cs4, h4, u4, hu4⟩, FM⟩; have r3 := (cell_of h4 3).trans hu4; have r4 := free_of h4 3; have FN := hid FM; clear FM h4 hu4))
  exact bodyPost_end (results_none rfl _ _ _) rfl FN.out
end Go.Proofs.YtjjocnkockeacaaGreatDoor

namespace Go.Proofs.YtjjocnkockeacaaGreatDoor
open Go.RowKit Go.Lib
set_option maxRecDepth 100000

/-- A list of ints that can be read. -/
def IntsR (w : World) (x : Option Addr) (ks : List Int) : Prop := ∀ i (hi : i < ks.length), ∃ b o, x = some ⟨b, o, none⟩ ∧ w.cell? ⟨b, o + i, none⟩ = some (.int .i64 ks[i])
theorem IntsR.touch {w w' : World} {x : Option Addr} {ks : List Int} (h : IntsR w x ks) (t : Touch [] w w') : IntsR w' x ks := by
  intro i hi
  obtain ⟨b, o, e, c⟩ := h i hi
  exact ⟨b, o, e, touch_cell t c (by simp)⟩
theorem ints_own {base : Nat} {v : Value} {ks : List Int} {w : World} (h : w.ownsRow base tInt 1 v ks.length (intVals ks)) : ∃ x c, v = .slice x ks.length c ∧ IntsR w x ks := by
  obtain ⟨x, c, hv, -, -, -, hc⟩ := own_form h
  refine ⟨x, c, hv, fun i hi => ?_⟩
  obtain ⟨b, hb, hcc⟩ := hc i (by simpa [intVals] using hi)
  exact ⟨b, 0, hb, by simpa [intVals] using hcc⟩

theorem keepN_le (f : Fl) (k : Int) (h : f.syn ≤ f.data.size) : keepN f k ≤ f.data.size := by unfold keepN; omega
theorem unsynced_q {w : World} {x : Px} (h : FileAt w x) (n : Nat) : Calls Tryz.prog 57 #[.pointer (some ⟨x.b, 0, none⟩)] (w.drewN n) fun e w' => e = .returned (.int .i64 ((x.f.data.size - x.f.syn : Nat) : Int)) ∧ ∃ m, w' = w.drewN m := by
  have t : Touch [] w (w.drewN n) := (Touch.refl _ _).drewN n
  refine (unsynced_any (h.touch t (by simp))).mono ?_
  rintro e w' ⟨rfl, m, rfl⟩
  exact ⟨rfl, n + m, by simp [World.drewN, Nat.add_assoc]⟩

/-- How far the walk through the row is: i files are done, S stays of them, 'lost' bytes are lost. -/
structure CrSt (w : World) (L : List Px) (ks : List Int) (i : Nat) (sv : Value) (lost : Nat) (S : List Px) (wr : World) : Prop where
  le : i ≤ L.length
  own : wr.ownsRow w.heap.size tPF 1 sv S.length (rowVals S)
  files : S.map (·.f) ++ crashL ((L.map (·.f)).drop i) (ks.drop i) = crashL (L.map (·.f)) ks
  lost : lost + lostL ((L.map (·.f)).drop i) (ks.drop i) = lostL (L.map (·.f)) ks
  slen : S.length ≤ i
  each : ∀ x ∈ S, FileAt wr x
  from_ : ∀ x ∈ S, ∀ b ∈ x.own, w.heap.size ≤ b ∨ ∃ j, ∃ (hj : j < L.length), j < i ∧ b ∈ L[j].own
  apart : Apart S
  touch : Touch [] w wr

theorem crst_skip {w wr wr' : World} {L : List Px} {ks : List Int} {i : Nat} {sv : Value} {lost lost' : Nat} {S : List Px} (h : CrSt w L ks i sv lost S wr) (hi : i < L.length) (t : Touch [] wr wr')
    (hz : ¬ (0 < keepN L[i].f ((ks.drop i).headD 0) ∨ L[i].f.last = true)) (hl : lost' = lost + (L[i].f.data.size - keepN L[i].f ((ks.drop i).headD 0))) : CrSt w L ks (i + 1) sv lost' S wr' := by
  have e1 : (L.map (·.f)).drop i = L[i].f :: (L.map (·.f)).drop (i + 1) := by rw [List.drop_eq_getElem_cons (by simpa using hi)]; simp
  have e2 : (ks.drop i).tail = ks.drop (i + 1) := by rw [List.tail_drop]
  refine ⟨by omega, own_touch h.own t (by simp), ?_, ?_, by have := h.slen; omega, fun x hx => (h.each x hx).touch t (by simp), fun x hx b hb => ?_, h.apart, h.touch.trans t (by simp)⟩
  · have := h.files
    rw [e1, crashL, if_neg hz, List.nil_append, e2] at this
    exact this
  · have := h.lost
    rw [e1, lostL, e2] at this
    omega
  · rcases h.from_ x hx b hb with h1 | ⟨j, hj, h1, h2⟩
    · exact .inl h1
    · exact .inr ⟨j, hj, by omega, h2⟩

theorem crst_stay {w wr w1 : World} {L : List Px} {ks : List Int} {i : Nat} {sv sv' : Value} {lost lost' : Nat} {S : List Px} {y : Px} (h : CrSt w L ks i sv lost S wr) (hi : i < L.length) (hL : Apart L) (hlt : ∀ x ∈ L, ∀ b ∈ x.own, b < w.heap.size) (t : Touch (sv.ownBlock.toList) wr w1)
    (hz : 0 < keepN L[i].f ((ks.drop i).headD 0) ∨ L[i].f.last = true) (hl : lost' = lost + (L[i].f.data.size - keepN L[i].f ((ks.drop i).headD 0)))
    (hy : y.f = lastF (cutF L[i].f (keepN L[i].f ((ks.drop i).headD 0)))) (hfy : FileAt w1 y) (hyo : ∀ b ∈ y.own, b ∈ L[i].own ∨ wr.heap.size ≤ b) (hown : w1.ownsRow w.heap.size tPF 1 sv' (S.length + 1) (rowVals (S ++ [y]))) : CrSt w L ks (i + 1) sv' lost' (S ++ [y]) w1 := by
  have e1 : (L.map (·.f)).drop i = L[i].f :: (L.map (·.f)).drop (i + 1) := by rw [List.drop_eq_getElem_cons (by simpa using hi)]; simp
  have e2 : (ks.drop i).tail = ks.drop (i + 1) := by rw [List.tail_drop]
  have hob := own_base h.own
  have hne : ∀ x ∈ S, ∀ k ∈ x.own, k ∉ sv.ownBlock.toList := by
    intro x hx k hk hm
    rcases h.own.2 with ⟨e, _⟩ | ⟨g, cap, cur, e, hb, hg, _⟩
    · rw [e] at hm; simp [Value.ownBlock] at hm
    · rw [e] at hm
      simp [Value.ownBlock] at hm
      subst hm
      have hf := h.each x hx
      simp only [Px.own, List.mem_cons] at hk
      rcases hk with hk | hk | hk
      · subst hk; exact ne_type hg hf.head (by decide) rfl
      · subst hk; exact ne_type hg hf.pool (by decide) rfl
      · exact hf.pv.ne hg (by decide) _ hk (by simp)
  refine ⟨by omega, by simpa using hown, ?_, ?_, by have := h.slen; simp; omega, ?_, ?_, ?_, h.touch.trans t (fun k hk => .inr (hob k hk))⟩
  · have := h.files
    rw [e1, crashL, if_pos hz, e2] at this
    rw [List.map_append, List.append_assoc, List.map_singleton, hy]
    exact this
  · have := h.lost
    rw [e1, lostL, e2] at this
    omega
  · intro x hx
    rcases List.mem_append.1 hx with hx | hx
    · exact (h.each x hx).touch t (hne x hx)
    · simp at hx; subst hx; exact hfy
  · intro x hx b hb
    rcases List.mem_append.1 hx with hx | hx
    · rcases h.from_ x hx b hb with h1 | ⟨j, hj, h1, h2⟩
      · exact .inl h1
      · exact .inr ⟨j, hj, by omega, h2⟩
    · simp at hx; subst hx
      rcases hyo b hb with h1 | h1
      · exact .inr ⟨i, hi, by omega, h1⟩
      · exact .inl (Nat.le_trans h.touch.size h1)
  · unfold Apart
    rw [List.pairwise_append]
    refine ⟨h.apart, by simp, ?_⟩
    intro x hx z hz' k hk hkz
    simp at hz'
    subst hz'
    have h3 := (h.each x hx).lt k hk
    rcases hyo k hkz with h1 | h1
    · rcases h.from_ x hx k hk with h2 | ⟨j, hj, h2, h4⟩
      · have := hlt _ (List.getElem_mem hi) k h1; omega
      · exact List.pairwise_iff_getElem.1 hL j i hj hi h2 k h4 h1
    · omega
end Go.Proofs.YtjjocnkockeacaaGreatDoor

namespace Go.Proofs.YtjjocnkockeacaaGreatDoor
open Go.RowKit Go.Lib
set_option maxRecDepth 100000

theorem hid_pf {w : World} {base n : Nat} {v : Value} {xs : List Value} (h : w.ownsRow base tPF 1 v n xs) : ∃ x c, v = .slice x n c := by
  obtain ⟨x, c, hv, -⟩ := own_form h
  exact ⟨x, c, hv⟩
theorem crash_off {w : World} {d : Nat} {k : Dk} {rv kv : Value} {x : Option Addr} {n c : Nat} (h : w.heap[d]? = some (.cells (dkCells k rv kv) tDisk (0, 0))) (hon : k.on = false) :
    Calls Tryz.prog 30 #[ptr d, .slice x n c] w fun e w' => e = .returned (.int .i64 0) ∧ w' = w := by
  have C := hid (on_any h)
  rw [hon] at C
  unfold ptr at C ⊢
  clear h hon
  go_enter Tryz.func30, Tryz.ntmps30
  go_wp2_with (go_at_call 26; refine C.out.mono ?_; rintro e w1 ⟨rfl, rfl⟩)
  go_ret
  exact ⟨rfl, rfl⟩

theorem toNat_max (k : Int) : max k 0 = (k.toNat : Int) := by omega

theorem made_out {O : List Nat} {f' : Fl} {F : List Nat} {w : World} {e : Ending} {w' : World} (h : Made O f' F w e w') : ∃ y : Px, y.f = f' ∧ e = .returned (ptr y.b) ∧ FileAt w' y ∧ w.heap.size ≤ y.b ∧ (∀ k ∈ y.own, k ∈ O ∨ w.heap.size ≤ k) ∧ Touch F w w' := h
theorem mut_own {x : Px} {b : Nat} (h : b ∈ x.mut) : b ∈ x.own := by simp only [Px.mut, Px.own, List.mem_cons] at *; exact .inr h
theorem rowVals_snoc (S : List Px) (y : Px) : rowVals (S ++ [y]) = rowVals S ++ [.pointer (some ⟨y.b, 0, none⟩)] := by simp [rowVals, ptr]
theorem ne_row {w : World} {base n : Nat} {v : Value} {xs : List Value} {x : Px} (h : w.ownsRow base tPF 1 v n xs) (hf : FileAt w x) : ∀ k ∈ x.own, k ∉ v.ownBlock.toList := by
  intro k hk hm
  rcases h.2 with ⟨rfl, _⟩ | ⟨g, cap, cur, rfl, hb, hg, _⟩
  · simp [Value.ownBlock] at hm
  · simp [Value.ownBlock] at hm
    subst hm
    simp only [Px.own, List.mem_cons] at hk
    rcases hk with hk | hk | hk
    · subst hk; exact ne_type hg hf.head (by decide) rfl
    · subst hk; exact ne_type hg hf.pool (by decide) rfl
    · exact hf.pv.ne hg (by decide) _ hk (by simp)
theorem lostL_le : ∀ (l : List Fl) (ks : List Int), lostL l ks ≤ used l
  | [], _ => Nat.zero_le _
  | f :: r, ks => by
    have := lostL_le r ks.tail
    simp only [lostL, used, List.map_cons, List.sum_cons] at *
    omega
theorem lost_used {l : List Fl} {ks : List Int} : ∀ i, i ≤ l.length → lostL l ks ≤ used (l.take i) + lostL (l.drop i) (ks.drop i) := by
  induction l generalizing ks with
  | nil => intro i _; simp [lostL]
  | cons f r ih =>
    intro i hi
    cases i with
    | zero => simp [used]
    | succ i =>
      have := ih (ks := ks.tail) i (by simpa using hi)
      simp only [lostL, List.take_succ_cons, List.drop_succ_cons, used, List.map_cons, List.sum_cons] at *
      rw [show ks.drop (i + 1) = ks.tail.drop i by cases ks <;> simp]
      omega
theorem FileSum {L : List Px} {ks : List Int} {lost i : Nat} (hu : used (L.map (·.f)) ≤ 70368744177664) (hi : i < L.length) (h : lost + lostL ((L.map (·.f)).drop i) (ks.drop i) = lostL (L.map (·.f)) ks) : lost + L[i].f.data.size ≤ 70368744177664 := by
  have h1 := lost_used (l := L.map (·.f)) (ks := ks) i (by simp; omega)
  have h2 : used ((L.map (·.f)).take (i + 1)) ≤ used (L.map (·.f)) := by
    conv => rhs; rw [← List.take_append_drop (i + 1) (L.map (·.f)), used_app]
    omega
  rw [List.take_succ_eq_append_getElem (by simpa using hi), used_app] at h2
  simp [used] at h2 h1 hu
  have h3 : lostL ((L.map (·.f)).drop i) (ks.drop i) = lostL ((L.map (·.f)).drop i) (ks.drop i) := rfl
  omega

set_option maxHeartbeats 8000000 in
theorem crash_on {w : World} {d : Nat} {k : Dk} {rv kv : Value} {L : List Px} {x : Option Addr} {ks : List Int} {c : Nat} (h : DiskIs w d k rv kv L) (hon : k.on = true) (hk : IntsR w x ks) (hkl : ks.length ≤ 1000000) (hu : used k.files ≤ 70368744177664) :
    Calls Tryz.prog 30 #[ptr d, .slice x ks.length c] w fun e w' => e = .returned (.int .i64 (lostL k.files ks : Nat)) ∧ ∃ sv S wr, CrSt w L ks L.length sv (lostL k.files ks) S wr ∧
      w' = ((((wr.setCell ⟨d, 3, none⟩ sv).setCell ⟨d, 1, none⟩ (.bool false)).setCell ⟨d, 4, none⟩ (.bool false)).setCell ⟨d, 5, none⟩ (.int .i64 0)).setCell ⟨d, 6, none⟩ (.slice none 0 0) := by
  have C0 := hid (on_any h.cells)
  rw [hon] at C0
  have hlen : L.length ≤ 200 := by have := h.many; rw [← h.files, List.length_map] at this; exact this
  obtain ⟨-, -, -, c3, -⟩ := dk_cell h.cells
  obtain ⟨rx, rc, hrv, hrc, hrm, -, hcell⟩ := row_cell h.row
  subst hrv
  have HC := hid hcell
  have HE := hid h.each
  have HA := hid h.apart
  have HD := hid h.cells
  have HK := hid hk
  have HF := hid h.files
  rw [← h.files] at hu ⊢
  have HU := hid hu
  have hst : Hid (CrSt w L ks 0 (.slice none 0 0) 0 [] w) := hid ⟨Nat.zero_le _, World.ownsRow_nil _ _ _ _, by simp, by simp, by simp, by simp, by simp, by simp [Apart], Touch.refl _ _⟩
  have HFZ := hid (And.intro (free_of h.cells 1) (free_of h.cells 3))
  unfold ptr at C0 ⊢
  clear h hon hcell hk hu hrm
  go_enter Tryz.func30, Tryz.ntmps30
  go_wp2_with (go_at_call 26; refine C0.out.mono ?_; rintro e w1 ⟨rfl, rfl⟩)
  go_loopw [5, 6, 19] (fun sv lv iv wr => ∃ (i lost : Nat) (S : List Px) (sx : Option Addr) (sc : Nat), i ≤ L.length ∧ iv = .int .i64 i ∧ lv = .int .i64 lost ∧ sv = .slice sx S.length sc ∧ Hid (CrSt w1 L ks i sv lost S wr)) (fun _ _ iv _ => L.length - (RowKit.intOf iv).toNat)
  case atStart => exact ⟨0, 0, [], none, 0, Nat.zero_le _, rfl, rfl, rfl, hst⟩
  case round =>
    obtain ⟨i, lost, S, sx, sc, hi, rfl, rfl, rfl, I⟩ := hrel
    by_cases hlt : i < L.length
    · obtain ⟨b, rfl, g0⟩ := HC.out i hlt
      have g1 := touch_cell I.out.touch g0 (by simp)
      unfold ptr at g1
      have fx := (HE.out _ (List.getElem_mem hlt)).touch I.out.touch (by simp)
      obtain ⟨f0, f1, f2, f3, f4⟩ := head_cells fx.head
      have C1 := hid fun W (t : Touch [] wr W) n hn => cut_any (fx.touch t (by simp)) n hn
      have CQ := hid fun n => unsynced_q fx n
      obtain ⟨kk, hkk⟩ : ∃ kk, kk = (ks.drop i).headD 0 := ⟨_, rfl⟩
      obtain ⟨K, hK⟩ : ∃ K, K = keepN L[i].f kk := ⟨_, rfl⟩
      have hsy := fx.syn
      have hsm := fx.small
      have hKle : K ≤ L[i].f.data.size := by rw [hK]; exact keepN_le _ _ hsy
      have hsum : (L[i].f.syn : Int) + min (max kk 0) ((L[i].f.data.size - L[i].f.syn : Nat) : Int) = (K : Int) := by rw [hK]; unfold keepN; omega
      have hkk1 : ∀ hk : i < ks.length, kk = ks[i] := by intro hk; rw [hkk, List.drop_eq_getElem_cons hk]; rfl
      have hkk0 : ¬ i < ks.length → kk = 0 := by intro hk; rw [hkk, List.drop_of_length_le (by omega)]; rfl
      have FSkip : Hid (¬ (0 < K ∨ L[i].f.last = true) → ∀ wr', Touch [] wr wr' → CrSt w1 L ks (i + 1) (.slice sx S.length sc) (lost + (L[i].f.data.size - K)) S wr') := hid fun hz wr' t => by
        refine crst_skip I.out hlt t ?_ ?_
        · rw [← hkk, ← hK]; exact hz
        · rw [← hkk, ← hK]
      have FStay : Hid ((0 < K ∨ L[i].f.last = true) → ∀ w' sv' y, Touch (Value.slice sx S.length sc).ownBlock.toList wr w' → y.f = lastF (cutF L[i].f K) → FileAt w' y → (∀ b ∈ y.own, b ∈ L[i].own ∨ wr.heap.size ≤ b) → w'.ownsRow w1.heap.size tPF 1 sv' (S.length + 1) (rowVals (S ++ [y])) →
          CrSt w1 L ks (i + 1) sv' (lost + (L[i].f.data.size - K)) (S ++ [y]) w') := hid fun hz w' sv' y t hy hfy hyo ho => by
        refine crst_stay I.out hlt HA.out (fun x hx => (HE.out x hx).lt) t ?_ ?_ ?_ hfy hyo ho
        · rw [← hkk, ← hK]; exact hz
        · rw [← hkk, ← hK]
        · rw [← hkk, ← hK]; exact hy
      have hl1 : lost + L[i].f.data.size ≤ 70368744177664 := by
        have h1 := I.out.lost
        have h2 := lostL_le (L.map (·.f)) ks
        have h3 := HU.out
        have h4 := FileSum HU.out hlt I.out.lost
        omega
      have HS := hid (show S.length ≤ 200 by have := I.out.slen; omega)
      unfold ptr at C1
      generalize hsz' : L[i].f.data.size = sz at *
      generalize hsy' : L[i].f.syn = sy at *
      generalize hla' : L[i].f.last = la at *
      generalize L[i].b = xb at *
      have hsb : (sy : Int) + min (max kk 0) ((sz - sy : Nat) : Int) ≤ 9223372036854775807 := by omega
      have hb3 : (lost : Int) + ((sz : Int) - K) ≤ 9223372036854775807 := by omega
      have hb4 : (0 : Int) ≤ (sz : Int) - K := by omega
      have hb5 : (lost : Int) + ((sz : Int) - K) = ((lost + (sz - K) : Nat) : Int) := by omega
      have hlt' : decide (i < L.length) = true := by simpa using hlt
      clear fx hK hkk hsz' hsy' hla' g0
      by_cases hks : i < ks.length
      · obtain ⟨kb, ko, rfl, kc0⟩ := HK.out i hks
        have kc := touch_cell I.out.touch kc0 (by simp)
        rw [← hkk1 hks] at kc
        have hks' : decide (i < ks.length) = true := by simpa using hks
        clear kc0 hkk1 hkk0
        by_cases hK1 : 0 < K
        · have hz : 0 < K ∨ la = true := .inl hK1
          have hKi : (0 : Int) < K := by omega
          have hKd : decide (0 < K) = true := by simpa using hK1
          go_wp2
          go_quiet ((go_at_call 57; exact CQ.out _))
          go_wp2_with (first
              | (go_at_call 58; with_reducible refine (C1.out _ ((Touch.refl _ _).drewN _) K hKle).mono ?_; intro e wa hh; obtain ⟨y1, hf1, he1, fa1, hb1, ho1, t1⟩ := made_out hh; unfold ptr at he1; subst he1; have FA := hid fa1; have C2 := hid (lasting_any fa1); unfold ptr at C2; have P1 := hid (And.intro hf1 (And.intro ho1 t1)); clear hf1 fa1 hb1 ho1 t1)
              | (go_at_call 59; with_reducible refine C2.out.mono ?_; intro e wb hh; obtain ⟨y2, hf2, he2, fa2, hb2, ho2, t2⟩ := made_out hh; unfold ptr at he2; subst he2; have P2 := hid (And.intro hf2 (And.intro fa2 (And.intro ho2 (P1.out.2.2.trans t2 (by simp))))); have P3 := hid (own_touch I.out.own (((Touch.refl [] wr).drewN nq).trans P2.out.2.2.2 (by simp)) (by simp)); have P4 := hid (Nat.le_trans I.out.touch.size (((Touch.refl [] wr).drewN nq).trans P2.out.2.2.2 (by simp)).size); clear hf2 fa2 hb2 ho2 t2)
              | (at_builtin; refine wpList_append_lies _ rfl _ _ 62 rfl w1.heap.size tPF _ (.pointer none) 1 8 rfl rfl rfl rfl rfl rfl (by omega) _ S.length (rowVals S) rfl (P3.out.alloc _) ⟨wb.heap.size, 0, none⟩ 1 1 [.pointer (some ⟨y2.b, 0, none⟩)] rfl rfl (World.news_of_block (heap_alloc_new wb _)) (by intro u hu; simp at hu; subst hu; rfl) (by omega) (by have := HS.out; unfold maxLen; omega) (by have := HS.out; omega) (by have := P4.out; simp; omega) _ rfl ?_; intro gg cap w3 hown hgrow hat hlt3; have O3 := hid (And.intro hown (And.intro hgrow hat)); clear hown hgrow hat hlt3))
          go_roundw
          case rel =>
            have tb : Touch [] wr wb := ((Touch.refl [] wr).drewN nq).trans P2.out.2.2.2 (by simp)
            have tc : Touch (Value.slice sx S.length sc).ownBlock.toList wr w3 := (((tb.alloc _).mono (by simp))).grown O3.out.2.1 (fun k hk => .inl (Option.mem_toList.2 hk))
            have tb3 : Touch (Value.slice sx S.length sc).ownBlock.toList wb w3 := ((((Touch.refl [] wb).alloc _).mono (by simp))).grown O3.out.2.1 (fun k hk => .inl (Option.mem_toList.2 hk))
            refine ⟨i + 1, lost + (sz - K), S ++ [y2], some ⟨gg, 0, none⟩, cap, by omega, by go_num, by go_num, by simp, ?_⟩
            refine hid (FStay.out hz w3 _ y2 tc ?_ (P2.out.2.1.touch tb3 ?_) ?_ ?_)
            · rw [P2.out.1, P1.out.1]
            · exact ne_row P3.out P2.out.2.1
            · intro q hq
              rcases P2.out.2.2.1 q hq with h1 | h1
              · rcases P1.out.2.1 q (mut_own h1) with h2 | h2
                · exact .inl (mut_own h2)
                · exact .inr h2
              · exact .inr (Nat.le_trans P1.out.2.2.size h1)
            · have := O3.out.1
              rw [rowVals_snoc]
              exact this
          case measure => simp [RowKit.intOf]; omega
        · have hK2 : K = 0 := by omega
          have hKd : decide (0 < K) = false := by simpa using hK1
          cases hla : la
          · rw [hla] at f4
            have hz : ¬ (0 < K ∨ la = true) := by rw [hla]; simp; omega
            have hz2 := hid hz
            have hla2 := hid hla
            have hK3 := hid hK2
            clear hla hK2 hK1 hz
            go_wp2
            go_quiet ((go_at_call 57; exact CQ.out _))
            go_wp2
            go_roundw
            case rel => exact ⟨i + 1, lost + (sz - K), S, sx, sc, by omega, by go_num, by go_num, rfl, hid (FSkip.out hz2.out _ ((Touch.refl _ _).drewN _))⟩
            case measure => simp [RowKit.intOf]; omega
          · rw [hla] at f4
            have hz : 0 < K ∨ la = true := .inr hla
            have hz2 := hid hz
            clear hla hK2 hK1 hz
            go_wp2
            go_quiet ((go_at_call 57; exact CQ.out _))
            go_wp2_with (first
                | (go_at_call 58; with_reducible refine (C1.out _ ((Touch.refl _ _).drewN _) K hKle).mono ?_; intro e wa hh; obtain ⟨y1, hf1, he1, fa1, hb1, ho1, t1⟩ := made_out hh; unfold ptr at he1; subst he1; have FA := hid fa1; have C2 := hid (lasting_any fa1); unfold ptr at C2; have P1 := hid (And.intro hf1 (And.intro ho1 t1)); clear hf1 fa1 hb1 ho1 t1)
                | (go_at_call 59; with_reducible refine C2.out.mono ?_; intro e wb hh; obtain ⟨y2, hf2, he2, fa2, hb2, ho2, t2⟩ := made_out hh; unfold ptr at he2; subst he2; have P2 := hid (And.intro hf2 (And.intro fa2 (And.intro ho2 (P1.out.2.2.trans t2 (by simp))))); have P3 := hid (own_touch I.out.own (((Touch.refl [] wr).drewN nq).trans P2.out.2.2.2 (by simp)) (by simp)); have P4 := hid (Nat.le_trans I.out.touch.size (((Touch.refl [] wr).drewN nq).trans P2.out.2.2.2 (by simp)).size); clear hf2 fa2 hb2 ho2 t2)
                | (at_builtin; refine wpList_append_lies _ rfl _ _ 62 rfl w1.heap.size tPF _ (.pointer none) 1 8 rfl rfl rfl rfl rfl rfl (by omega) _ S.length (rowVals S) rfl (P3.out.alloc _) ⟨wb.heap.size, 0, none⟩ 1 1 [.pointer (some ⟨y2.b, 0, none⟩)] rfl rfl (World.news_of_block (heap_alloc_new wb _)) (by intro u hu; simp at hu; subst hu; rfl) (by omega) (by have := HS.out; unfold maxLen; omega) (by have := HS.out; omega) (by have := P4.out; simp; omega) _ rfl ?_; intro gg cap w3 hown hgrow hat hlt3; have O3 := hid (And.intro hown (And.intro hgrow hat)); clear hown hgrow hat hlt3))
            go_roundw
            case rel =>
              have tb : Touch [] wr wb := ((Touch.refl [] wr).drewN nq).trans P2.out.2.2.2 (by simp)
              have tc : Touch (Value.slice sx S.length sc).ownBlock.toList wr w3 := (((tb.alloc _).mono (by simp))).grown O3.out.2.1 (fun k hk => .inl (Option.mem_toList.2 hk))
              have tb3 : Touch (Value.slice sx S.length sc).ownBlock.toList wb w3 := ((((Touch.refl [] wb).alloc _).mono (by simp))).grown O3.out.2.1 (fun k hk => .inl (Option.mem_toList.2 hk))
              refine ⟨i + 1, lost + (sz - K), S ++ [y2], some ⟨gg, 0, none⟩, cap, by omega, by go_num, by go_num, by simp, ?_⟩
              refine hid (FStay.out hz2.out w3 _ y2 tc ?_ (P2.out.2.1.touch tb3 ?_) ?_ ?_)
              · rw [P2.out.1, P1.out.1]
              · exact ne_row P3.out P2.out.2.1
              · intro q hq
                rcases P2.out.2.2.1 q hq with h1 | h1
                · rcases P1.out.2.1 q (mut_own h1) with h2 | h2
                  · exact .inl (mut_own h2)
                  · exact .inr h2
                · exact .inr (Nat.le_trans P1.out.2.2.size h1)
              · have := O3.out.1
                rw [rowVals_snoc]
                exact this
            case measure => simp [RowKit.intOf]; omega
      · obtain rfl : kk = 0 := hkk0 hks
        have hks' : decide (i < ks.length) = false := by simpa using hks
        have hK0 : K = sy := by simp at hsum; omega
        subst hK0
        have hm0 : min (0 : Int) ((sz - K : Nat) : Int) = 0 := by omega
        clear hkk1 hkk0 hks hsum hsb
        by_cases hK1 : 0 < K
        · have hz : 0 < K ∨ la = true := .inl hK1
          have hKi : (0 : Int) < K := by omega
          have hKd : decide (0 < K) = true := by simpa using hK1
          go_wp2
          go_quiet ((go_at_call 57; exact CQ.out _))
          go_wp2_with (first
              | (go_at_call 58; with_reducible refine (C1.out _ ((Touch.refl _ _).drewN _) K hKle).mono ?_; intro e wa hh; obtain ⟨y1, hf1, he1, fa1, hb1, ho1, t1⟩ := made_out hh; unfold ptr at he1; subst he1; have FA := hid fa1; have C2 := hid (lasting_any fa1); unfold ptr at C2; have P1 := hid (And.intro hf1 (And.intro ho1 t1)); clear hf1 fa1 hb1 ho1 t1)
              | (go_at_call 59; with_reducible refine C2.out.mono ?_; intro e wb hh; obtain ⟨y2, hf2, he2, fa2, hb2, ho2, t2⟩ := made_out hh; unfold ptr at he2; subst he2; have P2 := hid (And.intro hf2 (And.intro fa2 (And.intro ho2 (P1.out.2.2.trans t2 (by simp))))); have P3 := hid (own_touch I.out.own (((Touch.refl [] wr).drewN nq).trans P2.out.2.2.2 (by simp)) (by simp)); have P4 := hid (Nat.le_trans I.out.touch.size (((Touch.refl [] wr).drewN nq).trans P2.out.2.2.2 (by simp)).size); clear hf2 fa2 hb2 ho2 t2)
              | (at_builtin; refine wpList_append_lies _ rfl _ _ 62 rfl w1.heap.size tPF _ (.pointer none) 1 8 rfl rfl rfl rfl rfl rfl (by omega) _ S.length (rowVals S) rfl (P3.out.alloc _) ⟨wb.heap.size, 0, none⟩ 1 1 [.pointer (some ⟨y2.b, 0, none⟩)] rfl rfl (World.news_of_block (heap_alloc_new wb _)) (by intro u hu; simp at hu; subst hu; rfl) (by omega) (by have := HS.out; unfold maxLen; omega) (by have := HS.out; omega) (by have := P4.out; simp; omega) _ rfl ?_; intro gg cap w3 hown hgrow hat hlt3; have O3 := hid (And.intro hown (And.intro hgrow hat)); clear hown hgrow hat hlt3))
          go_roundw
          case rel =>
            have tb : Touch [] wr wb := ((Touch.refl [] wr).drewN nq).trans P2.out.2.2.2 (by simp)
            have tc : Touch (Value.slice sx S.length sc).ownBlock.toList wr w3 := (((tb.alloc _).mono (by simp))).grown O3.out.2.1 (fun k hk => .inl (Option.mem_toList.2 hk))
            have tb3 : Touch (Value.slice sx S.length sc).ownBlock.toList wb w3 := ((((Touch.refl [] wb).alloc _).mono (by simp))).grown O3.out.2.1 (fun k hk => .inl (Option.mem_toList.2 hk))
            refine ⟨i + 1, lost + (sz - K), S ++ [y2], some ⟨gg, 0, none⟩, cap, by omega, by go_num, by go_num, by simp, ?_⟩
            refine hid (FStay.out hz w3 _ y2 tc ?_ (P2.out.2.1.touch tb3 ?_) ?_ ?_)
            · rw [P2.out.1, P1.out.1]
            · exact ne_row P3.out P2.out.2.1
            · intro q hq
              rcases P2.out.2.2.1 q hq with h1 | h1
              · rcases P1.out.2.1 q (mut_own h1) with h2 | h2
                · exact .inl (mut_own h2)
                · exact .inr h2
              · exact .inr (Nat.le_trans P1.out.2.2.size h1)
            · have := O3.out.1
              rw [rowVals_snoc]
              exact this
          case measure => simp [RowKit.intOf]; omega
        · have hK2 : K = 0 := by omega
          have hKd : decide (0 < K) = false := by simpa using hK1
          cases hla : la
          · rw [hla] at f4
            have hz : ¬ (0 < K ∨ la = true) := by rw [hla]; simp; omega
            have hz2 := hid hz
            have hla2 := hid hla
            have hK3 := hid hK2
            clear hla hK2 hK1 hz
            go_wp2
            go_quiet ((go_at_call 57; exact CQ.out _))
            go_wp2
            go_roundw
            case rel => exact ⟨i + 1, lost + (sz - K), S, sx, sc, by omega, by go_num, by go_num, rfl, hid (FSkip.out hz2.out _ ((Touch.refl _ _).drewN _))⟩
            case measure => simp [RowKit.intOf]; omega
          · rw [hla] at f4
            have hz : 0 < K ∨ la = true := .inr hla
            have hz2 := hid hz
            clear hla hK2 hK1 hz
            go_wp2
            go_quiet ((go_at_call 57; exact CQ.out _))
            go_wp2_with (first
                | (go_at_call 58; with_reducible refine (C1.out _ ((Touch.refl _ _).drewN _) K hKle).mono ?_; intro e wa hh; obtain ⟨y1, hf1, he1, fa1, hb1, ho1, t1⟩ := made_out hh; unfold ptr at he1; subst he1; have FA := hid fa1; have C2 := hid (lasting_any fa1); unfold ptr at C2; have P1 := hid (And.intro hf1 (And.intro ho1 t1)); clear hf1 fa1 hb1 ho1 t1)
                | (go_at_call 59; with_reducible refine C2.out.mono ?_; intro e wb hh; obtain ⟨y2, hf2, he2, fa2, hb2, ho2, t2⟩ := made_out hh; unfold ptr at he2; subst he2; have P2 := hid (And.intro hf2 (And.intro fa2 (And.intro ho2 (P1.out.2.2.trans t2 (by simp))))); have P3 := hid (own_touch I.out.own (((Touch.refl [] wr).drewN nq).trans P2.out.2.2.2 (by simp)) (by simp)); have P4 := hid (Nat.le_trans I.out.touch.size (((Touch.refl [] wr).drewN nq).trans P2.out.2.2.2 (by simp)).size); clear hf2 fa2 hb2 ho2 t2)
                | (at_builtin; refine wpList_append_lies _ rfl _ _ 62 rfl w1.heap.size tPF _ (.pointer none) 1 8 rfl rfl rfl rfl rfl rfl (by omega) _ S.length (rowVals S) rfl (P3.out.alloc _) ⟨wb.heap.size, 0, none⟩ 1 1 [.pointer (some ⟨y2.b, 0, none⟩)] rfl rfl (World.news_of_block (heap_alloc_new wb _)) (by intro u hu; simp at hu; subst hu; rfl) (by omega) (by have := HS.out; unfold maxLen; omega) (by have := HS.out; omega) (by have := P4.out; simp; omega) _ rfl ?_; intro gg cap w3 hown hgrow hat hlt3; have O3 := hid (And.intro hown (And.intro hgrow hat)); clear hown hgrow hat hlt3))
            go_roundw
            case rel =>
              have tb : Touch [] wr wb := ((Touch.refl [] wr).drewN nq).trans P2.out.2.2.2 (by simp)
              have tc : Touch (Value.slice sx S.length sc).ownBlock.toList wr w3 := (((tb.alloc _).mono (by simp))).grown O3.out.2.1 (fun k hk => .inl (Option.mem_toList.2 hk))
              have tb3 : Touch (Value.slice sx S.length sc).ownBlock.toList wb w3 := ((((Touch.refl [] wb).alloc _).mono (by simp))).grown O3.out.2.1 (fun k hk => .inl (Option.mem_toList.2 hk))
              refine ⟨i + 1, lost + (sz - K), S ++ [y2], some ⟨gg, 0, none⟩, cap, by omega, by go_num, by go_num, by simp, ?_⟩
              refine hid (FStay.out hz2.out w3 _ y2 tc ?_ (P2.out.2.1.touch tb3 ?_) ?_ ?_)
              · rw [P2.out.1, P1.out.1]
              · exact ne_row P3.out P2.out.2.1
              · intro q hq
                rcases P2.out.2.2.1 q hq with h1 | h1
                · rcases P1.out.2.1 q (mut_own h1) with h2 | h2
                  · exact .inl (mut_own h2)
                  · exact .inr h2
                · exact .inr (Nat.le_trans P1.out.2.2.size h1)
              · have := O3.out.1
                rw [rowVals_snoc]
                exact this
            case measure => simp [RowKit.intOf]; omega
    · obtain rfl : i = L.length := by omega
      have hl : lost = lostL (L.map (·.f)) ks := by
        have := I.out.lost
        rw [List.drop_of_length_le (by simp)] at this
        simpa [lostL] using this
      subst hl
      have dd := (I.out.touch.block d (lt_of_block HD.out) (by simp)).trans HD.out
      have z1 := free_of dd 1
      have z3 := free_of dd 3
      have z4 := free_of dd 4
      have z5 := free_of dd 5
      have z6 := free_of dd 6
      have v1 := cell_of dd 1
      have v3 := cell_of dd 3
      have v4 := cell_of dd 4
      have v5 := cell_of dd 5
      have v6 := cell_of dd 6
      simp [dkCells] at v1 v3 v4 v5 v6
      clear dd
      go_wp2
      go_ret
      exact ⟨rfl, _, S, wr, I.out, rfl⟩
end Go.Proofs.YtjjocnkockeacaaGreatDoor
