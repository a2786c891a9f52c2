/- drop. -/
import Derived.Test.YthibabfojndlkaaPut9
namespace Go.Proofs.Ythibabfojndlkaa
open Go.RowKit Go.Lib
set_option maxRecDepth 100000
set_option maxHeartbeats 2000000 in
theorem drop_any {w : World} {d : Nat} {k : Dk} {rv kv : Value} {L : List Px} {p : Nat} (hd : w.heap[d]? = some (.cells (dkCells k rv kv) tDisk (0, 0))) (h : RowOk w d rv L) (hp : p < L.length) :
    Calls Try.prog 44 #[ptr d, .int .i64 p] w (RowPost d k kv (L.take p ++ L.drop (p + 1)) w) := by
  have hlen := h.len
  have C2 := hid (clone_pf h.row (by omega) (rowVals_one L))
  have c3 := h.cell
  have HD := hid hd
  have hK : Hid (∀ (w2 : World) (v2 : Value), w2.ownsRow w.heap.size tPF 1 v2 L.length (rowVals L) → Touch [] w w2 →
      Calls Try.prog 56 #[v2, .int .i64 p, .int .i64 ((p : Int) + 1)] w2 fun e w' => ∃ v' y' n' c', v' = .slice y' n' c' ∧ e = .returned v' ∧ (∃ cs, w'.heap[d]? = some (.cells cs tDisk (0, 0)) ∧ ∃ u, cs[3]? = some u) ∧
        RowPost d k kv (L.take p ++ L.drop (p + 1)) w (.returned (.tuple #[])) (w'.setCell ⟨d, 3, none⟩ v')) := hid (by
    intro w2 v2 o t
    have d2 := (t.block d (lt_of_block hd) (by simp)).trans hd
    have hnd := own_ne_d d2 o
    refine (delete_any rfl o hp (rowVals_one L)).mono ?_
    rintro e w' ⟨v', rfl, hob, o', t'⟩
    have d4 := (t'.block d (lt_of_block d2) (fun hm => hnd d hm rfl)).trans d2
    have hnd' := own_ne_d d4 o'
    obtain ⟨y', c', hv', -⟩ := own_form o'
    refine ⟨v', y', _, c', hv', rfl, ⟨_, d4, _, rfl⟩, rfl, v', setRv d4 v', ?_, ?_, ?_⟩
    · have e1 : (L.take p ++ L.drop (p + 1)).length = L.length - 1 := by simp; omega
      unfold RowAt
      rw [e1]
      have : rowVals (L.take p ++ L.drop (p + 1)) = (rowVals L).take p ++ (rowVals L).drop (p + 1) := by simp [rowVals, List.map_take, List.map_drop]
      rw [this]
      exact own_touch (F := [d]) (own_zero o') ((Touch.refl _ _).setCell (.inl (by simp)) _) (fun i hi => by simpa using hnd' i hi)
    · exact own_base o'
    · refine Touch.setCell ?_ (.inl (by simp)) _
      refine ((t.mono (G := [d]) (by simp)).trans t' (fun i hi => .inr (own_base o i hi))))
  have hpn : (p : Int) + 1 ≤ 9223372036854775807 := by omega
  unfold ptr
  generalize RowPost d k kv (L.take p ++ L.drop (p + 1)) w = M at *
  clear h hd
  go_enter Try.func44, Try.ntmps44
  go_wp2_with (first
    | (go_at_call 53; refine C2.out.mono ?_; rintro e w2 ⟨v2, rfl, o2, t2⟩; obtain ⟨y2, c2, rfl, -⟩ := own_form o2; have FF := hid (hK.out w2 (.slice y2 L.length c2) o2 t2); clear o2 t2)
    | (go_at_call 56; refine FF.out.mono ?_; rintro e w4 ⟨v4, y4, n4, c4, rfl, rfl, ⟨cs4, h4, u4, hu4⟩, FM⟩; have r3 := (cell_of h4 3).trans hu4; have r4 := free_of h4 3; have FN := hid FM; clear FM h4 hu4))
  exact bodyPost_end (results_none rfl _ _ _) rfl FN.out
end Go.Proofs.Ythibabfojndlkaa
