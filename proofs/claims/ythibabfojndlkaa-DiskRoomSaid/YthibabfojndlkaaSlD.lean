/- slices.Delete of one file of a row. -/
import Derived.Test.YthibabfojndlkaaSlw
import Derived.Shelf.RegionOpenPlain
import Derived.Lib.SliceRun
import Derived.Lib.SlicesDelete
namespace Go.Proofs.Ythibabfojndlkaa
open Go.RowKit Go.Lib
set_option maxRecDepth 100000

set_option maxHeartbeats 1000000 in
theorem delete_at {base n i j : Nat} (hj : j = i + 1) {v : Value} {xs : List Value} {w : World} (h : w.ownsRow base tPF 1 v n xs) (hi : i < n) (h1 : ∀ u ∈ xs, u.oneCell' = true) :
    Calls Try.prog 56 #[v, .int .i64 i, .int .i64 j] w fun e w' =>
      ∃ v', e = .returned v' ∧ v'.ownBlock = v.ownBlock ∧ w'.ownsRow base tPF 1 v' (n - 1) (xs.take i ++ xs.drop j) ∧ Touch v.ownBlock.toList w w' := by
  have hxl : xs.length = n := by have := h.1; omega
  rcases h.2 with ⟨rfl, rfl⟩ | ⟨g, cap, cur, rfl, hb, hg, hc, hm, hs, ht⟩
  · omega
  have hcs : cur.size = cap := by omega
  have htl : cur.toList.take n = xs := by simpa using ht
  have hd : (xs.drop j).length = n - j := by rw [List.length_drop, hxl]
  have hcell : ∀ (W : World), W.heap[g]? = some (.cells cur tPF (0, 0)) → ∀ j u, xs[j]? = some u → W.cell? ⟨g, j, none⟩ = some u := by
    intro W hW j u hu
    rw [cell_of hW]
    rw [← htl, List.getElem?_take] at hu
    split at hu
    · simpa using hu
    · cases hu
  have hsome : ∀ (W : World) (cs : Array Value), W.heap[g]? = some (.cells cs tPF (0, 0)) → cs.size = cap → ∀ j, j < cap → (W.cell? ⟨g, j, none⟩).isSome = true := by
    intro W cs hW hS j hj
    rw [cell_of hW, Array.getElem?_eq_getElem (by omega)]; rfl
  obtain ⟨A, hA, hsrc⟩ : ∃ A : Addr, (if cap = j then some (⟨g, 0, none⟩ : Addr) else some ⟨g, j, none⟩) = some A ∧ Hid (∀ t u, (xs.drop j)[t]? = some u → w.drew.cell? (A.add t) = some u) := by
    by_cases hq : cap = j
    · refine ⟨⟨g, 0, none⟩, by simp [hq], hid fun t u hu => ?_⟩
      have h0 : (xs.drop j).length = 0 := by rw [hd]; omega
      rw [List.length_eq_zero_iff.1 h0] at hu
      simp at hu
    · refine ⟨⟨g, j, none⟩, by simp [hq], hid fun t u hu => ?_⟩
      rw [Addr.add_lit]
      rw [List.getElem?_drop] at hu
      exact hcell w.drew hg _ u hu
  obtain ⟨W1, hW1⟩ : ∃ W1, W1 = w.drew.setCells g (0 + i * 1) (xs.drop j) := ⟨_, rfl⟩
  have hg1 : W1.heap[g]? = some (.cells (laidIn cur (0 + i * 1) (xs.drop j)) tPF (0, 0)) := by rw [hW1]; exact heap_setCells _ _ hg
  have hs1 : (laidIn cur (0 + i * 1) (xs.drop j)).size = cap := by rw [laid_size, hcs]
  have e1 : 0 + (i + (n - j)) = n - 1 := by omega
  have hcl : ∀ ty a, (Builtin.clear_ #[55] ty #[.slice (some ⟨g, i + (n - j), none⟩) (n - (i + (n - j))) a]).run Try.prog W1 = .ok (.tuple #[]) (W1.setCells g (i + (n - j)) (List.replicate (n - (i + (n - j))) (.pointer none))) := fun ty a =>
    Lib.run_clear_slice W1 _ tPF ty (.pointer none) rfl (fun w => by kernel_rfl) rfl rfl g (i + (n - j)) _ _ (by omega) (fun t ht => hsome W1 _ hg1 hs1 _ (by omega)) (fun t ht => free_of hg1 _)
  have hT1 : Touch [g] w W1 := by rw [hW1]; exact touch_setCells (.inl (by simp)) _ _ (Touch.refl [g] w).drew
  have hfin : (W1.setCells g (i + (n - j)) (List.replicate (n - (i + (n - j))) (.pointer none))).ownsRow base tPF 1 (.slice (some ⟨g, 0, none⟩) (i + (n - j)) cap) (n - 1) (xs.take i ++ xs.drop j) := by
    refine ⟨by simp; omega, .inr ⟨g, cap, _, by rw [show i + (n - j) = n - 1 by omega], hb, heap_setCells _ _ hg1, by omega, hm, by rw [laid_size, hs1]; omega, ?_⟩⟩
    rw [laid_list _ _ _ (by rw [hs1, List.length_replicate]; omega), laid_list _ _ _ (by rw [hcs, hd]; omega)]
    rw [List.append_assoc, List.take_append_of_le_length (by simp; omega)]
    rw [show i + (n - j) = n - 1 by omega, List.take_take, show min ((n - 1) * 1) (n - 1) = n - 1 by omega]
    rw [List.take_append_of_le_length (by simp; omega), List.take_of_length_le (by simp; omega)]
    congr 1
    rw [← htl, List.take_take]
    congr 1
    omega
  have X := hid hW1
  have HF := hid (And.intro hfin hT1)
  have hic : i ≤ cap := by omega
  have hjc : j ≤ cap := by omega
  have s3 : Hid (∀ t, t < (xs.drop j).length → (w.drew.cell? ⟨g, 0 + i * 1 + t, none⟩).isSome = true ∧ w.drew.frozen? ⟨g, 0 + i * 1 + t, none⟩ = false) := hid fun t ht => by
    rw [hd] at ht
    exact ⟨hsome w.drew cur hg hcs _ (by omega), free_of (w := w.drew) hg _⟩
  have s1 := hid (show (xs.drop j).length = (n - j) * 1 by omega)
  have s2 := hid (fun (u : Value) (hu : u ∈ xs.drop j) => h1 u (List.mem_of_mem_drop hu))
  have hb2 : ¬ ((i : Int) = (j : Int)) := by omega
  have hin : j ≤ n := by omega
  have hij : i ≤ j := by omega
  have s0 := hid (show i + (n - j) ≤ cap by omega)
  have mixed : Try.prog.follows Departure.mixedOrders = true := rfl
  clear hW1 hg1 hs1 hfin hT1 hcell hsome h ht htl hs hxl hd e1 h1 hj hi
  go_enter Try.func56, Try.ntmps56
  go_wp2_with fail
  go_region_law_o (refine step_append_room rfl (.tmp 22) (.tmp 25) 55 rfl tPF _ 1 rfl rfl rfl g 0 i cap (by simp [Act.eval, Act.put]) A (n - j) (cap - j) (xs.drop j) (by simp [Act.eval, Act.put]) s1.out hsrc.out s2.out s0.out s3.out ?_; rw [← X.out])
  go_wp2
  go_ret
  exact ⟨_, rfl, rfl, HF.out.1, touch_setCells (.inl (by simp [Value.ownBlock])) _ _ HF.out.2⟩
theorem delete_any {base n i : Nat} {j : Int} (hj : j = (i : Int) + 1) {v : Value} {xs : List Value} {w : World} (h : w.ownsRow base tPF 1 v n xs) (hi : i < n) (h1 : ∀ u ∈ xs, u.oneCell' = true) :
    Calls Try.prog 56 #[v, .int .i64 i, .int .i64 j] w fun e w' =>
      ∃ v', e = .returned v' ∧ v'.ownBlock = v.ownBlock ∧ w'.ownsRow base tPF 1 v' (n - 1) (xs.take i ++ xs.drop (i + 1)) ∧ Touch v.ownBlock.toList w w' := by
  subst hj
  exact delete_at rfl h hi h1
end Go.Proofs.Ythibabfojndlkaa
