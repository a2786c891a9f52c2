/- Where a version stands, by all entries. -/
import Derived.Test.YtnkflmimnpolcaaFim14
import Derived.Test.YtnkflmimnpolcaaAo14
namespace Go.Proofs.Ytnkflmimnpolcaa
open Go.RowKit Go.Lib Go.Shelf
set_option maxRecDepth 100000

theorem isV_isHV (h v : Int) (e : En) : isV h v v e = isHV h v e := by
  unfold isV isHV
  rw [Bool.eq_iff_iff]
  simp only [Bool.and_eq_true, decide_eq_true_eq]
  omega
theorem plT_eq (h v : Int) (ts : List TabV) : plT h v ts = ((flatT ts).filter (isHV h v)).map fun e => e.2.2 := by
  induction ts with
  | nil => simp [plT, flatT]
  | cons t ts ih =>
    have e : plT h v (t :: ts) = (t.l.filter (isV h v v)).map (fun e => e.2.2) ++ plT h v ts := by simp [plT]
    have e2 : t.l.filter (isV h v v) = t.l.filter (isHV h v) := List.filter_congr fun x _ => isV_isHV h v x
    rw [e, ih, flatT_cons, List.filter_append, List.map_append, e2]
theorem pos_sorted {S : List En} (hs : SortedE S) (h v : Int) : ((S.filter (isHV h v)).map fun e => e.2.2).Pairwise (· ≤ ·) := by
  rw [List.pairwise_map]
  have h1 : (S.filter (isHV h v)).Pairwise ltE := hs.filter _
  refine h1.imp_of_mem ?_
  intro a b ha hb hab
  have h2 := (List.mem_filter.1 ha).2
  have h3 := (List.mem_filter.1 hb).2
  simp only [isHV, Bool.and_eq_true, decide_eq_true_eq] at h2 h3
  unfold ltE at hab
  omega
theorem srtI_eq {a b : List Int} (h : a.Perm b) (hb : b.Pairwise (· ≤ ·)) : srtI a = b := by
  refine List.Perm.eq_of_pairwise (le := (· ≤ ·)) (fun x y _ _ h1 h2 => Int.le_antisymm h1 h2) ?_ hb ((List.mergeSort_perm a _).trans h)
  have := List.pairwise_mergeSort (le := fun x y : Int => decide (x ≤ y)) (fun a b c h1 h2 => by simp at *; omega) (fun a b => by simp; omega) a
  exact this.imp (by intro x y h; simpa using h)
theorem ixs_find {w : World} {xb room most : Nat} {S : List En} {M : Nat} {C : List Nat} (h : IxS w xb room most S M C) (hS : OkS S C) (h5 : S.length ≤ 5000) (a v : Int) :
    Calls Try.prog 19 #[.pointer (some ⟨xb, 0, none⟩), .int .i64 a, .int .i64 v] w fun r w' => ∃ u, r = .returned u ∧ w'.ownsRow w.heap.size TInt 1 u (S.filter (isHV a v)).length (intV ((S.filter (isHV a v)).map fun e => e.2.2)) ∧ Touch [] w w' := by
  obtain ⟨T, L, h1, h2, h3, h4, h5'⟩ := h.ex
  obtain ⟨g1, g2, g3, g4, g5⟩ := ixs_tabs h1 hS h3 h5'
  have hl := h3.length_eq
  rw [List.length_append] at hl
  have g6 := tabs_le (tabsL L) fun t ht => (g1 t ht).good.2.2.1
  have := find14_any a v xb room most T L w h1 h2 g1 (by omega) (by omega) g4 g5
  have hok : OkL T.io := fun e he => (hS.ok e (h3.subset (List.mem_append_left _ he))).1
  rw [find_list h2 hok a v] at this
  have hp : ((T.io.filter (isHV a v)).map (fun e : En => e.2.2) ++ plT a v (tabsL L)).Perm ((S.filter (isHV a v)).map fun e => e.2.2) := by
    rw [plT_eq, ← List.map_append, ← List.filter_append]
    exact (h3.filter _).map _
  have hln := hp.length_eq
  rw [List.length_append, List.length_map, List.length_map] at hln
  rw [srtI_eq hp (pos_sorted hS.s a v), hln] at this
  exact this
end Go.Proofs.Ytnkflmimnpolcaa
