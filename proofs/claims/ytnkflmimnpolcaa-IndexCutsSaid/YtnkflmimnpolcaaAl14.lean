/- One entry more; a first index. -/
import Derived.Test.YtnkflmimnpolcaaFg14
namespace Go.Proofs.Ytnkflmimnpolcaa
open Go.RowKit Go.Lib Go.Shelf
set_option maxRecDepth 100000

theorem add_one {w : World} {xb room most : Nat} {S : List En} {M : Nat} {C : List Nat} (h : IxS w xb room most S M C) (hS : OkS S C) (e : En) (ho : okE e) (hw : wfE e) (hn : e ∉ S) (hl : S.length ≤ 5000) (hC : C.length ≤ 5000) :
    Calls Try.prog 10 #[.pointer (some ⟨xb, 0, none⟩), .slice (some ⟨w.heap.size, 0, none⟩) 1 1] (w.alloc (.cells #[.int .i64 e.1, .int .i64 e.2.1, .int .i64 e.2.2] TEn)) fun r w' => r = .returned (.int .i64 1) ∧ IxS w' xb room most (put1 S e) (stepC room most (M, C)).1 (stepC room most (M, C)).2 ∧ OkS (put1 S e) (stepC room most (M, C)).2 ∧ Touch [xb] w w' := by
  have hxb : xb < w.heap.size := by
    obtain ⟨T, L, h1, -⟩ := h.ex
    obtain ⟨r, x, c, hb, -⟩ := h1.blk
    exact lt_of_block hb
  have t0 : Touch [] w (w.alloc (.cells #[.int .i64 e.1, .int .i64 e.2.1, .int .i64 e.2.2] TEn)) := (Touch.refl [] w).alloc _
  have hE : ∀ w', Touch [xb] (w.alloc (.cells #[.int .i64 e.1, .int .i64 e.2.1, .int .i64 e.2.2] TEn)) w' → EntX w' (some ⟨w.heap.size, 0, none⟩) [e] := fun w' t i hi => by
    obtain rfl : i = 0 := by simpa using hi
    have hb : w'.heap[w.heap.size]? = some (.cells #[.int .i64 e.1, .int .i64 e.2.1, .int .i64 e.2.2] TEn) := touch_other t (heap_alloc_new w _) (by simp; omega)
    exact ⟨w.heap.size, 0, rfl, cell_of hb 0, cell_of hb 1, cell_of hb 2⟩
  refine (add14_any (h.t0 t0) hS (some ⟨w.heap.size, 0, none⟩) 1 [e] hE (by simpa using hw) (by simp; omega) (by simp; omega)).mono ?_
  rintro r w' ⟨n, rfl, A⟩
  have hp := put1_new hS.s hn ho
  have hlen := hp.length_eq
  rw [List.length_cons] at hlen
  have e1 : addAll S ([e].take [e].length) = put1 S e := rfl
  have hn1 : n = 1 := by have := A.cn; rw [e1, hlen] at this; omega
  subst hn1
  have st := A.st
  have ok := A.ok
  rw [e1] at st ok
  exact ⟨rfl, st, ok, (t0.mono (by simp)).trans A.t (by simp)⟩
/-- The first entries of a row of entries. -/
def Sn (es : Nat → En) (k : Nat) : List En := addAll [] ((List.range k).map es)
theorem Sn_succ (es : Nat → En) (k : Nat) : Sn es (k + 1) = put1 (Sn es k) (es k) := by
  unfold Sn
  rw [List.range_succ, List.map_append, List.map_singleton, addAll_snoc]
theorem Sn_mem (es : Nat → En) (k : Nat) (x : En) (h : x ∈ Sn es k) : ∃ j, j < k ∧ x = es j := by
  rcases (mem_addAll _ [] x).1 h with h | ⟨h, -⟩
  · cases h
  · obtain ⟨j, hj, rfl⟩ := List.mem_map.1 h
    exact ⟨j, List.mem_range.1 hj, rfl⟩
theorem Sn_len (es : Nat → En) (ho : ∀ j, okE (es j)) (hi : ∀ i j, es i = es j → i = j) : ∀ k, (Sn es k).length = k
  | 0 => rfl
  | k + 1 => by
    have hs : SortedE (Sn es k) := sorted_addAll _ (by simp [SortedE])
    have hn : es k ∉ Sn es k := fun h => by
      obtain ⟨j, hj, he⟩ := Sn_mem es k _ h
      have := hi _ _ he
      omega
    rw [Sn_succ, (put1_new hs hn (ho k)).length_eq, List.length_cons, Sn_len es ho hi k]
/-- An index into which k entries came, one by one. -/
structure RunI (w : World) (xb room most : Nat) (es : Nat → En) (k : Nat) (wr : World) : Prop where
  st : IxS wr xb room most (Sn es k) (itC room most (0, []) k).1 (itC room most (0, []) k).2
  ok : OkS (Sn es k) (itC room most (0, []) k).2
  t : Touch [] w wr
theorem run_start {w w' : World} {xb room most : Nat} (es : Nat → En) (h : IxAt w' xb room most .nil []) (t : Touch [] w w') : RunI w xb room most es 0 w' :=
  ⟨⟨.nil, [], h, by simp [Tr.io, SortedE], by simp [Tr.io, tabsL, flatT, Sn, addAll], rfl, rfl⟩, ⟨by simp [Sn, addAll, SortedE], by simp [Sn, addAll], by simp [Sn, addAll], by simp [itC]⟩, t⟩
theorem run_next {w wr : World} {xb room most k : Nat} {es : Nat → En} (h : RunI w xb room most es k wr) (hx : w.heap.size ≤ xb) (ho : ∀ j, okE (es j)) (hw : ∀ j, j ≤ 1000 → wfE (es j)) (hi : ∀ i j, es i = es j → i = j) (hk : k ≤ 1000) (e : En) (he : e = es k) :
    Calls Try.prog 10 #[.pointer (some ⟨xb, 0, none⟩), .slice (some ⟨wr.heap.size, 0, none⟩) 1 1] (wr.alloc (.cells #[.int .i64 e.1, .int .i64 e.2.1, .int .i64 e.2.2] TEn)) fun r w' => r = .returned (.int .i64 1) ∧ RunI w xb room most es (k + 1) w' := by
  subst he
  have hn : es k ∉ Sn es k := fun hh => by
    obtain ⟨j, hj, he⟩ := Sn_mem es k _ hh
    have := hi _ _ he
    omega
  have hC := itC_len room most (0, []) k
  have hl := Sn_len es ho hi k
  have hC0 : ((0, []) : Nat × List Nat).2.length = 0 := rfl
  refine (add_one h.st h.ok (es k) (ho k) (hw k hk) hn (by omega) (by omega)).mono ?_
  rintro r w' ⟨rfl, st, ok, t⟩
  exact ⟨rfl, by rw [Sn_succ]; exact st, by rw [Sn_succ]; exact ok, h.t.trans t (by intro x hx'; simp at hx'; subst hx'; exact .inr hx)⟩
end Go.Proofs.Ytnkflmimnpolcaa
