/- Chapter 12's first call; lists of entries held against each other. -/
import Derived.Test.YtnkflmimnpolcaaAd12
import Derived.Test.YtnkflmimnpolcaaFi12
namespace Go.Proofs.Ytnkflmimnpolcaa
open Go.RowKit Go.Lib
set_option maxRecDepth 100000

theorem entX_block {w : World} {b c : Nat} {cs : Array Value} {l : List En} (hb : w.heap[b]? = some (.cells cs TEn)) (hl : cs.toList.take c = envals l) (hc : c = l.length * 3) : EntX w (some ⟨b, 0, none⟩) l := by
  have key : ∀ (l : List En) (i : Nat) (h : i < l.length), (envals l)[i * 3]? = some (.int .i64 (l[i]'h).1) ∧ (envals l)[i * 3 + 1]? = some (.int .i64 (l[i]'h).2.1) ∧ (envals l)[i * 3 + 2]? = some (.int .i64 (l[i]'h).2.2) := by
    intro l
    induction l with
    | nil => intro i h; simp at h
    | cons e l ih =>
      intro i h
      cases i with
      | zero => simp [envals, enc3]
      | succ i =>
        have := ih i (by simpa using h)
        have e1 : (i + 1) * 3 = i * 3 + 3 := by omega
        rw [e1]
        simpa [envals, enc3] using this
  intro i h
  obtain ⟨k0, k1, k2⟩ := key l i h
  rw [← hl] at k0 k1 k2
  have conv : ∀ j u, (cs.toList.take c)[j]? = some u → w.cell? ⟨b, j, none⟩ = some u := by
    intro j u hj
    rw [cell_of hb j]
    rw [List.getElem?_take] at hj
    split at hj
    · simpa using hj
    · cases hj
  exact ⟨b, 0, rfl, by simpa using conv _ _ k0, by simpa using conv _ _ k1, by simpa using conv _ _ k2⟩
theorem entX_own {w : World} {base n : Nat} {v : Value} {l : List En} (h : w.ownsRow base TEn 3 v n (envals l)) : ∃ x c, v = .slice x n c ∧ n = l.length ∧ EntX w x l := by
  have hn : n = l.length := by have := h.1; rw [envals_len] at this; omega
  rcases h.2 with ⟨rfl, h0⟩ | ⟨g, cap, cur, rfl, _, hg, hnc, _, hcs, ht⟩
  · refine ⟨none, 0, by rw [h0], hn, fun i hi => ?_⟩
    omega
  · exact ⟨_, _, rfl, hn, entX_block hg ht (by rw [hn])⟩
theorem EntX.t0 {w w' : World} {x : Option Addr} {l : List En} (h : EntX w x l) (t : Touch [] w w') : EntX w' x l := fun i hi => by
  obtain ⟨b, off, hx, c0, c1, c2⟩ := h i hi
  exact ⟨b, off, hx, t.cell c0, t.cell c1, t.cell c2⟩

theorem tabIn_new (w : World) : TabIn (w.alloc (.cells #[.pointer none] 47)) w.heap.size 0 #[.pointer none] 47 .nil := ⟨heap_alloc_new w _, by decide, none, rfl, rfl⟩
theorem last_two {p : Option Addr} {T : Tr} {w : World} (ht : TabAt w p T) (hio : T.io = [(5, 0, 3), (5, 1, 7)]) :
    Calls Try.prog 14 #[.pointer p, .int .i64 5] w fun e w' => e = .returned (.tuple #[.agg #[.int .i64 5, .int .i64 1, .int .i64 7], .bool true]) ∧ Touch [] w w' := by
  have hs : SortedE T.io := by rw [hio]; decide
  have := last_any 5 w ht hs
  rw [hio, show lastE [(5, 0, 3), (5, 1, 7)] 5 = some (5, 1, 7) by decide] at this
  exact this
theorem len_two {p : Option Addr} {T : Tr} {w : World} (ht : TabAt w p T) (hio : T.io = [(5, 0, 3), (5, 1, 7)]) :
    Calls Try.prog 22 #[.pointer p] w fun e w' => e = .returned (.int .i64 2) ∧ w' = w := by
  have := tablen_any w ht
  rw [T.ct_io, hio] at this
  exact this
end Go.Proofs.Ytnkflmimnpolcaa
