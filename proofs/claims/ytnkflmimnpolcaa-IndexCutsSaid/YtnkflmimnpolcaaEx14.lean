/- Parts of a list of entries; its cells. -/
import Derived.Test.YtnkflmimnpolcaaIx14
namespace Go.Proofs.Ytnkflmimnpolcaa
open Go.RowKit Go.Lib
set_option maxRecDepth 100000

theorem entX_nil (w : World) (x : Option Addr) : EntX w x [] := fun i h => absurd h (Nat.not_lt_zero i)

theorem entX_part {w : World} {x : Option Addr} {l : List En} (h : EntX w x l) (f n : Nat) (hn : f + n ≤ l.length) (y : Option Addr) (hy : y = x.map (·.add (f * 3)) ∨ n = 0) : EntX w y ((l.drop f).take n) := fun i hi => by
  have hi2 : i < n := by rw [List.length_take] at hi; omega
  obtain ⟨b, off, rfl, c0, c1, c2⟩ := h (f + i) (by omega)
  have e : ((l.drop f).take n)[i]'hi = l[f + i]'(by omega) := by simp
  rw [e]
  rcases hy with rfl | hy
  · refine ⟨b, off + f * 3, ?_, ?_, ?_, ?_⟩
    · simp [Addr.add]
    · rw [show off + f * 3 + i * 3 = off + (f + i) * 3 by omega]; exact c0
    · rw [show off + f * 3 + i * 3 + 1 = off + (f + i) * 3 + 1 by omega]; exact c1
    · rw [show off + f * 3 + i * 3 + 2 = off + (f + i) * 3 + 2 by omega]; exact c2
  · omega

theorem entX_cells {w : World} {ad : Addr} {l : List En} (h : EntX w (some ad) l) : ∀ j u, (envals l)[j]? = some u → w.cell? (ad.add j) = some u := by
  intro j u hj
  have hjl : j < l.length * 3 := by
    have := (List.getElem?_eq_some_iff.1 hj).1
    rwa [envals_len] at this
  obtain ⟨b, off, ha, c0, c1, c2⟩ := h (j / 3) (by omega)
  cases ha
  have key : ∀ (l : List En) (i : Nat) (h : i < l.length), (envals l)[i * 3]? = some (.int .i64 (l[i]'h).1) ∧ (envals l)[i * 3 + 1]? = some (.int .i64 (l[i]'h).2.1) ∧ (envals l)[i * 3 + 2]? = some (.int .i64 (l[i]'h).2.2) := by
    intro l
    induction l with
    | nil => intro i h; simp at h
    | cons e l ih =>
      intro i h
      cases i with
      | zero => simp [envals, enc3]
      | succ i =>
        have := ih i (by simpa using h)
        have e1 : (i + 1) * 3 = i * 3 + 3 := by omega
        rw [e1]
        simpa [envals, enc3] using this
  obtain ⟨k0, k1, k2⟩ := key l (j / 3) (by omega)
  rw [show (⟨b, off, none⟩ : Addr).add j = ⟨b, off + j, none⟩ from by simp [Addr.add]]
  have hm : j % 3 = 0 ∨ j % 3 = 1 ∨ j % 3 = 2 := by omega
  rcases hm with hm | hm | hm
  · have e : j = j / 3 * 3 := by omega
    rw [← e] at k0 c0
    rw [k0] at hj; cases hj; exact c0
  · have e : j = j / 3 * 3 + 1 := by omega
    rw [← e] at k1
    rw [show off + j / 3 * 3 + 1 = off + j by omega] at c1
    rw [k1] at hj; cases hj; exact c1
  · have e : j = j / 3 * 3 + 2 := by omega
    rw [← e] at k2
    rw [show off + j / 3 * 3 + 2 = off + j by omega] at c2
    rw [k2] at hj; cases hj; exact c2
theorem envals_one (l : List En) : ∀ u ∈ envals l, u.oneCell' = true := by
  induction l with
  | nil => simp [envals]
  | cons e l ih =>
    intro u hu
    simp only [envals, List.mem_append] at hu
    rcases hu with hu | hu
    · simp [enc3] at hu; rcases hu with rfl | rfl | rfl <;> rfl
    · exact ih u hu

end Go.Proofs.Ytnkflmimnpolcaa
