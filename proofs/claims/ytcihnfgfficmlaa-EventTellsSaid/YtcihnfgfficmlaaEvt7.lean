/- What event's functions tell, together. -/
import Derived.Test.YtcihnfgfficmlaaRCSame
import Derived.Test.YtcihnfgfficmlaaRGetS
import Derived.Test.YtcihnfgfficmlaaPure7
import Derived.Test.YtcihnfgfficmlaaSmall7
namespace Go.Proofs.Ytcihnfgfficmlaa
open Go.RowKit Go.Lib

theorem block_ne {y : Option Addr} {l : List EvD} {W W' : World} {b : Nat} (h : EvX W y l) (hy : ∀ a, y = some a → b < a.block) (t : Touch [b] W W') : EvX W' y l := by
  intro i hi
  obtain ⟨b2, off, e, g1, g2⟩ := h i hi
  have := hy _ e
  simp only [] at this
  exact ⟨b2, off, e, g1.keep t (by simp; omega), g2⟩
end Go.Proofs.Ytcihnfgfficmlaa
