/- The tree of entries that rise. -/
import Derived.Test.YtdjcpdlfapfmkaaGreatAl12
namespace Go.Proofs.YtdjcpdlfapfmkaaGreat
open Go.RowKit Go.Lib
set_option maxRecDepth 100000

theorem EntX.take {w : World} {x : Option Addr} {l : List En} (h : EntX w x l) (m : Nat) : EntX w x (l.take m) := fun i hi => by
  have hi' : i < l.length := by rw [List.length_take] at hi; omega
  obtain ⟨b, off, hx, c0, c1, c2⟩ := h i hi'
  have e : (l.take m)[i]'hi = l[i] := List.getElem_take
  exact ⟨b, off, hx, by rw [e]; exact c0, by rw [e]; exact c1, by rw [e]; exact c2⟩
theorem EntX.drop {w : World} {b off : Nat} {l : List En} (h : EntX w (some ⟨b, off, none⟩) l) (m : Nat) : EntX w (some ⟨b, off + m * 3, none⟩) (l.drop m) := fun i hi => by
  have hi' : m + i < l.length := by rw [List.length_drop] at hi; omega
  obtain ⟨b', off', hx, c0, c1, c2⟩ := h (m + i) hi'
  cases hx
  have e : (l.drop m)[i]'hi = l[m + i] := List.getElem_drop
  have k : off + (m + i) * 3 = off + m * 3 + i * 3 := by omega
  rw [k] at c0 c1 c2
  exact ⟨b, off + m * 3, rfl, by rw [e]; exact c0, by rw [e]; exact c1, by rw [e]; exact c2⟩
end Go.Proofs.YtdjcpdlfapfmkaaGreat
