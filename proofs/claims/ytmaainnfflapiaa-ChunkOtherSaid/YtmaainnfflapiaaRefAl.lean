/- The laws' own Frames. -/
import Derived.Test.YtmaainnfflapiaaRefLs
import Derived.Test.YtmaainnfflapiaaLists
import Derived.Deep.AppendLies
namespace Go.Proofs.Ytmaainnfflapiaa
open Go.RowKit Go.Lib
set_option maxRecDepth 100000

abbrev tStr : TypeId := 9
def txtCells (L : List (List UInt8)) : List Value := L.map fun l => .string (bytesT l)
theorem txtCells_snoc (L : List (List UInt8)) (l : List UInt8) : txtCells (L ++ [l]) = txtCells L ++ [.string (bytesT l)] := by simp [txtCells]
theorem txtCells_len (L : List (List UInt8)) : (txtCells L).length = L.length := by simp [txtCells]
def AllPost (b : ByteArray) (w : World) (r : Ending) (w' : World) : Prop :=
  ∃ v, r = .returned (.tuple #[v, .int .i64 ((allOf b.data.toList).2 : Int)]) ∧ w'.ownsRow w.heap.size tStr 1 v (allOf b.data.toList).1.length (txtCells (allOf b.data.toList).1) ∧ Touch [] w w'
theorem ownsS_same {w w' : World} {base n : Nat} {v : Value} {xs : List Value} (h : w.ownsRow base tStr 1 v n xs) (t : Touch [] w w') : w'.ownsRow base tStr 1 v n xs := by
  obtain ⟨h1, h2 | ⟨g, cap, cur, hv, h3, h4, h5⟩⟩ := h
  · exact ⟨h1, .inl h2⟩
  · exact ⟨h1, .inr ⟨g, cap, cur, hv, h3, touch_blk0 t h4, h5⟩⟩
theorem ownsS_blk {w : World} {base n : Nat} {v : Value} {xs : List Value} (h : w.ownsRow base tStr 1 v n xs) : ∀ g, v.ownBlock = some g → base ≤ g := by
  intro g hg
  obtain ⟨_, ⟨rfl, _⟩ | ⟨g', cap, cur, rfl, h3, _, _⟩⟩ := h
  · simp [Value.ownBlock] at hg
  · simp [Value.ownBlock] at hg
    subst hg
    exact h3
structure Fr (b : ByteArray) (w W : World) (v : Value) (a : Nat) (L : List (List UInt8)) : Prop where
  o : W.ownsRow w.heap.size tStr 1 v L.length (txtCells L)
  t : Touch [] w W
  le : a ≤ b.size
  n : 12 * L.length ≤ a
  e : allOf b.data.toList = (L ++ (allOf (b.data.toList.drop a)).1, a + (allOf (b.data.toList.drop a)).2)

end Go.Proofs.Ytmaainnfflapiaa
