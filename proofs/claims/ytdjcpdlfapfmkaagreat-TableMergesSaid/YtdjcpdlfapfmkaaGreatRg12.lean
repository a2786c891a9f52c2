/- The entries of the versions of a hash from one on, below another one. -/
import Derived.Test.YtdjcpdlfapfmkaaGreatFi12
namespace Go.Proofs.YtdjcpdlfapfmkaaGreat
open Go.RowKit Go.Lib Go.Shelf
set_option maxRecDepth 100000
attribute [local go_sem] Oper.semAt_some

def isHR (h hi9 : Int) (e : En) : Bool := decide (e.1 = h) && decide (e.2.1 < hi9)
/-- What the loop of Range holds. -/
def RangeI (w : World) (h hi9 : Int) (pre : List En) (W : World) : Prop :=
  ((∃ u, Boxed W (w.heap.size + 1 + 1) TEns u ∧ W.ownsRow (w.heap.size + 1 + 1 + 1) TEn 3 u pre.length (envals pre) ∧ (pre.length = 0 → u = .slice none 0 0)) ∧ Boxed W w.heap.size TInt (.int .i64 h) ∧ Boxed W (w.heap.size + 1) TInt (.int .i64 hi9) ∧ ∀ e ∈ pre, isHR h hi9 e = true) ∧ Below w.heap.size w W
theorem rangeI_own (w : World) (h hi9 : Int) (B : Nat) (hB : w.heap.size ≤ B) : OwnFrom B (RangeI w h hi9) := by
  refine OwnFrom.and (OwnFrom.and (Own.from (holdsRow_own (w.heap.size + 1 + 1 + 1) (w.heap.size + 1 + 1) TEns TEn 3 (fun pre => pre.length) (fun pre => envals pre) (fun pre u => pre.length = 0 → u = .slice none 0 0)) _) (OwnFrom.and (Own.from (boxed_own _ _ (fun _ => Value.int .i64 h)) _) (OwnFrom.and (Own.from (boxed_own _ _ (fun _ => Value.int .i64 hi9)) _) (fun s A C row hs _ _ => hs)))) (ownFrom_below (Nat.le_refl _) hB)

end Go.Proofs.YtdjcpdlfapfmkaaGreat
