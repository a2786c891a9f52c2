/- Going through a tree: the iterator. -/
import Derived.RangeFuncKeeps
import Derived.RangeFuncBound
import Derived.RangeFuncLeaves
import Derived.RangeFuncNested
import Derived.Shelf.Abstract
import Derived.WalkKit
import Derived.OwnWalkIn
import Derived.TacticsInMore
import Derived.ControlIn
import Derived.Stop.RegionWithIn
import Derived.Test.YtdjcpdlfapfmkaaGreatBl12
namespace Go.Proofs.YtdjcpdlfapfmkaaGreat
open Go.RowKit Go.Lib Go.Shelf
set_option maxRecDepth 100000
attribute [local go_sem] Oper.semAt_some

theorem room_of_none {F : Fence} (hd : F.depth = none) (k : Nat) : F.room k := fun d h => by rw [hd] at h; cases h
theorem round_anyDepth {F : Fence} (hd : F.depth = none) {m m' : Nat} {P : Program} {l : Nat} {f : FuncId} {tmps : Array Value} {assign body : Code} {w : World} {R : Ending → World → Prop}
    (h : RoundIn F m P l f tmps assign body w R) : RoundIn F m' P l f tmps assign body w R := ⟨h.1, fun c cs _ => h.2 c cs (room_of_none hd _)⟩
theorem yield_anyDepth {F : Fence} (hd : F.depth = none) {m : Nat} (m' : Nat) {P : Program} {l : Nat} {args : Array Value} {W : World} {R : Ending → World → Prop} (h : YieldAt F m P l args W R) : YieldAt F m' P l args W R := by
  obtain ⟨fn, tmps, assign, body, hy, hR⟩ := h
  exact ⟨fn, tmps, assign, body, hy, round_anyDepth hd hR⟩

/-- The entries that are not ahead of one. -/
def fromE (l : List En) (f : En) : List En := l.filter fun x => !decide (ltE x f)
theorem from_skip {l r : List En} {x f : En} (hs : SortedE (l ++ x :: r)) (h : ltE x f) : fromE (l ++ x :: r) f = fromE r f := by
  unfold fromE
  rw [List.filter_append]
  have h1 : l.filter (fun x => !decide (ltE x f)) = [] := by
    rw [List.filter_eq_nil_iff]
    intro y hy
    have := (List.pairwise_append.1 hs).2.2 y hy x (by simp)
    simp [ltE_trans this h]
  rw [h1]
  simp [h]
theorem from_node {l r : List En} {x f : En} (h : ¬ ltE x f) : fromE (l ++ x :: r) f = fromE l f ++ x :: fromE r f := by
  unfold fromE
  rw [List.filter_append]
  simp [h]
theorem from_len (l : List En) (f : En) : (fromE l f).length ≤ l.length := List.length_filter_le _ _

end Go.Proofs.YtdjcpdlfapfmkaaGreat
