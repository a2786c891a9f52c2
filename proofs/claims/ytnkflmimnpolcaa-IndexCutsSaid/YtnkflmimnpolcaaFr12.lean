/- Going through a tree: the iterator. -/
import Derived.RangeFuncKeeps
import Derived.RangeFuncBound
import Derived.RangeFuncLeaves
import Derived.RangeFuncNested
import Derived.Shelf.Abstract
import Derived.WalkKit
import Derived.OwnWalkIn
import Derived.TacticsInMore
import Derived.ControlIn
import Derived.Stop.RegionWithIn
import Derived.Test.YtnkflmimnpolcaaBl12
namespace Go.Proofs.Ytnkflmimnpolcaa
open Go.RowKit Go.Lib Go.Shelf
set_option maxRecDepth 100000
attribute [local go_sem] Oper.semAt_some

theorem room_of_none {F : Fence} (hd : F.depth = none) (k : Nat) : F.room k := fun d h => by rw [hd] at h; cases h
theorem round_anyDepth {F : Fence} (hd : F.depth = none) {m m' : Nat} {P : Program} {l : Nat} {f : FuncId} {tmps : Array Value} {assign body : Code} {w : World} {R : Ending → World → Prop}
    (h : RoundIn F m P l f tmps assign body w R) : RoundIn F m' P l f tmps assign body w R := ⟨h.1, fun c cs _ => h.2 c cs (room_of_none hd _)⟩
theorem yield_anyDepth {F : Fence} (hd : F.depth = none) {m : Nat} (m' : Nat) {P : Program} {l : Nat} {args : Array Value} {W : World} {R : Ending → World → Prop} (h : YieldAt F m P l args W R) : YieldAt F m' P l args W R := by
  obtain ⟨fn, tmps, assign, body, hy, hR⟩ := h
  exact ⟨fn, tmps, assign, body, hy, round_anyDepth hd hR⟩

/-- What no round may turn: an entry in a block of its own, a node. -/
def keepB (o : Obj) : Prop := ∃ cs : Array Value, (o = .cells cs 32 ∧ cs.size = 3) ∨ o = .cells cs 67
structure KpE (W W' : World) : Prop where
  size : W.heap.size ≤ W'.heap.size
  keep : ∀ (k : Nat) (o : Obj), W.heap[k]? = some o → keepB o → W'.heap[k]? = some o
theorem KpE.trans {A B C : World} (h : KpE A B) (k : KpE B C) : KpE A C := ⟨Nat.le_trans h.size k.size, fun i o hi hk => k.keep i o (h.keep i o hi hk) hk⟩
theorem KpE.of_touch {W W' : World} (t : Touch [] W W') : KpE W W' := ⟨t.size, fun k o hk _ => touch_other t hk (by simp)⟩
theorem KpE.putObj (W : World) (l : Nat) (o o' : Obj) (hl : W.heap[l]? = some o) (ho : o.isCells = false) : KpE W (W.putObj l o') := by
  refine ⟨by simp, fun k p hk ⟨cs, hp⟩ => ?_⟩
  have hne : k ≠ l := by
    rintro rfl
    rw [hl] at hk
    cases hk
    rcases hp with ⟨rfl, _⟩ | rfl <;> simp [Obj.isCells] at ho
  exact (World.putObj_heap_other hne).trans hk
theorem EnB.kp {W W' : World} {b : Nat} {e : En} (h : EnB W b e) (k : KpE W W') : EnB W' b e := k.keep b _ h ⟨_, .inl ⟨rfl, rfl⟩⟩
theorem NodeB.kp {W W' : World} {b : Nat} {e : En} {pl pr : Option Addr} {h c : Nat} (H : NodeB W b e pl pr h c) (k : KpE W W') : NodeB W' b e pl pr h c := k.keep b _ H ⟨_, .inr rfl⟩
theorem TreeAt.kp {W W' : World} (k : KpE W W') : ∀ {p : Option Addr} {T : Tr}, TreeAt W p T → TreeAt W' p T
  | _, .nil, h => h
  | _, .node _ _ _, ⟨b, pl, pr, hp, hb, hl, hr⟩ => ⟨b, pl, pr, hp, hb.kp k, hl.kp k, hr.kp k⟩

/-- The entries that are not ahead of one. -/
def fromE (l : List En) (f : En) : List En := l.filter fun x => !decide (ltE x f)
theorem from_skip {l r : List En} {x f : En} (hs : SortedE (l ++ x :: r)) (h : ltE x f) : fromE (l ++ x :: r) f = fromE r f := by
  unfold fromE
  rw [List.filter_append]
  have h1 : l.filter (fun x => !decide (ltE x f)) = [] := by
    rw [List.filter_eq_nil_iff]
    intro y hy
    have := (List.pairwise_append.1 hs).2.2 y hy x (by simp)
    simp [ltE_trans this h]
  rw [h1]
  simp [h]
theorem from_node {l r : List En} {x f : En} (h : ¬ ltE x f) : fromE (l ++ x :: r) f = fromE l f ++ x :: fromE r f := by
  unfold fromE
  rw [List.filter_append]
  simp [h]
theorem from_len (l : List En) (f : En) : (fromE l f).length ≤ l.length := List.length_filter_le _ _

end Go.Proofs.Ytnkflmimnpolcaa
