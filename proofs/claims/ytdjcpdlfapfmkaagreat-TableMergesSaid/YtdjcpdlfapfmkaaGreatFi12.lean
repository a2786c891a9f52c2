/- Where a version stands. -/
import Derived.Test.YtdjcpdlfapfmkaaGreatAt12
namespace Go.Proofs.YtdjcpdlfapfmkaaGreat
open Go.RowKit Go.Lib Go.Shelf
set_option maxRecDepth 100000
attribute [local go_sem] Oper.semAt_some

abbrev TInt : TypeId := 3
abbrev TInts : TypeId := 48
theorem infoInt : (Tryz.prog.info? TInt).map (fun i => (i.zero, i.size, i.bytes)) = some (some (.int .i64 0), 1, 8) := by kernel_rfl
def posV (l : List En) : List Value := l.map fun e => .int .i64 e.2.2
def isHV (h v : Int) (e : En) : Bool := decide (e.1 = h) && decide (e.2.1 = v)
theorem takeWhile_all {α : Type} {m : α → Bool} : ∀ {l : List α}, (∀ x ∈ l, m x = true) → l.takeWhile m = l
  | [], _ => rfl
  | x :: l, h => by rw [List.takeWhile_cons, if_pos (h x (by simp)), takeWhile_all fun y hy => h y (by simp [hy])]
theorem takeWhile_stop {α : Type} {m : α → Bool} {l r : List α} {x : α} (h : ∀ y ∈ l, m y = true) (hx : m x = false) : (l ++ x :: r).takeWhile m = l := by
  induction l with
  | nil => simp [hx]
  | cons y l ih => rw [List.cons_append, List.takeWhile_cons, if_pos (h y (by simp)), ih fun z hz => h z (by simp [hz])]

theorem own_mono {w : World} {a b : Nat} {e : TypeId} {size n : Nat} {v : Value} {xs : List Value} (h : w.ownsRow b e size v n xs) (hab : a ≤ b) : w.ownsRow a e size v n xs := by
  refine ⟨h.1, ?_⟩
  rcases h.2 with h | ⟨g, cap, cur, hv, hb, r⟩
  · exact .inl h
  · exact .inr ⟨g, cap, cur, hv, Nat.le_trans hab hb, r⟩
/-- What the loop of Find holds. -/
def FindI (w : World) (h v : Int) (pre : List En) (W : World) : Prop :=
  ((∃ u, Boxed W (w.heap.size + 1 + 1) TInts u ∧ W.ownsRow (w.heap.size + 1 + 1 + 1) TInt 1 u pre.length (posV pre) ∧ (pre.length = 0 → u = .slice none 0 0)) ∧ Boxed W w.heap.size TInt (.int .i64 h) ∧ Boxed W (w.heap.size + 1) TInt (.int .i64 v) ∧ ∀ e ∈ pre, isHV h v e = true) ∧ Below w.heap.size w W
theorem findI_own (w : World) (h v : Int) (B : Nat) (hB : w.heap.size ≤ B) : OwnFrom B (FindI w h v) := by
  refine OwnFrom.and (OwnFrom.and (Own.from (holdsRow_own (w.heap.size + 1 + 1 + 1) (w.heap.size + 1 + 1) TInts TInt 1 (fun pre => pre.length) (fun pre => posV pre) (fun pre u => pre.length = 0 → u = .slice none 0 0)) _) (OwnFrom.and (Own.from (boxed_own _ _ (fun _ => Value.int .i64 h)) _) (OwnFrom.and (Own.from (boxed_own _ _ (fun _ => Value.int .i64 v)) _) (fun s A C row hs _ _ => hs)))) (ownFrom_below (Nat.le_refl _) hB)

end Go.Proofs.YtdjcpdlfapfmkaaGreat
