/- chapter 4's first call. -/
import Derived.Test.YtiglfdefeaddmaaGuard
namespace Go.Proofs.Ytiglfdefeaddmaa
open Go.RowKit Go.Lib

/-- A later world in which the blocks of F alone have turned, and block b is known. -/
theorem touch_other {F : List Nat} {w w' : World} (h : Touch F w w') {k : Nat} {o : Obj} (hk : w.heap[k]? = some o) (hF : k ∉ F) : w'.heap[k]? = some o := (h.block k (lt_of_block hk) hF).trans hk

theorem heap_alloc_keep {w : World} {b : Nat} {x : Obj} (h : w.heap[b]? = some x) (o : Obj) : (w.alloc o).heap[b]? = some x := (Below.heap_alloc w o b (lt_of_block h)).trans h
theorem cell_alloc {w : World} {b : Nat} {cs : Array Value} {t : TypeId} {fz : Nat × Nat} (h : w.heap[b]? = some (.cells cs t fz)) (i : Nat) (o : Obj) : (w.alloc o).cell? ⟨b, i, none⟩ = cs[i]? := cell_of (heap_alloc_keep h o) i
theorem cell_one {w : World} {b : Nat} {x : Value} {t : TypeId} {fz : Nat × Nat} (h : w.heap[b]? = some (.cells #[x] t fz)) : w.cell? ⟨b, 0, none⟩ = some x ∧ ∀ o : Obj, (w.alloc o).cell? ⟨b, 0, none⟩ = some x := ⟨cell_of h 0, fun o => cell_alloc h 0 o⟩
theorem cell_three {w : World} {b : Nat} {x y z : Value} {t : TypeId} {fz : Nat × Nat} (h : w.heap[b]? = some (.cells #[x, y, z] t fz)) :
    (w.cell? ⟨b, 0, none⟩ = some x ∧ w.cell? ⟨b, 1, none⟩ = some y ∧ w.cell? ⟨b, 2, none⟩ = some z) ∧
      (∀ o : Obj, (w.alloc o).cell? ⟨b, 0, none⟩ = some x) ∧ (∀ o : Obj, (w.alloc o).cell? ⟨b, 1, none⟩ = some y) ∧ (∀ o : Obj, (w.alloc o).cell? ⟨b, 2, none⟩ = some z) :=
  ⟨⟨cell_of h 0, cell_of h 1, cell_of h 2⟩, fun o => cell_alloc h 0 o, fun o => cell_alloc h 1 o, fun o => cell_alloc h 2 o⟩

theorem make_func (fn : Fn) (first cap : Array Value) (w : World) : (Instr.makeFunc fn first cap).run Try.prog w = .ok (.func fn first cap) w := rfl
def AliveR (w : World) (f : FltD) (w1 : World) : Prop := f = fine ∧ w1.heap[w.heap.size]? = some (.cells #[.int .i64 5] 3 (0, 0)) ∧ Touch [] w w1

end Go.Proofs.Ytiglfdefeaddmaa
