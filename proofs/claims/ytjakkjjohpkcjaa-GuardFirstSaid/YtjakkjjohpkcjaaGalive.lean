/- chapter 4's first call. -/
import Derived.Test.YtjakkjjohpkcjaaGuard
namespace Go.Proofs.Ytjakkjjohpkcjaa
open Go.RowKit Go.Lib

theorem alive_one (b : Nat) (x : Value) (w : World) (hb : w.heap[b]? = some (.cells #[x] 3 (0, 0))) :
    Calls Try.prog 25 #[.pointer (some ⟨b, 0, none⟩)] w fun e w' => e = .returned (.tuple #[]) ∧ w' = w.setCell ⟨b, 0, none⟩ (.int .i64 5) := by
  have c0 := cell_of hb 0
  have f0 := free_of hb 0
  clear hb
  go_enter Try.func25, Try.ntmps25
  go_wp2
  go_end0
  exact ⟨rfl, rfl⟩

/-- A later world in which the blocks of F alone have turned, and block b is known. -/
theorem touch_other {F : List Nat} {w w' : World} (h : Touch F w w') {k : Nat} {o : Obj} (hk : w.heap[k]? = some o) (hF : k ∉ F) : w'.heap[k]? = some o := (h.block k (lt_of_block hk) hF).trans hk

theorem heap_alloc_keep {w : World} {b : Nat} {x : Obj} (h : w.heap[b]? = some x) (o : Obj) : (w.alloc o).heap[b]? = some x := (Below.heap_alloc w o b (lt_of_block h)).trans h
theorem cell_alloc {w : World} {b : Nat} {cs : Array Value} {t : TypeId} {fz : Nat × Nat} (h : w.heap[b]? = some (.cells cs t fz)) (i : Nat) (o : Obj) : (w.alloc o).cell? ⟨b, i, none⟩ = cs[i]? := cell_of (heap_alloc_keep h o) i
theorem cell_one {w : World} {b : Nat} {x : Value} {t : TypeId} {fz : Nat × Nat} (h : w.heap[b]? = some (.cells #[x] t fz)) : w.cell? ⟨b, 0, none⟩ = some x ∧ ∀ o : Obj, (w.alloc o).cell? ⟨b, 0, none⟩ = some x := ⟨cell_of h 0, fun o => cell_alloc h 0 o⟩
theorem cell_three {w : World} {b : Nat} {x y z : Value} {t : TypeId} {fz : Nat × Nat} (h : w.heap[b]? = some (.cells #[x, y, z] t fz)) :
    (w.cell? ⟨b, 0, none⟩ = some x ∧ w.cell? ⟨b, 1, none⟩ = some y ∧ w.cell? ⟨b, 2, none⟩ = some z) ∧
      (∀ o : Obj, (w.alloc o).cell? ⟨b, 0, none⟩ = some x) ∧ (∀ o : Obj, (w.alloc o).cell? ⟨b, 1, none⟩ = some y) ∧ (∀ o : Obj, (w.alloc o).cell? ⟨b, 2, none⟩ = some z) :=
  ⟨⟨cell_of h 0, cell_of h 1, cell_of h 2⟩, fun o => cell_alloc h 0 o, fun o => cell_alloc h 1 o, fun o => cell_alloc h 2 o⟩

theorem make_func (fn : Fn) (first cap : Array Value) (w : World) : (Instr.makeFunc fn first cap).run Try.prog w = .ok (.func fn first cap) w := rfl
theorem enters_alive (x : Value) (w : World) : (callFunc 25 #[x]).run Try.prog w = .ok (.enter 25 #[x]) w := by simp [go_sem]

def AliveR (w : World) (f : FltD) (w1 : World) : Prop := f = fine ∧ w1.heap[w.heap.size]? = some (.cells #[.int .i64 5] 3 (0, 0)) ∧ Touch [] w w1

theorem alive_do (w : World) : Calls Try.prog 11 #[.func (.func 25) #[] #[.pointer (some ⟨w.heap.size, 0, none⟩)]] (w.alloc (.cells #[.int .i64 0] 3)) fun e w' =>
    e = .returned fine.val ∧ w'.heap[w.heap.size]? = some (.cells #[.int .i64 5] 3 (0, 0)) ∧ Touch [] w w' := by
  have hb : ((w.alloc (.cells #[.int .i64 0] 3)).alloc (.cells #[.int .i64 0, .int .i64 0, .string none8] TFault)).heap[w.heap.size]? = some (.cells #[.int .i64 0] 3 (0, 0)) := by
    rw [Below.heap_alloc _ _ _ (by simp)]
    exact heap_alloc_new w _
  have hn := heap_alloc_new (w.alloc (.cells #[.int .i64 0] 3)) (.cells #[.int .i64 0, .int .i64 0, .string none8] TFault)
  have hz : (w.alloc (.cells #[.int .i64 0] 3)).heap.size = w.heap.size + 1 := by simp
  refine (do_any _ _ (AliveR w) _ (enters_alive _) ((alive_one _ _ _ hb).mono ?_)).mono ?_
  · rintro e w1 ⟨rfl, rfl⟩
    refine ⟨?_, .inl ⟨_, rfl, rfl, heap_set hb _, (((Touch.refl _ _).alloc _).alloc _).setCell (.inr (by simp)) _⟩⟩
    rw [heap_set_other _ (by simp)]
    exact hn
  · rintro e w' ⟨f, w1, rfl, ⟨rfl, h5, ht⟩, t1⟩
    exact ⟨rfl, touch_other t1 h5 (by simp [hz]), ht.trans t1 (by simp [hz])⟩

set_option maxRecDepth 100000 in
theorem alive_true (w : World) : Calls Try.prog 10 #[] w fun e w' => e = .returned (.bool true) ∧ Touch [] w w' := by
  have hmf := make_func
  have A := hid (alive_do w)
  go_enter Try.func10, Try.ntmps10
  go_wp2_with fail
  refine A.out.mono ?_
  rintro e w1 ⟨rfl, hb, ht⟩
  obtain ⟨c0, c1⟩ := cell_one hb
  have HB := hid hb
  clear hb
  go_wp2_with fail
  have D := hid (do_nil (w1.alloc (.cells #[.int .i64 0, .int .i64 0, .string none8] TFault)))
  refine D.out.mono ?_
  rintro e w2 ⟨rfl, h2⟩
  clear c0 c1 A
  go_wp2
  go_ret
  exact ⟨rfl, (ht.alloc _).trans h2 (by simp)⟩
end Go.Proofs.Ytjakkjjohpkcjaa
