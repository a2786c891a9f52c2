/- A row of faults with room, and what append of one to it leaves; what an index beyond its list panics with. -/
import Derived.Test.YtiglfdefeaddmaaGalive
import Derived.Laws.AppendOwn
import Derived.Deep.RegionLaw
namespace Go.Proofs.Ytiglfdefeaddmaa
open Go.RowKit Go.Lib

def FltD.list (f : FltD) : List Value := [.int .i64 f.err, .int .i64 f.kind, .string f.text]
def flat (fs : List FltD) : List Value := fs.flatMap FltD.list
theorem flat_snoc (fs : List FltD) (f : FltD) : flat (fs ++ [f]) = flat fs ++ f.list := by simp [flat]
theorem flat_length (fs : List FltD) : (flat fs).length = fs.length * 3 := by
  induction fs with
  | nil => rfl
  | cons f fs ih => show (f.list ++ flat fs).length = _; rw [List.length_append, ih]; simp [FltD.list]; omega
theorem flat_at (fs : List FltD) (i j : Nat) (hi : i < fs.length) (hj : j < 3) : (flat fs)[i * 3 + j]? = fs[i].list[j]? := by
  induction fs generalizing i with
  | nil => simp at hi
  | cons f fs ih =>
    show (f.list ++ flat fs)[i * 3 + j]? = _
    have hl : f.list.length = 3 := rfl
    cases i with
    | zero => rw [List.getElem?_append_left (by omega)]; simp
    | succ i =>
      rw [List.getElem?_append_right (by omega), hl, show (i + 1) * 3 + j - 3 = i * 3 + j by omega]
      simpa using ih i (by simpa using hi)

/-- Block g holds the faults fs, and has room for 40. -/
def Row (w : World) (g : Nat) (fs : List FltD) : Prop := ∃ cur, w.heap[g]? = some (.cells cur TFault (0, 0)) ∧ cur.size = 120 ∧ cur.toList.take (fs.length * 3) = flat fs
theorem Row.lt {w : World} {g : Nat} {fs : List FltD} (h : Row w g fs) : g < w.heap.size := by
  obtain ⟨cur, hg, _⟩ := h
  exact lt_of_block hg
theorem Row.touch {F : List Nat} {w w' : World} {g : Nat} {fs : List FltD} (h : Row w g fs) (ht : Touch F w w') (hg : g ∉ F) : Row w' g fs := by
  obtain ⟨cur, h1, h2⟩ := h
  exact ⟨cur, touch_other ht h1 hg, h2⟩
theorem Row.cell {w : World} {g : Nat} {fs : List FltD} (h : Row w g fs) (i j : Nat) (hi : i < fs.length) (hj : j < 3) : w.cell? ⟨g, i * 3 + j, none⟩ = fs[i].list[j]? := by
  obtain ⟨cur, hg, hs, ht⟩ := h
  rw [cell_of hg, ← flat_at fs i j hi hj, ← ht, List.getElem?_take, if_pos (by omega)]
  simp

theorem infoFault : (Try.prog.info? TFault).map (fun i => i.size) = some 3 := by kernel_rfl

theorem bounds_dies {α : Type} (x y : Int) (w : World) : ∃ s w', (boundsPanic .i64 x y .index : Sem α).run Try.prog w = .halt (.panic (boundsValue Try.prog (IntKind.i64.wrap x) y s 0)) w' ∧ Touch [] w w' := by
  by_cases h : (IntKind.i64 != IntKind.u64 && decide (0 ≤ x) && decide (x ≤ 31)) = true
  · have e : ∃ s, (boundsPanic .i64 x y .index : Sem α).run Try.prog w = .halt (.panic (boundsValue Try.prog (IntKind.i64.wrap x) y s 0)) w.drew := by
      unfold boundsPanic boundsValue
      rw [if_pos h]
      simp [runtimePanic, goPanic, go_sem, BoundsCode.toNat]
    obtain ⟨s, e⟩ := e
    exact ⟨s, _, e, (Touch.refl _ _).drew⟩
  · have e : ∃ s, (boundsPanic .i64 x y .index : Sem α).run Try.prog w = .halt (.panic (boundsValue Try.prog (IntKind.i64.wrap x) y s 0)) w := by
      unfold boundsPanic boundsValue
      rw [if_neg h]
      simp [runtimePanic, goPanic, go_sem, BoundsCode.toNat]
    obtain ⟨s, e⟩ := e
    exact ⟨s, _, e, Touch.refl _ _⟩

/-- An index beyond its list. -/
theorem index_dies (t : TypeId) (ht : Try.prog.underlying t = some (.slice (Try.prog.elem t))) (a0 : Option Addr) (len cap : Nat) (i : Int) (hnil : a0 = none → len = 0) (ho : i < 0 ∨ (len : Int) ≤ i) :
    ∃ (vf : World → Value) (wf : World → World), (∀ w, (Instr.indexAt t (.slice a0 len cap) (.int .i64 i)).run Try.prog w = .halt (.panic (.iface 8 (vf w))) (wf w)) ∧ ∀ w, Touch [] w (wf w) := by
  have key : ∀ w : World, ∃ (x : Value × World), (Instr.indexAt t (.slice a0 len cap) (.int .i64 i)).run Try.prog w = .halt (.panic (.iface 8 x.1)) x.2 ∧ Touch [] w x.2 := fun w => by
    have hb : ∀ y : Int, ∃ (x : Value × World), (boundsPanic .i64 i y .index : Sem Value).run Try.prog w = .halt (.panic (.iface 8 x.1)) x.2 ∧ Touch [] w x.2 := fun y => by
      obtain ⟨s, w', hr, ht⟩ := bounds_dies (α := Value) i y w
      exact ⟨(_, w'), hr, ht⟩
    cases a0 with
    | some a => rw [run_indexAt_slice (h := ht), if_neg (by omega)]; exact hb _
    | none =>
      obtain rfl := hnil rfl
      have e : (Instr.indexAt t (.slice none 0 cap) (.int .i64 i)).run Try.prog w = (boundsPanic .i64 i 0 .index).run Try.prog w := by
        simp [Instr.indexAt, run_underlying ht, asIntOf]
      rw [e]
      exact hb _
  exact ⟨fun w => (Classical.choose (key w)).1, fun w => (Classical.choose (key w)).2, fun w => (Classical.choose_spec (key w)).1, fun w => (Classical.choose_spec (key w)).2⟩
end Go.Proofs.Ytiglfdefeaddmaa
