/- A program at work: the machine's block, its stack; push and pop. -/
import Derived.Test.YtiglfdefeaddmaaMost
import Derived.Test.YtiglfdefeaddmaaFlist
import Derived.Test.YtiglfdefeaddmaaGrow
import Derived.Test.YtiglfdefeaddmaaGuard
import Derived.WalkSmall
import Derived.Deep.RegionLaw
import Derived.Deep.AppendLies
namespace Go.Proofs.Ytiglfdefeaddmaa
open Go.RowKit Go.Lib

/-- What a program sees. -/
structure EnvD where
  state : Nat
  id : Int
  typ : ByteArray
  data : ByteArray
  value : Nat
  version : Int
structure EnvD.Ok (E : EnvD) : Prop where
  s : Wd E.state
  v : Wd E.value
  d : E.data.size ≤ 300
  lo : -9223372036854775808 ≤ E.version
  hi : E.version ≤ 9223372036854775807

abbrev TMach : TypeId := 86
abbrev TFlt : TypeId := 30
/-- The machine's cells. -/
@[reducible] def EnvD.cells (E : EnvD) (v : Value) : Array Value := #[.float .f64 E.state, .int .i64 E.id, .string E.typ, .string E.data, .float .f64 E.value, .int .i64 E.version, v]

/-- At block g is a machine over E whose numbers are s, the last one first. -/
def Mach (E : EnvD) (g : Nat) (s : List Nat) (W : World) : Prop :=
  ∃ v, W.heap[g]? = some (.cells (E.cells v) TMach (0, 0)) ∧ W.ownsRow (g + 1) TFlt 1 v s.length (fvals s.reverse) ∧ (∀ x ∈ s, Wd x)

/-- What a word leaves of the machine: the numbers s, and only the machine and its row are touched. -/
def Goes (E : EnvD) (g : Nat) (s : List Nat) (W : World) (e : Ending) (W' : World) : Prop :=
  e = .returned (.tuple #[]) ∧ Mach E g s W' ∧ ∀ B, B ≤ g → Below B W W'

/-- The same for the number that is popped. -/
def Pops (E : EnvD) (g : Nat) (x : Nat) (s : List Nat) (W : World) (e : Ending) (W' : World) : Prop :=
  e = .returned (.float .f64 x) ∧ Mach E g s W' ∧ Touch [g] W W'

/-- The row of a machine is no block of F. -/
theorem own_far {W : World} {base : Nat} {e : TypeId} {size : Nat} {v : Value} {n : Nat} {xs : List Value} (h : W.ownsRow base e size v n xs) {g : Nat} (hg : g < base) : some g ≠ v.ownBlock := by
  rcases h.2 with ⟨rfl, _⟩ | ⟨b, cap, cur, rfl, hb, _⟩
  · simp [Value.ownBlock]
  · simp [Value.ownBlock]; omega
theorem own_below {w w1 : World} {row : Option Nat} {B : Nat} (h : w.grownBy w1 row) (hr : ∀ k, row = some k → B ≤ k) : ∀ k, k < w.heap.size → k < B → w1.heap[k]? = w.heap[k]? :=
  fun k hk hB => h.block k hk (fun e => by have := hr k e.symm; omega)
theorem push_close {E : EnvD} {g : Nat} {s : List Nat} {x : Nat} {W Wa w1 : World} {v : Value} {g1 cap1 : Nat} (hg : W.heap[g]? = some (.cells (E.cells v) TMach (0, 0))) (hrow : W.ownsRow (g + 1) TFlt 1 v s.length (fvals s.reverse)) (hw : ∀ y ∈ s, Wd y) (hx : Wd x)
    (ha : Below W.heap.size W Wa) (hown : w1.ownsRow (g + 1) TFlt 1 (.slice (some ⟨g1, 0, none⟩) (s.length + 1) cap1) (s.length + 1) (fvals s.reverse ++ [.float .f64 x])) (hgr : Wa.grownBy w1 v.ownBlock) :
    Goes E g (x :: s) W (.returned (.tuple #[])) (w1.setCell ⟨g, 6, none⟩ (.slice (some ⟨g1, 0, none⟩) (s.length + 1) cap1)) := by
  have hlt := lt_of_block hg
  have hb : ∀ k, v.ownBlock = some k → g + 1 ≤ k := fun k hk => by
    rcases hrow.2 with ⟨rfl, _⟩ | ⟨b, cap, cur, rfl, hb, _⟩
    · simp [Value.ownBlock] at hk
    · simp [Value.ownBlock] at hk; omega
  have h1 : w1.heap[g]? = some (.cells (E.cells v) TMach (0, 0)) := (hgr.block g (Nat.lt_of_lt_of_le hlt ha.size) (fun e => by have := hb g e.symm; omega)).trans ((ha.block g hlt).trans hg)
  refine ⟨rfl, ⟨_, heap_set h1 _, ?_, ?_⟩, fun B hB => ?_⟩
  · rw [List.length_cons, List.reverse_cons, ← fvals_snoc]
    exact ownsRow_setCell_below hown (by show g < g + 1; omega) _
  · intro y hy
    rcases List.mem_cons.1 hy with rfl | hy
    · exact hx
    · exact hw y hy
  · refine ⟨hgr.os.trans ha.os, hgr.tape.trans ha.tape, hgr.output.trans ha.output, ?_, fun k hk => ?_⟩
    · have := ha.size; have := hgr.size; simp [World.setCell]; omega
    · rw [heap_set_other _ (show k ≠ g by omega)]
      exact (hgr.block k (by have := ha.size; omega) (fun e => by have := hb k e.symm; omega)).trans (ha.block k (by omega))

theorem push_any (E : EnvD) (g : Nat) (s : List Nat) (x : Nat) (W : World) (h : Mach E g s W) (hx : Wd x) (hs : s.length ≤ 100000) :
    Calls Try.prog 49 #[.pointer (some ⟨g, 0, none⟩), .float .f64 x] W (Goes E g (can x :: s) W) := by
  obtain ⟨v, hg, hrow, hw⟩ := h
  obtain ⟨i0, hi, hz0, hz1, hz2⟩ := info_parts Try.infoFlt
  have c6 : W.cell? ⟨g, 6, none⟩ = some v := cell_of hg 6
  have f6 : W.frozen? ⟨g, 6, none⟩ = false := free_of hg 6
  have c6a : ∀ o : Obj, (W.alloc o).cell? ⟨g, 6, none⟩ = some v := cell_alloc hg 6
  have HG := hid hg
  have HR := hid hrow
  have HW := hid hw
  have HX := hid hx
  have HL := hid hs
  clear hg hrow hw hs hx
  go_enter Try.func49, Try.ntmps49
  go_wp2
  go_region_law (first | (go_simp; go_at_call 31; refine (canon_any _ _ HX.out).mono ?_; rintro e w' ⟨rfl, rfl⟩) | (refine step_append_lies _ rfl (.tmp 8) (.tmp 11) 53 rfl (g + 1) TFlt i0 (.float .f64 0) 1 8 Try.underlying53 hi hz0 hz1 hz2 rfl (by decide) v s.length (fvals s.reverse) (by simp [Act.eval]) (HR.out.alloc _) ⟨W.heap.size, 0, none⟩ 1 1 [.float .f64 (can x)] (by simp [Act.eval]) rfl (World.news_of_block (cs := #[.float .f64 (can x)]) (t := TFlt) (fr := (0, 0)) (heap_alloc_new _ _)) (by intro u hu; simp at hu; subst hu; rfl) (by decide) (by have := HL.out; unfold maxLen; omega) (by have := HL.out; omega) (by have := lt_of_block HG.out; simp; omega) _ rfl ?_; intro g1 cap1 w1 hown hgr hl hlt; (have hz : w1.heap[g]? = some (.cells (E.cells v) TMach (0, 0)) := (hgr.block g (by have := lt_of_block HG.out; simp; omega) (own_far HR.out (Nat.lt_succ_self g))).trans (heap_alloc_keep HG.out _)); (have e1 := cell_of hz 6); (have e2 := free_of hz 6); clear hz hl hlt))
  all_goals (go_wp2; go_end0)
  all_goals first | exact push_close HG.out HR.out HW.out HX.out.can ((Below.refl _ _).alloc (Nat.le_refl _) _) hown hgr | exact push_close HG.out HR.out HW.out HX.out.can (((Below.refl _ _).alloc (Nat.le_refl _) _).drew) hown hgr

end Go.Proofs.Ytiglfdefeaddmaa
