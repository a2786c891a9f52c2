/- Package guard: Try, by what the function that is run comes to. -/
import Derived.Test.YtjakkjjohpkcjaaGalive
namespace Go.Proofs.Ytjakkjjohpkcjaa
open Go.RowKit Go.Lib

abbrev nilFlt : Obj := .cells #[.int .i64 0, .int .i64 0, .string none8] TFault (0, 0)
abbrev oneInt (n : Int) : Obj := .cells #[.int .i64 n] 3 (0, 0)
abbrev oneFn (g : FuncId) (cap : Array Value) : Obj := .cells #[.func (.func g) #[] cap] 34 (0, 0)

theorem enters_try (x y : Value) (w : World) : (callFunc 29 #[x, y]).run Try.prog w = .ok (.enter 29 #[x, y]) w := by simp [go_sem]

/-- What a function that answers an int was run to. -/
def CameT (R : Int → FltD → World → Prop) (F : List Nat) (X : World) (e : Ending) (w1 : World) : Prop :=
  Touch F X w1 ∧ ((∃ n, e = .returned (.int .i64 n) ∧ R n fine w1) ∨ ∃ v f, e = .panicked [{ v := v, recovered := false }] ∧ Tells v f ∧ R 0 f w1)

def TryR (R : Int → FltD → World → Prop) (F : List Nat) (X : World) (bn : Nat) (f : FltD) (w2 : World) : Prop := ∃ n w1, Touch F X w1 ∧ R n f w1 ∧ w2.heap[bn]? = some (oneInt n) ∧ Touch [bn] w1 w2

theorem try_one (g : FuncId) (cap : Array Value) (R : Int → FltD → World → Prop) (F : List Nat) (bf bn p : Nat) (w : World) (hbn : bn ∉ F) (hp : p ∉ F) (hpn : p ≠ bn) (hg : ∀ w : World, (callFunc g cap).run Try.prog w = .ok (.enter g cap) w)
    (hf : w.heap[bf]? = some (oneFn g cap)) (hn : w.heap[bn]? = some (oneInt 0)) (hpp : w.heap[p]? = some nilFlt) (h : Calls Try.prog g cap w (CameT R F w)) :
    Calls Try.prog 29 #[.pointer (some ⟨bf, 0, none⟩), .pointer (some ⟨bn, 0, none⟩)] w (Came (TryR R F w bn) p) := by
  have c0 := cell_of hf 0
  have H := hid h
  have HN := hid hn
  have HP := hid hpp
  clear h hn hpp hf
  go_enter Try.func29, Try.ntmps29
  go_wp2_with fail
  refine H.out.mono ?_
  rintro e w1 ⟨t1, ⟨n, rfl, hr⟩ | ⟨v, f, rfl, ht, hr⟩⟩
  · have q := touch_other t1 HN.out hbn
    have q0 := cell_of q 0
    have f0 := free_of q 0
    have Q := hid q
    have Q2 := hid (touch_other t1 HP.out hp)
    clear q c0
    go_wp2
    go_end0
    refine ⟨?_, .inl ⟨_, rfl, n, w1, t1, hr, heap_set Q.out _, (Touch.refl _ _).setCell (.inl (by simp)) _⟩⟩
    rw [heap_set_other _ hpn]
    exact Q2.out
  · exact ⟨rfl, touch_other t1 HP.out hp, .inr ⟨v, f, rfl, ht, 0, w1, t1, hr, touch_other t1 HN.out hbn, Touch.refl _ _⟩⟩

/-- The world in which Try's function is run. -/
def tryW (g : FuncId) (cap : Array Value) (w : World) : World := (((w.alloc (oneFn g cap)).alloc nilFlt).alloc (oneInt 0)).alloc nilFlt
theorem tryW_touch (g : FuncId) (cap : Array Value) (w : World) : Touch [] w (tryW g cap w) := ((((Touch.refl _ _).alloc _).alloc _).alloc _).alloc _

def DidT (R : Int → FltD → World → Prop) (F : List Nat) (w X : World) (e : Ending) (w' : World) : Prop := ∃ n f w1 G, e = .returned (.tuple #[.int .i64 n, f.val]) ∧ Touch F X w1 ∧ R n f w1 ∧ (∀ x ∈ G, w.heap.size ≤ x) ∧ Touch G w1 w'

theorem try_any (g : FuncId) (cap : Array Value) (R : Int → FltD → World → Prop) (F : List Nat) (w : World) (hF : ∀ x ∈ F, x < w.heap.size) (hg : ∀ w : World, (callFunc g cap).run Try.prog w = .ok (.enter g cap) w)
    (h : Calls Try.prog g cap (tryW g cap w) (CameT R F (tryW g cap w))) : Calls Try.prog 15 #[.func (.func g) #[] cap] w (DidT R F w (tryW g cap w)) := by
  have hnil : ∀ (w : World), (binOp BinOp.eql 34 (.func (.func g) #[] cap) .nilFunc).run Try.prog w = .ok (.bool false) w := fun _ => by kernel_rfl
  have hmf := make_func
  have D : Hid (Calls Try.prog 11 #[.func (.func 29) #[] #[.pointer (some ⟨w.heap.size, 0, none⟩), .pointer (some ⟨w.heap.size + 2, 0, none⟩)]] (((w.alloc (oneFn g cap)).alloc nilFlt).alloc (oneInt 0))
      (Did (TryR R F (tryW g cap w) (w.heap.size + 2)) (w.heap.size + 3))) := by
    have hs : (((w.alloc (oneFn g cap)).alloc nilFlt).alloc (oneInt 0)).heap.size = w.heap.size + 3 := by simp
    have e0 : (tryW g cap w).heap[w.heap.size]? = some (oneFn g cap) := heap_alloc_keep (heap_alloc_keep (heap_alloc_keep (heap_alloc_new w _) _) _) _
    have e2 : (tryW g cap w).heap[w.heap.size + 2]? = some (oneInt 0) := heap_alloc_keep (by simpa using heap_alloc_new ((w.alloc (oneFn g cap)).alloc nilFlt) (oneInt 0)) _
    have e3 : (tryW g cap w).heap[w.heap.size + 3]? = some nilFlt := by simpa [tryW] using heap_alloc_new (((w.alloc (oneFn g cap)).alloc nilFlt).alloc (oneInt 0)) nilFlt
    have := do_any 29 #[.pointer (some ⟨w.heap.size, 0, none⟩), .pointer (some ⟨w.heap.size + 2, 0, none⟩)] (TryR R F (tryW g cap w) (w.heap.size + 2)) (((w.alloc (oneFn g cap)).alloc nilFlt).alloc (oneInt 0)) (enters_try _ _)
      (by rw [hs]; exact try_one g cap R F _ _ (w.heap.size + 3) (tryW g cap w) (fun hx => by have := hF _ hx; omega) (fun hx => by have := hF _ hx; omega) (by omega) hg e0 e2 e3 h)
    rw [hs] at this
    exact hid this
  clear h hg
  go_enter Try.func15, Try.ntmps15
  go_wp2_with fail
  refine D.out.mono ?_
  rintro e w3 ⟨f, w2, rfl, ⟨n, w1, t0, hr, hn, t1⟩, t2⟩
  have hn := touch_other t2 hn (by simp)
  have hlt := lt_of_block hn
  obtain ⟨c0, c1⟩ := cell_one hn
  have e1 : (tryW g cap w).heap[w.heap.size + 1]? = some nilFlt := heap_alloc_keep (heap_alloc_keep (by simpa using heap_alloc_new (w.alloc (oneFn g cap)) nilFlt) _) _
  have e1 := touch_other t2 (touch_other t1 (touch_other t0 e1 (fun hx => by have := hF _ hx; omega)) (by simp)) (by simp)
  obtain ⟨⟨_, _, _⟩, c9, c10, c11⟩ := cell_three e1
  have fz : ∀ (i : Nat) (o : Obj), (w3.alloc o).frozen? ⟨w.heap.size + 1, i, none⟩ = false := fun i o => free_of (heap_alloc_keep e1 o) i
  have E1 := hid e1
  have HN := hid hn
  clear D hn e1
  go_wp2
  go_region
  go_wp2
  have S := heap_set (heap_set (heap_set (heap_alloc_keep E1.out (.cells #[.int .i64 f.err, .int .i64 f.kind, .string f.text] TFault)) (i := 0) (.int .i64 f.err)) (i := 1) (.int .i64 f.kind)) (i := 2) (.string f.text)
  have T : Touch [w.heap.size + 2, w.heap.size + 3, w.heap.size + 1] w1 ((((w3.alloc (.cells #[.int .i64 f.err, .int .i64 f.kind, .string f.text] TFault)).setCell ⟨w.heap.size + 1, 0, none⟩ (.int .i64 f.err)).setCell ⟨w.heap.size + 1, 1, none⟩ (.int .i64 f.kind)).setCell ⟨w.heap.size + 1, 2, none⟩ (.string f.text)).drew :=
    ((((((t1.mono (by simp)).trans t2 (by simp)).alloc _).setCell (.inl (by simp)) _).setCell (.inl (by simp)) _).setCell (.inl (by simp)) _).drew
  have S2 : ((((w3.alloc (.cells #[.int .i64 f.err, .int .i64 f.kind, .string f.text] TFault)).setCell ⟨w.heap.size + 1, 0, none⟩ (.int .i64 f.err)).setCell ⟨w.heap.size + 1, 1, none⟩ (.int .i64 f.kind)).setCell ⟨w.heap.size + 1, 2, none⟩ (.string f.text)).drew.heap[w.heap.size + 1]? = some (.cells #[.int .i64 f.err, .int .i64 f.kind, .string f.text] TFault (0, 0)) := S
  clear S c1 c9 c10 c11 fz
  generalize ((((w3.alloc (.cells #[.int .i64 f.err, .int .i64 f.kind, .string f.text] TFault)).setCell ⟨w.heap.size + 1, 0, none⟩ (.int .i64 f.err)).setCell ⟨w.heap.size + 1, 1, none⟩ (.int .i64 f.kind)).setCell ⟨w.heap.size + 1, 2, none⟩ (.string f.text)).drew = wz at S2 T ⊢
  have z0 := cell_of S2 0
  have z1 := cell_of S2 1
  have z2 := cell_of S2 2
  exact bodyPost_ret (v := .tuple #[.int .i64 n, f.val]) (by simp [results, Try.results15, go_sem, z0, z1, z2]) rfl ⟨n, f, w1, _, rfl, t0, hr, by simp, T⟩

theorem try_nil (w : World) : Calls Try.prog 15 #[.nilFunc] w fun e w' => e = .returned (.tuple #[.int .i64 0, FltD.val ⟨1, 0, none8⟩]) ∧ Touch [] w w' := by
  have hnil : ∀ (w : World), (binOp BinOp.eql 34 .nilFunc .nilFunc).run Try.prog w = .ok (.bool true) w := fun _ => by kernel_rfl
  go_enter Try.func15, Try.ntmps15
  go_wp2
  refine bodyPost_ret (v := .tuple #[.int .i64 0, FltD.val ⟨1, 0, none8⟩]) (by simp [results, Try.results15, go_sem]) rfl ⟨rfl, ?_⟩
  repeat (first | exact Touch.refl _ _ | refine Touch.alloc ?_ _ | refine Touch.setCell ?_ (.inr (by simp)) _)
end Go.Proofs.Ytjakkjjohpkcjaa
