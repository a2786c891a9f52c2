/- Package guard: tell, the deferred closure, Do, by what the function that is run comes to; Must and Fail. -/
import Derived.Test.YtmgglmoiepjebaaBase
import Derived.Test.YtmgglmoiepjebaaProg
import Derived.Stop.Asserts
import Derived.DiesKit
import Derived.Recover
import Derived.WalkSmall
namespace Go.Proofs.Ytmgglmoiepjebaa
open Go.RowKit Go.Lib

/-- A fault. -/
structure FltD where
  err : Int
  kind : Int
  text : ByteArray
abbrev none8 : ByteArray := ⟨#[]⟩
@[reducible] def FltD.cells (f : FltD) : Array Value := #[.int .i64 f.err, .int .i64 f.kind, .string f.text]
@[reducible] def FltD.val (f : FltD) : Value := .agg #[.int .i64 f.err, .int .i64 f.kind, .string f.text]
@[reducible] def fine : FltD := ⟨0, 0, none8⟩

abbrev TFault : TypeId := 70
abbrev TErrno : TypeId := 34
abbrev TRun : TypeId := 79
abbrev TAny : TypeId := 20

theorem not_string (v : Value) (w : World) : (Instr.typeAssert (.iface 9 v) TAny TRun true).run Try.prog w = .ok (.tuple #[.nilIface, .bool false]) w :=
  run_typeAssert_lacksB Try.underlying79 (by kernel_rfl) (by kernel_rfl) v TAny w
theorem not_errno (v : Value) (w : World) : (Instr.typeAssert (.iface TErrno v) TAny TRun true).run Try.prog w = .ok (.tuple #[.nilIface, .bool false]) w :=
  run_typeAssert_lacksB Try.underlying79 (by kernel_rfl) (by kernel_rfl) v TAny w
/-- The dynamic type T has the method RuntimeError. -/
def HasRun (T : TypeId) : Prop := ∀ (v : Value) (w : World), (Instr.typeAssert (.iface T v) TAny TRun true).run Try.prog w = .ok (.tuple #[.iface T v, .bool true]) w
theorem run_bounds : HasRun 8 := fun v w => run_typeAssert_hasB Try.underlying79 (by kernel_rfl) v TAny w
theorem run_error : HasRun 10 := fun v w => run_typeAssert_hasB Try.underlying79 (by kernel_rfl) v TAny w
theorem run_plain : HasRun 11 := fun v w => run_typeAssert_hasB Try.underlying79 (by kernel_rfl) v TAny w
theorem run_assertion : HasRun 15 := fun v w => run_typeAssert_hasB Try.underlying79 (by kernel_rfl) v TAny w
theorem errno_yes (v : Value) (w : World) : (Instr.typeAssert (.iface TErrno v) TAny TErrno true).run Try.prog w = .ok (.tuple #[v, .bool true]) w := by kernel_rfl
theorem errno_no (v : Value) (w : World) : (Instr.typeAssert (.iface 9 v) TAny TErrno true).run Try.prog w = .ok (.tuple #[.int .i64 0, .bool false]) w := by kernel_rfl
theorem string_yes (v : Value) (w : World) : (Instr.typeAssert (.iface 9 v) TAny 9 true).run Try.prog w = .ok (.tuple #[v, .bool true]) w := by kernel_rfl

theorem tell_run (T : TypeId) (h : HasRun T) (v : Value) (w : World) :
    Calls Try.prog 54 #[.iface T v] w fun e w' => e = .returned (FltD.val ⟨21, 1, none8⟩) ∧ Touch [] w w' := by
  have h1 := h v
  clear h
  unfold TAny TRun at h1
  go_enter Try.func54, Try.ntmps54
  go_wp2
  refine bodyPost_ret (v := FltD.val _) (by simp [results, Try.results54, go_sem]) rfl ⟨rfl, ?_⟩
  repeat (first | exact Touch.refl _ _ | refine Touch.alloc ?_ _ | refine Touch.setCell ?_ (.inr (by simp)) _)

theorem tell_errno (n : Int) (hn : ¬ n = 0) (w : World) :
    Calls Try.prog 54 #[.iface TErrno (.int .i64 n)] w fun e w' => e = .returned (FltD.val ⟨n, 2, none8⟩) ∧ Touch [] w w' := by
  have h1 := not_errno (.int .i64 n)
  have h2 := errno_yes (.int .i64 n)
  unfold TAny TRun at h1
  unfold TAny at h2
  go_enter Try.func54, Try.ntmps54
  go_wp2
  refine bodyPost_ret (v := FltD.val _) (by simp [results, Try.results54, go_sem]) rfl ⟨rfl, ?_⟩
  repeat (first | exact Touch.refl _ _ | refine Touch.alloc ?_ _ | refine Touch.setCell ?_ (.inr (by simp)) _)

theorem tell_text (s : ByteArray) (w : World) :
    Calls Try.prog 54 #[.iface 9 (.string s)] w fun e w' => e = .returned (FltD.val ⟨21, 3, s⟩) ∧ Touch [] w w' := by
  have h1 := not_string (.string s)
  have h2 := errno_no (.string s)
  have h3 := string_yes (.string s)
  unfold TAny TRun at h1
  unfold TAny at h2 h3
  go_enter Try.func54, Try.ntmps54
  go_wp2
  refine bodyPost_ret (v := FltD.val _) (by simp [results, Try.results54, go_sem]) rfl ⟨rfl, ?_⟩
  repeat (first | exact Touch.refl _ _ | refine Touch.alloc ?_ _ | refine Touch.setCell ?_ (.inr (by simp)) _)

/-- What a panic's value tells. -/
def Tells (v : Value) (f : FltD) : Prop := (∃ T x, v = .iface T x) ∧ ∀ w : World, Calls Try.prog 54 #[v] w fun e w' => e = .returned f.val ∧ Touch [] w w'
theorem tells_run {T : TypeId} (h : HasRun T) (x : Value) : Tells (.iface T x) ⟨21, 1, none8⟩ := ⟨⟨T, x, rfl⟩, tell_run T h x⟩
theorem tells_errno {n : Int} (h : ¬ n = 0) : Tells (.iface TErrno (.int .i64 n)) ⟨n, 2, none8⟩ := ⟨⟨_, _, rfl⟩, tell_errno n h⟩
theorem tells_text (s : ByteArray) : Tells (.iface 9 (.string s)) ⟨21, 3, s⟩ := ⟨⟨_, _, rfl⟩, tell_text s⟩

theorem catch_idle (p : Addr) (w : World) :
    CallsD Try.prog 53 #[.pointer (some p)] .returning w fun e u' w' => e = .returned (.tuple #[]) ∧ u' = .returning ∧ w' = w := by
  refine callsD_of_wpS Try.func53 rfl fun c₀ cs hu => ?_
  apply wpS_seq
  apply wpS_region
  simp [wpOpsS, go_sem, recoverD, hu, Try.ntmps53, Exit.thenS]
  refine wpS_of_wp ?_
  rw [show #[Value.pointer (some p)] ++ ((Array.replicate 6 undef).setIfInBounds 1 Value.nilIface).setIfInBounds 0 Value.nilIface = #[.pointer (some p), .nilIface, .nilIface, undef, undef, undef, undef] from rfl]
  go_wp2
  exact ⟨rfl, .returning, by cases c₀; simp_all, _, by simp [results, Try.results53, go_sem], rfl, rfl, rfl⟩

theorem catch_panicking (p : Nat) (pv : Value) (f : FltD) (ht : Tells pv f) (x0 x1 x2 : Value) (w : World) (hp : w.heap[p]? = some (.cells #[x0, x1, x2] TFault (0, 0))) :
    CallsD Try.prog 53 #[.pointer (some ⟨p, 0, none⟩)] (.panicking [{ v := pv, recovered := false }]) w fun e u' w' =>
      e = .returned (.tuple #[]) ∧ u' = .panicking [{ v := pv, recovered := true }] ∧ w'.heap[p]? = some (.cells f.cells TFault (0, 0)) ∧ Touch [p] w w' := by
  obtain ⟨⟨T, x, rfl⟩, ht⟩ := ht
  refine callsD_of_wpS Try.func53 rfl fun c₀ cs hu => ?_
  apply wpS_seq
  apply wpS_region
  simp [wpOpsS, go_sem, recoverD, hu, Try.ntmps53, Exit.thenS]
  refine wpS_of_wp ?_
  rw [show #[Value.pointer (some ⟨p, 0, none⟩)] ++ ((Array.replicate 6 undef).setIfInBounds 1 (.iface T x)).setIfInBounds 0 (.iface T x) = #[.pointer (some ⟨p, 0, none⟩), .iface T x, .iface T x, undef, undef, undef, undef] from rfl]
  go_wp2_with (go_at_call 54; refine (ht _).mono ?_; rintro e w1 ⟨rfl, a1⟩; have q := (a1.block p (lt_of_block hp) (by simp)).trans hp; have q0 := cell_of q 0; have q1 := cell_of q 1; have q2 := cell_of q 2; have f0 := free_of q 0; have f1 := free_of q 1; have f2 := free_of q 2; have Q := hid q; clear q)
  have s1 := heap_set (heap_set (heap_set Q.out (i := 0) (.int .i64 f.err)) (i := 1) (.int .i64 f.kind)) (i := 2) (.string f.text)
  refine ⟨rfl, _, rfl, _, by simp [results, Try.results53, go_sem], rfl, rfl, ?_, ?_⟩
  · exact s1
  · exact ((((a1.mono (by simp)).setCell (.inl (by simp)) _).setCell (.inl (by simp)) _).setCell (.inl (by simp)) _)

/-- What a function that was run comes to: the block of the fault is as it was; it came to its end, or it panicked with one value that tells f. -/
def Came (R : FltD → World → Prop) (p : Nat) (e : Ending) (w1 : World) : Prop :=
  w1.heap[p]? = some (.cells #[.int .i64 0, .int .i64 0, .string none8] TFault (0, 0)) ∧
    ((∃ v, e = .returned v ∧ R fine w1) ∨ ∃ v f, e = .panicked [{ v := v, recovered := false }] ∧ Tells v f ∧ R f w1)
/-- What Do of it comes to. -/
def Did (R : FltD → World → Prop) (p : Nat) (e : Ending) (w' : World) : Prop := ∃ f w1, e = .returned f.val ∧ R f w1 ∧ Touch [p] w1 w'

theorem do_any (g : FuncId) (cap : Array Value) (R : FltD → World → Prop) (w : World) (hg : ∀ w : World, (callFunc g cap).run Try.prog w = .ok (.enter g cap) w)
    (h : Calls Try.prog g cap (w.alloc (.cells #[.int .i64 0, .int .i64 0, .string none8] TFault)) (Came R w.heap.size)) :
    Calls Try.prog 46 #[.func (.func g) #[] cap] w (Did R w.heap.size) := by
  have hmf : ∀ (fn : Fn) (first cap : Array Value) (w : World), (Instr.makeFunc fn first cap).run Try.prog w = .ok (.func fn first cap) w := fun _ _ _ _ => rfl
  have hnil : ∀ (w : World), (binOp BinOp.eql 1 (.func (.func g) #[] cap) .nilFunc).run Try.prog w = .ok (.bool false) w := fun _ => by kernel_rfl
  go_enter_defers Try.func46, Try.ntmps46
  go_wp2_with fail
  refine h.mono ?_
  rintro e w1 ⟨q, ⟨v, rfl, hr⟩ | ⟨v, f, rfl, ht, hr⟩⟩
  · have q0 := cell_of q 0
    have q1 := cell_of q 1
    have q2 := cell_of q 2
    have f0 := free_of q 0
    have f1 := free_of q 1
    have f2 := free_of q 2
    have Q := hid q
    clear q
    go_wp2
    have S := heap_set (heap_set (heap_set Q.out (i := 0) (.int .i64 0)) (i := 1) (.int .i64 0)) (i := 2) (.string none8)
    have T1 : Touch [w.heap.size] w1 (((w1.setCell ⟨w.heap.size, 0, none⟩ (.int .i64 0)).setCell ⟨w.heap.size, 1, none⟩ (.int .i64 0)).setCell ⟨w.heap.size, 2, none⟩ (.string none8)) := (((Touch.refl _ _).setCell (.inl (by simp)) _).setCell (.inl (by simp)) _).setCell (.inl (by simp)) _
    clear q0 q1 q2 f0 f1 f2 h
    generalize ((w1.setCell ⟨w.heap.size, 0, none⟩ (.int .i64 0)).setCell ⟨w.heap.size, 1, none⟩ (.int .i64 0)).setCell ⟨w.heap.size, 2, none⟩ (.string none8) = w2 at S T1 ⊢
    refine leaves_cons (f := 53) (args := #[.pointer (some ⟨w.heap.size, 0, none⟩)]) (by simp) (by simp [go_sem]) ?_
    refine (catch_idle ⟨w.heap.size, 0, none⟩ _).mono ?_
    rintro e u' w'' ⟨rfl, rfl, rfl⟩
    have c0 := cell_of S 0
    have c1 := cell_of S 1
    have c2 := cell_of S 2
    exact ⟨fine.val, by simp [results, Try.results46, go_sem, c0, c1, c2], fine, w1, rfl, hr, T1⟩
  · refine leaves_cons (f := 53) (args := #[.pointer (some ⟨w.heap.size, 0, none⟩)]) (by simp) (by simp [go_sem]) ?_
    refine (catch_panicking w.heap.size v f ht _ _ _ _ q).mono ?_
    rintro e u' w'' ⟨rfl, rfl, S, T1⟩
    have c0 := cell_of S 0
    have c1 := cell_of S 1
    have c2 := cell_of S 2
    exact ⟨f.val, by simp [results, Try.results46, go_sem, c0, c1, c2], f, w1, rfl, hr, T1⟩

theorem do_nil (w : World) : Calls Try.prog 46 #[.nilFunc] w fun e w' => e = .returned (FltD.val ⟨1, 0, none8⟩) ∧ Touch [] w w' := by
  have hnil : ∀ (w : World), (binOp BinOp.eql 1 .nilFunc .nilFunc).run Try.prog w = .ok (.bool true) w := fun _ => by kernel_rfl
  go_enter Try.func46, Try.ntmps46
  go_wp2
  refine bodyPost_ret (v := FltD.val _) (by simp [results, Try.results46, go_sem]) rfl ⟨rfl, ?_⟩
  repeat (first | exact Touch.refl _ _ | refine Touch.alloc ?_ _ | refine Touch.setCell ?_ (.inr (by simp)) _)

end Go.Proofs.Ytmgglmoiepjebaa
