/- The walk of GuardMust. -/
import Derived.Test.YtjakkjjohpkcjaaGalive
import Derived.OpenShut
namespace Go.Proofs.Ytjakkjjohpkcjaa
open Go.RowKit Go.Lib Go.ChangeShapes

theorem enters_must (x y : Value) (w : World) : (callFunc 19 #[x, y]).run Try.prog w = .ok (.enter 19 #[x, y]) w := by simp [go_sem]
theorem enters_fail (x y : Value) (w : World) : (callFunc 21 #[x, y]).run Try.prog w = .ok (.enter 21 #[x, y]) w := by simp [go_sem]

abbrev intBlock (n : Int) : Obj := .cells #[.int .i64 n] 3 (0, 0)
abbrev textBlock (s : ByteArray) : Obj := .cells #[.string s] 9 (0, 0)

theorem must_one_ok (be bn : Nat) (w : World) (he : w.heap[be]? = some (intBlock 0)) (hn : w.heap[bn]? = some (intBlock 0)) :
    Calls Try.prog 19 #[.pointer (some ⟨be, 0, none⟩), .pointer (some ⟨bn, 0, none⟩)] w fun e w' => e = .returned (.tuple #[]) ∧ w' = w.setCell ⟨bn, 0, none⟩ (.int .i64 1) := by
  have c0 := cell_of he 0
  have c1 := cell_of hn 0
  have f0 := free_of hn 0
  clear he hn
  go_enter Try.func19, Try.ntmps19
  go_wp2_with (go_at_call 20; refine (must_ok _).mono ?_; rintro e w1 ⟨rfl, rfl⟩)
  go_end0
  exact ⟨rfl, rfl⟩
theorem must_one_bad (be : Nat) (x : Value) (n : Int) (hn : ¬ n = 0) (w : World) (he : w.heap[be]? = some (intBlock n)) :
    Calls Try.prog 19 #[.pointer (some ⟨be, 0, none⟩), x] w fun e w' => e = .panicked [{ v := .iface TErrno (.int .i64 n), recovered := false }] ∧ w = w' := by
  have c0 := cell_of he 0
  have M := hid (must_panics n hn w)
  clear he
  go_enter Try.func19, Try.ntmps19
  go_wp2_with (go_at_call 20; refine M.out.mono ?_; rintro e w1 ⟨rfl, rfl⟩)
  exact ⟨rfl, rfl, rfl⟩
theorem fail_one (bs : Nat) (x : Value) (s : ByteArray) (w : World) (he : w.heap[bs]? = some (textBlock s)) :
    Calls Try.prog 21 #[.pointer (some ⟨bs, 0, none⟩), x] w fun e w' => e = .panicked [{ v := .iface 9 (.string s), recovered := false }] ∧ w = w' := by
  have c0 := cell_of he 0
  clear he
  go_enter Try.func21, Try.ntmps21
  go_wp2_with (go_at_call 22; refine (fail_panics _ _).mono ?_; rintro e w1 ⟨rfl, rfl⟩)
  exact ⟨rfl, rfl, rfl⟩

def MustR (X : World) (bn : Nat) (n : Int) (g : FltD) (f : FltD) (w1 : World) : Prop := f = g ∧ w1.heap[bn]? = some (intBlock n) ∧ Touch [bn] X w1

/-- Do of a function that leaves the number in block bn at n, and comes to g. -/
theorem do_must {X : World} {bn : Nat} {n : Int} {g : FltD} {e : Ending} {w' : World} (hb : bn < X.heap.size) (h : Did (MustR X bn n g) X.heap.size e w') :
    e = .returned g.val ∧ w'.heap[bn]? = some (intBlock n) ∧ Touch [bn] X w' := by
  obtain ⟨f, w1, rfl, ⟨rfl, h5, ht⟩, t1⟩ := h
  exact ⟨rfl, touch_other t1 h5 (by simp; omega), ht.trans t1 (by simp)⟩

abbrev fltBlock : Obj := .cells #[.int .i64 0, .int .i64 0, .string none8] TFault (0, 0)
theorem must_do_ok (be bn : Nat) (X : World) (he : X.heap[be]? = some (intBlock 0)) (hn : X.heap[bn]? = some (intBlock 0)) :
    Calls Try.prog 11 #[.func (.func 19) #[] #[.pointer (some ⟨be, 0, none⟩), .pointer (some ⟨bn, 0, none⟩)]] X fun e w' =>
      e = .returned fine.val ∧ w'.heap[bn]? = some (intBlock 1) ∧ Touch [bn] X w' := by
  have hl := lt_of_block hn
  have hn2 := heap_alloc_keep hn fltBlock
  have hF := heap_alloc_new X fltBlock
  refine (do_any _ _ (MustR X bn 1 fine) _ (enters_must _ _) ((must_one_ok be bn _ (heap_alloc_keep he _) hn2).mono ?_)).mono fun e w' h => do_must hl h
  rintro e w1 ⟨rfl, rfl⟩
  refine ⟨?_, .inl ⟨_, rfl, rfl, heap_set hn2 _, ((Touch.refl _ _).alloc _).setCell (.inl (by simp)) _⟩⟩
  rw [heap_set_other _ (by simp; omega)]
  exact hF
theorem must_do_bad (be bn : Nat) (n : Int) (h0 : ¬ n = 0) (X : World) (he : X.heap[be]? = some (intBlock n)) (hn : X.heap[bn]? = some (intBlock 0)) :
    Calls Try.prog 11 #[.func (.func 19) #[] #[.pointer (some ⟨be, 0, none⟩), .pointer (some ⟨bn, 0, none⟩)]] X fun e w' =>
      e = .returned (FltD.val ⟨n, 2, none8⟩) ∧ w'.heap[bn]? = some (intBlock 0) ∧ Touch [bn] X w' := by
  have hl := lt_of_block hn
  have hF := heap_alloc_new X fltBlock
  refine (do_any _ _ (MustR X bn 0 ⟨n, 2, none8⟩) _ (enters_must _ _) ((must_one_bad be _ n h0 _ (heap_alloc_keep he _)).mono ?_)).mono fun e w' h => do_must hl h
  rintro e w1 ⟨rfl, rfl⟩
  exact ⟨hF, .inr ⟨_, _, rfl, tells_errno h0, rfl, heap_alloc_keep hn _, (Touch.refl _ _).alloc _⟩⟩
theorem fail_do (bs bn : Nat) (s : ByteArray) (n : Int) (X : World) (he : X.heap[bs]? = some (textBlock s)) (hn : X.heap[bn]? = some (intBlock n)) :
    Calls Try.prog 11 #[.func (.func 21) #[] #[.pointer (some ⟨bs, 0, none⟩), .pointer (some ⟨bn, 0, none⟩)]] X fun e w' =>
      e = .returned (FltD.val ⟨21, 3, s⟩) ∧ w'.heap[bn]? = some (intBlock n) ∧ Touch [bn] X w' := by
  have hl := lt_of_block hn
  have hF := heap_alloc_new X fltBlock
  refine (do_any _ _ (MustR X bn n ⟨21, 3, s⟩) _ (enters_fail _ _) ((fail_one bs _ s _ (heap_alloc_keep he _)).mono ?_)).mono fun e w' h => do_must hl h
  rintro e w1 ⟨rfl, rfl⟩
  exact ⟨hF, .inr ⟨_, _, rfl, tells_text s, rfl, heap_alloc_keep hn _, (Touch.refl _ _).alloc _⟩⟩
end Go.Proofs.Ytjakkjjohpkcjaa
