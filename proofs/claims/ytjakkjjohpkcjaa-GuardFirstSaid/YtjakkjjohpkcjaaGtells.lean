/- Do of a run of jobs. -/
import Derived.Test.YtjakkjjohpkcjaaRunc
namespace Go.Proofs.Ytjakkjjohpkcjaa
open Go.RowKit Go.Lib

abbrev jobsO (v : Value) : Obj := .cells #[v] 22 (0, 0)
abbrev intO (n : Int) : Obj := .cells #[.int .i64 n] 3 (0, 0)
theorem enters_tells (x y z : Value) (w : World) : (callFunc 12 #[x, y, z]).run Try.prog w = .ok (.enter 12 #[x, y, z]) w := by simp [go_sem]

theorem isFault_told (j : JobD) (h8 : ¬ j.kind = 8) : (toldF j = fine ∧ isFault j = false) ∨ (¬ (toldF j).err = 0 ∧ isFault j = true) := by
  obtain ⟨kind, n, s⟩ := j
  simp only at h8
  have hcase : kind = 2 ∨ kind = 3 ∨ kind = 4 ∨ kind = 5 ∨ kind = 6 ∨ kind = 7 ∨ (¬ kind = 2 ∧ ¬ kind = 3 ∧ ¬ kind = 4 ∧ ¬ kind = 5 ∧ ¬ kind = 6 ∧ ¬ kind = 7) := by omega
  rcases hcase with rfl | rfl | rfl | rfl | rfl | rfl | hk
  · by_cases hn : n = 0
    · simp [toldF, isFault, hn]
    · simp [toldF, isFault, hn]
  · simp [toldF, isFault]
  · simp [toldF, isFault]
  · simp [toldF, isFault]
  · simp [toldF, isFault]
  · simp [toldF, isFault]
  · simp [toldF, isFault, hk]
theorem told_incs (js : List JobD) (k : Nat) (h : k < js.length) : (toldAt js k = fine ∧ 1 ≤ incsAt js k) ∨ (¬ (toldAt js k).err = 0 ∧ incsAt js k = 0) := by
  have e : toldAt js k = toldF js[k] := by simp [toldAt, h]
  rw [e, incsAt_at h]
  by_cases h8 : js[k].kind = 8
  · rw [if_pos h8]
    exact .inl ⟨by simp [toldF, h8], by omega⟩
  · rw [if_neg h8]
    rcases isFault_told js[k] h8 with ⟨h1, h2⟩ | ⟨h1, h2⟩
    · exact .inl ⟨h1, by simp [h2]⟩
    · exact .inr ⟨h1, by simp [h2]⟩

theorem tells_one (js : List JobD) (v : Value) (k : Nat) (bl bi bc oc : Nat) (cs : Array Value) (T : TypeId) (X : World) (hv : Jobs X v js) (hk : k < js.length) (hk40 : js.length ≤ 40) (hl : X.heap[bl]? = some (jobsO v)) (hi : X.heap[bi]? = some (intO k)) (hn : X.heap[bc]? = some (.cells cs T (0, 0))) (hz : cs[oc]? = some (.int .i64 0)) :
    Calls Try.prog 12 #[.pointer (some ⟨bl, 0, none⟩), .pointer (some ⟨bi, 0, none⟩), .pointer (some ⟨bc, oc, none⟩)] X (RunP bc oc cs T 0 (incsAt js k) (toldAt js k) X) := by
  have D := hid (run_all js (js.length - k) X v k bc oc cs T 0 hv rfl (by omega) (by omega) (by omega) hn hz)
  have c0 := cell_of hl 0
  have c1 := cell_of hi 0
  clear hv hl hi hn hz
  go_enter Try.func12, Try.ntmps12
  go_wp2_with fail
  refine D.out.mono ?_
  rintro e w1 ⟨q1, q2, ⟨u, rfl, hf⟩ | ⟨u, rfl, ht⟩⟩
  · have Q1 := hid q1
    have Q2 := hid q2
    have HF := hid hf
    clear q1 q2 hf D c0 c1
    go_wp2
    go_end0
    exact ⟨Q1.out, Q2.out, .inl ⟨_, rfl, HF.out⟩⟩
  · exact ⟨rfl, q1, q2, .inr ⟨_, rfl, ht⟩⟩

/-- Do of a function that runs jobs. -/
def TellsD (bc oc : Nat) (cs : Array Value) (T : TypeId) (m : Nat) (t : FltD) (X : World) (e : Ending) (w' : World) : Prop := e = .returned t.val ∧ w'.heap[bc]? = some (.cells (cs.setIfInBounds oc (.int .i64 m)) T (0, 0)) ∧ Touch [bc] X w'
def TellsR (bc oc : Nat) (cs : Array Value) (T : TypeId) (m : Nat) (t : FltD) (X : World) (f : FltD) (w1 : World) : Prop := f = t ∧ w1.heap[bc]? = some (.cells (cs.setIfInBounds oc (.int .i64 m)) T (0, 0)) ∧ Touch [bc] X w1

theorem do_run (g : FuncId) (cap : Array Value) (bc oc : Nat) (cs : Array Value) (T : TypeId) (m : Nat) (t : FltD) (X : World) (hbc : bc < X.heap.size) (hg : ∀ w : World, (callFunc g cap).run Try.prog w = .ok (.enter g cap) w)
    (h : Calls Try.prog g cap (X.alloc (.cells #[.int .i64 0, .int .i64 0, .string none8] TFault)) (RunP bc oc cs T 0 m t (X.alloc (.cells #[.int .i64 0, .int .i64 0, .string none8] TFault)))) :
    Calls Try.prog 11 #[.func (.func g) #[] cap] X (TellsD bc oc cs T m t X) := by
  refine (do_any g cap (TellsR bc oc cs T m t X) X hg (h.mono ?_)).mono ?_
  · rintro e w1 ⟨q1, q2, h⟩
    rw [show (0 : Int) + (m : Int) = m by omega] at q1
    refine ⟨touch_other q2 (heap_alloc_new _ _) (by simp; omega), ?_⟩
    have key : w1.heap[bc]? = some (.cells (cs.setIfInBounds oc (.int .i64 m)) T (0, 0)) ∧ Touch [bc] X w1 := ⟨q1, ((Touch.refl [bc] _).alloc _).trans q2 (by simp)⟩
    rcases h with ⟨v, rfl, hf⟩ | ⟨v, rfl, ht, _⟩
    · exact .inl ⟨_, rfl, hf.symm, key⟩
    · exact .inr ⟨_, _, rfl, ht, rfl, key⟩
  · rintro e w' ⟨f, w1, rfl, ⟨rfl, q1, q2⟩, t⟩
    exact ⟨rfl, touch_other t q1 (by simp; omega), q2.trans t (by simp)⟩
end Go.Proofs.Ytjakkjjohpkcjaa
