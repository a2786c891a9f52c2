/- run of chapter 4's law, job by job. -/
import Derived.Test.YtjakkjjohpkcjaaJobs
import Derived.Test.YtjakkjjohpkcjaaGrow
namespace Go.Proofs.Ytjakkjjohpkcjaa
open Go.RowKit Go.Lib

/-- What a run of jobs comes to: the count has risen by m, and the fault f is told. -/
def RunP (bc oc : Nat) (cs : Array Value) (T : TypeId) (z : Int) (m : Nat) (f : FltD) (X : World) (e : Ending) (w' : World) : Prop :=
  w'.heap[bc]? = some (.cells (cs.setIfInBounds oc (.int .i64 (z + m))) T (0, 0)) ∧ Touch [bc] X w' ∧ ((∃ v, e = .returned v ∧ f = fine) ∨ ∃ v, e = .panicked [{ v := v, recovered := false }] ∧ Tells v f ∧ ¬ f.err = 0)

theorem set_same {cs : Array Value} {i : Nat} {v : Value} (h : cs[i]? = some v) : cs.setIfInBounds i v = cs := by
  apply Array.ext
  · simp
  · intro k h1 h2
    rw [Array.getElem_setIfInBounds]
    split
    · rename_i e
      subst e
      rw [Array.getElem?_eq_getElem (by simpa using h2)] at h
      simpa using h.symm
    · rfl
theorem runP_none {bc oc : Nat} {cs : Array Value} {T : TypeId} {z : Int} {f : FltD} {X w' : World} {e : Ending} (h : X.heap[bc]? = some (.cells cs T (0, 0))) (hz : cs[oc]? = some (.int .i64 z)) (t : Touch [] X w')
    (he : ∃ v, e = .panicked [{ v := v, recovered := false }] ∧ Tells v f ∧ ¬ f.err = 0) : RunP bc oc cs T z 0 f X e w' :=
  ⟨by rw [show z + ((0 : Nat) : Int) = z by omega, set_same hz]; exact touch_other t h (by simp), t.mono (by simp), .inr he⟩

theorem old3 {X : World} {a : Addr} {v : Value} (h : X.cell? a = some v) : ∀ o1 o2 o3 : Obj, (((X.alloc o1).alloc o2).alloc o3).cell? a = some v := fun o1 o2 o3 => ((((Touch.refl [] X).alloc o1).alloc o2).alloc o3).cell h
theorem old4 {X : World} {a : Addr} {v : Value} (h : X.cell? a = some v) : ∀ o1 o2 o3 o4 : Obj, ((((X.alloc o1).alloc o2).alloc o3).alloc o4).cell? a = some v := fun o1 o2 o3 o4 => (((((Touch.refl [] X).alloc o1).alloc o2).alloc o3).alloc o4).cell h
theorem old5 {X : World} {a : Addr} {v : Value} (h : X.cell? a = some v) : ∀ o1 o2 o3 o4 o5 : Obj, (((((X.alloc o1).alloc o2).alloc o3).alloc o4).alloc o5).cell? a = some v := fun o1 o2 o3 o4 o5 => ((((((Touch.refl [] X).alloc o1).alloc o2).alloc o3).alloc o4).alloc o5).cell h

section
variable (b off len c i bc oc : Nat) (cs : Array Value) (T : TypeId) (z : Int) (j : JobD) (X : World)

theorem run_past (v : Value) (js : List JobD) (hv : Jobs X v js) (hi : js.length ≤ i) (hX : X.heap[bc]? = some (.cells cs T (0, 0))) (hz : cs[oc]? = some (.int .i64 z)) :
    Calls Try.prog 13 #[v, .int .i64 i, .pointer (some ⟨bc, oc, none⟩)] X (RunP bc oc cs T z 0 fine X) := by
  obtain ⟨x, c, rfl, hc, hm, _⟩ := hv
  have h2 : decide (js.length ≤ i) = true := by simpa using hi
  have HX := hid hX
  have HZ := hid hz
  clear hX hz
  go_enter Try.func13, Try.ntmps13
  go_wp2
  go_end0
  have t : Touch [] X (((X.alloc (.cells #[.slice x js.length c] 22)).alloc (.cells #[.int .i64 i] 3)).alloc (.cells #[.pointer (some ⟨bc, oc, none⟩)] 30)) := (((Touch.refl [] _).alloc _).alloc _).alloc _
  exact ⟨by rw [show z + ((0 : Nat) : Int) = z by omega, set_same HZ.out]; exact touch_other t HX.out (by simp), t.mono (by simp), .inl ⟨_, rfl, rfl⟩⟩

variable (hi : i < len) (hj : JobAt X b off i j) (hX : X.heap[bc]? = some (.cells cs T (0, 0))) (hz : cs[oc]? = some (.int .i64 z)) (z0 : 0 ≤ z) (z1 : z ≤ 1000)

set_option maxRecDepth 100000 in
include hi hj hX hz z0 z1 in
theorem run_plain1 (hk : (j.kind = 2 ∧ j.n = 0) ∨ (¬ j.kind = 2 ∧ ¬ j.kind = 3 ∧ ¬ j.kind = 4 ∧ ¬ j.kind = 5 ∧ ¬ j.kind = 6 ∧ ¬ j.kind = 7 ∧ ¬ j.kind = 8)) :
    Calls Try.prog 13 #[.slice (some ⟨b, off, none⟩) len c, .int .i64 i, .pointer (some ⟨bc, oc, none⟩)] X (RunP bc oc cs T z 1 fine X) := by
  obtain ⟨kind, n, s⟩ := j
  obtain ⟨h0, h1, h2, _⟩ := hj
  simp only at h0 h1 h2 hk
  have h3 : decide (len ≤ i) = false := by simp; omega
  have a0 := old3 h0
  have a1 := old3 h1
  have a2 := old3 h2
  have hc := cell_of hX oc
  rw [hz] at hc
  have k4 := old4 hc
  have f4 : ∀ o1 o2 o3 o4 : Obj, ((((X.alloc o1).alloc o2).alloc o3).alloc o4).frozen? ⟨bc, oc, none⟩ = false := fun o1 o2 o3 o4 => free_of (heap_alloc_keep (heap_alloc_keep (heap_alloc_keep (heap_alloc_keep hX o1) o2) o3) o4) oc
  have HX := hid hX
  clear hX hz h0 h1 h2 hc
  rcases hk with ⟨rfl, rfl⟩ | ⟨n2, n3, n4, n5, n6, n7, n8⟩
  all_goals
    go_enter Try.func13, Try.ntmps13
    go_wp2_with (go_at_call 20; refine (must_ok _).mono ?_; rintro e w1 ⟨rfl, rfl⟩)
    go_end0
    exact ⟨heap_set (heap_alloc_keep (heap_alloc_keep (heap_alloc_keep (heap_alloc_keep HX.out _) _) _) _) _, (by repeat (first | exact Touch.refl _ _ | refine Touch.alloc ?_ _ | refine Touch.setCell ?_ (.inl (by simp)) _)), .inl ⟨_, rfl, rfl⟩⟩

include hi hj hX hz in
theorem run_must1 (hk : j.kind = 2 ∧ ¬ j.n = 0) : Calls Try.prog 13 #[.slice (some ⟨b, off, none⟩) len c, .int .i64 i, .pointer (some ⟨bc, oc, none⟩)] X (RunP bc oc cs T z 0 ⟨j.n, 2, none8⟩ X) := by
  obtain ⟨kind, n, s⟩ := j
  obtain ⟨h0, h1, h2, _⟩ := hj
  simp only at h0 h1 h2 hk
  have h3 : decide (len ≤ i) = false := by simp; omega
  have a0 := old3 h0
  have a1 := old3 h1
  have a2 := old3 h2
  have hc := cell_of hX oc
  rw [hz] at hc
  have k4 := old4 hc
  have HX := hid hX
  have HZ := hid hz
  clear hX hz h0 h1 h2 hc k4
  obtain ⟨rfl, hn⟩ := hk
  have M := hid (must_panics n hn)
  go_enter Try.func13, Try.ntmps13
  go_wp2_with (go_at_call 20; refine (M.out _).mono ?_; rintro e w1 ⟨rfl, rfl⟩)
  exact ⟨rfl, runP_none HX.out HZ.out (by repeat (first | exact Touch.refl _ _ | refine Touch.drew ?_ | refine Touch.alloc ?_ _)) ⟨_, rfl, tells_errno hn, hn⟩⟩

include hi hj hX hz in
theorem run_fail1 (hk : j.kind = 3) : Calls Try.prog 13 #[.slice (some ⟨b, off, none⟩) len c, .int .i64 i, .pointer (some ⟨bc, oc, none⟩)] X (RunP bc oc cs T z 0 ⟨21, 3, j.s⟩ X) := by
  obtain ⟨kind, n, s⟩ := j
  obtain ⟨h0, h1, h2, _⟩ := hj
  simp only at h0 h1 h2 hk
  have h3 : decide (len ≤ i) = false := by simp; omega
  have a0 := old3 h0
  have a1 := old3 h1
  have a2 := old3 h2
  have hc := cell_of hX oc
  rw [hz] at hc
  have k4 := old4 hc
  have HX := hid hX
  have HZ := hid hz
  clear hX hz h0 h1 h2 hc k4
  obtain rfl := hk
  go_enter Try.func13, Try.ntmps13
  go_wp2_with (go_at_call 22; refine (fail_panics _ _).mono ?_; rintro e w1 ⟨rfl, rfl⟩)
  exact ⟨rfl, runP_none HX.out HZ.out (by repeat (first | exact Touch.refl _ _ | refine Touch.drew ?_ | refine Touch.alloc ?_ _)) ⟨_, rfl, tells_text s, by simp⟩⟩

set_option maxHeartbeats 1000000 in
include hi hj hX hz in
theorem run_index1 (hk : j.kind = 4) : Calls Try.prog 13 #[.slice (some ⟨b, off, none⟩) len c, .int .i64 i, .pointer (some ⟨bc, oc, none⟩)] X (RunP bc oc cs T z 0 ⟨21, 1, none8⟩ X) := by
  obtain ⟨kind, n, s⟩ := j
  obtain ⟨h0, h1, h2, _⟩ := hj
  simp only at h0 h1 h2 hk
  have h3 : decide (len ≤ i) = false := by simp; omega
  have a0 := old3 h0
  have a1 := old3 h1
  have a2 := old3 h2
  have hc := cell_of hX oc
  rw [hz] at hc
  have k4 := old4 hc
  have HX := hid hX
  have HZ := hid hz
  have k5 := old5 hc
  clear hX hz h0 h1 h2 hc k4
  obtain rfl := hk
  by_cases hn : n < 2
  · obtain ⟨vf, wf, hd, ht⟩ := index_dies 37 (by kernel_rfl) (some ⟨X.heap.size + 1 + 1 + 1 + 1, 0, none⟩) 2 2 2 (by simp) (by omega)
    have HT := hid ht
    clear ht
    go_enter Try.func13, Try.ntmps13
    go_wp2
    go_region_dies
    all_goals (try go_wp2)
    all_goals exact ⟨rfl, runP_none HX.out HZ.out (Touch.trans (b := _) (by repeat (first | exact Touch.refl _ _ | refine Touch.drew ?_ | refine Touch.alloc ?_ _)) (HT.out _) (by simp)) ⟨_, rfl, tells_run run_bounds _, by simp⟩⟩
  · obtain ⟨vf, wf, hd, ht⟩ := index_dies 37 (by kernel_rfl) (some ⟨X.heap.size + 1 + 1 + 1 + 1, 0, none⟩) 2 2 n (by simp) (by omega)
    have HT := hid ht
    clear ht
    go_enter Try.func13, Try.ntmps13
    go_wp2
    go_region_dies
    all_goals (try go_wp2)
    all_goals exact ⟨rfl, runP_none HX.out HZ.out (Touch.trans (b := _) (by repeat (first | exact Touch.refl _ _ | refine Touch.drew ?_ | refine Touch.alloc ?_ _)) (HT.out _) (by simp)) ⟨_, rfl, tells_run run_bounds _, by simp⟩⟩
end
end Go.Proofs.Ytjakkjjohpkcjaa
