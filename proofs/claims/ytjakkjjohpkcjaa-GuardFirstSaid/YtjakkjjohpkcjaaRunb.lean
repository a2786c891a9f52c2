/- The other panics of the language: a division by nought; what is no text taken for one; a nil map that is written. -/
import Derived.Test.YtjakkjjohpkcjaaRun
import Derived.Laws.PanicsMore
namespace Go.Proofs.Ytjakkjjohpkcjaa
open Go.RowKit Go.Lib

theorem assert_dies : ∃ C : Array Value, ∀ (n : Int) (w : World), (Instr.typeAssert (.iface 3 (.int .i64 n)) 20 9 false).run Try.prog w = .halt (.panic (.iface 15 (.pointer (some ⟨w.heap.size, 0, none⟩)))) (w.alloc (.cells C 55)) := by
  refine ⟨#[typeHandle Try.prog 20, typeHandle Try.prog 3, typeHandle Try.prog 9, strVal ""], fun n w => ?_⟩
  kernel_rfl
theorem map_dies : ∃ x : Value, ∀ (key val : Value) (w : World), (Instr.mapUpdate 51 (.map none) key val).run Try.prog w = .halt (.panic (.iface 11 x)) w :=
  ⟨_, fun key val w => run_mapUpdate_nil (P := Try.prog) (w := w) 51 _ _ Try.underlying51 key val⟩

section
variable (b off len c i bc oc : Nat) (cs : Array Value) (T : TypeId) (z : Int) (j : JobD) (X : World)
variable (hi : i < len) (hj : JobAt X b off i j) (hX : X.heap[bc]? = some (.cells cs T (0, 0))) (hz : cs[oc]? = some (.int .i64 z))

set_option maxHeartbeats 1000000 in
include hi hj hX hz in
theorem run_quo1 (hk : j.kind = 5) : Calls Try.prog 13 #[.slice (some ⟨b, off, none⟩) len c, .int .i64 i, .pointer (some ⟨bc, oc, none⟩)] X (RunP bc oc cs T z 0 ⟨21, 1, none8⟩ X) := by
  obtain ⟨kind, n, s⟩ := j
  obtain ⟨h0, h1, h2, _⟩ := hj
  simp only at h0 h1 h2 hk
  have h3 : decide (len ≤ i) = false := by simp; omega
  have a0 := old3 h0
  have a1 := old3 h1
  have a2 := old3 h2
  have hc := cell_of hX oc
  rw [hz] at hc
  have k4 := old4 hc
  have HX := hid hX
  have HZ := hid hz
  clear hX hz h0 h1 h2 hc
  obtain rfl := hk
  go_enter Try.func13, Try.ntmps13
  go_wp2
  go_region_dies
  all_goals (try go_wp2)
  all_goals exact ⟨rfl, runP_none HX.out HZ.out (by repeat (first | exact Touch.refl _ _ | refine Touch.drew ?_ | refine Touch.alloc ?_ _)) ⟨_, rfl, tells_run run_error _, by simp⟩⟩

set_option maxHeartbeats 1000000 in
include hi hj hX hz in
theorem run_assert1 (hk : j.kind = 6) : Calls Try.prog 13 #[.slice (some ⟨b, off, none⟩) len c, .int .i64 i, .pointer (some ⟨bc, oc, none⟩)] X (RunP bc oc cs T z 0 ⟨21, 1, none8⟩ X) := by
  obtain ⟨kind, n, s⟩ := j
  obtain ⟨h0, h1, h2, _⟩ := hj
  simp only at h0 h1 h2 hk
  have h3 : decide (len ≤ i) = false := by simp; omega
  have a0 := old3 h0
  have a1 := old3 h1
  have a2 := old3 h2
  have hc := cell_of hX oc
  rw [hz] at hc
  have k4 := old4 hc
  have HX := hid hX
  have HZ := hid hz
  clear hX hz h0 h1 h2 hc
  obtain rfl := hk
  obtain ⟨C, hd⟩ := assert_dies
  go_enter Try.func13, Try.ntmps13
  go_wp2
  go_region_dies
  all_goals (try go_wp2)
  all_goals exact ⟨rfl, runP_none HX.out HZ.out (by repeat (first | exact Touch.refl _ _ | refine Touch.drew ?_ | refine Touch.alloc ?_ _)) ⟨_, rfl, tells_run run_assertion _, by simp⟩⟩

include hi hj hX hz in
theorem run_map1 (hk : j.kind = 7) : Calls Try.prog 13 #[.slice (some ⟨b, off, none⟩) len c, .int .i64 i, .pointer (some ⟨bc, oc, none⟩)] X (RunP bc oc cs T z 0 ⟨21, 1, none8⟩ X) := by
  obtain ⟨kind, n, s⟩ := j
  obtain ⟨h0, h1, h2, _⟩ := hj
  simp only at h0 h1 h2 hk
  have h3 : decide (len ≤ i) = false := by simp; omega
  have a0 := old3 h0
  have a1 := old3 h1
  have a2 := old3 h2
  have hc := cell_of hX oc
  rw [hz] at hc
  have k4 := old4 hc
  have HX := hid hX
  have HZ := hid hz
  clear hX hz h0 h1 h2 hc k4
  obtain rfl := hk
  obtain ⟨x, hd⟩ := map_dies
  go_enter Try.func13, Try.ntmps13
  go_wp2
  exact ⟨rfl, runP_none HX.out HZ.out (by repeat (first | exact Touch.refl _ _ | refine Touch.drew ?_ | refine Touch.alloc ?_ _)) ⟨_, rfl, tells_run run_plain _, by simp⟩⟩
end
end Go.Proofs.Ytjakkjjohpkcjaa
