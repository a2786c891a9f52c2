/- EventBack, walked: where it may not be. -/
import Derived.Test.YtcihnfgfficmlaaWEApart
namespace Go.Proofs.Ytcihnfgfficmlaa
open Go.RowKit Go.Lib

theorem putB_no {c : CmdD} (h : checkC c ≠ 0) : putB c = ⟨#[]⟩ := by unfold putB; rw [if_neg h]
set_option maxRecDepth 100000 in
set_option maxHeartbeats 4000000 in
theorem back_early (c : CmdD) (x : Option Addr) (cap : Nat) (ok : c.Ok) (cut : Int) (more : ByteArray) (w : World) (hx : Evs w x cap c.evs) (hno : ¬ (smallC c = true ∧ (more.size : Int) ≤ 300 ∧ checkC c = 0)) :
    Calls Try.prog 5 #[c.agg x cap, .int .i64 cut, .string more] w fun e w' => e = .returned (.bool true) ∧ Touch [] w w' := by
  have CA := hid alive_true
  have CM := hid (fun w' (t : Touch [] w w') => small_any c x cap w' (hx.ev.touch t) ok.l)
  have CP := hid (fun w' (t : Touch [] w w') => evPut_any c x cap w' (hx.ev.touch t))
  have CC := hid (fun w' (t : Touch [] w w') => evCheck_any c x cap w' (hx.ev.touch t))
  have hB := hid (fun (h : checkC c ≠ 0) => putB_no h)
  clear hx ok
  have HNO := hid hno
  clear hno
  obtain ⟨W2, hW2⟩ : ∃ W2, W2 = w.alloc (.cells #[.int .i64 c.kind, .int .i64 c.time, .string c.stream, .int .i64 c.exp, .slice x c.evs.length cap, .int .i64 c.cnt, .int .i64 c.age, .int .i64 c.bef] tCmd) := ⟨_, rfl⟩
  have Tw : Hid (Touch [] w W2) := by rw [hW2]; exact hid ((Touch.refl [] w).alloc _)
  have T0 : Hid (Touch [] W2 W2) := hid (Touch.refl _ _)
  have A : W2.heap[w.heap.size]? = some (.cells #[.int .i64 c.kind, .int .i64 c.time, .string c.stream, .int .i64 c.exp, .slice x c.evs.length cap, .int .i64 c.cnt, .int .i64 c.age, .int .i64 c.bef] tCmd (0, 0)) := by rw [hW2]; exact heap_alloc_new w _
  have pa0 := hid (cell_of A 0); have a0 := pa0.out
  have pa1 := hid (cell_of A 1); have a1 := pa1.out
  have pa2 := hid (cell_of A 2); have a2 := pa2.out
  have pa3 := hid (cell_of A 3); have a3 := pa3.out
  have pa4 := hid (cell_of A 4); have a4 := pa4.out
  have pa5 := hid (cell_of A 5); have a5 := pa5.out
  have pa6 := hid (cell_of A 6); have a6 := pa6.out
  have pa7 := hid (cell_of A 7); have a7 := pa7.out
  clear A
  unfold CmdD.agg at *
  generalize smallC c = ma at *
  generalize putB c = S at *
  generalize checkC c = ka at *
  cases ma
  · clear CP CC hB HNO
    go_enter Try.func5, Try.ntmps5
    go_wp2_with fail
    simp only [tCmd] at hW2
    rw [← hW2]
    clear hW2
    refine (CM.out _ (Tw.out.trans T0.out (by simp))).mono ?_
    rintro e w1 ⟨rfl, t1⟩
    clear a0 a1 a2 a3 a4 a5 a6 a7; have T1 := hid (T0.out.trans t1 (by simp)); have a0 := T1.out.cell pa0.out; have a1 := T1.out.cell pa1.out; have a2 := T1.out.cell pa2.out; have a3 := T1.out.cell pa3.out; have a4 := T1.out.cell pa4.out; have a5 := T1.out.cell pa5.out; have a6 := T1.out.cell pa6.out; have a7 := T1.out.cell pa7.out
    go_wp2_with (first | (go_at_call 11; refine (CA.out _).mono ?_; rintro e w9 ⟨rfl, t9⟩))
    go_ret
    exact ⟨rfl, (Tw.out.trans T1.out (by simp)).trans t9 (by simp)⟩
  by_cases hm : (more.size : Int) ≤ 300
  rotate_left
  · have hm2 : decide ((300 : Int) < more.size) = true := by simp; omega
    clear CP CC hB HNO hm
    go_enter Try.func5, Try.ntmps5
    go_wp2_with fail
    simp only [tCmd] at hW2
    rw [← hW2]
    clear hW2
    refine (CM.out _ (Tw.out.trans T0.out (by simp))).mono ?_
    rintro e w1 ⟨rfl, t1⟩
    clear a0 a1 a2 a3 a4 a5 a6 a7; have T1 := hid (T0.out.trans t1 (by simp)); have a0 := T1.out.cell pa0.out; have a1 := T1.out.cell pa1.out; have a2 := T1.out.cell pa2.out; have a3 := T1.out.cell pa3.out; have a4 := T1.out.cell pa4.out; have a5 := T1.out.cell pa5.out; have a6 := T1.out.cell pa6.out; have a7 := T1.out.cell pa7.out
    go_wp2_with (first | (go_at_call 11; refine (CA.out _).mono ?_; rintro e w9 ⟨rfl, t9⟩))
    go_ret
    exact ⟨rfl, (Tw.out.trans T1.out (by simp)).trans t9 (by simp)⟩
  by_cases h1 : ka = 0
  · exact absurd ⟨rfl, hm, h1⟩ HNO.out
  have hm2 : decide ((300 : Int) < more.size) = false := by simp; omega
  have q1 : (ka != 0) = true := by simpa using h1
  have q2 : (ka == ka) = true := by simp
  obtain rfl := hB.out h1
  clear HNO hB hm h1
  go_enter Try.func5, Try.ntmps5
  go_wp2_with fail
  simp only [tCmd] at hW2
  rw [← hW2]
  clear hW2
  refine (CM.out _ (Tw.out.trans T0.out (by simp))).mono ?_
  rintro e w1 ⟨rfl, t1⟩
  clear a0 a1 a2 a3 a4 a5 a6 a7; have T1 := hid (T0.out.trans t1 (by simp)); have a0 := T1.out.cell pa0.out; have a1 := T1.out.cell pa1.out; have a2 := T1.out.cell pa2.out; have a3 := T1.out.cell pa3.out; have a4 := T1.out.cell pa4.out; have a5 := T1.out.cell pa5.out; have a6 := T1.out.cell pa6.out; have a7 := T1.out.cell pa7.out
  go_wp2_with (first | (go_at_call 16; refine (CP.out _ (Tw.out.trans T1.out (by simp))).mono ?_; rintro e w2 ⟨rfl, t2⟩; clear a0 a1 a2 a3 a4 a5 a6 a7; have T2 := hid (T1.out.trans t2 (by simp)); have a0 := T2.out.cell pa0.out; have a1 := T2.out.cell pa1.out; have a2 := T2.out.cell pa2.out; have a3 := T2.out.cell pa3.out; have a4 := T2.out.cell pa4.out; have a5 := T2.out.cell pa5.out; have a6 := T2.out.cell pa6.out; have a7 := T2.out.cell pa7.out) | (go_at_call 11; refine (CA.out _).mono ?_; rintro e w3 ⟨rfl, t3⟩; clear a0 a1 a2 a3 a4 a5 a6 a7; have T3 := hid (T2.out.trans t3 (by simp)); have a0 := T3.out.cell pa0.out; have a1 := T3.out.cell pa1.out; have a2 := T3.out.cell pa2.out; have a3 := T3.out.cell pa3.out; have a4 := T3.out.cell pa4.out; have a5 := T3.out.cell pa5.out; have a6 := T3.out.cell pa6.out; have a7 := T3.out.cell pa7.out) | (go_at_call 22; refine (CC.out _ (Tw.out.trans T3.out (by simp))).mono ?_; rintro e w4 ⟨rfl, t4⟩; clear a0 a1 a2 a3 a4 a5 a6 a7; have T4 := hid (T3.out.trans t4 (by simp)); have a0 := T4.out.cell pa0.out; have a1 := T4.out.cell pa1.out; have a2 := T4.out.cell pa2.out; have a3 := T4.out.cell pa3.out; have a4 := T4.out.cell pa4.out; have a5 := T4.out.cell pa5.out; have a6 := T4.out.cell pa6.out; have a7 := T4.out.cell pa7.out))
  go_ret
  exact ⟨rfl, Tw.out.trans T4.out (by simp)⟩
end Go.Proofs.Ytcihnfgfficmlaa
