/- EventBack, walked: what may be. -/
import Derived.Test.YtcihnfgfficmlaaWEBack
namespace Go.Proofs.Ytcihnfgfficmlaa
open Go.RowKit Go.Lib

theorem putB_ok {c : CmdD} (h : checkC c = 0) : (putB c).data.toList = layC c := by unfold putB; rw [if_pos h]
theorem layC_bd {c : CmdD} (h : checkC c = 0) : 1 ≤ (layC c).length ∧ (layC c).length ≤ 3000 := by
  have S := check_small h
  have s1 := S.s; have s2 := S.l
  have := layL_len c.evs S.v
  unfold layC
  simp only [List.length_append, be_length, txtB_len]
  omega
theorem cut_bd (cut : Int) (m : Nat) (h1 : 1 ≤ m) (h2 : m ≤ 4000) : 0 ≤ (wrap64 (cut.tmod m + m)).tmod m ∧ (wrap64 (cut.tmod m + m)).tmod m < m := by
  have a := Int.tmod_lt_of_pos cut (show (0 : Int) < m by omega)
  have b := Int.tmod_lt_of_pos (-cut) (show (0 : Int) < m by omega)
  rw [Int.neg_tmod] at b
  have e : wrap64 (cut.tmod m + m) = cut.tmod m + m := by unfold wrap64; omega
  rw [e]
  exact ⟨Int.tmod_nonneg _ (by omega), Int.tmod_lt_of_pos _ (by omega)⟩
theorem list_of_extract (s : ByteArray) (k : Nat) : (s.extract 0 k).data.toList = s.data.toList.take k := by simp [ByteArray.data_extract, Array.toList_extract]
set_option maxRecDepth 100000 in
set_option maxHeartbeats 4000000 in
theorem back_good (c : CmdD) (x : Option Addr) (cap : Nat) (ok : c.Ok) (cut : Int) (more : ByteArray) (w : World) (hx : Evs w x cap c.evs) (h1 : smallC c = true) (h2 : (more.size : Int) ≤ 300) (h3 : checkC c = 0) :
    Calls Try.prog 5 #[c.agg x cap, .int .i64 cut, .string more] w fun e w' => e = .returned (.bool true) ∧ Touch [] w w' := by
  have hok := evs_oks hx.ev
  have hS := putB_ok h3
  obtain ⟨bd1, bd2⟩ := layC_bd h3
  rw [← hS, list_len] at bd1 bd2
  have CA := hid alive_true
  have CM := hid (fun w' (t : Touch [] w w') => small_any c x cap w' (hx.ev.touch t) ok.l)
  have CP := hid (fun w' (t : Touch [] w w') => evPut_any c x cap w' (hx.ev.touch t))
  have CG1 := hid (fun w => evGet_any (putB c) w (by omega))
  unfold GetPost at CG1
  rw [hS, get_lay c h3 hok] at CG1
  have CS := hid (fun w' y d (t : Touch [] w w') (hy : EvX w' y (canC c).evs) => evSame_any c (canC c) x y cap d w' (hx.ev.touch t) hy ok.l)
  simp only [sameC_back] at CS
  rw [h1] at CM
  rw [h3] at CP
  have hmore := hid (fun (m : List UInt8) (hm : m ≠ []) => get_more c m hm h3 hok)
  have hcut := hid (fun k hk => get_cut c h3 hok k hk)
  have hm2 : decide ((300 : Int) < more.size) = false := by simp; omega
  rw [← hS] at hmore hcut
  clear hx ok hok h1 h3 hS
  obtain ⟨W2, hW2⟩ : ∃ W2, W2 = w.alloc (.cells #[.int .i64 c.kind, .int .i64 c.time, .string c.stream, .int .i64 c.exp, .slice x c.evs.length cap, .int .i64 c.cnt, .int .i64 c.age, .int .i64 c.bef] tCmd) := ⟨_, rfl⟩
  have Tw : Hid (Touch [] w W2) := by rw [hW2]; exact hid ((Touch.refl [] w).alloc _)
  have T0 : Hid (Touch [] W2 W2) := hid (Touch.refl _ _)
  have A : W2.heap[w.heap.size]? = some (.cells #[.int .i64 c.kind, .int .i64 c.time, .string c.stream, .int .i64 c.exp, .slice x c.evs.length cap, .int .i64 c.cnt, .int .i64 c.age, .int .i64 c.bef] tCmd (0, 0)) := by rw [hW2]; exact heap_alloc_new w _
  have pa0 := hid (cell_of A 0); have a0 := pa0.out
  have pa1 := hid (cell_of A 1); have a1 := pa1.out
  have pa2 := hid (cell_of A 2); have a2 := pa2.out
  have pa3 := hid (cell_of A 3); have a3 := pa3.out
  have pa4 := hid (cell_of A 4); have a4 := pa4.out
  have pa5 := hid (cell_of A 5); have a5 := pa5.out
  have pa6 := hid (cell_of A 6); have a6 := pa6.out
  have pa7 := hid (cell_of A 7); have a7 := pa7.out
  clear A
  unfold CmdD.agg at *
  generalize putB c = S at *
  have BD1 := hid bd1
  have BD2 := hid bd2
  have H2 := hid h2
  have n0 : ((S.size : Int) == 0) = false := by rw [Bool.eq_false_iff]; intro h; have := eq_of_beq h; omega
  have hcat : ¬ 9223372036854775807 < S.size + more.size := by omega
  have CG2 := hid (fun w => evGet_any (S ++ more) w (by rw [ByteArray.size_append]; omega))
  have hG2 : Hid (more.size ≠ 0 → (getOf (S ++ more).data.toList).2 ≠ 0) := hid (fun hm => by
    have h := hmore.out more.data.toList (by intro e; exact hm (by rw [← list_len, e]; rfl))
    rw [ByteArray.data_append, Array.toList_append, h]; decide)
  unfold GetPost CmdD.agg at CG2
  generalize getOf (S ++ more).data.toList = G2 at *
  obtain ⟨hk0, hk1⟩ := cut_bd cut S.size bd1 (by omega)
  have hk : 0 ≤ (wrap64 (cut.tmod ↑S.size + ↑S.size)).tmod ↑S.size ∧ (wrap64 (cut.tmod ↑S.size + ↑S.size)).tmod ↑S.size ≤ ↑S.size := ⟨hk0, by omega⟩
  obtain ⟨X, hX⟩ : ∃ X, X = (wrap64 (cut.tmod ↑S.size + ↑S.size)).tmod ↑S.size := ⟨_, rfl⟩
  have CG3 := hid (fun w => evGet_any (S.extract 0 X.toNat) w (by rw [ByteArray.size_extract]; omega))
  have hG3 : Hid ((getOf (S.extract 0 X.toNat).data.toList).2 ≠ 0) := by
    have h := hcut.out X.toNat (by rw [hX, list_len]; omega)
    rw [list_of_extract]
    exact hid h
  unfold GetPost CmdD.agg at CG3
  generalize getOf (S.extract 0 X.toNat).data.toList = G3 at *
  rw [hX] at CG3
  have q3 : (G3.2 != 0) = true := by simpa using hG3.out
  have nz : ¬ S.size = 0 := by omega
  clear hcut hG3 hX X hk0 hk1
  clear bd1 bd2 h2 hmore
  unfold canC at CG1 CS
  simp only [List.length_map] at CG1 CS
  have hq : ((more.toList == []) = true) ∨ ((more.toList == []) = false ∧ (G2.2 != 0) = true) := by
    rw [toList_empty]
    by_cases h : more.size = 0
    · exact .inl (by simpa using h)
    · exact .inr ⟨by simpa using h, by simpa using hG2.out h⟩
  clear hG2
  rcases hq with qm | ⟨qm, q2⟩
  all_goals
    go_enter Try.func5, Try.ntmps5
    go_wp2_with fail
    simp only [tCmd] at hW2
    rw [← hW2]
    clear hW2
    refine (CM.out _ (Tw.out.trans T0.out (by simp))).mono ?_
    rintro e w1 ⟨rfl, t1⟩
    clear a0 a1 a2 a3 a4 a5 a6 a7; have T1 := hid (T0.out.trans t1 (by simp)); have a0 := T1.out.cell pa0.out; have a1 := T1.out.cell pa1.out; have a2 := T1.out.cell pa2.out; have a3 := T1.out.cell pa3.out; have a4 := T1.out.cell pa4.out; have a5 := T1.out.cell pa5.out; have a6 := T1.out.cell pa6.out; have a7 := T1.out.cell pa7.out
    go_wp2_with (first | (go_at_call 16; refine (CP.out _ (Tw.out.trans T1.out (by simp))).mono ?_; rintro e w2 ⟨rfl, t2⟩; clear a0 a1 a2 a3 a4 a5 a6 a7; have T2 := hid (T1.out.trans t2 (by simp)); have a0 := T2.out.cell pa0.out; have a1 := T2.out.cell pa1.out; have a2 := T2.out.cell pa2.out; have a3 := T2.out.cell pa3.out; have a4 := T2.out.cell pa4.out; have a5 := T2.out.cell pa5.out; have a6 := T2.out.cell pa6.out; have a7 := T2.out.cell pa7.out) | (go_at_call 18; refine (CG1.out _).mono ?_; rintro e w3 ⟨y, dap, rfl, y3, t3, l3⟩; clear a0 a1 a2 a3 a4 a5 a6 a7; have T3 := hid (T2.out.trans t3 (by simp)); have a0 := T3.out.cell pa0.out; have a1 := T3.out.cell pa1.out; have a2 := T3.out.cell pa2.out; have a3 := T3.out.cell pa3.out; have a4 := T3.out.cell pa4.out; have a5 := T3.out.cell pa5.out; have a6 := T3.out.cell pa6.out; have a7 := T3.out.cell pa7.out) | (go_at_call 18; refine (CG2.out _).mono ?_; rintro e w4 ⟨z, dep, rfl, z4, t4, l4⟩; clear a0 a1 a2 a3 a4 a5 a6 a7; have T4 := hid ((T3.out.alloc _).trans t4 (by simp)); have a0 := T4.out.cell pa0.out; have a1 := T4.out.cell pa1.out; have a2 := T4.out.cell pa2.out; have a3 := T4.out.cell pa3.out; have a4 := T4.out.cell pa4.out; have a5 := T4.out.cell pa5.out; have a6 := T4.out.cell pa6.out; have a7 := T4.out.cell pa7.out; have e0 := t4.cell (cell_of (heap_alloc_new w3 _) 0); have e1 := t4.cell (cell_of (heap_alloc_new w3 _) 1); have e2 := t4.cell (cell_of (heap_alloc_new w3 _) 2); have e3 := t4.cell (cell_of (heap_alloc_new w3 _) 3); have e4 := t4.cell (cell_of (heap_alloc_new w3 _) 4); have e5 := t4.cell (cell_of (heap_alloc_new w3 _) 5); have e6 := t4.cell (cell_of (heap_alloc_new w3 _) 6); have e7 := t4.cell (cell_of (heap_alloc_new w3 _) 7); simp at e0 e1 e2 e3 e4 e5 e6 e7) | (go_at_call 18; refine (CG3.out _).mono ?_; rintro e w5 ⟨z5, dep5, rfl, z6, t5, l5⟩; clear a0 a1 a2 a3 a4 a5 a6 a7; have T5 := hid ((T4.out.alloc _).trans t5 (by simp)); have a0 := T5.out.cell pa0.out; have a1 := T5.out.cell pa1.out; have a2 := T5.out.cell pa2.out; have a3 := T5.out.cell pa3.out; have a4 := T5.out.cell pa4.out; have a5 := T5.out.cell pa5.out; have a6 := T5.out.cell pa6.out; have a7 := T5.out.cell pa7.out; have U5 := hid (((Touch.refl [] w4).alloc _).trans t5 (by simp)); have f0 := U5.out.cell e0; have f1 := U5.out.cell e1; have f2 := U5.out.cell e2; have f3 := U5.out.cell e3; have f4 := U5.out.cell e4; have f5 := U5.out.cell e5; have f6 := U5.out.cell e6; have f7 := U5.out.cell e7) | (go_at_call 11; refine (CA.out _).mono ?_; rintro e w6 ⟨rfl, t6⟩; clear a0 a1 a2 a3 a4 a5 a6 a7; have T6 := hid ((T5.out.alloc _).trans t6 (by simp)); have a0 := T6.out.cell pa0.out; have a1 := T6.out.cell pa1.out; have a2 := T6.out.cell pa2.out; have a3 := T6.out.cell pa3.out; have a4 := T6.out.cell pa4.out; have a5 := T6.out.cell pa5.out; have a6 := T6.out.cell pa6.out; have a7 := T6.out.cell pa7.out; have U6 := hid (((Touch.refl [] w5).alloc _).trans t6 (by simp)); have g0 := U6.out.cell f0; have g1 := U6.out.cell f1; have g2 := U6.out.cell f2; have g3 := U6.out.cell f3; have g4 := U6.out.cell f4; have g5 := U6.out.cell f5; have g6 := U6.out.cell f6; have g7 := U6.out.cell f7; have UY := hid (((y3.touch (((Touch.refl [] w3).alloc _).trans t4 (by simp))).touch U5.out).touch U6.out)) | (go_at_call 25; refine (CS.out _ _ _ (Tw.out.trans T6.out (by simp)) UY.out).mono ?_; rintro e w7 ⟨rfl, t7⟩))
    go_ret
    exact ⟨rfl, (Tw.out.trans T6.out (by simp)).trans t7 (by simp)⟩

theorem walk_EventBack (c : CmdD) (x : Option Addr) (cap : Nat) (ok : c.Ok) (cut : Int) (_wc : (Lit.int .i64 cut).wf = true) (more : ByteArray) (_wm : more.size ≤ maxLen) (w : World) (hx : Evs w x cap c.evs) :
    Calls Try.prog 5 #[c.agg x cap, .int .i64 cut, .string more] w fun e w' => e = .returned (.bool true) ∧ Touch [] w w' := by
  by_cases h : smallC c = true ∧ (more.size : Int) ≤ 300 ∧ checkC c = 0
  · exact back_good c x cap ok cut more w hx h.1 h.2.1 h.2.2
  · exact back_early c x cap ok cut more w hx h
end Go.Proofs.Ytcihnfgfficmlaa
