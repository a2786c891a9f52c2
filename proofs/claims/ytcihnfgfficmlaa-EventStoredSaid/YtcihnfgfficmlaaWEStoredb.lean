/- EventStored, walked: what may be. -/
import Derived.Test.YtcihnfgfficmlaaWEStored
namespace Go.Proofs.Ytcihnfgfficmlaa
open Go.RowKit Go.Lib

set_option maxRecDepth 100000 in
set_option maxHeartbeats 1000000 in
theorem stored_good (s : StD) (hva : validS s = true) (hok : s.Ok) (b : ByteArray) (w : World) : Calls Try.prog 4 #[s.agg, .string b] w fun e w' => e = .returned (.bool true) ∧ Touch [] w w' := by
  have CF : Hid (∀ (W : World) x c, StX W x [s] → Calls Try.prog 26 #[.int .i64 1, .slice x 1 c] W fun e w' => e = .returned (.bool (smallB s)) ∧ W = w') := hid (fun W x c hx => by
    have := few_any 1 (by decide) x c [s] W (by simp) hx
    rw [few_one] at this
    exact this)
  have CA := hid alive_true
  have CP := hid (fun w => evPutS_any s w)
  have CU := hid (fun w => refPutS_any s w)
  have CG := hid (fun (h : b.size ≤ 4000) w => evGetS_any b w h)
  have CR := hid (fun (h : b.size ≤ 4000) w => refGetS_any b w h)
  have CS := hid (fun w => refSameS_any (getS b.data.toList).1 (getS b.data.toList).1 w)
  have CZ := hid (fun (h : validS s = true) w => evGetS_any (putSB s) w (putS_size s h))
  have CB := hid (fun w => refSameS_any (canS s) s w)
  rw [sameS_back] at CB
  rw [sameS_self] at CS
  simp only [putSV_eq] at CU
  have hv : validS s = true → getS (putSB s).data.toList = (canS s, 0) := fun h => by rw [putS_bytes h]; exact getS_lay s h hok.e.i1 hok.e.v
  have hbs : validS s = true → putSE s = 0 := fun h => by unfold putSE; rw [if_pos h]
  have hbn : validS s = false → putSE s = 1 := fun h => by unfold putSE; rw [if_neg (by rw [h]; decide)]
  obtain ⟨W2, hW2⟩ : ∃ W2, W2 = (w.alloc (.cells #[.int .i64 s.e.id, .string s.e.typ, .string s.e.data, .float .f64 s.e.val, .string s.stream, .int .i64 s.ver, .int .i64 s.pos, .int .i64 s.time] tSto)).alloc (.cells #[.int .i64 s.e.id, .string s.e.typ, .string s.e.data, .float .f64 s.e.val, .string s.stream, .int .i64 s.ver, .int .i64 s.pos, .int .i64 s.time] tSto) := ⟨_, rfl⟩
  have T2 : Hid (Touch [] w W2) := by rw [hW2]; exact hid (((Touch.refl [] w).alloc _).alloc _)
  have X2 : Hid (StX W2 (some ⟨w.heap.size + 1, 0, none⟩) [s]) := by rw [hW2]; exact hid (stX_one (new_two w _ _))
  have B2 : Hid (W2.heap[w.heap.size]? = some (.cells #[.int .i64 s.e.id, .string s.e.typ, .string s.e.data, .float .f64 s.e.val, .string s.stream, .int .i64 s.ver, .int .i64 s.pos, .int .i64 s.time] tSto (0, 0))) := by rw [hW2]; exact hid (touch_blk ((Touch.refl [] _).alloc _) (heap_alloc_new w _) (by simp))
  unfold StD.agg at *
  generalize smallB s = m at *
  generalize getS b.data.toList = G at *
  generalize putSE s = pe at *
  have hE := hbs hva
  subst hE
  have CZ := hid (CZ.out hva)
  rw [hv hva] at CZ
  unfold canS canE at CB CZ
  clear hv hbs hbn hva hok
  generalize putSB s = S at *
  have q : (!S.toList == S.toList) = false := by simp
  have q2 : (G.2 != G.2) = false := by simp
  obtain ⟨⟨a0, a1, a2, a3⟩, a4, a5, a6, a7⟩ := s
  simp only [] at CF CP CU CB CZ X2 B2 hW2 ⊢
  generalize canon a3 = k3 at *
  go_enter Try.func4, Try.ntmps4
  go_wp2_with fail
  simp only [tSto] at hW2
  rw [← hW2]
  clear hW2
  refine (CF.out W2 _ _ X2.out).mono ?_
  rintro e w1 ⟨rfl, rfl⟩
  have c0 := cell_of B2.out 0; have c1 := cell_of B2.out 1; have c2 := cell_of B2.out 2; have c3 := cell_of B2.out 3
  have c4 := cell_of B2.out 4; have c5 := cell_of B2.out 5; have c6 := cell_of B2.out 6; have c7 := cell_of B2.out 7
  clear CF X2
  cases m
  · go_wp2_with (go_at_call 11; refine (CA.out _).mono ?_; rintro e w9 ⟨rfl, t9⟩)
    go_ret
    exact ⟨rfl, T2.out.trans t9 (by simp)⟩
  by_cases hb : (b.size : Int) ≤ 1000
  rotate_left
  · have hbig : (1000 : Int) < b.size := by omega
    clear hb
    go_wp2_with (go_at_call 11; refine (CA.out _).mono ?_; rintro e w9 ⟨rfl, t9⟩)
    go_ret
    exact ⟨rfl, T2.out.trans t9 (by simp)⟩
  have CG2 := hid (CG.out (by omega))
  have CR2 := hid (CR.out (by omega))
  have hsf := store_flt
  clear CG CR
  go_wp2_with (first | (go_at_call 27; refine (CP.out _).mono ?_; rintro e w3 ⟨rfl, t3⟩; have d0 := t3.cell c0; have d1 := t3.cell c1; have d2 := t3.cell c2; have d3 := t3.cell c3; have d4 := t3.cell c4; have d5 := t3.cell c5; have d6 := t3.cell c6; have d7 := t3.cell c7) | (go_at_call 28; refine (CU.out _).mono ?_; rintro e w4 ⟨rfl, t4⟩) | (go_at_call 29; refine (CG2.out _).mono ?_; rintro e w5 ⟨rfl, t5⟩) | (go_at_call 30; refine (CR2.out _).mono ?_; rintro e w6 ⟨rfl, t6⟩; have x0 := t6.cell (cell_of (heap_alloc_new w5 _) 0); have x1 := t6.cell (cell_of (heap_alloc_new w5 _) 1); have x2 := t6.cell (cell_of (heap_alloc_new w5 _) 2); have x3 := t6.cell (cell_of (heap_alloc_new w5 _) 3); have x4 := t6.cell (cell_of (heap_alloc_new w5 _) 4); have x5 := t6.cell (cell_of (heap_alloc_new w5 _) 5); have x6 := t6.cell (cell_of (heap_alloc_new w5 _) 6); have x7 := t6.cell (cell_of (heap_alloc_new w5 _) 7); simp at x0 x1 x2 x3 x4 x5 x6 x7; have g0 := fun o : Obj => ((Touch.refl [] w6).alloc o).cell x0; have g1 := fun o : Obj => ((Touch.refl [] w6).alloc o).cell x1; have g2 := fun o : Obj => ((Touch.refl [] w6).alloc o).cell x2; have g3 := fun o : Obj => ((Touch.refl [] w6).alloc o).cell x3; have g4 := fun o : Obj => ((Touch.refl [] w6).alloc o).cell x4; have g5 := fun o : Obj => ((Touch.refl [] w6).alloc o).cell x5; have g6 := fun o : Obj => ((Touch.refl [] w6).alloc o).cell x6; have g7 := fun o : Obj => ((Touch.refl [] w6).alloc o).cell x7) | (go_at_call 31; refine (CS.out _).mono ?_; rintro e w7 ⟨rfl, t7⟩) | (go_at_call 31; refine (CB.out _).mono ?_; rintro e w10 ⟨rfl, t10⟩) | (go_at_call 11; refine (CA.out _).mono ?_; rintro e w9 ⟨rfl, t9⟩))
  refine (CZ.out _).mono ?_
  rintro e w8 ⟨rfl, t8⟩
  have TT := hid (((((((T2.out.trans t3 (by simp)).trans t4 (by simp)).trans t5 (by simp)).alloc _).trans t6 (by simp)).alloc _).trans t7 (by simp) |>.trans t8 (by simp))
  have TV := hid ((((((((Touch.refl [] W2).trans t3 (by simp)).trans t4 (by simp)).trans t5 (by simp)).alloc _).trans t6 (by simp)).alloc _).trans t7 (by simp) |>.trans t8 (by simp))
  clear x0 x1 x2 x3 x4 x5 x6 x7 g0 g1 g2 g3 g4 g5 g6 g7 d0 d1 d2 d3 d4 d5 d6 d7 t3 t4 t5 t6 t7 t8 CG2 CR2 CS CP CU CZ
  have e0 := TV.out.cell c0; have e1 := TV.out.cell c1; have e2 := TV.out.cell c2; have e3 := TV.out.cell c3
  have e4 := TV.out.cell c4; have e5 := TV.out.cell c5; have e6 := TV.out.cell c6; have e7 := TV.out.cell c7
  clear c0 c1 c2 c3 c4 c5 c6 c7
  go_wp2_with fail
  refine (CA.out _).mono ?_
  rintro e w9 ⟨rfl, t9⟩
  have n0 := t9.cell (cell_of (heap_alloc_new w8 _) 0); have n1 := t9.cell (cell_of (heap_alloc_new w8 _) 1); have n2 := t9.cell (cell_of (heap_alloc_new w8 _) 2); have n3 := t9.cell (cell_of (heap_alloc_new w8 _) 3)
  have n4 := t9.cell (cell_of (heap_alloc_new w8 _) 4); have n5 := t9.cell (cell_of (heap_alloc_new w8 _) 5); have n6 := t9.cell (cell_of (heap_alloc_new w8 _) 6); have n7 := t9.cell (cell_of (heap_alloc_new w8 _) 7)
  simp at n0 n1 n2 n3 n4 n5 n6 n7
  have T9 := hid (((Touch.refl [] w8).alloc _).trans t9 (by simp))
  have m0 := T9.out.cell e0; have m1 := T9.out.cell e1; have m2 := T9.out.cell e2; have m3 := T9.out.cell e3
  have m4 := T9.out.cell e4; have m5 := T9.out.cell e5; have m6 := T9.out.cell e6; have m7 := T9.out.cell e7
  clear e0 e1 e2 e3 e4 e5 e6 e7 t9
  go_wp2_with fail
  refine (CB.out _).mono ?_
  rintro e w10 ⟨rfl, t10⟩
  clear n0 n1 n2 n3 n4 n5 n6 n7 m0 m1 m2 m3 m4 m5 m6 m7
  go_wp2_with fail
  go_ret
  exact ⟨rfl, (TT.out.trans T9.out (by simp)).trans t10 (by simp)⟩

theorem walk_EventStored (s : StD) (hok : s.Ok) (b : ByteArray) (_wb : b.size ≤ maxLen) (w : World) : Calls Try.prog 4 #[s.agg, .string b] w fun e w' => e = .returned (.bool true) ∧ Touch [] w w' := by
  cases h : validS s with
  | true => exact stored_good s h hok b w
  | false => exact stored_bad s h hok b w
end Go.Proofs.Ytcihnfgfficmlaa
