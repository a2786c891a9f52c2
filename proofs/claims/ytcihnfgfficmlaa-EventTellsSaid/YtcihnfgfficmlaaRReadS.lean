/- event's getStored, read of a stored event. -/
import Derived.Test.YtcihnfgfficmlaaRPutS
import Derived.Test.YtcihnfgfficmlaaGsto7
namespace Go.Proofs.Ytcihnfgfficmlaa
open Go.RowKit Go.Lib
set_option maxRecDepth 100000

set_option maxHeartbeats 4000000 in
theorem getSto_any (x : Nat) (b : List UInt8) (w : World) (h : InIs w x (b, 0)) (hB : b.length ≤ 4000) : Calls Try.prog 60 #[.pointer (some ⟨x, 0, none⟩)] w fun r w' => r = .returned (gotS b).sto.agg ∧ InPost x (gotS b).t.2 w w' := by
  have hlt := h.lt
  obtain ⟨g, hg⟩ : ∃ g, g = gotS b := ⟨_, rfl⟩
  have hr := reads_gotS b
  rw [← hg] at hr ⊢
  obtain ⟨ge, gs, gv, gp, gt⟩ := g
  obtain ⟨e1, e2, e3, e4, e5⟩ := hr
  simp only [] at e1 e2 e3 e4 e5 ⊢
  have l1 : ge.2.1.length ≤ 4000 := by rw [e1]; exact Nat.le_trans (takeE_le _) (by simp only []; omega)
  have C1 := hid (fun w (h : InIs w x (b, 0)) => getEv_st x (b, 0) w h (by simp only []; omega))
  rw [← e1] at C1
  have C2 := hid (fun w (h : InIs w x ge.2) => inText_st x ge.2 60 w h (by omega))
  rw [← e2] at C2
  have C3 := hid (fun w (h : InIs w x gs.2) => inI64_at h)
  rw [← e3] at C3
  have C4 := hid (fun w (h : InIs w x gv.2) => inI64_at h)
  rw [← e4] at C4
  have C5 := hid (fun w (h : InIs w x gp.2) => inI64_at h)
  rw [← e5] at C5
  unfold GotS.sto StD.agg
  simp only []
  unfold EvD.agg at C1
  clear e1 e2 e3 e4 e5 l1 hg hB
  generalize hnv : i64 (val gv.1) = nv at *
  generalize hnp : i64 (val gp.1) = np at *
  generalize hnt : i64 (val gt.1) = nt at *
  clear hnv hnp hnt
  obtain ⟨⟨a0, a1, a2, a3⟩, st1⟩ := ge
  simp only [] at C1 C2 ⊢
  have hsf := store_flt
  obtain ⟨w1, hw1⟩ : ∃ w1, w1 = w.alloc (.cells zstos tSto) := ⟨_, rfl⟩
  have R1 : Hid (InPost x (b, 0) w w1) := hid ⟨h.keep (by rw [hw1]; exact (Touch.refl [] w).alloc _) (by simp), by rw [hw1]; exact (Touch.refl [x] w).alloc _⟩
  have Z1 := hid (heap_alloc_new w (.cells zstos tSto))
  rw [← hw1] at Z1
  have hne : w.heap.size ∉ [x] := by simp; omega
  have HNE := hid hne
  clear h hlt hne
  unfold zstos at hw1
  simp only [tSto] at hw1
  go_enter Try.func60, Try.ntmps60
  go_upto_region 1 with fail
  rw [← hw1]
  clear hw1
  go_wp2_with fail
  refine (C1.out w1 R1.out.1).mono ?_
  rintro e w2 ⟨rfl, pp⟩
  have R2 := hid (pp.up R1.out.2)
  have Z2 := hid (touch_blk0 pp.2 Z1.out HNE.out)
  clear pp C1 R1 Z1
  go_wp2_with fail
  refine (C2.out w2 R2.out.1).mono ?_
  rintro e w3 ⟨rfl, pp⟩
  have R3 := hid (pp.up R2.out.2)
  have Z3 := hid (touch_blk0 pp.2 Z2.out HNE.out)
  clear pp C2 R2 Z2
  go_wp2_with fail
  refine (C3.out w3 R3.out.1).mono ?_
  rintro e w4 ⟨rfl, pp⟩
  have R4 := hid (pp.up R3.out.2)
  have Z4 := hid (touch_blk0 pp.2 Z3.out HNE.out)
  clear pp C3 R3 Z3
  go_wp2_with fail
  refine (C4.out w4 R4.out.1).mono ?_
  rintro e w5 ⟨rfl, pp⟩
  have R5 := hid (pp.up R4.out.2)
  have Z5 := hid (touch_blk0 pp.2 Z4.out HNE.out)
  clear pp C4 R4 Z4
  go_wp2_with fail
  refine (C5.out w5 R5.out.1).mono ?_
  rintro e w6 ⟨rfl, pp⟩
  have R6 := hid (pp.up R5.out.2)
  have Z6 := hid (touch_blk0 pp.2 Z5.out HNE.out)
  clear pp C5 R5 Z5
  have z0 := cell_of Z6.out 0; have z1 := cell_of Z6.out 1; have z2 := cell_of Z6.out 2; have z3 := cell_of Z6.out 3; have z4 := cell_of Z6.out 4; have z5 := cell_of Z6.out 5; have z6 := cell_of Z6.out 6; have z7 := cell_of Z6.out 7
  have y0 := free_of Z6.out 0; have y1 := free_of Z6.out 1; have y2 := free_of Z6.out 2; have y3 := free_of Z6.out 3; have y4 := free_of Z6.out 4; have y5 := free_of Z6.out 5; have y6 := free_of Z6.out 6; have y7 := free_of Z6.out 7
  unfold zstos at z0 z1 z2 z3 z4 z5 z6 z7
  go_wp2
  have hx : x ≠ w.heap.size := by have := HNE.out; simp at this; omega
  have F : ∀ {W : World} (i : Nat) (u : Value), InPost x gt.2 w W → InPost x gt.2 w (W.setCell ⟨w.heap.size, i, none⟩ u) := fun {W} i u h => ⟨⟨(heap_set_other u (by show x ≠ w.heap.size; exact hx)).trans h.1.1, h.1.2⟩, h.2.setCell (.inr (Nat.le_refl _)) u⟩
  refine bodyPost_ret (v := .agg #[.int .i64 a0, .string a1, .string a2, .float .f64 a3, .string (bytesT gs.1), .int .i64 nv, .int .i64 np, .int .i64 nt]) (by simp [results, Try.results60, go_sem, z0, z1, z2, z3, z4, z5, z6, z7, bytesT]) rfl ⟨rfl, F 7 _ (F 6 _ (F 5 _ (F 4 _ (F 3 _ (F 2 _ (F 1 _ (F 0 _ R6.out)))))))⟩

theorem gotS_lay (b : List UInt8) : (getS b) = if (iEnd (gotS b).t.2).2 ≠ 0 then (zeroS, (iEnd (gotS b).t.2).2) else if validS (gotS b).sto = false ∨ layS (gotS b).sto ≠ b then (zeroS, 6) else ((gotS b).sto, 0) := rfl

set_option maxHeartbeats 4000000 in
theorem readS_any (B : ByteArray) (w : World) (hB : B.size ≤ 4000) : Calls Try.prog 59 #[.string B, .func (.func 60) #[] #[], .func (.func 27) #[] #[]] w fun r w' => r = .returned (.tuple #[(getS B.data.toList).1.agg, .int .i64 (getS B.data.toList).2]) ∧ Touch [] w w' := by
  have hsz := list_len B
  have CG := hid (fun x w (h : InIs w x (B.data.toList, 0)) => getSto_any x B.data.toList w h (by omega))
  have CN := hid (newIn_any B)
  have hE : Hid (∀ x w, InIs w x (gotS B.data.toList).t.2 → Calls Try.prog 75 #[.pointer (some ⟨x, 0, none⟩)] w fun e w' => e = .returned (.int .i64 (iEnd (gotS B.data.toList).t.2).2) ∧ InPost x (iEnd (gotS B.data.toList).t.2) w w') := fun x w h => end_st x _ w h
  have hG := hid (gotS_lay B.data.toList)
  clear hB hsz
  generalize gotS B.data.toList = g at *
  generalize hc : g.sto = c at *
  generalize g.t.2 = st at *
  clear hc
  have CP := hid (fun w => evPutS_any c w)
  have HAG := hid (show c.agg = .agg #[.int .i64 c.e.id, .string c.e.typ, .string c.e.data, .float .f64 c.e.val, .string c.stream, .int .i64 c.ver, .int .i64 c.pos, .int .i64 c.time] from rfl)
  rw [HAG.out] at CG CP
  generalize hd0 : c.e.id = a0 at *
  generalize hd1 : c.e.typ = a1 at *
  generalize hd2 : c.e.data = a2 at *
  generalize hd3 : c.e.val = a3 at *
  generalize hd4 : c.stream = a4 at *
  generalize hd5 : c.ver = a5 at *
  generalize hd6 : c.pos = a6 at *
  generalize hd7 : c.time = a7 at *
  clear hd0 hd1 hd2 hd3 hd4 hd5 hd6 hd7
  have hsf := store_flt
  obtain ⟨w1, hw1⟩ : ∃ w1, w1 = (w.alloc (.cells zstos tSto)).alloc (.cells zstos tSto) := ⟨_, rfl⟩
  have T1 : Hid (Touch [] w w1) := by rw [hw1]; exact hid (((Touch.refl [] w).alloc _).alloc _)
  have S1 : Hid (w1.heap.size = w.heap.size + 2) := by rw [hw1]; exact hid (by simp)
  have Z1 : Hid (w1.heap[w.heap.size]? = some (.cells zstos tSto (0, 0))) := by
    rw [hw1]; exact hid (touch_blk0 ((Touch.refl [] _).alloc _) (heap_alloc_new w (.cells zstos tSto)))
  have N1 : Hid (w1.heap[w.heap.size + 1]? = some (.cells zstos tSto (0, 0))) := by
    have := heap_alloc_new (w.alloc (.cells zstos tSto)) (.cells zstos tSto)
    rw [show (w.alloc (.cells zstos tSto)).heap.size = w.heap.size + 1 by simp] at this
    rw [hw1]; exact hid this
  unfold zstos at hw1
  simp only [tSto] at hw1
  go_enter Try.func59, Try.ntmps59
  go_upto_region 2 with fail
  rw [← hw1]
  clear hw1
  go_wp2_with fail
  refine (CN.out w1).mono ?_
  rintro e w2 ⟨rfl, i2, t2⟩
  have I2 := hid i2
  have Z2 := hid (touch_blk0 t2 Z1.out)
  have N2 := hid (touch_blk0 t2 N1.out)
  have T2 := hid (T1.out.trans t2 (by simp))
  have S2 := hid (show w.heap.size + 2 ≤ w2.heap.size by have := S1.out; have := t2.size; omega)
  have HX0 := hid (show w1.heap.size = w.heap.size + 2 from S1.out)
  clear i2 t2 CN T1 Z1 N1 S1
  generalize w1.heap.size = x at *
  generalize hh0 : w.heap.size = h0 at *
  generalize hhn : h0 + 1 = hn at *
  go_upto_region 3 with fail
  go_wp2_with fail
  refine (CG.out x w2 I2.out).mono ?_
  rintro e w3 ⟨rfl, hP⟩
  have hxlt := I2.out.lt
  have Z3 := hid (touch_blk0 hP.2 Z2.out (by have := HX0.out; simp; omega))
  have N3 := hid (touch_blk0 hP.2 N2.out (by have := HX0.out; simp; omega))
  have S3 := hid (Nat.le_trans S2.out hP.2.size)
  have I3 := hid hP.1
  have X3 := hid (Nat.lt_of_lt_of_le hxlt hP.2.size)
  have T3 : Hid (Touch [] w w3) := T2.out.trans hP.2 (fun f hf => .inr (by simp at hf; have := HX0.out; omega))
  clear hP CG T2 I2 Z2 N2 S2 hxlt
  go_upto_region 4 with fail
  obtain ⟨W4, hW4⟩ : ∃ W4, W4 = w3.alloc (.cells #[.int .i64 a0, .string a1, .string a2, .float .f64 a3, .string a4, .int .i64 a5, .int .i64 a6, .int .i64 a7] 44) := ⟨_, rfl⟩
  have t4 : Touch [] w3 W4 := by rw [hW4]; exact (Touch.refl [] w3).alloc _
  have V4 : Hid (W4.heap[w3.heap.size]? = some (.cells #[.int .i64 a0, .string a1, .string a2, .float .f64 a3, .string a4, .int .i64 a5, .int .i64 a6, .int .i64 a7] 44 (0, 0))) := by rw [hW4]; exact hid (heap_alloc_new w3 _)
  rw [← hW4]
  have Z4 := hid (touch_blk0 t4 Z3.out)
  have N4 := hid (touch_blk0 t4 N3.out)
  have I4 := hid (I3.out.keep t4 (by simp))
  have T4 := hid (T3.out.trans t4 (by simp))
  clear hW4 t4 Z3 N3 I3 T3
  generalize w3.heap.size = hv at *
  go_wp2_with fail
  refine (hE.out x W4 I4.out).mono ?_
  rintro e w5 ⟨rfl, p5⟩
  have hHX : x ≠ h0 ∧ x ≠ hn ∧ x ≠ hv := by have := HX0.out; have := X3.out; omega
  have Z5 := hid (touch_blk0 p5.2 Z4.out (by simp; omega))
  have N5 := hid (touch_blk0 p5.2 N4.out (by simp; omega))
  have V5 := hid (touch_blk0 p5.2 V4.out (by simp; omega))
  have T5 : Hid (Touch [] w w5) := T4.out.trans p5.2 (fun f hf => .inr (by simp at hf; have := HX0.out; omega))
  have hl0 : w.heap.size ≤ h0 := by omega
  have hn0 : hn ≠ h0 := by omega
  have hv0 : hv ≠ h0 := by have := S3.out; omega
  clear p5 hE Z4 N4 V4 I4 T4 hHX X3
  by_cases hE0 : (iEnd st).2 = 0
  rotate_left
  · have he3 : ((iEnd st).2 != 0) = true := by simpa using hE0
    have hgz := hid (hG.out.trans (if_pos hE0))
    generalize (iEnd st).2 = er at *
    have z0 := cell_of Z5.out 0; have z1 := cell_of Z5.out 1; have z2 := cell_of Z5.out 2; have z3 := cell_of Z5.out 3; have z4 := cell_of Z5.out 4; have z5 := cell_of Z5.out 5; have z6 := cell_of Z5.out 6; have z7 := cell_of Z5.out 7
    have y0 := free_of Z5.out 0; have y1 := free_of Z5.out 1; have y2 := free_of Z5.out 2; have y3 := free_of Z5.out 3; have y4 := free_of Z5.out 4; have y5 := free_of Z5.out 5; have y6 := free_of Z5.out 6; have y7 := free_of Z5.out 7
    obtain ⟨k0, k1, k2, k3, k4, k5, k6, k7⟩ := cells_of (show w5.heap[hn]? = some (.cells #[.int .i64 0, .string ⟨#[]⟩, .string ⟨#[]⟩, .float .f64 0, .string ⟨#[]⟩, .int .i64 0, .int .i64 0, .int .i64 0] tSto (0, 0)) from N5.out)
    unfold zstos at z0 z1 z2 z3 z4 z5 z6 z7
    clear hhn hh0
    go_wp2
    refine bodyPost_ret (v := .tuple #[zeroS.agg, .int .i64 er]) (by simp [results, Try.results59, go_sem, z0, z1, z2, z3, z4, z5, z6, z7, StD.agg, zeroS]) rfl ⟨by rw [hgz.out], (((((((((T5.out).setCell (.inr hl0) _).setCell (.inr hl0) _).setCell (.inr hl0) _).setCell (.inr hl0) _).setCell (.inr hl0) _).setCell (.inr hl0) _).setCell (.inr hl0) _).setCell (.inr hl0) _)⟩
  have hg2 := hG.out
  rw [if_neg (show ¬ (iEnd st).2 ≠ 0 by simpa using hE0)] at hg2
  rw [hE0]
  have HG := hid hg2
  clear hE0 hG hg2
  obtain ⟨k0, k1, k2, k3, k4, k5, k6, k7⟩ := cells_of V5.out
  by_cases hck : validS c = true
  rotate_left
  · have hck0 : validS c = false := by simpa using hck
    have hgz := hid (HG.out.trans (if_pos (.inl hck0)))
    have hpe : putSE c = 1 := by unfold putSE; rw [if_neg hck]
    rw [hpe] at CP
    generalize putSB c = pb at *
    clear hck hck0 HG HAG hpe
    go_upto_region 8 with (go_at_call 27; refine (CP.out _).mono ?_; rintro e w6 ⟨rfl, t6⟩)
    have Z6 := hid (touch_blk0 t6 Z5.out)
    have N6 := hid (touch_blk0 t6 N5.out)
    have T6 := hid (T5.out.trans t6 (by simp))
    clear k0 k1 k2 k3 k4 k5 k6 k7 t6 T5 CP
    clear hhn hh0
    have z0 := cell_of Z6.out 0; have z1 := cell_of Z6.out 1; have z2 := cell_of Z6.out 2; have z3 := cell_of Z6.out 3; have z4 := cell_of Z6.out 4; have z5 := cell_of Z6.out 5; have z6 := cell_of Z6.out 6; have z7 := cell_of Z6.out 7
    have y0 := free_of Z6.out 0; have y1 := free_of Z6.out 1; have y2 := free_of Z6.out 2; have y3 := free_of Z6.out 3; have y4 := free_of Z6.out 4; have y5 := free_of Z6.out 5; have y6 := free_of Z6.out 6; have y7 := free_of Z6.out 7
    obtain ⟨k0, k1, k2, k3, k4, k5, k6, k7⟩ := cells_of (show w6.heap[hn]? = some (.cells #[.int .i64 0, .string ⟨#[]⟩, .string ⟨#[]⟩, .float .f64 0, .string ⟨#[]⟩, .int .i64 0, .int .i64 0, .int .i64 0] tSto (0, 0)) from N6.out)
    unfold zstos at z0 z1 z2 z3 z4 z5 z6 z7
    go_wp2
    refine bodyPost_ret (v := .tuple #[zeroS.agg, .int .i64 6]) (by simp [results, Try.results59, go_sem, z0, z1, z2, z3, z4, z5, z6, z7, StD.agg, zeroS]) rfl ⟨by rw [hgz.out], (((((((((T6.out).setCell (.inr hl0) _).setCell (.inr hl0) _).setCell (.inr hl0) _).setCell (.inr hl0) _).setCell (.inr hl0) _).setCell (.inr hl0) _).setCell (.inr hl0) _).setCell (.inr hl0) _)⟩
  have hpb : putSB c = ⟨(layS c).toArray⟩ := by unfold putSB; rw [if_pos hck]
  have hpe : putSE c = 0 := by unfold putSE; rw [if_pos hck]
  rw [hpb, hpe] at CP
  by_cases hlay : layS c = B.data.toList
  rotate_left
  · have hgz := hid (HG.out.trans (if_pos (.inr hlay)))
    have hq : (ByteArray.toList ⟨(layS c).toArray⟩ == B.toList) = false := by
      rw [ByteArray.toList_eq, ByteArray.toList_eq, Bool.eq_false_iff]
      intro e
      exact hlay (eq_of_beq e)
    generalize (⟨(layS c).toArray⟩ : ByteArray) = lb at *
    clear hck HG HAG hlay hpb hpe
    go_upto_region 8 with (go_at_call 27; refine (CP.out _).mono ?_; rintro e w6 ⟨rfl, t6⟩)
    have Z6 := hid (touch_blk0 t6 Z5.out)
    have N6 := hid (touch_blk0 t6 N5.out)
    have T6 := hid (T5.out.trans t6 (by simp))
    clear k0 k1 k2 k3 k4 k5 k6 k7 t6 T5 CP
    clear hhn hh0
    have z0 := cell_of Z6.out 0; have z1 := cell_of Z6.out 1; have z2 := cell_of Z6.out 2; have z3 := cell_of Z6.out 3; have z4 := cell_of Z6.out 4; have z5 := cell_of Z6.out 5; have z6 := cell_of Z6.out 6; have z7 := cell_of Z6.out 7
    have y0 := free_of Z6.out 0; have y1 := free_of Z6.out 1; have y2 := free_of Z6.out 2; have y3 := free_of Z6.out 3; have y4 := free_of Z6.out 4; have y5 := free_of Z6.out 5; have y6 := free_of Z6.out 6; have y7 := free_of Z6.out 7
    obtain ⟨k0, k1, k2, k3, k4, k5, k6, k7⟩ := cells_of (show w6.heap[hn]? = some (.cells #[.int .i64 0, .string ⟨#[]⟩, .string ⟨#[]⟩, .float .f64 0, .string ⟨#[]⟩, .int .i64 0, .int .i64 0, .int .i64 0] tSto (0, 0)) from N6.out)
    unfold zstos at z0 z1 z2 z3 z4 z5 z6 z7
    go_wp2
    refine bodyPost_ret (v := .tuple #[zeroS.agg, .int .i64 6]) (by simp [results, Try.results59, go_sem, z0, z1, z2, z3, z4, z5, z6, z7, StD.agg, zeroS]) rfl ⟨by rw [hgz.out], (((((((((T6.out).setCell (.inr hl0) _).setCell (.inr hl0) _).setCell (.inr hl0) _).setCell (.inr hl0) _).setCell (.inr hl0) _).setCell (.inr hl0) _).setCell (.inr hl0) _).setCell (.inr hl0) _)⟩
  have hgz := hid (HG.out.trans (if_neg (by simp [hck, hlay])))
  have hlb : (⟨(layS c).toArray⟩ : ByteArray) = B := by rw [hlay]
  rw [hlb] at CP
  clear hck HG hlay hpb hpe hlb
  go_upto_region 8 with (go_at_call 27; refine (CP.out _).mono ?_; rintro e w6 ⟨rfl, t6⟩)
  have Z6 := hid (touch_blk0 t6 Z5.out)
  have V6 := hid (touch_blk0 t6 V5.out)
  have T6 := hid (T5.out.trans t6 (by simp))
  clear k0 k1 k2 k3 k4 k5 k6 k7 t6 T5 CP
  clear hhn hh0
  have z0 := cell_of Z6.out 0; have z1 := cell_of Z6.out 1; have z2 := cell_of Z6.out 2; have z3 := cell_of Z6.out 3; have z4 := cell_of Z6.out 4; have z5 := cell_of Z6.out 5; have z6 := cell_of Z6.out 6; have z7 := cell_of Z6.out 7
  have y0 := free_of Z6.out 0; have y1 := free_of Z6.out 1; have y2 := free_of Z6.out 2; have y3 := free_of Z6.out 3; have y4 := free_of Z6.out 4; have y5 := free_of Z6.out 5; have y6 := free_of Z6.out 6; have y7 := free_of Z6.out 7
  obtain ⟨k0, k1, k2, k3, k4, k5, k6, k7⟩ := cells_of V6.out
  unfold zstos at z0 z1 z2 z3 z4 z5 z6 z7
  go_wp2
  refine bodyPost_ret (v := .tuple #[.agg #[.int .i64 a0, .string a1, .string a2, .float .f64 a3, .string a4, .int .i64 a5, .int .i64 a6, .int .i64 a7], .int .i64 0]) (by simp [results, Try.results59, go_sem, z0, z1, z2, z3, z4, z5, z6, z7]) rfl ⟨by rw [hgz.out]; simp only []; rw [HAG.out], (((((((((T6.out).setCell (.inr hl0) _).setCell (.inr hl0) _).setCell (.inr hl0) _).setCell (.inr hl0) _).setCell (.inr hl0) _).setCell (.inr hl0) _).setCell (.inr hl0) _).setCell (.inr hl0) _)⟩
end Go.Proofs.Ytcihnfgfficmlaa
