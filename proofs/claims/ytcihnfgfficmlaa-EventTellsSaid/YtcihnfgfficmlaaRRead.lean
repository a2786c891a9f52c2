/- event's read of a command, Get. -/
import Derived.Test.YtcihnfgfficmlaaRGetC
import Derived.Test.YtcihnfgfficmlaaRPut
namespace Go.Proofs.Ytcihnfgfficmlaa
open Go.RowKit Go.Lib
set_option maxRecDepth 100000

theorem iEnd_ok {st : List UInt8 × Int} (h : (iEnd st).2 = 0) : st.2 = 0 := by
  unfold iEnd at h
  split at h
  · exact h
  · cases h
theorem iTake_ok {st : List UInt8 × Int} {n : Nat} (h : (iTake st n).2.2 = 0) : st.2 = 0 := by
  by_cases e : st.2 = 0
  · exact e
  · rw [iTake_bad st n e] at h; exact h
theorem got_ok {b : List UInt8} (h : (iEnd (gotOf b).r.2).2 = 0) : (gotOf b).l.2.2 = 0 := by
  have hr := reads_got b
  have h1 := iEnd_ok h
  rw [hr.r] at h1
  have h2 := iTake_ok h1
  rw [hr.q] at h2
  have h3 := iTake_ok h2
  rw [hr.p] at h3
  exact iTake_ok h3

set_option maxHeartbeats 4000000 in
theorem readC_any (B : ByteArray) (w : World) (hB : B.size ≤ 4000) : Calls Try.prog 47 #[.string B, .func (.func 48) #[] #[], .func (.func 16) #[] #[]] w (GetPost B.data.toList w) := by
  have hsz := list_len B
  have CG := hid (fun x w (h : InIs w x (B.data.toList, 0)) => getCmd_any x B.data.toList w h (by omega))
  have CN := hid (newIn_any B)
  have hok := hid (@got_ok B.data.toList)
  have hE : Hid (∀ x w, InIs w x (gotOf B.data.toList).r.2 → Calls Try.prog 75 #[.pointer (some ⟨x, 0, none⟩)] w fun e w' => e = .returned (.int .i64 (iEnd (gotOf B.data.toList).r.2).2) ∧ InPost x (iEnd (gotOf B.data.toList).r.2) w w') := fun x w h => end_st x _ w h
  have hG : Hid (getOf B.data.toList = if (iEnd (gotOf B.data.toList).r.2).2 ≠ 0 then (zeroC, (iEnd (gotOf B.data.toList).r.2).2) else if checkC (gotOf B.data.toList).cmd ≠ 0 ∨ layC (gotOf B.data.toList).cmd ≠ B.data.toList then (zeroC, 6) else ((gotOf B.data.toList).cmd, 0)) := rfl
  unfold CmdPost at CG
  unfold Got.cmd at hG
  clear hB hsz
  generalize gotOf B.data.toList = g at *
  obtain ⟨gk, gt, gs, gx, gn, gl, gp, gq, gr⟩ := g
  simp only [] at CG hok hE hG
  generalize hnk : val gk.1 = nk at *
  generalize hnt : i64 (val gt.1) = nt at *
  generalize hnx : i64 (val gx.1) = nx at *
  generalize hnp : i64 (val gp.1) = np at *
  generalize hnq : i64 (val gq.1) = nq at *
  generalize hnr : i64 (val gr.1) = nr at *
  clear hnk hnt hnx hnp hnq hnr
  unfold GetPost
  unfold CmdD.agg at CG
  obtain ⟨w1, hw1⟩ : ∃ w1, w1 = (w.alloc (.cells zcells tCmd)).alloc (.cells zcells tCmd) := ⟨_, rfl⟩
  have T1 : Hid (Touch [] w w1) := by rw [hw1]; exact hid (((Touch.refl [] w).alloc _).alloc _)
  have S1 : Hid (w1.heap.size = w.heap.size + 2) := by rw [hw1]; exact hid (by simp)
  have Z1 : Hid (w1.heap[w.heap.size]? = some (.cells zcells tCmd (0, 0))) := by
    rw [hw1]; exact hid (touch_blk0 ((Touch.refl [] _).alloc _) (heap_alloc_new w (.cells zcells tCmd)))
  have N1 : Hid (w1.heap[w.heap.size + 1]? = some (.cells zcells tCmd (0, 0))) := by
    have := heap_alloc_new (w.alloc (.cells zcells tCmd)) (.cells zcells tCmd)
    rw [show (w.alloc (.cells zcells tCmd)).heap.size = w.heap.size + 1 by simp] at this
    rw [hw1]; exact hid this
  unfold zcells at hw1
  simp only [tCmd] at hw1
  go_enter Try.func47, Try.ntmps47
  go_upto_region 2 with fail
  rw [← hw1]
  clear hw1
  go_wp2_with fail
  refine (CN.out w1).mono ?_
  rintro e w2 ⟨rfl, i2, t2⟩
  have I2 := hid i2
  have Z2 := hid (touch_blk0 t2 Z1.out)
  have N2 := hid (touch_blk0 t2 N1.out)
  have T2 := hid (T1.out.trans t2 (by simp))
  have S2 := hid (show w.heap.size + 2 ≤ w2.heap.size by have := S1.out; have := t2.size; omega)
  have hx0 : w1.heap.size = w.heap.size + 2 := S1.out
  have HX0 := hid hx0
  clear i2 t2 CN T1 Z1 N1 S1 hx0
  generalize w1.heap.size = x at *
  generalize hh0 : w.heap.size = h0 at *
  generalize hhn : h0 + 1 = hn at *
  go_upto_region 3 with fail
  go_wp2_with fail
  refine (CG.out x w2 I2.out).mono ?_
  rintro e w3 ⟨y, cap, l, rfl, hEv, hP, hy, hl⟩
  have hxlt := I2.out.lt
  have E3 := hid hEv
  have HY := hid (fun a (ha : y = some a) => Nat.le_trans S2.out (hy a ha))
  have HYX := hid (fun a (ha : y = some a) => show a.block ≠ x by have := hy a ha; omega)
  have HLL := hid hl
  have Z3 := hid (touch_blk0 hP.2 Z2.out (by have := HX0.out; simp; omega))
  have N3 := hid (touch_blk0 hP.2 N2.out (by have := HX0.out; simp; omega))
  have S3 := hid (Nat.le_trans S2.out hP.2.size)
  have I3 := hid hP.1
  have X3 := hid (Nat.lt_of_lt_of_le hxlt hP.2.size)
  have T3 : Hid (Touch [] w w3) := T2.out.trans hP.2 (fun f hf => .inr (by simp at hf; have := HX0.out; omega))
  clear hEv hP hy hl CG T2 I2 Z2 N2 S2 hxlt
  go_upto_region 4 with fail
  obtain ⟨W4, hW4⟩ : ∃ W4, W4 = w3.alloc (.cells #[.int .i64 (nk : Int), .int .i64 nt, .string (bytesT gs.1), .int .i64 nx, .slice y l.length cap, .int .i64 np, .int .i64 nq, .int .i64 nr] 26) := ⟨_, rfl⟩
  have t4 : Touch [] w3 W4 := by rw [hW4]; exact (Touch.refl [] w3).alloc _
  have V4 : Hid (W4.heap[w3.heap.size]? = some (.cells #[.int .i64 (nk : Int), .int .i64 nt, .string (bytesT gs.1), .int .i64 nx, .slice y l.length cap, .int .i64 np, .int .i64 nq, .int .i64 nr] 26 (0, 0))) := by rw [hW4]; exact hid (heap_alloc_new w3 _)
  rw [← hW4]
  have Z4 := hid (touch_blk0 t4 Z3.out)
  have N4 := hid (touch_blk0 t4 N3.out)
  have I4 := hid (I3.out.keep t4 (by simp))
  have E4 := hid (E3.out.touch t4)
  have T4 := hid (T3.out.trans t4 (by simp))
  clear hW4 t4 Z3 N3 I3 E3 T3
  generalize w3.heap.size = hv at *
  go_wp2_with fail
  refine (hE.out x W4 I4.out).mono ?_
  rintro e w5 ⟨rfl, p5⟩
  have hHX : x ≠ h0 ∧ x ≠ hn ∧ x ≠ hv := by have := HX0.out; have := X3.out; omega
  have Z5 := hid (touch_blk0 p5.2 Z4.out (by simp; omega))
  have N5 := hid (touch_blk0 p5.2 N4.out (by simp; omega))
  have V5 := hid (touch_blk0 p5.2 V4.out (by simp; omega))
  have E5 := hid (evX_keep E4.out p5.2 (fun a ha => by simpa using HYX.out a ha))
  have T5 : Hid (Touch [] w w5) := T4.out.trans p5.2 (fun f hf => .inr (by simp at hf; have := HX0.out; omega))
  have hl0 : w.heap.size ≤ h0 := by omega
  have hn0 : hn ≠ h0 := by omega
  have hv0 : hv ≠ h0 := by have := S3.out; omega
  clear p5 hE Z4 N4 V4 I4 E4 T4 HYX hHX X3
  by_cases hE0 : (iEnd gr.2).2 = 0
  rotate_left
  · have he3 : ((iEnd gr.2).2 != 0) = true := by simpa using hE0
    have hgz := hid (hG.out.trans (if_pos hE0))
    generalize (iEnd gr.2).2 = er at *
    have hn0' := hid hn0
    have z0 := cell_of Z5.out 0; have z1 := cell_of Z5.out 1; have z2 := cell_of Z5.out 2; have z3 := cell_of Z5.out 3; have z4 := cell_of Z5.out 4; have z5 := cell_of Z5.out 5; have z6 := cell_of Z5.out 6; have z7 := cell_of Z5.out 7
    have y0 := free_of Z5.out 0; have y1 := free_of Z5.out 1; have y2 := free_of Z5.out 2; have y3 := free_of Z5.out 3; have y4 := free_of Z5.out 4; have y5 := free_of Z5.out 5; have y6 := free_of Z5.out 6; have y7 := free_of Z5.out 7
    obtain ⟨k0, k1, k2, k3, k4, k5, k6, k7⟩ := cells_of (show w5.heap[hn]? = some (.cells #[.int .i64 0, .int .i64 0, .string ⟨#[]⟩, .int .i64 0, .slice none 0 0, .int .i64 0, .int .i64 0, .int .i64 0] tCmd (0, 0)) from N5.out)
    unfold zcells at z0 z1 z2 z3 z4 z5 z6 z7
    clear hhn hh0
    go_wp2
    refine bodyPost_ret (v := .tuple #[zeroC.agg none 0, .int .i64 er]) (by simp [results, Try.results47, go_sem, z0, z1, z2, z3, z4, z5, z6, z7, CmdD.agg, zeroC]) rfl ⟨none, 0, by rw [hgz.out], by rw [hgz.out]; exact fun i hi => absurd hi (Nat.not_lt_zero i), (((((((((T5.out).setCell (.inr hl0) _).setCell (.inr hl0) _).setCell (.inr hl0) _).setCell (.inr hl0) _).setCell (.inr hl0) _).setCell (.inr hl0) _).setCell (.inr hl0) _).setCell (.inr hl0) _), fun a ha => by cases ha⟩
  have hg2 := hG.out
  rw [if_neg (show ¬ (iEnd gr.2).2 ≠ 0 by simpa using hE0)] at hg2
  obtain rfl := HLL.out (hok.out hE0)
  rw [hE0]
  clear hE0 hG HLL hok
  obtain ⟨c, hc⟩ : ∃ c : CmdD, c = ⟨(nk : Int), nt, bytesT gs.1, nx, gl.1, np, nq, nr⟩ := ⟨_, rfl⟩
  rw [← hc] at hg2
  have hP := evPut_any c y cap w5 (by rw [hc]; exact E5.out)
  have hagg : c.agg y cap = .agg #[.int .i64 (nk : Int), .int .i64 nt, .string (bytesT gs.1), .int .i64 nx, .slice y gl.1.length cap, .int .i64 np, .int .i64 nq, .int .i64 nr] := by rw [hc]; rfl
  rw [hagg] at hP
  have HEVS := hid (show c.evs = gl.1 by rw [hc])
  have HP := hid hP
  have HG := hid hg2
  have HAGG := hid hagg
  obtain ⟨k0, k1, k2, k3, k4, k5, k6, k7⟩ := cells_of V5.out
  clear hP hg2 hc hagg
  by_cases hck : checkC c = 0
  rotate_left
  · have hgz := hid (HG.out.trans (if_pos (.inl hck)))
    have hck2 : (checkC c != 0) = true := by simpa using hck
    generalize checkC c = kc at *
    clear hck HG HAGG HEVS
    go_upto_region 8 with (go_at_call 16; refine HP.out.mono ?_; rintro e w6 ⟨rfl, t6⟩)
    have Z6 := hid (touch_blk0 t6 Z5.out)
    have N6 := hid (touch_blk0 t6 N5.out)
    have T6 := hid (T5.out.trans t6 (by simp))
    clear k0 k1 k2 k3 k4 k5 k6 k7 t6 T5 HP
    clear hhn hh0
    have z0 := cell_of Z6.out 0; have z1 := cell_of Z6.out 1; have z2 := cell_of Z6.out 2; have z3 := cell_of Z6.out 3; have z4 := cell_of Z6.out 4; have z5 := cell_of Z6.out 5; have z6 := cell_of Z6.out 6; have z7 := cell_of Z6.out 7
    have y0 := free_of Z6.out 0; have y1 := free_of Z6.out 1; have y2 := free_of Z6.out 2; have y3 := free_of Z6.out 3; have y4 := free_of Z6.out 4; have y5 := free_of Z6.out 5; have y6 := free_of Z6.out 6; have y7 := free_of Z6.out 7
    obtain ⟨k0, k1, k2, k3, k4, k5, k6, k7⟩ := cells_of (show w6.heap[hn]? = some (.cells #[.int .i64 0, .int .i64 0, .string ⟨#[]⟩, .int .i64 0, .slice none 0 0, .int .i64 0, .int .i64 0, .int .i64 0] tCmd (0, 0)) from N6.out)
    unfold zcells at z0 z1 z2 z3 z4 z5 z6 z7
    go_wp2
    refine bodyPost_ret (v := .tuple #[zeroC.agg none 0, .int .i64 6]) (by simp [results, Try.results47, go_sem, z0, z1, z2, z3, z4, z5, z6, z7, CmdD.agg, zeroC]) rfl ⟨none, 0, by rw [hgz.out], by rw [hgz.out]; exact fun i hi => absurd hi (Nat.not_lt_zero i), (((((((((T6.out).setCell (.inr hl0) _).setCell (.inr hl0) _).setCell (.inr hl0) _).setCell (.inr hl0) _).setCell (.inr hl0) _).setCell (.inr hl0) _).setCell (.inr hl0) _).setCell (.inr hl0) _), fun a ha => by cases ha⟩
  have hpb : putB c = ⟨(layC c).toArray⟩ := by unfold putB; rw [if_pos hck]
  rw [hpb, hck] at HP
  by_cases hlay : layC c = B.data.toList
  rotate_left
  · have hgz := hid (HG.out.trans (if_pos (.inr hlay)))
    have hq : (ByteArray.toList ⟨(layC c).toArray⟩ == B.toList) = false := by
      rw [ByteArray.toList_eq, ByteArray.toList_eq, Bool.eq_false_iff]
      intro e
      exact hlay (eq_of_beq e)
    generalize (⟨(layC c).toArray⟩ : ByteArray) = lb at *
    clear hck HG HAGG HEVS hlay hpb
    go_upto_region 8 with (go_at_call 16; refine HP.out.mono ?_; rintro e w6 ⟨rfl, t6⟩)
    have Z6 := hid (touch_blk0 t6 Z5.out)
    have N6 := hid (touch_blk0 t6 N5.out)
    have T6 := hid (T5.out.trans t6 (by simp))
    clear k0 k1 k2 k3 k4 k5 k6 k7 t6 T5 HP
    clear hhn hh0
    have z0 := cell_of Z6.out 0; have z1 := cell_of Z6.out 1; have z2 := cell_of Z6.out 2; have z3 := cell_of Z6.out 3; have z4 := cell_of Z6.out 4; have z5 := cell_of Z6.out 5; have z6 := cell_of Z6.out 6; have z7 := cell_of Z6.out 7
    have y0 := free_of Z6.out 0; have y1 := free_of Z6.out 1; have y2 := free_of Z6.out 2; have y3 := free_of Z6.out 3; have y4 := free_of Z6.out 4; have y5 := free_of Z6.out 5; have y6 := free_of Z6.out 6; have y7 := free_of Z6.out 7
    obtain ⟨k0, k1, k2, k3, k4, k5, k6, k7⟩ := cells_of (show w6.heap[hn]? = some (.cells #[.int .i64 0, .int .i64 0, .string ⟨#[]⟩, .int .i64 0, .slice none 0 0, .int .i64 0, .int .i64 0, .int .i64 0] tCmd (0, 0)) from N6.out)
    unfold zcells at z0 z1 z2 z3 z4 z5 z6 z7
    go_wp2
    refine bodyPost_ret (v := .tuple #[zeroC.agg none 0, .int .i64 6]) (by simp [results, Try.results47, go_sem, z0, z1, z2, z3, z4, z5, z6, z7, CmdD.agg, zeroC]) rfl ⟨none, 0, by rw [hgz.out], by rw [hgz.out]; exact fun i hi => absurd hi (Nat.not_lt_zero i), (((((((((T6.out).setCell (.inr hl0) _).setCell (.inr hl0) _).setCell (.inr hl0) _).setCell (.inr hl0) _).setCell (.inr hl0) _).setCell (.inr hl0) _).setCell (.inr hl0) _).setCell (.inr hl0) _), fun a ha => by cases ha⟩
  have hgz := hid (HG.out.trans (if_neg (by simp [hck, hlay])))
  have hlb : (⟨(layC c).toArray⟩ : ByteArray) = B := by rw [hlay]
  rw [hlb] at HP
  clear hck HG hlay hpb hlb
  go_upto_region 8 with (go_at_call 16; refine HP.out.mono ?_; rintro e w6 ⟨rfl, t6⟩)
  have Z6 := hid (touch_blk0 t6 Z5.out)
  have V6 := hid (touch_blk0 t6 V5.out)
  have E6 := hid (E5.out.touch t6)
  have T6 := hid (T5.out.trans t6 (by simp))
  have HH := hid hh0
  clear k0 k1 k2 k3 k4 k5 k6 k7 t6 T5 HP
  clear hhn
  have z0 := cell_of Z6.out 0; have z1 := cell_of Z6.out 1; have z2 := cell_of Z6.out 2; have z3 := cell_of Z6.out 3; have z4 := cell_of Z6.out 4; have z5 := cell_of Z6.out 5; have z6 := cell_of Z6.out 6; have z7 := cell_of Z6.out 7
  have y0 := free_of Z6.out 0; have y1 := free_of Z6.out 1; have y2 := free_of Z6.out 2; have y3 := free_of Z6.out 3; have y4 := free_of Z6.out 4; have y5 := free_of Z6.out 5; have y6 := free_of Z6.out 6; have y7 := free_of Z6.out 7
  obtain ⟨k0, k1, k2, k3, k4, k5, k6, k7⟩ := cells_of V6.out
  unfold zcells at z0 z1 z2 z3 z4 z5 z6 z7
  go_wp2
  have T8 : ∀ a0 a1 a2 a3 a4 a5 a6 a7 : Value, Touch [h0] w6 ((((((((w6.setCell ⟨h0, 0, none⟩ a0).setCell ⟨h0, 1, none⟩ a1).setCell ⟨h0, 2, none⟩ a2).setCell ⟨h0, 3, none⟩ a3).setCell ⟨h0, 4, none⟩ a4).setCell ⟨h0, 5, none⟩ a5).setCell ⟨h0, 6, none⟩ a6).setCell ⟨h0, 7, none⟩ a7) := fun _ _ _ _ _ _ _ _ =>
    (((((((((Touch.refl _ _).setCell (.inl (by simp)) _).setCell (.inl (by simp)) _).setCell (.inl (by simp)) _).setCell (.inl (by simp)) _).setCell (.inl (by simp)) _).setCell (.inl (by simp)) _).setCell (.inl (by simp)) _).setCell (.inl (by simp)) _)
  refine bodyPost_ret (v := .tuple #[.agg #[.int .i64 (nk : Int), .int .i64 nt, .string (bytesT gs.1), .int .i64 nx, .slice y gl.1.length cap, .int .i64 np, .int .i64 nq, .int .i64 nr], .int .i64 0]) (by simp [results, Try.results47, go_sem, z0, z1, z2, z3, z4, z5, z6, z7]) rfl ⟨y, cap, by rw [hgz.out]; simp only []; rw [HAGG.out], by rw [hgz.out]; simp only []; rw [HEVS.out]; exact evX_keep E6.out (T8 _ _ _ _ _ _ _ _) (fun a ha => by have := HY.out a ha; simp; omega), (((((((((T6.out).setCell (.inr hl0) _).setCell (.inr hl0) _).setCell (.inr hl0) _).setCell (.inr hl0) _).setCell (.inr hl0) _).setCell (.inr hl0) _).setCell (.inr hl0) _).setCell (.inr hl0) _), fun a ha => by have := HY.out a ha; have := HH.out; omega⟩
end Go.Proofs.Ytcihnfgfficmlaa
