/- event's PutStored. -/
import Derived.Test.YtcihnfgfficmlaaRGet
namespace Go.Proofs.Ytcihnfgfficmlaa
open Go.RowKit Go.Lib
set_option maxRecDepth 100000

def putSB (s : StD) : ByteArray := if validS s = true then ⟨(layS s).toArray⟩ else ⟨#[]⟩
def putSE (s : StD) : Int := if validS s = true then 0 else 1
theorem putSV_eq (s : StD) : putSV s = .tuple #[.string (putSB s), .int .i64 (putSE s)] := by
  unfold putSV putSB putSE
  split <;> rfl

set_option maxHeartbeats 4000000 in
theorem evPutS_bad (s : StD) (w : World) (h : validS s = false) : Calls Try.prog 27 #[s.agg] w fun r w' => r = .returned (.tuple #[.string ⟨#[]⟩, .int .i64 1]) ∧ Touch [] w w' := by
  have C := hid (fun w => evValid_any s.e w)
  have D := hid (fun w => stm_any s.stream w)
  have C1 := hid (bounded_any s.ver)
  have C2 := hid (bounded_any s.pos)
  have C3 := hid (bounded_any s.time)
  unfold validS at h
  unfold EvD.agg at C
  unfold StD.agg
  generalize validE s.e = g at *
  generalize strm s.stream.data.toList = k at *
  generalize inGreat s.ver = g1 at *
  generalize inGreat s.pos = g2 at *
  generalize inGreat s.time = g3 at *
  obtain ⟨⟨a0, a1, a2, a3⟩, a4, a5, a6, a7⟩ := s
  simp only [] at C D C1 C2 C3 ⊢
  obtain ⟨W1, hW1⟩ : ∃ W1, W1 = w.alloc (.cells #[.int .i64 a0, .string a1, .string a2, .float .f64 a3, .string a4, .int .i64 a5, .int .i64 a6, .int .i64 a7] tSto) := ⟨_, rfl⟩
  have T1 : Hid (Touch [] w W1) := by rw [hW1]; exact hid ((Touch.refl [] w).alloc _)
  have B : Hid (W1.heap[w.heap.size]? = some (.cells #[.int .i64 a0, .string a1, .string a2, .float .f64 a3, .string a4, .int .i64 a5, .int .i64 a6, .int .i64 a7] tSto (0, 0))) := by rw [hW1]; exact hid (heap_alloc_new w _)
  simp only [tSto] at hW1
  have K := hid (fun w' (h : Touch [] W1 w') => cells_of (touch_blk0 h B.out))
  have tt : Touch [] W1 W1 := Touch.refl _ _
  cases g
  · clear h
    go_enter Try.func27, Try.ntmps27
    go_upto_region 1 with fail
    rw [← hW1]
    clear hW1
    obtain ⟨d0, d1, d2, d3, d4, d5, d6, d7⟩ := K.out _ tt
    go_wp2_with (go_at_call 12; refine (C.out _).mono ?_; rintro e w2 ⟨rfl, t2⟩; have tt := tt.trans t2 (by simp); obtain ⟨d0, d1, d2, d3, d4, d5, d6, d7⟩ := K.out _ tt)
    go_ret2
    exact ⟨rfl, T1.out.trans tt (by simp)⟩
  cases k
  · clear h
    go_enter Try.func27, Try.ntmps27
    go_upto_region 1 with fail
    rw [← hW1]
    clear hW1
    obtain ⟨d0, d1, d2, d3, d4, d5, d6, d7⟩ := K.out _ tt
    go_wp2_with (first | (go_at_call 12; refine (C.out _).mono ?_; rintro e w2 ⟨rfl, t2⟩; have tt := tt.trans t2 (by simp); obtain ⟨d0, d1, d2, d3, d4, d5, d6, d7⟩ := K.out _ tt) | (go_at_call 55; refine (D.out _).mono ?_; rintro e w3 ⟨rfl, t3⟩; have tt := tt.trans t3 (by simp); obtain ⟨d0, d1, d2, d3, d4, d5, d6, d7⟩ := K.out _ tt))
    go_ret2
    exact ⟨rfl, T1.out.trans tt (by simp)⟩
  cases g1
  · clear h
    go_enter Try.func27, Try.ntmps27
    go_upto_region 1 with fail
    rw [← hW1]
    clear hW1
    obtain ⟨d0, d1, d2, d3, d4, d5, d6, d7⟩ := K.out _ tt
    go_wp2_with (first | (go_at_call 12; refine (C.out _).mono ?_; rintro e w2 ⟨rfl, t2⟩; have tt := tt.trans t2 (by simp); obtain ⟨d0, d1, d2, d3, d4, d5, d6, d7⟩ := K.out _ tt) | (go_at_call 55; refine (D.out _).mono ?_; rintro e w3 ⟨rfl, t3⟩; have tt := tt.trans t3 (by simp); obtain ⟨d0, d1, d2, d3, d4, d5, d6, d7⟩ := K.out _ tt) | (go_at_call 53; with_reducible refine (C1.out _).mono ?_; rintro e w4 ⟨rfl, rfl⟩))
    go_ret2
    exact ⟨rfl, T1.out.trans tt (by simp)⟩
  cases g2
  · clear h
    go_enter Try.func27, Try.ntmps27
    go_upto_region 1 with fail
    rw [← hW1]
    clear hW1
    obtain ⟨d0, d1, d2, d3, d4, d5, d6, d7⟩ := K.out _ tt
    go_wp2_with (first | (go_at_call 12; refine (C.out _).mono ?_; rintro e w2 ⟨rfl, t2⟩; have tt := tt.trans t2 (by simp); obtain ⟨d0, d1, d2, d3, d4, d5, d6, d7⟩ := K.out _ tt) | (go_at_call 55; refine (D.out _).mono ?_; rintro e w3 ⟨rfl, t3⟩; have tt := tt.trans t3 (by simp); obtain ⟨d0, d1, d2, d3, d4, d5, d6, d7⟩ := K.out _ tt) | (go_at_call 53; with_reducible refine (C1.out _).mono ?_; rintro e w4 ⟨rfl, rfl⟩; clear C1) | (go_at_call 53; with_reducible refine (C2.out _).mono ?_; rintro e w4 ⟨rfl, rfl⟩))
    go_ret2
    exact ⟨rfl, T1.out.trans tt (by simp)⟩
  cases g3
  · clear h
    go_enter Try.func27, Try.ntmps27
    go_upto_region 1 with fail
    rw [← hW1]
    clear hW1
    obtain ⟨d0, d1, d2, d3, d4, d5, d6, d7⟩ := K.out _ tt
    go_wp2_with (first | (go_at_call 12; refine (C.out _).mono ?_; rintro e w2 ⟨rfl, t2⟩; have tt := tt.trans t2 (by simp); obtain ⟨d0, d1, d2, d3, d4, d5, d6, d7⟩ := K.out _ tt) | (go_at_call 55; refine (D.out _).mono ?_; rintro e w3 ⟨rfl, t3⟩; have tt := tt.trans t3 (by simp); obtain ⟨d0, d1, d2, d3, d4, d5, d6, d7⟩ := K.out _ tt) | (go_at_call 53; with_reducible refine (C1.out _).mono ?_; rintro e w4 ⟨rfl, rfl⟩; clear C1) | (go_at_call 53; with_reducible refine (C2.out _).mono ?_; rintro e w4 ⟨rfl, rfl⟩; clear C2) | (go_at_call 53; with_reducible refine (C3.out _).mono ?_; rintro e w4 ⟨rfl, rfl⟩))
    go_ret2
    exact ⟨rfl, T1.out.trans tt (by simp)⟩
  cases h

set_option maxHeartbeats 4000000 in
theorem evPutS_good (s : StD) (w : World) (h : validS s = true) : Calls Try.prog 27 #[s.agg] w fun r w' => r = .returned (.tuple #[.string ⟨(layS s).toArray⟩, .int .i64 0]) ∧ Touch [] w w' := by
  unfold validS at h
  simp only [Bool.and_eq_true] at h
  obtain ⟨⟨⟨⟨hv, hs⟩, b1⟩, b2⟩, b3⟩ := h
  have C := hid (fun w => evValid_any s.e w)
  have D := hid (fun w => stm_any s.stream w)
  have C1 := hid (bounded_any s.ver)
  have C2 := hid (bounded_any s.pos)
  have C3 := hid (bounded_any s.time)
  have hty := strm_size (valid_iff.1 hv).2.1
  have hda := (valid_iff.1 hv).2.2
  have hst := strm_size hs
  rw [hv] at C
  rw [hs] at D
  rw [b1] at C1; rw [b2] at C2; rw [b3] at C3
  have LE := hid (fun o F w (h : OutIs w o F ([], 0)) => putEv_st o F [] s.e w h (by simp) hty hda)
  have hll := layE_len s.e
  unfold EvD.agg at C LE
  unfold StD.agg
  obtain ⟨lb, hlb⟩ : ∃ lb, lb = layS s := ⟨_, rfl⟩
  rw [← hlb]
  unfold layS at hlb
  generalize layE s.e = BE at *
  obtain ⟨⟨a0, a1, a2, a3⟩, a4, a5, a6, a7⟩ := s
  simp only [] at hty hda hst C D LE hll C1 C2 C3 hlb ⊢
  have HLB := hid hlb
  clear hlb
  have hbe : BE.length ≤ 1000 := by omega
  have HST := hid hst
  have HBE := hid hbe
  clear hv hs hty hda hst hll hbe b1 b2 b3
  obtain ⟨W1, hW1⟩ : ∃ W1, W1 = w.alloc (.cells #[.int .i64 a0, .string a1, .string a2, .float .f64 a3, .string a4, .int .i64 a5, .int .i64 a6, .int .i64 a7] tSto) := ⟨_, rfl⟩
  have T1 : Hid (Touch [] w W1) := by rw [hW1]; exact hid ((Touch.refl [] w).alloc _)
  have S1 : Hid (w.heap.size < W1.heap.size) := by rw [hW1]; exact hid (by simp)
  have B : Hid (W1.heap[w.heap.size]? = some (.cells #[.int .i64 a0, .string a1, .string a2, .float .f64 a3, .string a4, .int .i64 a5, .int .i64 a6, .int .i64 a7] tSto (0, 0))) := by rw [hW1]; exact hid (heap_alloc_new w _)
  simp only [tSto] at hW1
  have K := hid (fun w' (h : Touch [] W1 w') => cells_of (touch_blk0 h B.out))
  have tt : Touch [] W1 W1 := Touch.refl _ _
  go_enter Try.func27, Try.ntmps27
  go_upto_region 1 with fail
  rw [← hW1]
  clear hW1
  obtain ⟨d0, d1, d2, d3, d4, d5, d6, d7⟩ := K.out _ tt
  go_upto_region 3 with (first
    | (go_at_call 12; refine (C.out _).mono ?_; rintro e w2 ⟨rfl, t2⟩; have tt := tt.trans t2 (by simp); obtain ⟨d0, d1, d2, d3, d4, d5, d6, d7⟩ := K.out _ tt)
    | (go_at_call 55; refine (D.out _).mono ?_; rintro e w3 ⟨rfl, t3⟩; have tt := tt.trans t3 (by simp); obtain ⟨d0, d1, d2, d3, d4, d5, d6, d7⟩ := K.out _ tt)
    | (go_at_call 53; with_reducible refine (C1.out _).mono ?_; rintro e w4 ⟨rfl, rfl⟩; clear C1)
    | (go_at_call 53; with_reducible refine (C2.out _).mono ?_; rintro e w4 ⟨rfl, rfl⟩; clear C2)
    | (go_at_call 53; with_reducible refine (C3.out _).mono ?_; rintro e w4 ⟨rfl, rfl⟩; clear C3))
  have A1 := hid tt
  clear tt t2 t3 C D K
  clear d0 d1 d2 d3 d4 d5 d6 d7
  have R0 := hid (out_new w3)
  obtain ⟨W3, hW3⟩ : ∃ W3, W3 = w3.alloc (.cells #[.pointer none, .int .i64 0, .int .i64 0] tOut) := ⟨_, rfl⟩
  have TA : Hid (Touch [] W1 W3) := by rw [hW3]; exact hid (A1.out.alloc _)
  have B3 := hid (touch_blk0 TA.out B.out)
  have T3 := hid (T1.out.trans TA.out (by simp))
  have S2 := hid (Nat.lt_of_lt_of_le S1.out A1.out.size)
  rw [← hW3] at R0
  have P0 := hid (StPost.refl R0.out)
  clear R0 S1 B A1 TA
  go_upto_region 4 with fail
  simp only [tOut] at hW3
  rw [← hW3]
  clear hW3
  generalize w3.heap.size = o at *
  have hno : w.heap.size ∉ [o] := by have := S2.out; simp; omega
  have HNO := hid hno
  have K := hid fun (st : List UInt8 × Int) (w' : World) (p : StPost o [o] st W3 w') => cells_of (show w'.heap[w.heap.size]? = _ from by obtain ⟨_, _, ht, _⟩ := p; exact touch_blk0 ht B3.out HNO.out)
  have K2 := hid fun (w' : World) (ht : Touch [o] W3 w') => cells_of (show w'.heap[w.heap.size]? = _ from touch_blk0 ht B3.out HNO.out)
  have Q : Hid (Calls Try.prog 41 #[.pointer (some ⟨o, 0, none⟩), .agg #[.int .i64 a0, .string a1, .string a2, .float .f64 a3]] W3 fun r w' => r = .returned (.tuple #[]) ∧ StPost o [o] (BE, 0) W3 w') := by
    obtain ⟨G', g1, g2, g3⟩ := P0.out
    exact hid ((LE.out o G' W3 g1).mono fun r w' ⟨hr, hp⟩ => ⟨hr, by rw [List.nil_append] at hp; exact hp.up g2 g3⟩)
  obtain ⟨d0, d1, d2, d3, d4, d5, d6, d7⟩ := K.out _ _ P0.out
  clear hno LE P0
  go_upto_region 5 with (go_at_call 41; refine Q.out.mono ?_; rintro e v1 ⟨rfl, qq⟩)
  have P1 := hid qq
  clear qq Q
  clear d0 d1 d2 d3 d4 d5 d6 d7
  have I1 := hid fun (W : World) (g : Touch [] v1 W) => text_up a4 P1.out g (by have := HBE.out; omega) (by have := HST.out; omega)
  have I2 := hid fun (U W : World) (pp : StPost o [o] (BE ++ txtB a4, 0) W3 U) (g : Touch [] U W) => i64_up a5 pp g (by simp only [List.length_append, txtB_len]; have := HBE.out; have := HST.out; omega)
  have I3 := hid fun (U W : World) (pp : StPost o [o] (BE ++ txtB a4 ++ be 8 (u64 a5), 0) W3 U) (g : Touch [] U W) => i64_up a6 pp g (by simp only [List.length_append, txtB_len, be_length]; have := HBE.out; have := HST.out; omega)
  have I4 := hid fun (U W : World) (pp : StPost o [o] (BE ++ txtB a4 ++ be 8 (u64 a5) ++ be 8 (u64 a6), 0) W3 U) (g : Touch [] U W) => i64_up a7 pp g (by simp only [List.length_append, txtB_len, be_length]; have := HBE.out; have := HST.out; omega)
  have I5 := hid fun (U W : World) (pp : StPost o [o] (BE ++ txtB a4 ++ be 8 (u64 a5) ++ be 8 (u64 a6) ++ be 8 (u64 a7), 0) W3 U) (g : Touch [] U W) => show Calls Try.prog 42 #[.pointer (some ⟨o, 0, none⟩)] W fun e w' => e = .returned (.tuple #[.string ⟨(BE ++ txtB a4 ++ be 8 (u64 a5) ++ be 8 (u64 a6) ++ be 8 (u64 a7)).toArray⟩, .int .i64 0]) ∧ Touch [o] W3 w' from by
    obtain ⟨F', h1, h2, h3⟩ := pp.touch g
    refine (done_st o F' _ W h1).mono fun e w' ⟨he, n, hn⟩ => ⟨by rw [he, pDone_ok], by rw [← hn]; exact h2.drewN n⟩
  obtain ⟨_, _, _, _, d4, d5, d6, d7⟩ := K.out _ _ P1.out
  generalize BE ++ txtB a4 ++ be 8 (u64 a5) ++ be 8 (u64 a6) ++ be 8 (u64 a7) = b9 at *
  generalize BE ++ txtB a4 ++ be 8 (u64 a5) ++ be 8 (u64 a6) = b8 at *
  generalize BE ++ txtB a4 ++ be 8 (u64 a5) = b7 at *
  generalize BE ++ txtB a4 = b6 at *
  go_region_held3 (fun w' => w'.cell? ⟨w.heap.size, 4, none⟩ = some (.string a4) ∧ w'.cell? ⟨w.heap.size, 5, none⟩ = some (.int .i64 a5) ∧ w'.cell? ⟨w.heap.size, 6, none⟩ = some (.int .i64 a6) ∧ w'.cell? ⟨w.heap.size, 7, none⟩ = some (.int .i64 a7))
    (first | go_keep | (obtain ⟨_, _, _, _, z4, z5, z6, z7⟩ := K.out _ _ (by assumption); exact ⟨z4, z5, z6, z7⟩) | (obtain ⟨_, _, _, _, z4, z5, z6, z7⟩ := K2.out _ (by assumption); exact ⟨z4, z5, z6, z7⟩))
    (first
      | (go_at_call 40; with_reducible refine (I1.out _ ?_).mono ?_; (first | exact Touch.refl _ _ | exact drewN_tch _ _ | exact (Touch.refl _ _).drew); rintro e w4 ⟨rfl, p1⟩)
      | (go_at_call 39; with_reducible refine (I2.out _ _ p1 ?_).mono ?_; (first | exact Touch.refl _ _ | exact drewN_tch _ _ | exact (Touch.refl _ _).drew); rintro e w5 ⟨rfl, p2⟩)
      | (go_at_call 39; with_reducible refine (I3.out _ _ p2 ?_).mono ?_; (first | exact Touch.refl _ _ | exact drewN_tch _ _ | exact (Touch.refl _ _).drew); rintro e w6 ⟨rfl, p3⟩)
      | (go_at_call 39; with_reducible refine (I4.out _ _ p3 ?_).mono ?_; (first | exact Touch.refl _ _ | exact drewN_tch _ _ | exact (Touch.refl _ _).drew); rintro e w7 ⟨rfl, p4⟩)
      | (go_at_call 42; with_reducible refine (I5.out _ _ p4 ?_).mono ?_; (first | exact Touch.refl _ _ | exact drewN_tch _ _ | exact (Touch.refl _ _).drew); rintro e w8 ⟨rfl, p5⟩))
  have P9 := hid p5
  clear p1 p2 p3 p4 p5 I1 I2 I3 I4 I5 d4 d5 d6 d7
  go_wp2
  go_ret2
  refine ⟨by rw [HLB.out]; rfl, T3.out.trans P9.out (fun f hf => .inr ?_)⟩
  simp at hf
  have := S2.out
  omega
theorem evPutS_any (s : StD) (w : World) : Calls Try.prog 27 #[s.agg] w fun r w' => r = .returned (.tuple #[.string (putSB s), .int .i64 (putSE s)]) ∧ Touch [] w w' := by
  unfold putSB putSE
  by_cases h : validS s = true
  · rw [if_pos h, if_pos h]; exact evPutS_good s w h
  · rw [if_neg h, if_neg h]; exact evPutS_bad s w (by simpa using h)
end Go.Proofs.Ytcihnfgfficmlaa
