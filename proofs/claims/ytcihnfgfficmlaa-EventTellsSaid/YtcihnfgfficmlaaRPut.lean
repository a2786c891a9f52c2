/- event's Put. -/
import Derived.Test.YtcihnfgfficmlaaRPutE
import Derived.Test.YtcihnfgfficmlaaPut7
namespace Go.Proofs.Ytcihnfgfficmlaa
open Go.RowKit Go.Lib
set_option maxRecDepth 100000

def putB (c : CmdD) : ByteArray := if checkC c = 0 then ⟨(layC c).toArray⟩ else ⟨#[]⟩
theorem putV_eq (c : CmdD) : putV c = .tuple #[.string (putB c), .int .i64 (checkC c)] := by
  unfold putV putB
  split
  · rename_i h; rw [h]
  · rfl

set_option maxHeartbeats 2000000 in
theorem evPut_bad (c : CmdD) (x : Option Addr) (cap : Nat) (w : World) (hx : EvX w x c.evs) (hc : checkC c ≠ 0) :
    Calls Try.prog 16 #[c.agg x cap] w fun r w' => r = .returned (.tuple #[.string ⟨#[]⟩, .int .i64 (checkC c)]) ∧ Touch [] w w' := by
  have C := hid (fun w' (h : Touch [] w w') => evCheck_any c x cap w' (hx.touch h))
  have he : (checkC c != 0) = true := by simpa using hc
  generalize checkC c = k at *
  unfold CmdD.agg at *
  obtain ⟨a0, a1, a2, a3, a4, a5, a6, a7⟩ := c
  simp only [] at C ⊢
  generalize a4.length = n at *
  clear hx hc
  have D := hid (C.out _ ((Touch.refl [] w).alloc (.cells #[.int .i64 a0, .int .i64 a1, .string a2, .int .i64 a3, .slice x n cap, .int .i64 a5, .int .i64 a6, .int .i64 a7] tCmd)))
  simp only [tCmd] at D
  clear C
  go_enter Try.func16, Try.ntmps16
  go_wp2_with (go_at_call 22; refine D.out.mono ?_; rintro e w1 ⟨rfl, a1⟩)
  go_ret2
  exact ⟨rfl, ((Touch.refl _ _).alloc _).trans a1 (by simp)⟩

theorem out_new (w : World) : OutIs (w.alloc (.cells #[.pointer none, .int .i64 0, .int .i64 0] tOut)) w.heap.size [w.heap.size] ([], 0) := .inl ⟨rfl, .inl ⟨heap_alloc_new w _, rfl, rfl⟩⟩

set_option maxHeartbeats 4000000 in
theorem evPut_good (c : CmdD) (x : Option Addr) (cap : Nat) (w : World) (hx : EvX w x c.evs) (hc : checkC c = 0) (hk0 : 0 ≤ c.kind) (hk1 : c.kind < 256) :
    Calls Try.prog 16 #[c.agg x cap] w fun r w' => r = .returned (.tuple #[.string ⟨(layC c).toArray⟩, .int .i64 0]) ∧ Touch [] w w' := by
  have C := hid (fun w' (h : Touch [] w w') => evCheck_any c x cap w' (hx.touch h))
  obtain ⟨hs, hl8, hval⟩ := check_small hc
  have hlen := layL_len c.evs hval
  rw [hc] at C
  unfold CmdD.agg at *
  unfold layC
  obtain ⟨k, t, s, ex, l, p, q, r⟩ := c
  simp only [] at C hs hl8 hval hlen hx hk0 hk1 ⊢
  obtain ⟨W1, hW1⟩ : ∃ W1, W1 = w.alloc (.cells #[.int .i64 k, .int .i64 t, .string s, .int .i64 ex, .slice x l.length cap, .int .i64 p, .int .i64 q, .int .i64 r] tCmd) := ⟨_, rfl⟩
  have T1 : Hid (Touch [] w W1) := by rw [hW1]; exact hid ((Touch.refl [] w).alloc _)
  have B : Hid (W1.heap[w.heap.size]? = some (.cells #[.int .i64 k, .int .i64 t, .string s, .int .i64 ex, .slice x l.length cap, .int .i64 p, .int .i64 q, .int .i64 r] tCmd (0, 0))) := by rw [hW1]; exact hid (heap_alloc_new w _)
  have S1 : Hid (w.heap.size < W1.heap.size) := by rw [hW1]; exact hid (by simp)
  have D := hid (C.out _ T1.out)
  have HX := hid hx
  have HS := hid hs
  have HL8 := hid hl8
  have HV := hid hval
  have HLEN := hid hlen
  have HK0 := hid hk0
  have HK1 := hid hk1
  clear C hx hs hl8 hval hlen hc hk0 hk1
  go_enter Try.func16, Try.ntmps16
  go_upto_region 1 with fail
  simp only [tCmd] at hW1
  rw [← hW1]
  clear hW1
  obtain ⟨c0, c1, c2, c3, c4, c5, c6, c7⟩ := cells_of B.out
  go_upto_region 4 with (go_at_call 22; refine D.out.mono ?_; rintro e w1 ⟨rfl, a1⟩)
  clear c0 c1 c2 c3 c4 c5 c6 c7 D
  have A1 := hid a1
  clear a1
  have S2 := hid (Nat.lt_of_lt_of_le S1.out A1.out.size)
  have R0 := hid (out_new w1)
  obtain ⟨W3, hW3⟩ : ∃ W3, W3 = w1.alloc (.cells #[.pointer none, .int .i64 0, .int .i64 0] tOut) := ⟨_, rfl⟩
  have B3 := hid (touch_blk0 (A1.out.trans ((Touch.refl [] w1).alloc (.cells #[.pointer none, .int .i64 0, .int .i64 0] tOut)) (by simp)) B.out)
  have T3 := hid ((T1.out.trans A1.out (by simp)).alloc (.cells #[.pointer none, .int .i64 0, .int .i64 0] tOut))
  rw [← hW3] at R0 B3 T3
  have P0 := hid (StPost.refl R0.out)
  clear R0 B
  go_upto_region 5 with fail
  simp only [tOut] at hW3
  rw [← hW3]
  clear hW3
  generalize hob : w1.heap.size = o at *
  have hne : w.heap.size ≠ o := by have := S2.out; omega
  have hno : w.heap.size ∉ [o] := by simpa using hne
  have HNO := hid hno
  have K := hid fun (st : List UInt8 × Int) (w' : World) (p : StPost o [o] st W3 w') => cells_of (show w'.heap[w.heap.size]? = _ from by obtain ⟨_, _, ht, _⟩ := p; exact touch_blk0 ht B3.out HNO.out)
  have I1 := hid fun (W : World) (g : Touch [] W3 W) => u8_up k P0.out g (by simp) HK0.out HK1.out
  have I2 := hid fun (U W : World) (p : StPost o [o] ([] ++ be 1 (u64 k), 0) W3 U) (g : Touch [] U W) => i64_up t p g (by simp only [List.length_append, be_length, List.length_nil]; omega)
  have I3 := hid fun (U W : World) (p : StPost o [o] ([] ++ be 1 (u64 k) ++ be 8 (u64 t), 0) W3 U) (g : Touch [] U W) => text_up s p g (by simp only [List.length_append, be_length, List.length_nil]; omega) (by have := HS.out; omega)
  have I4 := hid fun (U W : World) (p : StPost o [o] ([] ++ be 1 (u64 k) ++ be 8 (u64 t) ++ txtB s, 0) W3 U) (g : Touch [] U W) => i64_up ex p g (by simp only [List.length_append, be_length, txtB_len, List.length_nil]; have := HS.out; omega)
  have I5 := hid fun (U W : World) (p : StPost o [o] ([] ++ be 1 (u64 k) ++ be 8 (u64 t) ++ txtB s ++ be 8 (u64 ex), 0) W3 U) (g : Touch [] U W) => u8_up (l.length : Int) p g (by simp only [List.length_append, be_length, txtB_len, List.length_nil]; have := HS.out; omega) (by omega) (by have := HL8.out; omega)
  rw [show u64 (l.length : Int) = l.length by unfold u64; have := HL8.out; omega] at I5
  obtain ⟨pre, hpre⟩ : ∃ pre, pre = [] ++ be 1 (u64 k) ++ be 8 (u64 t) ++ txtB s ++ be 8 (u64 ex) ++ be 1 l.length := ⟨_, rfl⟩
  have hpl : pre.length ≤ 1000 := by
    rw [hpre]
    simp only [List.length_append, be_length, txtB_len, List.length_nil]
    have := HS.out
    omega
  rw [← hpre] at I5
  have HPL := hid hpl
  have HPRE := hid hpre
  clear hpre hpl hno hne
  generalize [] ++ be 1 (u64 k) ++ be 8 (u64 t) ++ txtB s ++ be 8 (u64 ex) = b4 at I4 I5
  generalize [] ++ be 1 (u64 k) ++ be 8 (u64 t) ++ txtB s = b3 at I3 I4
  generalize [] ++ be 1 (u64 k) ++ be 8 (u64 t) = b2 at I2 I3
  generalize [] ++ be 1 (u64 k) = b1 at I1 I2
  obtain ⟨d0, d1, d2, d3, d4, _, _, _⟩ := cells_of B3.out
  go_region_held3 (fun w' => w'.cell? ⟨w.heap.size, 0, none⟩ = some (.int .i64 k) ∧ w'.cell? ⟨w.heap.size, 1, none⟩ = some (.int .i64 t) ∧ w'.cell? ⟨w.heap.size, 2, none⟩ = some (.string s) ∧ w'.cell? ⟨w.heap.size, 3, none⟩ = some (.int .i64 ex) ∧ w'.cell? ⟨w.heap.size, 4, none⟩ = some (.slice x l.length cap))
    (first | go_keep | (obtain ⟨z0, z1, z2, z3, z4, _, _, _⟩ := K.out _ _ (by assumption); exact ⟨z0, z1, z2, z3, z4⟩))
    (first
      | (go_at_call 38; with_reducible refine (I1.out _ ?_).mono ?_; (first | exact Touch.refl _ _ | exact drewN_tch _ _ | exact (Touch.refl _ _).drew); rintro e w4 ⟨rfl, p1⟩)
      | (go_at_call 39; with_reducible refine (I2.out _ _ p1 ?_).mono ?_; (first | exact Touch.refl _ _ | exact drewN_tch _ _ | exact (Touch.refl _ _).drew); rintro e w5 ⟨rfl, p2⟩)
      | (go_at_call 40; with_reducible refine (I3.out _ _ p2 ?_).mono ?_; (first | exact Touch.refl _ _ | exact drewN_tch _ _ | exact (Touch.refl _ _).drew); rintro e w6 ⟨rfl, p3⟩)
      | (go_at_call 39; with_reducible refine (I4.out _ _ p3 ?_).mono ?_; (first | exact Touch.refl _ _ | exact drewN_tch _ _ | exact (Touch.refl _ _).drew); rintro e w7 ⟨rfl, p4⟩)
      | (go_at_call 38; with_reducible refine (I5.out _ _ p4 ?_).mono ?_; (first | exact Touch.refl _ _ | exact drewN_tch _ _ | exact (Touch.refl _ _).drew); rintro e w8 ⟨rfl, p5⟩))
  have P5 := hid p5
  clear p1 p2 p3 p4 p5 I1 I2 I3 I4 I5 d0 d1 d2 d3 d4
  rename_i hH
  clear hH
  have d4 := (K.out _ _ P5.out).2.2.2.2.1
  have hsf := store_flt0
  go_upto_region 7 with fail
  clear d4
  go_wp2
  go_loopw [32] (fun kv wr => ∃ j : Nat, j ≤ l.length ∧ kv = .int .i64 j ∧ StPost o [o] (pre ++ layL (l.take j), 0) W3 wr) (fun kv _ => l.length - (RowKit.intOf kv).toNat)
  case atStart => exact ⟨0, Nat.zero_le _, rfl, by simpa [layL] using P5.out⟩
  case round =>
    obtain ⟨j, hj, rfl, hP⟩ := hrel
    have PJ := hid hP
    clear hP P5
    by_cases hlt : j < l.length
    · have hltI : (j : Int) < l.length := by omega
      have hj0 : (0 : Int) ≤ j := by omega
      have hb1 : (j : Int) < 9223372036854775807 := by have := HL8.out; omega
      obtain ⟨b, off, rfl, ha, ok⟩ := HX.out j hlt
      have hbl : b ∉ [o] := by
        have hq : b < w.heap.size := World.block_lt_of_cell? w _ ha.c0
        have := S2.out
        simp; omega
      obtain ⟨_, _, tj, _⟩ := PJ.out
      obtain ⟨a0, a1, a2, a3⟩ := (ha.touch T3.out).keep tj hbl
      have hv := valid_iff.1 (HV.out l[j] (List.getElem_mem hlt))
      have hsz := strm_size hv.2.1
      have hll := layL_len (l.take j) (fun e he => HV.out e (List.mem_of_mem_take he))
      have hnx := hid (layL_snoc l j hlt)
      have Q2 : Hid (∀ w2, Touch [] wr w2 → Calls Try.prog 41 #[.pointer (some ⟨o, 0, none⟩), l[j].agg] w2 fun r w' => r = .returned (.tuple #[]) ∧ StPost o [o] (pre ++ layL (l.take j) ++ layE l[j], 0) W3 w') := fun w2 g => by
        obtain ⟨G', g1, g2, g3⟩ := PJ.out.touch g
        refine (putEv_st o G' (pre ++ layL (l.take j)) l[j] w2 g1 (by rw [List.length_append]; rw [List.length_take] at hll; have := HPL.out; have := HL8.out; omega) hsz hv.2.2).mono fun r w' ⟨hr, hp⟩ => ⟨hr, hp.up g2 g3⟩
      unfold EvD.agg at Q2
      generalize l[j] = Ev at *
      obtain ⟨e0, e1, e2, e3⟩ := Ev
      simp only [] at a0 a1 a2 a3 Q2 hnx
      clear tj ha hbl hv hsz hll ok
      go_upto_region 9 with fail
      obtain ⟨W5, hW5⟩ : ∃ W5, W5 = wr.alloc (.cells #[.int .i64 e0, .string e1, .string e2, .float .f64 e3] 32) := ⟨_, rfl⟩
      have T5 : Hid (Touch [] wr W5) := by rw [hW5]; exact hid ((Touch.refl [] wr).alloc _)
      have P := hid (heap_alloc_new wr (.cells #[.int .i64 e0, .string e1, .string e2, .float .f64 e3] 32))
      rw [← hW5] at P
      rw [← hW5]
      clear hW5 a0 a1 a2 a3
      obtain ⟨q0, q1, q2, q3⟩ := cells4_of P.out
      go_wp2_with (go_at_call 41; refine (Q2.out _ T5.out).mono ?_; rintro e v6 ⟨rfl, q6⟩)
      go_roundw
      case rel =>
        refine ⟨j + 1, by omega, by go_num, ?_⟩
        rw [hnx.out, ← List.append_assoc]
        exact q6
      case measure => simp [RowKit.intOf]; omega
    · obtain rfl : j = l.length := by omega
      have PL := PJ.out
      rw [List.take_length] at PL
      have P6 := hid PL
      clear hlt PL PJ hsf
      have hb := hid (show [] ++ be 1 (u64 k) ++ be 8 (u64 t) ++ txtB s ++ be 8 (u64 ex) ++ be 1 l.length ++ layL l ++ be 8 (u64 p) ++ be 8 (u64 q) ++ be 8 (u64 r) = pre ++ layL l ++ be 8 (u64 p) ++ be 8 (u64 q) ++ be 8 (u64 r) by rw [← HPRE.out])
      have hpl : (pre ++ layL l).length ≤ 4000 := by rw [List.length_append]; have := HPL.out; have := HLEN.out; have := HL8.out; omega
      have I1 := hid fun (W : World) (g : Touch [] wr W) => i64_up p P6.out g (by omega)
      have I2 := hid fun (U W : World) (pp : StPost o [o] (pre ++ layL l ++ be 8 (u64 p), 0) W3 U) (g : Touch [] U W) => i64_up q pp g (by rw [List.length_append, be_length]; omega)
      have I3 := hid fun (U W : World) (pp : StPost o [o] (pre ++ layL l ++ be 8 (u64 p) ++ be 8 (u64 q), 0) W3 U) (g : Touch [] U W) => i64_up r pp g (by rw [List.length_append, List.length_append, be_length, be_length]; omega)
      rw [List.nil_append] at hb
      have I4 := hid fun (U W : World) (pp : StPost o [o] (pre ++ layL l ++ be 8 (u64 p) ++ be 8 (u64 q) ++ be 8 (u64 r), 0) W3 U) (g : Touch [] U W) => show Calls Try.prog 42 #[.pointer (some ⟨o, 0, none⟩)] W fun e w' => e = .returned (.tuple #[.string ⟨(pre ++ layL l ++ be 8 (u64 p) ++ be 8 (u64 q) ++ be 8 (u64 r)).toArray⟩, .int .i64 0]) ∧ Touch [o] W3 w' from by
        obtain ⟨F', h1, h2, h3⟩ := pp.touch g
        refine (done_st o F' _ W h1).mono fun e w' ⟨he, n, hn⟩ => ⟨by rw [he, pDone_ok], by rw [← hn]; exact h2.drewN n⟩
      have K2 := hid fun (w' : World) (ht : Touch [o] W3 w') => cells_of (show w'.heap[w.heap.size]? = _ from touch_blk0 ht B3.out HNO.out)
      obtain ⟨_, _, _, _, _, d5, d6, d7⟩ := K.out _ _ P6.out
      have HB := hb
      clear hb hpl
      generalize pre ++ layL l ++ be 8 (u64 p) ++ be 8 (u64 q) ++ be 8 (u64 r) = b9 at *
      generalize pre ++ layL l ++ be 8 (u64 p) ++ be 8 (u64 q) = b8 at *
      generalize pre ++ layL l ++ be 8 (u64 p) = b7 at *
      go_upto_region 11 with fail
      go_region_held3 (fun w' => w'.cell? ⟨w.heap.size, 5, none⟩ = some (.int .i64 p) ∧ w'.cell? ⟨w.heap.size, 6, none⟩ = some (.int .i64 q) ∧ w'.cell? ⟨w.heap.size, 7, none⟩ = some (.int .i64 r))
        (first | go_keep | (obtain ⟨_, _, _, _, _, z5, z6, z7⟩ := K.out _ _ (by assumption); exact ⟨z5, z6, z7⟩) | (obtain ⟨_, _, _, _, _, z5, z6, z7⟩ := K2.out _ (by assumption); exact ⟨z5, z6, z7⟩))
        (first
          | (go_at_call 39; with_reducible refine (I1.out _ ?_).mono ?_; (first | exact Touch.refl _ _ | exact drewN_tch _ _ | exact (Touch.refl _ _).drew); rintro e w4 ⟨rfl, p1⟩)
          | (go_at_call 39; with_reducible refine (I2.out _ _ p1 ?_).mono ?_; (first | exact Touch.refl _ _ | exact drewN_tch _ _ | exact (Touch.refl _ _).drew); rintro e w5 ⟨rfl, p2⟩)
          | (go_at_call 39; with_reducible refine (I3.out _ _ p2 ?_).mono ?_; (first | exact Touch.refl _ _ | exact drewN_tch _ _ | exact (Touch.refl _ _).drew); rintro e w6 ⟨rfl, p3⟩)
          | (go_at_call 42; with_reducible refine (I4.out _ _ p3 ?_).mono ?_; (first | exact Touch.refl _ _ | exact drewN_tch _ _ | exact (Touch.refl _ _).drew); rintro e w7 ⟨rfl, p4⟩))
      have P9 := hid p4
      clear p1 p2 p3 p4 I1 I2 I3 I4 d5 d6 d7
      go_wp2
      go_ret2
      refine ⟨by rw [HB.out]; rfl, T3.out.trans P9.out (fun f hf => .inr ?_)⟩
      simp at hf
      have := S2.out
      omega

theorem evPut_any (c : CmdD) (x : Option Addr) (cap : Nat) (w : World) (hx : EvX w x c.evs) :
    Calls Try.prog 16 #[c.agg x cap] w fun r w' => r = .returned (.tuple #[.string (putB c), .int .i64 (checkC c)]) ∧ Touch [] w w' := by
  unfold putB
  by_cases h : checkC c = 0
  · rw [if_pos h, h]
    have hk : 1 ≤ c.kind ∧ c.kind ≤ 5 := by
      by_cases hk : c.kind < 1 ∨ 5 < c.kind ∨ c.time < 0 ∨ great < c.time
      · unfold checkC at h; rw [if_pos hk] at h; cases h
      · omega
    exact evPut_good c x cap w hx h (by omega) (by omega)
  · rw [if_neg h]; exact evPut_bad c x cap w hx h
end Go.Proofs.Ytcihnfgfficmlaa
