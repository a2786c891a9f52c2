/- The laws' own Put. -/
import Derived.Test.YtcihnfgfficmlaaChk7e
import Derived.Test.YtcihnfgfficmlaaLay7
namespace Go.Proofs.Ytcihnfgfficmlaa
open Go.RowKit Go.Lib

def layL (l : List EvD) : List UInt8 := l.flatMap layE
/-- A command's bytes. -/
def layC (c : CmdD) : List UInt8 := be 1 (u64 c.kind) ++ be 8 (u64 c.time) ++ txtB c.stream ++ be 8 (u64 c.exp) ++ be 1 c.evs.length ++ layL c.evs ++ be 8 (u64 c.cnt) ++ be 8 (u64 c.age) ++ be 8 (u64 c.bef)
/-- What Put tells. -/
def putV (c : CmdD) : Value := if checkC c = 0 then .tuple #[.string ⟨(layC c).toArray⟩, .int .i64 0] else .tuple #[.string ⟨#[]⟩, .int .i64 (checkC c)]

theorem strm_size {s : ByteArray} (h : strm s.data.toList = true) : s.size ≤ 60 := by
  have := (strm_iff.1 h).2.1
  rw [list_len] at this
  exact this
/-- What may be is small. -/
structure CmdD.Small (c : CmdD) : Prop where
  s : c.stream.size ≤ 60
  l : c.evs.length ≤ 8
  v : ∀ e ∈ c.evs, validE e = true
theorem check_small {c : CmdD} (h : checkC c = 0) : c.Small := by
  unfold checkC at h
  split at h
  · cases h
  rename_i h1
  split at h
  · cases h
  rename_i h2
  split at h
  · cases h
  rename_i h3
  split at h
  · cases h
  rename_i h4
  split at h
  · cases h
  rename_i h5
  split at h
  · cases h
  rename_i h6
  split at h
  · cases h
  rename_i h7
  split at h
  · cases h
  rename_i h8
  have hs : c.stream.size ≤ 60 := by
    by_cases hk : c.kind ≤ 3
    · exact strm_size (by cases hs : strm c.stream.data.toList with | true => rfl | false => exact absurd ⟨hk, hs⟩ h2)
    · have : ¬ (3 < c.kind ∧ c.stream.size ≠ 0) := fun hq => h8 (.inr (.inr (.inr hq)))
      omega
  by_cases hk : c.kind = 1
  · refine ⟨hs, by omega, ?_⟩
    have hv : c.evs.all validE = true := by cases hv : c.evs.all validE with | true => rfl | false => exact absurd ⟨hk, hv⟩ h5
    exact List.all_eq_true.1 hv
  · have he : c.evs = [] := by
      by_cases he : c.evs = []
      · exact he
      · exact absurd (.inl ⟨hk, he⟩) h8
    exact ⟨hs, by rw [he]; simp, by rw [he]; simp⟩
theorem layL_snoc (l : List EvD) (j : Nat) (h : j < l.length) : layL (l.take (j + 1)) = layL (l.take j) ++ layE l[j] := by
  unfold layL
  rw [List.take_succ_eq_append_getElem h]
  simp only [List.flatMap_append, List.flatMap_cons, List.flatMap_nil, List.append_nil]
theorem layL_len (l : List EvD) (h : ∀ e ∈ l, validE e = true) : (layL l).length ≤ 284 * l.length := by
  induction l with
  | nil => simp [layL]
  | cons e l ih =>
    have h1 := ih (fun a ha => h a (by simp [ha]))
    have h2 := valid_iff.1 (h e (by simp))
    have h3 := strm_size h2.2.1
    have h4 : (layL (e :: l)).length = (layE e).length + (layL l).length := by simp [layL]
    rw [h4, layE_len, List.length_cons]
    omega

theorem pDone_ok (bs : List UInt8) : pDone (bs, 0) = .tuple #[.string ⟨bs.toArray⟩, .int .i64 0] := by simp [pDone]
theorem rout_new (w : World) : RoutIs (w.alloc (.cells #[.slice none 0 0, .int .i64 0] tROut)) w.heap.size [w.heap.size] ([], 0) :=
  ⟨.slice none 0 0, heap_alloc_new w _, ⟨rfl, .inl ⟨rfl, rfl⟩⟩, by simp [Value.ownBlock], by simp [Value.ownBlock]⟩

set_option maxRecDepth 100000 in
set_option maxHeartbeats 2000000 in
theorem refPut_bad (c : CmdD) (x : Option Addr) (cap : Nat) (w : World) (hx : EvX w x c.evs) (hc : checkC c ≠ 0) :
    Calls Try.prog 17 #[c.agg x cap] w fun r w' => r = .returned (.tuple #[.string ⟨#[]⟩, .int .i64 (checkC c)]) ∧ Touch [] w w' := by
  have C := hid (fun w' (h : Touch [] w w') => refCheck_any c x cap w' (hx.touch h))
  have he : (checkC c != 0) = true := by simpa using hc
  generalize checkC c = k at *
  unfold CmdD.agg at *
  obtain ⟨a0, a1, a2, a3, a4, a5, a6, a7⟩ := c
  simp only [] at C ⊢
  generalize a4.length = n at *
  clear hx hc
  have D := hid (C.out _ ((Touch.refl [] w).alloc (.cells #[.int .i64 a0, .int .i64 a1, .string a2, .int .i64 a3, .slice x n cap, .int .i64 a5, .int .i64 a6, .int .i64 a7] tCmd)))
  simp only [tCmd] at D
  clear C
  go_enter Try.func17, Try.ntmps17
  go_wp2_with (go_at_call 23; refine D.out.mono ?_; rintro e w1 ⟨rfl, a1⟩)
  go_ret2
  exact ⟨rfl, ((Touch.refl _ _).alloc _).trans a1 (by simp)⟩

set_option maxRecDepth 100000 in
set_option maxHeartbeats 4000000 in
theorem refPut_good (c : CmdD) (x : Option Addr) (cap : Nat) (w : World) (hx : EvX w x c.evs) (hc : checkC c = 0) :
    Calls Try.prog 17 #[c.agg x cap] w fun r w' => r = .returned (.tuple #[.string ⟨(layC c).toArray⟩, .int .i64 0]) ∧ Touch [] w w' := by
  have C := hid (fun w' (h : Touch [] w w') => refCheck_any c x cap w' (hx.touch h))
  obtain ⟨hs, hl8, hval⟩ := check_small hc
  have hlen := layL_len c.evs hval
  rw [hc] at C
  unfold CmdD.agg at *
  unfold layC
  obtain ⟨k, t, s, ex, l, p, q, r⟩ := c
  simp only [] at C hs hl8 hval hlen hx ⊢
  obtain ⟨W1, hW1⟩ : ∃ W1, W1 = w.alloc (.cells #[.int .i64 k, .int .i64 t, .string s, .int .i64 ex, .slice x l.length cap, .int .i64 p, .int .i64 q, .int .i64 r] tCmd) := ⟨_, rfl⟩
  have T1 : Hid (Touch [] w W1) := by rw [hW1]; exact hid ((Touch.refl [] w).alloc _)
  have B0 : Hid (W1.cell? ⟨w.heap.size, 0, none⟩ = some (.int .i64 k)) := by rw [hW1]; exact hid (cell_of (heap_alloc_new w _) 0)
  have B1 : Hid (W1.cell? ⟨w.heap.size, 1, none⟩ = some (.int .i64 t)) := by rw [hW1]; exact hid (cell_of (heap_alloc_new w _) 1)
  have B2 : Hid (W1.cell? ⟨w.heap.size, 2, none⟩ = some (.string s)) := by rw [hW1]; exact hid (cell_of (heap_alloc_new w _) 2)
  have B3 : Hid (W1.cell? ⟨w.heap.size, 3, none⟩ = some (.int .i64 ex)) := by rw [hW1]; exact hid (cell_of (heap_alloc_new w _) 3)
  have B4 : Hid (W1.cell? ⟨w.heap.size, 4, none⟩ = some (.slice x l.length cap)) := by rw [hW1]; exact hid (cell_of (heap_alloc_new w _) 4)
  have B5 : Hid (W1.cell? ⟨w.heap.size, 5, none⟩ = some (.int .i64 p)) := by rw [hW1]; exact hid (cell_of (heap_alloc_new w _) 5)
  have B6 : Hid (W1.cell? ⟨w.heap.size, 6, none⟩ = some (.int .i64 q)) := by rw [hW1]; exact hid (cell_of (heap_alloc_new w _) 6)
  have B7 : Hid (W1.cell? ⟨w.heap.size, 7, none⟩ = some (.int .i64 r)) := by rw [hW1]; exact hid (cell_of (heap_alloc_new w _) 7)
  have D := hid (C.out _ T1.out)
  have S1 : Hid (w.heap.size < W1.heap.size) := by rw [hW1]; exact hid (by simp)
  have HX := hid hx
  have HS := hid hs
  have HL8 := hid hl8
  have HV := hid hval
  have HLEN := hid hlen
  have uk := u64_wrap k
  have ut := u64_wrap t
  have ue := u64_wrap ex
  have ul : IntKind.u64.wrap (l.length : Int) = (l.length : Int) := by rw [IntKind.wrap_u64]; omega
  have up := u64_wrap p
  have uq := u64_wrap q
  have ur := u64_wrap r
  clear C hx hs hl8 hval hlen hc
  go_enter Try.func17, Try.ntmps17
  go_upto_region 1 with fail
  simp only [tCmd] at hW1
  rw [← hW1]
  have c0 := B0.out; have c1 := B1.out; have c2 := B2.out; have c3 := B3.out; have c4 := B4.out; have c5 := B5.out; have c6 := B6.out; have c7 := B7.out
  clear hW1
  go_upto_region 4 with (go_at_call 23; refine D.out.mono ?_; rintro e w1 ⟨rfl, a1⟩)
  clear c0 c1 c2 c3 c4 c5 c6 c7 D
  have A1 := hid a1
  have S2 := hid (Nat.lt_of_lt_of_le S1.out A1.out.size)
  have R0 := hid (rout_new w1)
  obtain ⟨W3, hW3⟩ : ∃ W3, W3 = w1.alloc (.cells #[.slice none 0 0, .int .i64 0] tROut) := ⟨_, rfl⟩
  have E0 := hid ((A1.out.trans ((Touch.refl [] w1).alloc (.cells #[.slice none 0 0, .int .i64 0] tROut)) (by simp)).cell B0.out)
  have E1 := hid ((A1.out.trans ((Touch.refl [] w1).alloc (.cells #[.slice none 0 0, .int .i64 0] tROut)) (by simp)).cell B1.out)
  have E2 := hid ((A1.out.trans ((Touch.refl [] w1).alloc (.cells #[.slice none 0 0, .int .i64 0] tROut)) (by simp)).cell B2.out)
  have E3 := hid ((A1.out.trans ((Touch.refl [] w1).alloc (.cells #[.slice none 0 0, .int .i64 0] tROut)) (by simp)).cell B3.out)
  have E4 := hid ((A1.out.trans ((Touch.refl [] w1).alloc (.cells #[.slice none 0 0, .int .i64 0] tROut)) (by simp)).cell B4.out)
  have E5 := hid ((A1.out.trans ((Touch.refl [] w1).alloc (.cells #[.slice none 0 0, .int .i64 0] tROut)) (by simp)).cell B5.out)
  have E6 := hid ((A1.out.trans ((Touch.refl [] w1).alloc (.cells #[.slice none 0 0, .int .i64 0] tROut)) (by simp)).cell B6.out)
  have E7 := hid ((A1.out.trans ((Touch.refl [] w1).alloc (.cells #[.slice none 0 0, .int .i64 0] tROut)) (by simp)).cell B7.out)
  have T3 := hid (((T1.out.trans A1.out (by simp)).alloc (.cells #[.slice none 0 0, .int .i64 0] tROut)))
  rw [← hW3] at R0 E0 E1 E2 E3 E4 E5 E6 E7 T3
  have P0 := hid (RoPost.refl R0.out)
  have HB : Hid ((⟨w.heap.size, 0, none⟩ : Addr).block ∉ [w1.heap.size]) := by have := S2.out; unfold Hid; simp; omega
  clear B0 B1 B2 B3 B4 B5 B6 B7 R0 a1 S1
  go_upto_region 5 with fail
  simp only [tROut] at hW3
  rw [← hW3]
  clear hW3
  have c0 := P0.out.cell E0.out HB.out
  go_wp2_with fail
  refine (roNum_up 1 (u64 k) P0.out (by decide) (by decide) (by simp)).mono ?_
  rintro e v1 ⟨rfl, q1⟩
  rw [pPut_ok] at q1
  have P1 := hid q1
  clear q1 c0
  have c1 := P1.out.cell E1.out HB.out
  go_wp2_with fail
  refine (roNum_up 8 (u64 t) P1.out (by decide) (by decide) (by simp only [List.length_append, be_length, List.length_nil]; omega)).mono ?_
  rintro e v2 ⟨rfl, q2⟩
  rw [pPut_ok] at q2
  have P2 := hid q2
  clear q2 c1
  have c2 := P2.out.cell E2.out HB.out
  go_wp2_with fail
  refine (roText_up s P2.out (by simp only [List.length_append, be_length, List.length_nil]; omega)).mono ?_
  rintro e v3 ⟨rfl, q3⟩
  rw [pText_txt _ _ (by have := HS.out; omega)] at q3
  have P3 := hid q3
  clear q3 c2
  have c3 := P3.out.cell E3.out HB.out
  go_wp2_with fail
  refine (roNum_up 8 (u64 ex) P3.out (by decide) (by decide) (by simp only [List.length_append, be_length, txtB_len, List.length_nil]; have := HS.out; omega)).mono ?_
  rintro e v4 ⟨rfl, q4⟩
  rw [pPut_ok] at q4
  have P4 := hid q4
  clear q4 c3
  have c4 := P4.out.cell E4.out HB.out
  go_wp2_with fail
  refine (roNum_up 1 l.length P4.out (by decide) (by decide) (by simp only [List.length_append, be_length, txtB_len, List.length_nil]; have := HS.out; omega)).mono ?_
  rintro e v5 ⟨rfl, q5⟩
  rw [pPut_ok] at q5
  have P5 := hid q5
  clear q5 c4
  obtain ⟨pre, hpre⟩ : ∃ pre, pre = [] ++ be 1 (u64 k) ++ be 8 (u64 t) ++ txtB s ++ be 8 (u64 ex) ++ be 1 l.length := ⟨_, rfl⟩
  have hpl : pre.length ≤ 1000 := by
    rw [hpre]
    simp only [List.length_append, be_length, txtB_len, List.length_nil]
    have := HS.out
    omega
  rw [← hpre] at P5
  have HPL := hid hpl
  have HPRE := hid hpre
  clear hpre hpl P0 P1 P2 P3 P4 uk ut ue
  have c4 := P5.out.cell E4.out HB.out
  go_upto_region 10 with fail
  clear c4
  go_wp2
  go_loopw [6] (fun kv wr => ∃ j : Nat, j ≤ l.length ∧ kv = .int .i64 j ∧ RoPost w1.heap.size [w1.heap.size] (pre ++ layL (l.take j), 0) W3 wr) (fun kv _ => l.length - (RowKit.intOf kv).toNat)
  case atStart => exact ⟨0, Nat.zero_le _, rfl, by simpa [layL] using P5.out⟩
  case round =>
    obtain ⟨j, hj, rfl, hP⟩ := hrel
    have PJ := hid hP
    clear hP
    have c4 := PJ.out.cell E4.out HB.out
    by_cases hlt : j < l.length
    · have hltI : (j : Int) < l.length := by omega
      have hj0 : (0 : Int) ≤ j := by omega
      have hb1 : (j : Int) < 9223372036854775807 := by have := HL8.out; omega
      obtain ⟨b, off, rfl, ha, ok⟩ := HX.out j hlt
      have hbl : b ∉ [w1.heap.size] := by
        have hq : b < w.heap.size := World.block_lt_of_cell? w _ ha.c0
        have := S2.out
        simp; omega
      obtain ⟨_, _, tj, _⟩ := PJ.out
      obtain ⟨a0, a1, a2, a3⟩ := (ha.touch T3.out).keep tj hbl
      have hv := valid_iff.1 (HV.out l[j] (List.getElem_mem hlt))
      have hsz := strm_size hv.2.1
      have hll := layL_len (l.take j) (fun e he => HV.out e (List.mem_of_mem_take he))
      have hnx := hid (layL_snoc l j hlt)
      have Q := hid (refLay_st w1.heap.size)
      obtain ⟨G', g1, g2, g3⟩ := PJ.out
      have Q2 := hid (refLay_st w1.heap.size G' (pre ++ layL (l.take j)) l[j] wr g1 (by rw [List.length_append]; rw [List.length_take] at hll; have := HPL.out; have := HL8.out; omega) hsz hv.2.2)
      have G2 := hid g2
      have G3 := hid g3
      unfold EvD.agg at Q2
      generalize l[j] = Ev at *
      obtain ⟨e0, e1, e2, e3⟩ := Ev
      simp only [] at a0 a1 a2 a3 Q2 hnx
      clear g1 g2 g3 tj ha hbl hv hsz hll ok Q
      go_wp2_with (go_at_call 45; refine Q2.out.mono ?_; rintro e v6 ⟨rfl, q6⟩)
      go_roundw
      case rel =>
        refine ⟨j + 1, by omega, by go_num, ?_⟩
        rw [hnx.out, ← List.append_assoc]
        exact q6.up G2.out G3.out
      case measure => simp [RowKit.intOf]; omega
    · obtain rfl : j = l.length := by omega
      have PL := PJ.out
      rw [List.take_length] at PL
      have P6 := hid PL
      clear hlt PL PJ
      have c5 := P6.out.cell E5.out HB.out
      go_wp2_with fail
      refine (roNum_up 8 (u64 p) P6.out (by decide) (by decide) (by rw [List.length_append]; have := HPL.out; have := HLEN.out; have := HL8.out; omega)).mono ?_
      rintro e v7 ⟨rfl, q7⟩
      rw [pPut_ok] at q7
      have P7 := hid q7
      clear q7 c5 c4
      have c6 := P7.out.cell E6.out HB.out
      go_wp2_with fail
      refine (roNum_up 8 (u64 q) P7.out (by decide) (by decide) (by simp only [List.length_append, be_length]; have := HPL.out; have := HLEN.out; have := HL8.out; omega)).mono ?_
      rintro e v8 ⟨rfl, q8⟩
      rw [pPut_ok] at q8
      have P8 := hid q8
      clear q8 c6
      have c7 := P8.out.cell E7.out HB.out
      go_wp2_with fail
      refine (roNum_up 8 (u64 r) P8.out (by decide) (by decide) (by simp only [List.length_append, be_length]; have := HPL.out; have := HLEN.out; have := HL8.out; omega)).mono ?_
      rintro e v9 ⟨rfl, q9⟩
      rw [pPut_ok] at q9
      have P9 := hid q9
      clear q9 c7
      obtain ⟨G', h1, h2, h3⟩ := P9.out
      have hd := roDone_st w1.heap.size G' _ v9 h1
      rw [pDone_ok] at hd
      have hb : [] ++ be 1 (u64 k) ++ be 8 (u64 t) ++ txtB s ++ be 8 (u64 ex) ++ be 1 l.length ++ layL l ++ be 8 (u64 p) ++ be 8 (u64 q) ++ be 8 (u64 r) = pre ++ layL l ++ be 8 (u64 p) ++ be 8 (u64 q) ++ be 8 (u64 r) := by rw [← HPRE.out]
      rw [List.nil_append] at hb
      generalize pre ++ layL l ++ be 8 (u64 p) ++ be 8 (u64 q) ++ be 8 (u64 r) = BS at hd hb
      have HBS := hid hb
      have DN := hid hd
      have H2 := hid h2
      clear h1 h2 h3 hd hb P7 P8 P9 P6 HPRE
      go_wp2_with (go_at_call 46; refine DN.out.mono ?_; rintro e v10 ⟨rfl, n, rfl⟩)
      go_ret2
      refine ⟨by rw [HBS.out]; rfl, (T3.out.trans H2.out (fun f hf => .inr ?_)).drewN n⟩
      simp at hf
      have := S2.out
      omega

theorem refPut_any (c : CmdD) (x : Option Addr) (cap : Nat) (w : World) (hx : EvX w x c.evs) :
    Calls Try.prog 17 #[c.agg x cap] w fun r w' => r = .returned (putV c) ∧ Touch [] w w' := by
  unfold putV
  by_cases h : checkC c = 0
  · rw [if_pos h]; exact refPut_good c x cap w hx h
  · rw [if_neg h]; exact refPut_bad c x cap w hx h
end Go.Proofs.Ytcihnfgfficmlaa
