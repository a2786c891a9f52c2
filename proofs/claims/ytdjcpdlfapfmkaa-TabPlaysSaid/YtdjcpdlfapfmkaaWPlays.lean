/- TabPlays, walked. -/
import Derived.Test.YtdjcpdlfapfmkaaTs12
import Derived.Deep.Cut
import Derived.Deep.CutRange
namespace Go.Proofs.Ytdjcpdlfapfmkaa
open Go.RowKit Go.Lib Go.ChangeShapes Go.WideShapes
set_option maxRecDepth 100000

theorem plays_long (x : Option Addr) (c : Nat) (ops : List OpT) (h f t : Int) (W : World) (hlen : 40 < ops.length) :
    Calls Try.prog 3 #[.slice x ops.length c, .int .i64 h, .int .i64 f, .int .i64 t] W fun e w' => e = .returned (.bool true) ∧ Touch [] W w' := by
  have AL := hid (fun w => alive12_true w)
  have h40 : decide ((40 : Int) < (ops.length : Int)) = true := by rw [decide_eq_true_eq]; omega
  have h40' : decide (40 < ops.length) = true := by simpa using hlen
  clear hlen
  go_enter Try.func3, Try.ntmps3
  go_wp2_with (go_at_call 7; refine (AL.out _).mono ?_; rintro e w1 ⟨rfl, t1⟩)
  go_ret
  exact ⟨rfl, t1⟩

set_option maxHeartbeats 16000000 in
theorem plays_in (x : Option Addr) (c : Nat) (ops : List OpT) (h f t : Int) (W : World) (hX : OpsTX W x ops) (hlen : ops.length ≤ 40) :
    Calls Try.prog 3 #[.slice x ops.length c, .int .i64 h, .int .i64 f, .int .i64 t] W fun e w' => e = .returned (.bool true) ∧ Touch [] W w' := by
  have HX := hid hX
  have AL := hid (fun w => alive12_true w)
  have CN := hid (fun w => new_any w)
  have h40 : decide ((40 : Int) < (ops.length : Int)) = false := by rw [decide_eq_false_iff_not]; omega
  have h40' : decide (40 < ops.length) = false := by rw [decide_eq_false_iff_not]; omega
  clear hX
  obtain ⟨tb, htb⟩ : ∃ tb, tb = W.heap.size := ⟨_, rfl⟩
  obtain ⟨kb, hkb⟩ : ∃ kb, kb = W.heap.size + 1 := ⟨_, rfl⟩
  obtain ⟨W1, hW1⟩ : ∃ W1, W1 = (W.alloc (.cells #[.pointer none] TMTab)).alloc (.cells #[nilS, nilS, nilS, nilS, nilS, nilS, nilS, nilS, nilS, nilS, nilS, nilS] TBook) := ⟨_, rfl⟩
  have R0 : Hid (Pl W W1 tb kb nilS [] Tr.nil 0 0) := hid (by
    have hs : (W.alloc (.cells #[.pointer none] TMTab)).heap.size = kb := by rw [hkb]; simp
    have hb : BkBlk W1 kb (fun _ => nilS) := by rw [hW1, ← hs]; exact heap_alloc_new _ _
    exact ⟨⟨none, by rw [hW1, htb]; exact heap_alloc_keep (heap_alloc_new W _) _, rfl⟩, by simp [Tr.io], by simp [Tr.io], by simp [Tr.io], World.ownsRow_nil _ _ _ _, KBk.start (by omega) hb, by omega, by rw [hW1]; exact ((Touch.refl [] W).alloc _).alloc _⟩)
  go_enter Try.func3, Try.ntmps3
  go_wp2_with (go_at_call 8; refine (CN.out _).mono ?_; rintro e w1 ⟨rfl, h1⟩; subst h1)
  rw [← hW1, ← hkb, ← htb]
  clear hW1 hkb htb CN
  go_loopw [10, 12] (fun rv iv wr => ∃ k : Nat, k ≤ ops.length ∧ iv = .int .i64 k ∧ ∃ T, Pl W wr tb kb rv T.io T k k) (fun _ iv _ => ops.length - (RowKit.intOf iv).toNat)
  case atStart => exact ⟨0, Nat.zero_le _, rfl, Tr.nil, R0.out⟩
  case round =>
    obtain ⟨k, hk, rfl, T, hP⟩ := hrel
    have P := hid hP
    clear hP R0
    obtain ⟨yr, cr, rfl, -, -, -, -, hxr⟩ := entX_ownT P.out.row
    have HXR := hid hxr
    clear hxr
    by_cases hlt : k < ops.length
    · have hlt2 : decide (k < ops.length) = true := by simpa using hlt
      have hI : (k : Int) < ops.length := by omega
      obtain ⟨b, off, rfl, ⟨g0, g1, g2⟩, hl63, hE, hnil⟩ := HX.out k hlt
      have e0 := P.out.t.cell g0
      have e1 := P.out.t.cell g1
      have e2 := P.out.t.cell g2
      have EX := hid (fun w (t : Touch [] W w) => hE.t0 t)
      have EN := hid hnil
      have G0 := hid (fun w (t : Touch [] W w) => t.cell g0)
      have G1 := hid (fun w (t : Touch [] W w) => t.cell g1)
      have G2 := hid (fun w (t : Touch [] W w) => t.cell g2)
      clear g0 g1 g2 hE hnil
      generalize ops[k] = o at *
      obtain ⟨kind, n, ox, oc, ol⟩ := o
      dsimp only at *
      by_cases h30 : 30 < ol.length
      · have h30b : decide ((30 : Int) < (ol.length : Int)) = true := by rw [decide_eq_true_eq]; omega
        have h30c : decide (30 < ol.length) = true := by simpa using h30
        go_wp2_with (go_at_call 7; refine (AL.out _).mono ?_; rintro e w1 ⟨rfl, t1⟩)
        go_ret
        exact ⟨rfl, P.out.t.trans t1 (by simp)⟩
      · have h30b : decide ((30 : Int) < (ol.length : Int)) = false := by rw [decide_eq_false_iff_not]; omega
        have h30c : decide (30 < ol.length) = false := by simpa using h30
        have hlT : T.io.length ≤ 1200 := by have := P.out.len; omega
        go_upto_if 55 with fail
        go_cut [10, 13, 14, 15, 16, 17, 18, 19] from 36 to 202 (fun rv' _ _ _ _ _ _ _ w2 => ∃ T', Pl W w2 tb kb rv' T'.io T' k (k + 1))
        case first =>
          by_cases hkd : kind = 2
          · have hb : (kind == 2) = true := by simpa using hkd
            have hq : IntKind.i64.wrap ((T.io.length : Int) - (cutL T.io n).length) = ((T.io.length - (cutL T.io n).length : Nat) : Int) := by have := cutL_len T.io n; rw [IntKind.wrap_i64]; omega
            clear hkd
            go_wp2_with fail
            refine (refCut_any n yr cr T.io wr HXR.out (by omega)).mono ?_
            rintro e w1 ⟨u, rfl, ho, t1⟩
            obtain ⟨yu, cu, rfl, -, -⟩ := slice_form ho
            have P1 := hid (P.out.newrow t1 ho P.out.t.size)
            have e1' := G1.out w1 P1.out.t
            clear ho t1
            go_wp2_with fail
            refine (cut_any n tb T P1.out.srt (from_zero P1.out.ok) (by omega) w1 P1.out.tab).mono ?_
            rintro e w2 ⟨T', rfl, hT', hio, t2⟩
            have P2 := hid (P1.out.newtab t2 hT' (by rw [hio]; exact sorted_cutL P1.out.srt n) (by rw [hio]; exact ok_cutL P1.out.ok n) (m' := k + 1) (by rw [hio]; have := cutL_len T.io n; have := P1.out.len; omega))
            have HIO := hid hio
            clear hT' hio t2
            go_wp2
            go_meet
            exact ⟨T', by rw [HIO.out]; exact P2.out⟩
          · have hb : (kind == 2) = false := by simpa using hkd
            clear hkd
            go_wp2_with fail
            refine (lentE_any ox oc ol wr (EX.out _ P.out.t) EN.out (by omega)).mono ?_
            rintro e w1 ⟨mv, rfl, hm, t1⟩
            have P1 := hid (P.out.touch t1)
            obtain ⟨gm, cm, rfl, -, -⟩ := hm.x
            have e2' := G2.out w1 P1.out.t
            clear t1
            go_wp2_with fail
            refine (plain_any ox oc ol w1 (EX.out _ P1.out.t) (by omega)).mono ?_
            rintro e w2 ⟨pv, rfl, hp, t2⟩
            have P2 := hid (P1.out.touch t2)
            have M2 := hid (hm.t t2)
            obtain ⟨yp, cp, rfl, -, -, -, -, hxp⟩ := entX_ownT hp
            have XP := hid hxp
            clear hm hp hxp t2 P1
            go_wp2_with fail
            go_loopw [10, 15, 17] (fun rv' nv jv w3 => ∃ j : Nat, j ≤ ol.length ∧ jv = .int .i64 j ∧ nv = .int .i64 (((addAll T.io (ol.take j)).length - T.io.length : Nat) : Int) ∧ w3.ownsRow W.heap.size TREn 3 rv' (addAll T.io (ol.take j)).length (envals (addAll T.io (ol.take j))) ∧ Touch [] w2 w3) (fun _ _ jv _ => ol.length - (RowKit.intOf jv).toNat)
            case atStart => exact ⟨0, Nat.zero_le _, rfl, by simp [addAll], by simpa [addAll] using P2.out.row, Touch.refl _ _⟩
            case round =>
              obtain ⟨j, hj, rfl, rfl, hown, ht3⟩ := hrel
              obtain ⟨y3, c3, rfl, -, -⟩ := slice_form hown
              have O3 := hid hown
              have T3 := hid ht3
              have HLA := addAll_len (ol.take j) P2.out.srt
              have hts : (ol.take j).length ≤ j := by rw [List.length_take]; omega
              clear hown ht3
              by_cases hjl : j < ol.length
              · have hjl2 : decide (j < ol.length) = true := by simpa using hjl
                have hjI : (j : Int) < ol.length := by omega
                have SN : Hid (addAll T.io (ol.take (j + 1)) = put1 (addAll T.io (ol.take j)) ol[j]) := hid (by rw [List.take_succ_eq_append_getElem hjl, addAll_snoc])
                have SA := hid (sorted_addAll (ol.take j) P2.out.srt)
                obtain ⟨b3, off3, rfl, c0, c1, c2⟩ := XP.out j hjl
                have d0 := T3.out.cell c0
                have d1 := T3.out.cell c1
                have d2 := T3.out.cell c2
                clear c0 c1 c2
                generalize ol[j] = s at *
                have TOLD := hid (put1_told SA.out s)
                generalize hA : addAll T.io (ol.take j) = A at *
                have RA := hid (refAdd_any (.slice y3 A.length c3) A s W.heap.size wr O3.out (Nat.le_trans P2.out.t.size T3.out.size) SA.out (by omega))
                by_cases hin : okE s ∧ s ∉ A
                · have hd : decide (okE s ∧ s ∉ A) = true := by simpa using hin
                  rw [hd] at RA
                  have HN1 : Hid ((put1 A s).length = A.length + 1) := hid (by rw [TOLD.out, if_pos hin])
                  clear hin hd TOLD hA
                  go_wp2_with fail
                  refine RA.out.mono ?_
                  rintro e w4 ⟨u, rfl, ho, t4⟩
                  obtain ⟨yu, cu, rfl, -, -⟩ := slice_form ho
                  have O4 := hid ho
                  have T4 := hid (T3.out.trans t4 (by simp))
                  clear ho t4 RA
                  go_wp2
                  go_roundw
                  case rel => exact ⟨j + 1, by omega, by go_num, by rw [SN.out, HN1.out]; go_num, by rw [SN.out]; exact O4.out, T4.out⟩
                  case measure => simp [RowKit.intOf]; omega
                · have hd : decide (okE s ∧ s ∉ A) = false := by simpa using hin
                  rw [hd] at RA
                  have HN1 : Hid ((put1 A s).length = A.length) := hid (by rw [TOLD.out, if_neg hin]; rfl)
                  clear hin hd TOLD hA
                  go_wp2_with fail
                  refine RA.out.mono ?_
                  rintro e w4 ⟨u, rfl, ho, t4⟩
                  obtain ⟨yu, cu, rfl, -, -⟩ := slice_form ho
                  have O4 := hid ho
                  have T4 := hid (T3.out.trans t4 (by simp))
                  clear ho t4 RA
                  go_wp2
                  go_roundw
                  case rel => exact ⟨j + 1, by omega, by go_num, by rw [SN.out, HN1.out], by rw [SN.out]; exact O4.out, T4.out⟩
                  case measure => simp [RowKit.intOf]; omega
              · obtain rfl : j = ol.length := by omega
                have hjl2 : decide (ol.length < ol.length) = false := by simp
                rw [List.take_length] at O3 HLA ⊢
                have P3 := hid (P2.out.newrow T3.out O3.out (Nat.le_refl _))
                have M3 := hid (M2.out.t T3.out)
                have CA := hid (add_any tb T (some ⟨gm, 0, none⟩) ol ol.length cm rfl wr P3.out.tab P3.out.srt (by omega) (fun w' t' => (M3.out.rest (Rest.tab P3.out.tab t') (by decide)).pre))
                clear O3 T3 P2 M2 XP
                go_wp2_with fail
                refine CA.out.mono ?_
                rintro e w4 ⟨T', rfl, hT', hio, t4⟩
                have P4 := hid (P3.out.newtab t4 hT' (by rw [hio]; exact sorted_addAll ol P3.out.srt) (by rw [hio]; exact ok_addAll ol P3.out.ok) (m' := k + 1) (by rw [hio]; have := P3.out.len; omega))
                have M4 := hid (M3.out.rest (Rest.tab P3.out.tab t4) (by decide))
                have HIO := hid hio
                have e2'' := G2.out w4 P4.out.t
                have ST := hid (staysE_any _ _ ox oc ol w4 M4.out (EX.out _ P4.out.t) (by omega))
                clear hT' hio t4 CA P3 M3
                go_wp2_with fail
                refine ST.out.mono ?_
                rintro e w5 ⟨rfl, t5⟩
                have P5 := hid (P4.out.touch t5)
                clear t5 ST P4
                go_wp2
                go_meet
                exact ⟨T', by rw [HIO.out]; exact P5.out⟩
        case rest =>
          obtain ⟨T', hP'⟩ := hcut
          have Q := hid hP'
          clear hP' P HXR e0 e1 e2 EX EN G0 G1 G2 h30 h30b h30c hl63 hlT
          obtain ⟨yq, cq, rfl, -, -, -, -, hxq⟩ := entX_ownT Q.out.row
          have XQ := hid (fun w (t : Touch [] wc w) => hxq.t0 t)
          clear hxq
          have hl : T'.io.length ≤ 1200 := by have := Q.out.len; omega
          have hlB : (T'.io.filter (isR h f t)).length ≤ 1200 := Nat.le_trans (List.length_filter_le _ _) hl
          have hlC : (T'.io.filter (isHV h f)).length ≤ 1200 := Nat.le_trans (List.length_filter_le _ _) hl
          have KA := hid (all_any (some ⟨tb, 0, none⟩) T' Q.out.srt (by omega) wc Q.out.tab.at)
          rw [from_zero Q.out.ok] at KA
          go_wp2_with fail
          refine KA.out.mono ?_
          rintro e w1 ⟨va, rfl, oa, t1⟩
          have Q1 := hid (Q.out.touch t1)
          have K1 := hid (Q.out.book.pendE t1 oa)
          have A1 := hid oa
          have T1 := hid t1
          have KB := hid (range_any h f t (some ⟨tb, 0, none⟩) T' Q.out.srt (by omega) w1 Q1.out.tab.at)
          rw [tab_range Q.out.srt Q.out.ok, isR_rngL] at KB
          clear oa t1 KA
          go_wp2_with fail
          refine KB.out.mono ?_
          rintro e w2 ⟨vb, rfl, ob, t2⟩
          have Q2 := hid (Q1.out.touch t2)
          have K2 := hid (K1.out.pendE t2 ob)
          have A2 := hid (owns_touch A1.out t2)
          have B2 := hid ob
          have FAB := hid (far_new A1.out ob (Nat.le_refl _))
          have T2 := hid (T1.out.trans t2 (by simp))
          have HB1 := hid Q1.out.t.size
          have HB2 := hid Q2.out.t.size
          have KC := hid (find_any h f (some ⟨tb, 0, none⟩) T' Q.out.srt (by omega) w2 Q2.out.tab.at)
          rw [find_list Q.out.srt Q.out.ok, posV_intV] at KC
          clear ob t2 KB A1 K1
          go_wp2_with fail
          refine KC.out.mono ?_
          rintro e w3 ⟨vc, rfl, oc, t3⟩
          have Q3 := hid (Q2.out.touch t3)
          have K3 := hid ((K2.out.pendI t3 oc).sub (pE' := [va, vb]) (pI' := [vc]) (by simp) (by simp))
          have A3 := hid (owns_touch A2.out t3)
          have B3 := hid (owns_touch B2.out t3)
          have C3 : Hid (w3.ownsRow w2.heap.size TInt 1 vc ((T'.io.filter (isHV h f)).map fun e => e.2.2).length (intV ((T'.io.filter (isHV h f)).map fun e => e.2.2))) := hid (by rw [List.length_map]; exact oc)
          have T3 := hid (T2.out.trans t3 (by simp))
          have PA := hid (K3.out.putE A3.out Q.out.t.size (fun p hp => by simp at hp; subst hp; exact ⟨FAB.out, _, _, _, B3.out⟩) (by omega) (by omega) Q3.out.t.size)
          clear oc t3 KC A2 B2 K2 Q1 Q2 T1 T2
          go_wp2_with fail
          refine PA.out.mono ?_
          rintro e w4 ⟨rfl, r4, n4, s4, k4⟩
          have A4 := hid (r4.row A3.out (by decide))
          have B4 := hid (r4.row B3.out (by decide))
          have C4 := hid (r4.row C3.out (by decide))
          have R4 := hid (r4.row Q3.out.row (by decide))
          have B4t := hid (Q3.out.tab.rest r4 s4 (by decide) (by decide) (by decide))
          have T4 := hid (n4 W Q3.out.t (Nat.le_refl _))
          have PB := hid (k4.putE B4.out HB1.out (fun p hp => by simp at hp) (by omega) (by omega) T4.out.size)
          clear r4 n4 s4 k4 PA A3 B3 C3 K3 Q3
          go_wp2_with fail
          refine PB.out.mono ?_
          rintro e w5 ⟨rfl, r5, n5, s5, k5⟩
          have A5 := hid (r5.row A4.out (by decide))
          have B5 := hid (r5.row B4.out (by decide))
          have C5 := hid (r5.row C4.out (by decide))
          have R5 := hid (r5.row R4.out (by decide))
          have B5t := hid (B4t.out.rest r5 s5 (by decide) (by decide) (by decide))
          have T5 := hid (n5 W T4.out (Nat.le_refl _))
          have PC := hid (k5.putI C5.out HB2.out (fun p hp => by simp at hp) (by omega) (by rw [List.length_map]; omega) T5.out.size)
          clear r5 n5 s5 k5 PB A4 B4 C4 R4 B4t T4
          go_wp2_with fail
          refine PC.out.mono ?_
          rintro e w6 ⟨rfl, r6, n6, s6, k6⟩
          have A6 := hid (r6.row A5.out (by decide))
          have B6 := hid (r6.row B5.out (by decide))
          have C6 := hid (r6.row C5.out (by decide))
          have T6 := hid (n6 W T5.out (Nat.le_refl _))
          have Q6 : Hid (Pl W w6 tb kb (.slice yq T'.io.length cq) T'.io T' (k + 1) (k + 1)) := hid ⟨B5t.out.rest r6 s6 (by decide) (by decide) (by decide), Q.out.srt, Q.out.ok, Q.out.len, r6.row R5.out (by decide), k6, Q.out.ge, T6.out⟩
          clear r6 n6 s6 k6 PC A5 B5 C5 R5 B5t T5 Q T3 HB1 HB2
          have LT := hid (last_any h w6 Q6.out.tab.at Q6.out.srt)
          have LR := hid (fun w (t : Touch [] w6 w) => by
            obtain ⟨x9, c9, e9, -, -, -, -, h9⟩ := entX_ownT (owns_touch Q6.out.row t)
            cases e9
            have := refLast_any h yq cq T'.io w h9 (by omega)
            rwa [lastR_sorted Q6.out.srt] at this)
          unfold lastV at LT LR
          generalize (lastE T'.io h).isSome = bo at *
          generalize (lastE T'.io h).getD (0, 0, 0) = eo at *
          obtain ⟨z1, z2, z3⟩ := eo
          unfold enV at LT LR
          dsimp only at LT LR
          go_wp2_with fail
          refine LT.out.mono ?_
          rintro e w7 ⟨rfl, t7⟩
          obtain ⟨x7, hx7⟩ : ∃ x, x = w7.heap.size := ⟨_, rfl⟩
          obtain ⟨V7, hV7⟩ : ∃ V, V = w7.alloc (.cells #[.int .i64 z1, .int .i64 z2, .int .i64 z3] TEn) := ⟨_, rfl⟩
          have EB7 : Hid (EnB V7 x7 (z1, z2, z3)) := hid (by rw [hV7, hx7]; exact heap_alloc_new w7 _)
          have T7 : Hid (Touch [] w6 V7) := hid (by rw [hV7]; exact t7.alloc _)
          clear t7 LT
          go_wp2_with fail
          rw [← hV7, ← hx7]
          clear hV7 hx7
          refine (LR.out V7 T7.out).mono ?_
          rintro e w8 ⟨rfl, t8⟩
          obtain ⟨x8, hx8⟩ : ∃ x, x = w8.heap.size := ⟨_, rfl⟩
          obtain ⟨V8, hV8⟩ : ∃ V, V = w8.alloc (.cells #[.int .i64 z1, .int .i64 z2, .int .i64 z3] TREn) := ⟨_, rfl⟩
          have EB8 : Hid (REnB V8 x8 (z1, z2, z3)) := hid (by rw [hV8, hx8]; exact heap_alloc_new w8 _)
          have T78 : Hid (Touch [] V7 V8) := hid (by rw [hV8]; exact t8.alloc _)
          have T8 : Hid (Touch [] w6 V8) := hid (T7.out.trans T78.out (by simp))
          clear t8 LR
          go_upto_region 36 with fail
          rw [← hV8, ← hx8]
          clear hV8 hx8
          have XV := hid (fun w (t : Touch [] V8 w) => (show EntX w yq T'.io by
            obtain ⟨x9, c9, e9, -, -, -, -, h9⟩ := entX_ownT (owns_touch Q6.out.row (T8.out.trans t (by simp)))
            cases e9
            exact h9))
          have LN := hid (fun w (t : Touch [] V8 w) => (tablen_any w (Q6.out.tab.t0 (T8.out.trans t (by simp))).at))
          simp only [Tr.ct_io] at LN
          have hbo : (bo != bo) = false := by simp
          have A8 := hid (owns_touch A6.out T8.out)
          have B8 := hid (owns_touch B6.out T8.out)
          have C8 := hid (owns_touch C6.out T8.out)
          have FIN := hid (fun w (t : Touch [] V8 w) => Q6.out.touch (T8.out.trans t (by simp)))
          have PC7 := hid (fun w (t : Touch [] V8 w) => (EB7.out.t (T78.out.trans t (by simp))).c)
          have PC8 := hid (fun w (t : Touch [] V8 w) => (EB8.out.t t).c)
          clear A6 B6 C6 T7 T78 T8 EB7 EB8 Q6 T6 XQ
          go_wp2_with fail
          refine (real_any yq cq T'.io V8 (XV.out V8 (Touch.refl [] V8)) (by omega)).mono ?_
          rintro e w9 ⟨ra, rfl, ho, t9⟩
          have S9 := hid (sameE_rows (owns_touch A8.out t9) ho (by omega))
          have T9 := hid t9
          clear ho t9
          go_wp2_with fail
          refine S9.out.mono ?_
          rintro e w10 ⟨rfl, t10⟩
          have T10 := hid (T9.out.trans t10 (by simp))
          clear t10 S9 T9
          go_wp2_with fail
          refine (refRange_any h f t yq cq T'.io w10 (XV.out w10 T10.out) (by omega)).mono ?_
          rintro e w11 ⟨rb, rfl, ho, t11⟩
          obtain ⟨yb, cb, rfl, -, -, -, -, hxb⟩ := entX_ownT ho
          have XB := hid hxb
          have T11 := hid (T10.out.trans t11 (by simp))
          clear ho hxb t11 T10
          go_wp2_with fail
          refine (real_any yb cb (T'.io.filter (isR h f t)) w11 XB.out (by omega)).mono ?_
          rintro e w12 ⟨rb2, rfl, ho, t12⟩
          have T12 := hid (T11.out.trans t12 (by simp))
          have S12 := hid (sameE_rows (owns_touch B8.out T12.out) ho (by omega))
          clear ho t12 T11 XB
          go_wp2_with fail
          refine S12.out.mono ?_
          rintro e w13 ⟨rfl, t13⟩
          have T13 := hid (T12.out.trans t13 (by simp))
          clear t13 S12 T12
          go_wp2_with fail
          refine (refFind_any h f yq cq T'.io w13 (XV.out w13 T13.out) (by omega)).mono ?_
          rintro e w14 ⟨rc, rfl, ho, t14⟩
          have T14 := hid (T13.out.trans t14 (by simp))
          rw [posV_intV] at ho
          have S14 := hid (sameInts_rows (owns_touch C8.out T14.out) ho (by rw [List.length_map]; omega))
          clear ho t14 T13
          go_wp2_with fail
          refine S14.out.mono ?_
          rintro e w15 ⟨rfl, t15⟩
          have T15 := hid (T14.out.trans t15 (by simp))
          clear t15 S14 T14
          obtain ⟨p0, p1, p2⟩ := PC7.out w15 T15.out
          obtain ⟨q0, q1, q2⟩ := PC8.out w15 T15.out
          dsimp only at p0 p1 p2 q0 q1 q2
          go_wp2_with fail
          refine (LN.out w15 T15.out).mono ?_
          rintro e w16 ⟨rfl, h16⟩
          subst h16
          go_wp2
          go_roundw
          case rel => exact ⟨k + 1, by omega, by go_num, T', FIN.out _ T15.out⟩
          case measure => simp [RowKit.intOf]; omega
    · obtain rfl : k = ops.length := by omega
      have hlt2 : decide (ops.length < ops.length) = false := by simp
      have P' := hid (fun w1 (t1 : Touch [] wr w1) => (P.out.touch t1).book.apart (P.out.touch t1).t.size)
      go_wp2_with fail
      refine (AL.out _).mono ?_
      rintro e w1 ⟨rfl, t1⟩
      have A1 := hid (P'.out w1 t1)
      have T1 := hid (P.out.t.trans t1 (by simp))
      clear t1 P'
      go_wp2_with fail
      refine A1.out.mono ?_
      rintro e w2 ⟨rfl, n2⟩
      have T2 := hid (n2 W T1.out (Nat.le_refl _))
      clear n2
      go_wp2
      go_ret
      exact ⟨rfl, T2.out⟩
theorem walk_TabPlays (v0 : Value) (ops : List OpT) (h : Int) (_wh : (Lit.int .i64 h).wf = true) (f : Int) (_wf : (Lit.int .i64 f).wf = true) (t : Int) (_wt : (Lit.int .i64 t).wf = true) (W : World) (h0 : Ops12 W v0 ops) :
    Calls Try.prog 3 #[v0, .int .i64 h, .int .i64 f, .int .i64 t] W fun e W' => e = .returned (.bool true) ∧ Touch [] W W' := by
  obtain ⟨x, c, rfl, _, hX⟩ := h0
  by_cases hl : 40 < ops.length
  · exact plays_long x c ops h f t W hl
  · exact plays_in x c ops h f t W hX (by omega)
end Go.Proofs.Ytdjcpdlfapfmkaa
