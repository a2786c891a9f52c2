/- ViewPages, walked. -/
import Derived.Test.YtmgglmoiepjebaaWPag16
namespace Go.Proofs.Ytmgglmoiepjebaa
open Go.RowKit Go.Lib Go.Shelf
set_option maxRecDepth 100000

set_option maxHeartbeats 8000000 in
theorem walk_ViewPages (v : Value) (L : List StoD) (f : Int) (_wf : (Lit.int .i64 f).wf = true) (n : Int) (_wn : (Lit.int .i64 n).wf = true) (W : World) (hv : Stos W v L) :
    Calls Try.prog 5 #[v, .int .i64 f, .int .i64 n] W fun e W' => e = .returned (.bool true) ∧ Touch [] W W' := by
  obtain ⟨x, c, rfl, hlc, hcm, hX, hnil⟩ := hv
  have CA := hid alive16_any
  have CF := hid (few_any 40 (by decide) x c L W (by omega) hX)
  by_cases hbad : fewB 40 L = false ∨ f < 0 ∨ n < 1 ∨ 100 < n
  · clear hX hnil hlc hcm
    have hcase : (fewB 40 L = false) ∨ (fewB 40 L = true ∧ decide (f < 0) = true) ∨ (fewB 40 L = true ∧ decide (f < 0) = false ∧ decide (n < 1) = true) ∨ (fewB 40 L = true ∧ decide (f < 0) = false ∧ decide (n < 1) = false ∧ decide (n > 100) = true) := by
      simp only [decide_eq_true_eq, decide_eq_false_iff_not]
      cases hfw : fewB 40 L
      · exact .inl rfl
      · rw [hfw] at hbad
        by_cases a1 : f < 0
        · exact .inr (.inl ⟨rfl, a1⟩)
        by_cases a2 : n < 1
        · exact .inr (.inr (.inl ⟨rfl, a1, a2⟩))
        refine .inr (.inr (.inr ⟨rfl, a1, a2, ?_⟩))
        rcases hbad with h | h | h | h
        · cases h
        · exact absurd h a1
        · exact absurd h a2
        · exact h
    clear hbad
    generalize fewB 40 L = g at *
    rcases hcase with rfl | ⟨rfl, d1⟩ | ⟨rfl, d1, d2⟩ | ⟨rfl, d1, d2, d3⟩
    all_goals
      go_enter Try.func5, Try.ntmps5
      go_wp2_with (first
        | (go_at_call 7; refine CF.out.mono ?_; clear CF; rintro e w1 ⟨rfl, rfl⟩)
        | (go_at_call 8; refine (CA.out _).mono ?_; clear CA; rintro e w2 ⟨rfl, t2⟩; have T9 := hid t2; clear t2))
      go_ret
      exact ⟨rfl, T9.out⟩
  have hfew : fewB 40 L = true := by
    cases h : fewB 40 L
    · exact absurd (.inl h) hbad
    · rfl
  have hf0 : 0 ≤ f := by omega
  have hn0 : 1 ≤ n := by omega
  have hn1 : n ≤ 100 := by omega
  have hG := few_good hfew (stoX_ok hX)
  have hl40 := (few_parts hfew).1
  rw [hfew] at CF
  clear hfew hbad
  have d1 : decide (f < 0) = false := by rw [decide_eq_false_iff_not]; omega
  have d2 : decide (n < 1) = false := by rw [decide_eq_false_iff_not]; omega
  have d3 : decide (n > 100) = false := by rw [decide_eq_false_iff_not]; omega
  have C1 : Hid (∀ w, Touch [] W w → _) := hid fun w t => forward_any f n hf0 hn0 hn1 x c L w (hX.touch t) hG (by omega)
  have C2 : Hid (∀ w, Touch [] W w → _) := hid fun w t => backward_any f n hf0 hn0 hn1 x c L w (hX.touch t) hG (by omega)
  have HX := hid hX
  have HG := hid hG
  clear hX hG hnil
  go_enter Try.func5, Try.ntmps5
  go_wp2_with (go_at_call 7; refine CF.out.mono ?_; clear CF; rintro e w1 ⟨rfl, rfl⟩)
  go_loopw [7] (fun iv wr => ∃ k : Nat, k ≤ L.length ∧ iv = .int .i64 k ∧ Hid (okQ L k) ∧ Hid (Touch [] W wr)) (fun iv _ => L.length - (RowKit.intOf iv).toNat)
  case atStart => exact ⟨0, Nat.zero_le _, rfl, hid (okQ_zero L), hid (Touch.refl _ _)⟩
  case round =>
    obtain ⟨k, hk, rfl, hok, hT⟩ := hrel
    by_cases hlt : k < L.length
    · have hlt2 : decide (k < L.length) = true := by simpa using hlt
      have hkI : (k : Int) < L.length := by omega
      obtain ⟨b, off, rfl, ha, -⟩ := (HX.out.touch hT.out) k hlt
      have c6 := ha.c6
      clear ha
      have OS := hid (fun h0 h1 h2 => okQ_succ hok.out hlt h0 h1 h2)
      have K0 : Hid ((∃ i, ∃ hi : i < L.length, i + 1 = k) ∨ k = 0) := hid (by
        by_cases h : k = 0
        · exact .inr h
        · exact .inl ⟨k - 1, by omega, by omega⟩)
      have PV : Hid (∀ i (hi : i < L.length), wr.cell? ⟨b, off + i * 8 + 6, none⟩ = some (.int .i64 L[i].position)) := hid fun i hi => by
        obtain ⟨b', off', e, ha', -⟩ := (HX.out.touch hT.out) i hi
        simp at e
        obtain ⟨rfl, rfl⟩ := e
        exact ha'.c6
      by_cases hb1 : L[k].position < 0
      · have q1 : decide (L[k].position < 0) = true := by rw [decide_eq_true_eq]; exact hb1
        clear hb1 OS
        generalize L[k].position = p at *
        go_upto_region 6 with fail
        go_quiet (fail)
        go_wp2_with (go_at_call 8; refine (CA.out _).mono ?_; clear CA; rintro e w2 ⟨rfl, t2⟩; have T9 := hid t2; clear t2)
        go_ret
        exact ⟨rfl, (hT.out.drewN _).trans T9.out (by simp)⟩
      have q1 : decide (L[k].position < 0) = false := by rw [decide_eq_false_iff_not]; exact hb1
      by_cases hb2 : 1099511627776 < L[k].position
      · have q2 : decide (L[k].position > 1099511627776) = true := by rw [decide_eq_true_eq]; exact hb2
        clear hb1 hb2 OS
        generalize L[k].position = p at *
        go_upto_region 6 with fail
        go_quiet (fail)
        go_wp2_with (go_at_call 8; refine (CA.out _).mono ?_; clear CA; rintro e w2 ⟨rfl, t2⟩; have T9 := hid t2; clear t2)
        go_ret
        exact ⟨rfl, (hT.out.drewN _).trans T9.out (by simp)⟩
      have q2 : decide (L[k].position > 1099511627776) = false := by rw [decide_eq_false_iff_not]; exact hb2
      have OS2 := hid (OS.out (by omega) (by omega))
      clear hb1 hb2 OS
      rcases K0.out with ⟨i, hi, hik⟩ | hk0
      · have q3 : decide ((k : Int) > 0) = true := by rw [decide_eq_true_eq]; omega
        have q4 : decide (0 < k) = true := by rw [decide_eq_true_eq]; omega
        have hw : IntKind.i64.wrap ((k : Int) - 1) = (i : Int) := by rw [IntWalk.i64_in _ (by omega)]; omega
        have hiI : (i : Int) < L.length := by omega
        have c6' := PV.out i hi
        by_cases hle : L[k].position ≤ L[i].position
        · have q5 : decide (L[k].position ≤ L[i].position) = true := by rw [decide_eq_true_eq]; exact hle
          clear hle OS2 hik PV
          generalize L[k].position = p at *
          generalize L[i].position = p' at *
          go_upto_region 6 with fail
          go_quiet (fail)
          go_wp2_with (go_at_call 8; refine (CA.out _).mono ?_; clear CA; rintro e w2 ⟨rfl, t2⟩; have T9 := hid t2; clear t2)
          go_ret
          exact ⟨rfl, (hT.out.drewN _).trans T9.out (by simp)⟩
        · have q5 : decide (L[k].position ≤ L[i].position) = false := by rw [decide_eq_false_iff_not]; exact hle
          have OK3 := hid (OS2.out (fun j hj e => by obtain rfl : j = i := by omega
                                                     omega))
          clear hle OS2 hik PV
          generalize L[k].position = p at *
          generalize L[i].position = p' at *
          go_upto_region 6 with fail
          go_quiet (fail)
          go_wp2
          go_roundw
          case rel => exact ⟨k + 1, by omega, by go_num, OK3, hid (hT.out.drewN _)⟩
          case measure => simp [RowKit.intOf]; omega
      · have q3 : decide ((k : Int) > 0) = false := by rw [decide_eq_false_iff_not]; omega
        have q4 : decide (0 < k) = false := by rw [decide_eq_false_iff_not]; omega
        have OK3 := hid (OS2.out (fun j hj e => by omega))
        clear OS2 PV hk0
        generalize L[k].position = p at *
        go_upto_region 6 with fail
        go_quiet (fail)
        go_wp2
        go_roundw
        case rel => exact ⟨k + 1, by omega, by go_num, OK3, hid (hT.out.drewN _)⟩
        case measure => simp [RowKit.intOf]; omega
    · obtain rfl : k = L.length := by omega
      have hlt2 : decide (L.length < L.length) = false := by simp
      have RS := hid (okQ_rising hok.out)
      have CF1 := hid (C1.out _ hT.out)
      clear C1 hok
      unfold PageR at CF1
      go_upto_region 9 with (go_at_call 15; refine CF1.out.mono ?_; clear CF1; rintro e w2 ⟨v1, rfl, r1, t1⟩; obtain ⟨y1, c1, rfl, -, -⟩ := slice_form r1)
      have FE := fwd_end L f n hn0
      have FLN := hid (fwd_len L f n hn0)
      have FS := hid (fwdL_side L f n)
      have FR := hid (fwdL_rising RS.out f n)
      have FX := hid (stoX_row r1 rfl (fwdL_ok HG.out f n))
      generalize fwdL L f n = FL at *
      generalize fwdN L f n = fN at *
      generalize fwdE L f n = fE at *
      obtain ⟨W3, hW3⟩ : ∃ W3, W3 = w2.alloc (.cells #[.slice y1 FL.length c1, .int .i64 fN, .bool fE] TPage) := ⟨_, rfl⟩
      have P3 : Hid (W3.heap[w2.heap.size]? = some (.cells #[.slice y1 FL.length c1, .int .i64 fN, .bool fE] TPage (0, 0))) := by rw [hW3]; exact hid (heap_alloc_new w2 _)
      have T3 : Touch [] wr W3 := by rw [hW3]; exact t1.alloc _
      have X3 : Hid (StoX W3 y1 FL) := by rw [hW3]; exact hid (FX.out.touch ((Touch.refl [] w2).alloc _))
      simp only [TPage] at hW3
      rw [← hW3]
      clear hW3 r1 t1 FX
      have HT3 := hid (hT.out.trans T3 (by simp))
      have CB1 := hid (C2.out _ HT3.out)
      clear C2 T3
      unfold PageR at CB1
      generalize w2.heap.size = pb at *
      go_upto_region 10 with (go_at_call 16; refine CB1.out.mono ?_; clear CB1; rintro e w4 ⟨v2, rfl, r2, t2⟩; obtain ⟨y2, c2, rfl, -, -⟩ := slice_form r2)
      have BE := bwd_end L f n hn0
      have BLN := hid (bwd_len L f n hn0)
      have BS := hid (bwdL_side L f n)
      have BR := hid (bwdL_falling RS.out f n)
      have BX := hid (stoX_row r2 rfl (bwdL_ok HG.out f n))
      generalize bwdL L f n = BL at *
      generalize bwdN L f n = bN at *
      generalize bwdE L f n = bE at *
      obtain ⟨W5, hW5⟩ : ∃ W5, W5 = w4.alloc (.cells #[.slice y2 BL.length c2, .int .i64 bN, .bool bE] TPage) := ⟨_, rfl⟩
      have Q5 : Hid (W5.heap[w4.heap.size]? = some (.cells #[.slice y2 BL.length c2, .int .i64 bN, .bool bE] TPage (0, 0))) := by rw [hW5]; exact hid (heap_alloc_new w4 _)
      have T5 : Touch [] W3 W5 := by rw [hW5]; exact t2.alloc _
      have X5 : Hid (StoX W5 y2 BL) := by rw [hW5]; exact hid (BX.out.touch ((Touch.refl [] w4).alloc _))
      simp only [TPage] at hW5
      rw [← hW5]
      clear hW5 r2 t2 BX RS
      have P5 := hid (touch_other T5 P3.out (by simp))
      have X3 := hid (X3.out.touch T5)
      have HT5 := hid (HT3.out.trans T5 (by simp))
      clear T5 HT3 P3 hT
      generalize w4.heap.size = qb at *
      have hlen := hl40
      go_wp2
      go_loop [12, 13, 14] (fun uv dv iv => ∃ k : Nat, k ≤ L.length ∧ uv = .int .i64 (cntU (fwdP f) L k : Nat) ∧ dv = .int .i64 (cntU (bwdP f) L k : Nat) ∧ iv = .int .i64 k) (fun _ _ iv => L.length - (RowKit.intOf iv).toNat)
      case atStart => exact ⟨0, Nat.zero_le _, rfl, rfl, rfl⟩
      case round =>
        obtain ⟨k, hk, rfl, rfl, rfl⟩ := hrel
        by_cases hlt : k < L.length
        · have hlt3 : decide (k < L.length) = true := by simpa using hlt
          have hkI : (k : Int) < L.length := by omega
          obtain ⟨b, off, rfl, ha, -⟩ := (HX.out.touch HT5.out) k hlt
          have c6 := ha.c6
          clear ha
          have U1 := cntU_succ (fwdP f) L hlt
          have D1 := cntU_succ (bwdP f) L hlt
          have hu := cntU_le (fwdP f) L k
          have hd := cntU_le (bwdP f) L k
          have hwU : IntKind.i64.wrap ((cntU (fwdP f) L k : Int) + 1) = (cntU (fwdP f) L k : Int) + 1 := IntWalk.i64_in _ (by omega)
          have hwD : IntKind.i64.wrap ((cntU (bwdP f) L k : Int) + 1) = (cntU (bwdP f) L k : Int) + 1 := IntWalk.i64_in _ (by omega)
          have q1 : (decide (L[k].position ≥ f) = true ∧ cntU (fwdP f) L (k + 1) = cntU (fwdP f) L k + 1) ∨ (decide (L[k].position ≥ f) = false ∧ cntU (fwdP f) L (k + 1) = cntU (fwdP f) L k) := by
            rw [U1]
            unfold fwdP
            cases decide (L[k].position ≥ f) <;> simp
          have q2 : (decide (L[k].position ≤ f) = true ∧ cntU (bwdP f) L (k + 1) = cntU (bwdP f) L k + 1) ∨ (decide (L[k].position ≤ f) = false ∧ cntU (bwdP f) L (k + 1) = cntU (bwdP f) L k) := by
            rw [D1]
            unfold bwdP
            cases decide (L[k].position ≤ f) <;> simp
          clear U1 D1
          generalize L[k].position = p at *
          generalize hU : cntU (fwdP f) L k = U at *
          generalize hD : cntU (bwdP f) L k = D at *
          clear hU hD
          rcases q1 with ⟨g1, e1⟩ | ⟨g1, e1⟩ <;> rcases q2 with ⟨g2, e2⟩ | ⟨g2, e2⟩
          all_goals
            have E1 := hid e1
            have E2 := hid e2
            clear e1 e2
            go_wp2
            go_round
            case rel => exact ⟨k + 1, by omega, by (rw [E1.out]) <;> go_num, by (rw [E2.out]) <;> go_num, by go_num⟩
            case measure => simp [RowKit.intOf]; omega
        · obtain rfl : k = L.length := by omega
          have hlt3 : decide (L.length < L.length) = false := by simp
          go_upto_region 18 with fail
          have hFL := FLN.out
          have hBL := BLN.out
          rw [FE] at P5
          rw [BE] at Q5
          clear FE BE FLN BLN
          have hu := cntU_le (fwdP f) L L.length
          have hd := cntU_le (bwdP f) L L.length
          generalize cntU (fwdP f) L L.length = U at *
          generalize cntU (bwdP f) L L.length = D at *
          have g1 : ((FL.length : Int) == min (U : Int) n) = true := by rw [hFL]; simp
          have g2 : ((BL.length : Int) == min (D : Int) n) = true := by rw [hBL]; simp
          have hFL40 : FL.length ≤ 40 := by omega
          have hBL40 : BL.length ≤ 40 := by omega
          clear hFL hBL
          generalize hb1 : decide ((U : Int) ≤ n) = e1 at *
          generalize hb2 : decide ((D : Int) ≤ n) = e2 at *
          obtain ⟨p0, p1, p2⟩ := pg_cells P5.out
          obtain ⟨q0, q1, q2⟩ := pg_cells Q5.out
          go_upto_region 20 with fail
          all_goals (have z1 := beq_iff_eq.1 g1; have z2 := beq_iff_eq.1 g2)
          rotate_left
          · contradiction
          · contradiction
          clear z1 z2 g1 g2 hb1 hb2 p0 p1 p2 q0 q1 q2
          go_wp2
          go_loopw [15] (fun iv wq => ∃ k : Nat, k ≤ FL.length ∧ iv = .int .i64 k ∧ Hid (Touch [] W5 wq)) (fun iv _ => FL.length - (RowKit.intOf iv).toNat)
          case atStart => exact ⟨0, Nat.zero_le _, rfl, hid (Touch.refl _ _)⟩
          case round =>
            obtain ⟨k, hk, rfl, hT⟩ := hrel
            obtain ⟨p0, -, -⟩ := pg_cells (touch_other hT.out P5.out (by simp))
            by_cases hlt : k < FL.length
            · have hlt4 : decide (k < FL.length) = true := by simpa using hlt
              have hkI : (k : Int) < FL.length := by omega
              have PV : Hid (∃ b off, y1 = some ⟨b, off, none⟩ ∧ ∀ i (hi : i < FL.length), wr.cell? ⟨b, off + i * 8 + 6, none⟩ = some (.int .i64 FL[i].position)) := hid (by
                obtain ⟨b, off, e, -, -⟩ := X3.out k hlt
                refine ⟨b, off, e, fun i hi => ?_⟩
                obtain ⟨b', off', e', ha', -⟩ := (X3.out.touch hT.out) i hi
                rw [e] at e'
                simp at e'
                obtain ⟨rfl, rfl⟩ := e'
                exact ha'.c6)
              obtain ⟨b, off, rfl, hPV⟩ := PV.out
              have c6 := hPV k hlt
              have PV2 := hid hPV
              have s1 := FS.out _ (List.getElem_mem hlt)
              have w1 : decide (FL[k].position < f) = false := by rw [decide_eq_false_iff_not]; omega
              clear s1 hPV
              by_cases hk0 : k = 0
              · have w2 : decide ((k : Int) > 0) = false := by rw [decide_eq_false_iff_not]; omega
                have w3 : decide (0 < k) = false := by rw [decide_eq_false_iff_not]; omega
                clear hk0 PV PV2
                generalize FL[k].position = p at *
                go_upto_region 23 with fail
                go_quiet (fail)
                go_wp2
                go_roundw
                case rel => exact ⟨k + 1, by omega, by go_num, hid (hT.out.drewN _)⟩
                case measure => simp [RowKit.intOf]; omega
              · have w2 : decide ((k : Int) > 0) = true := by rw [decide_eq_true_eq]; omega
                have w3 : decide (0 < k) = true := by rw [decide_eq_true_eq]; omega
                obtain ⟨i, hik⟩ : ∃ i, i + 1 = k := ⟨k - 1, by omega⟩
                have hi : i < FL.length := by omega
                have hiI : (i : Int) < FL.length := by omega
                have hw : IntKind.i64.wrap ((k : Int) - 1) = (i : Int) := by rw [IntWalk.i64_in _ (by omega)]; omega
                have c6' := PV2.out i hi
                have s2 := List.pairwise_iff_getElem.1 FR.out i k hi hlt (by omega)
                have w4 : decide (FL[k].position ≤ FL[i].position) = false := by rw [decide_eq_false_iff_not]; omega
                clear s2 hk0 hik PV PV2
                generalize FL[k].position = p at *
                generalize FL[i].position = p' at *
                go_upto_region 23 with fail
                go_quiet (fail)
                go_wp2
                go_roundw
                case rel => exact ⟨k + 1, by omega, by go_num, hid (hT.out.drewN _)⟩
                case measure => simp [RowKit.intOf]; omega
            · obtain rfl : k = FL.length := by omega
              have hlt4 : decide (FL.length < FL.length) = false := by simp
              have hT3 := hT
              clear hT
              go_wp2
              go_loopw [16] (fun iv wq => ∃ k : Nat, k ≤ BL.length ∧ iv = .int .i64 k ∧ Hid (Touch [] W5 wq)) (fun iv _ => BL.length - (RowKit.intOf iv).toNat)
              case atStart => exact ⟨0, Nat.zero_le _, rfl, hT3⟩
              case round =>
                obtain ⟨k, hk, rfl, hT⟩ := hrel
                obtain ⟨p0, -, -⟩ := pg_cells (touch_other hT.out Q5.out (by simp))
                by_cases hlt : k < BL.length
                · have hlt4 : decide (k < BL.length) = true := by simpa using hlt
                  have hkI : (k : Int) < BL.length := by omega
                  have PV : Hid (∃ b off, y2 = some ⟨b, off, none⟩ ∧ ∀ i (hi : i < BL.length), wr.cell? ⟨b, off + i * 8 + 6, none⟩ = some (.int .i64 BL[i].position)) := hid (by
                    obtain ⟨b, off, e, -, -⟩ := X5.out k hlt
                    refine ⟨b, off, e, fun i hi => ?_⟩
                    obtain ⟨b', off', e', ha', -⟩ := (X5.out.touch hT.out) i hi
                    rw [e] at e'
                    simp at e'
                    obtain ⟨rfl, rfl⟩ := e'
                    exact ha'.c6)
                  obtain ⟨b, off, rfl, hPV⟩ := PV.out
                  have c6 := hPV k hlt
                  have PV2 := hid hPV
                  have s1 := BS.out _ (List.getElem_mem hlt)
                  have w1 : decide (BL[k].position > f) = false := by rw [decide_eq_false_iff_not]; omega
                  clear s1 hPV
                  by_cases hk0 : k = 0
                  · have w2 : decide ((k : Int) > 0) = false := by rw [decide_eq_false_iff_not]; omega
                    have w3 : decide (0 < k) = false := by rw [decide_eq_false_iff_not]; omega
                    clear hk0 PV PV2
                    generalize BL[k].position = p at *
                    go_upto_region 28 with fail
                    go_quiet (fail)
                    go_wp2
                    go_roundw
                    case rel => exact ⟨k + 1, by omega, by go_num, hid (hT.out.drewN _)⟩
                    case measure => simp [RowKit.intOf]; omega
                  · have w2 : decide ((k : Int) > 0) = true := by rw [decide_eq_true_eq]; omega
                    have w3 : decide (0 < k) = true := by rw [decide_eq_true_eq]; omega
                    obtain ⟨i, hik⟩ : ∃ i, i + 1 = k := ⟨k - 1, by omega⟩
                    have hi : i < BL.length := by omega
                    have hiI : (i : Int) < BL.length := by omega
                    have hw : IntKind.i64.wrap ((k : Int) - 1) = (i : Int) := by rw [IntWalk.i64_in _ (by omega)]; omega
                    have c6' := PV2.out i hi
                    have s2 := List.pairwise_iff_getElem.1 BR.out i k hi hlt (by omega)
                    have w4 : decide (BL[k].position ≥ BL[i].position) = false := by rw [decide_eq_false_iff_not]; omega
                    clear s2 hk0 hik PV PV2
                    generalize BL[k].position = p at *
                    generalize BL[i].position = p' at *
                    go_upto_region 28 with fail
                    go_quiet (fail)
                    go_wp2
                    go_roundw
                    case rel => exact ⟨k + 1, by omega, by go_num, hid (hT.out.drewN _)⟩
                    case measure => simp [RowKit.intOf]; omega
                · obtain rfl : k = BL.length := by omega
                  have hlt4 : decide (BL.length < BL.length) = false := by simp
                  go_wp2_with (go_at_call 8; refine (CA.out _).mono ?_; clear CA; rintro e w9 ⟨rfl, t9⟩; have T9 := hid t9; clear t9)
                  go_ret
                  exact ⟨rfl, (HT5.out.trans hT.out (by simp)).trans T9.out (by simp)⟩
end Go.Proofs.Ytmgglmoiepjebaa
