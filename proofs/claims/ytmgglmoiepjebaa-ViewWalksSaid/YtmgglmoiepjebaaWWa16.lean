/- ViewWalks, walked. -/
import Derived.Test.YtmgglmoiepjebaaWk16
namespace Go.Proofs.Ytmgglmoiepjebaa
open Go.RowKit Go.Lib Go.Shelf
set_option maxRecDepth 100000

set_option maxHeartbeats 8000000 in
theorem walk_ViewWalks (v : Value) (L : List StoD) (n : Int) (_wn : (Lit.int .i64 n).wf = true) (W : World) (hv : Stos W v L) :
    Calls Try.prog 4 #[v, .int .i64 n] W fun e W' => e = .returned (.bool true) ∧ Touch [] W W' := by
  obtain ⟨x, c, rfl, hlc, hcm, hX, hnil⟩ := hv
  have CA := hid alive16_any
  have CF := hid (few_any 40 (by decide) x c L W (by omega) hX)
  by_cases hbad : fewB 40 L = false ∨ n < 1 ∨ 20 < n
  · clear hX hnil hlc hcm
    have hcase : (fewB 40 L = false) ∨ (fewB 40 L = true ∧ decide (n < 1) = true) ∨ (fewB 40 L = true ∧ decide (n < 1) = false ∧ decide (n > 20) = true) := by
      simp only [decide_eq_true_eq, decide_eq_false_iff_not]
      cases hfw : fewB 40 L
      · exact .inl rfl
      · rw [hfw] at hbad
        by_cases a2 : n < 1
        · exact .inr (.inl ⟨rfl, a2⟩)
        refine .inr (.inr ⟨rfl, a2, ?_⟩)
        rcases hbad with h | h | h
        · cases h
        · exact absurd h a2
        · exact h
    clear hbad
    generalize fewB 40 L = g at *
    rcases hcase with rfl | ⟨rfl, d2⟩ | ⟨rfl, d2, d3⟩
    all_goals
      go_enter Try.func4, Try.ntmps4
      go_wp2_with (first
        | (go_at_call 7; refine CF.out.mono ?_; clear CF; rintro e w1 ⟨rfl, rfl⟩)
        | (go_at_call 8; refine (CA.out _).mono ?_; clear CA; rintro e w2 ⟨rfl, t2⟩; have T9 := hid t2; clear t2))
      go_ret
      exact ⟨rfl, T9.out⟩
  have hfew : fewB 40 L = true := by
    cases h : fewB 40 L
    · exact absurd (.inl h) hbad
    · rfl
  have hn0 : 1 ≤ n := by omega
  have hn1 : n ≤ 20 := by omega
  have hG := few_good hfew (stoX_ok hX)
  have hl40 := (few_parts hfew).1
  rw [hfew] at CF
  clear hfew hbad
  have d2 : decide (n < 1) = false := by rw [decide_eq_false_iff_not]; omega
  have d3 : decide (n > 20) = false := by rw [decide_eq_false_iff_not]; omega
  have C1 : Hid (∀ (f : Int) w, 0 ≤ f → Touch [] W w → _) := hid fun f w hf0 t => forward_any f n hf0 hn0 (by omega) x c L w (hX.touch t) hG (by omega)
  have C2 : Hid (∀ (f : Int) w, 0 ≤ f → Touch [] W w → _) := hid fun f w hf0 t => backward_any f n hf0 hn0 (by omega) x c L w (hX.touch t) hG (by omega)
  have HX := hid hX
  have HG := hid hG
  clear hX hG hnil
  go_enter Try.func4, Try.ntmps4
  go_wp2_with (go_at_call 7; refine CF.out.mono ?_; clear CF; rintro e w1 ⟨rfl, rfl⟩)
  go_loopw [5] (fun iv wr => ∃ k : Nat, k ≤ L.length ∧ iv = .int .i64 k ∧ Hid (okQ L k) ∧ Hid (Touch [] W wr)) (fun iv _ => L.length - (RowKit.intOf iv).toNat)
  case atStart => exact ⟨0, Nat.zero_le _, rfl, hid (okQ_zero L), hid (Touch.refl _ _)⟩
  case round =>
    obtain ⟨k, hk, rfl, hok, hT⟩ := hrel
    by_cases hlt : k < L.length
    · have hlt2 : decide (k < L.length) = true := by simpa using hlt
      have hkI : (k : Int) < L.length := by omega
      obtain ⟨b, off, rfl, ha, -⟩ := (HX.out.touch hT.out) k hlt
      have c6 := ha.c6
      clear ha
      have OS := hid (fun h0 h1 h2 => okQ_succ hok.out hlt h0 h1 h2)
      have K0 : Hid ((∃ i, ∃ hi : i < L.length, i + 1 = k) ∨ k = 0) := hid (by
        by_cases h : k = 0
        · exact .inr h
        · exact .inl ⟨k - 1, by omega, by omega⟩)
      have PV : Hid (∀ i (hi : i < L.length), wr.cell? ⟨b, off + i * 8 + 6, none⟩ = some (.int .i64 L[i].position)) := hid fun i hi => by
        obtain ⟨b', off', e, ha', -⟩ := (HX.out.touch hT.out) i hi
        simp at e
        obtain ⟨rfl, rfl⟩ := e
        exact ha'.c6
      by_cases hb1 : L[k].position < 0
      · have q1 : decide (L[k].position < 0) = true := by rw [decide_eq_true_eq]; exact hb1
        clear hb1 OS
        generalize L[k].position = p at *
        go_upto_region 6 with fail
        go_quiet (fail)
        go_wp2_with (go_at_call 8; refine (CA.out _).mono ?_; clear CA; rintro e w2 ⟨rfl, t2⟩; have T9 := hid t2; clear t2)
        go_ret
        exact ⟨rfl, (hT.out.drewN _).trans T9.out (by simp)⟩
      have q1 : decide (L[k].position < 0) = false := by rw [decide_eq_false_iff_not]; exact hb1
      by_cases hb2 : 1099511627776 < L[k].position
      · have q2 : decide (L[k].position > 1099511627776) = true := by rw [decide_eq_true_eq]; exact hb2
        clear hb1 hb2 OS
        generalize L[k].position = p at *
        go_upto_region 6 with fail
        go_quiet (fail)
        go_wp2_with (go_at_call 8; refine (CA.out _).mono ?_; clear CA; rintro e w2 ⟨rfl, t2⟩; have T9 := hid t2; clear t2)
        go_ret
        exact ⟨rfl, (hT.out.drewN _).trans T9.out (by simp)⟩
      have q2 : decide (L[k].position > 1099511627776) = false := by rw [decide_eq_false_iff_not]; exact hb2
      have OS2 := hid (OS.out (by omega) (by omega))
      clear hb1 hb2 OS
      rcases K0.out with ⟨i, hi, hik⟩ | hk0
      · have q3 : decide ((k : Int) > 0) = true := by rw [decide_eq_true_eq]; omega
        have q4 : decide (0 < k) = true := by rw [decide_eq_true_eq]; omega
        have hw : IntKind.i64.wrap ((k : Int) - 1) = (i : Int) := by rw [IntWalk.i64_in _ (by omega)]; omega
        have hiI : (i : Int) < L.length := by omega
        have c6' := PV.out i hi
        by_cases hle : L[k].position ≤ L[i].position
        · have q5 : decide (L[k].position ≤ L[i].position) = true := by rw [decide_eq_true_eq]; exact hle
          clear hle OS2 hik PV
          generalize L[k].position = p at *
          generalize L[i].position = p' at *
          go_upto_region 6 with fail
          go_quiet (fail)
          go_wp2_with (go_at_call 8; refine (CA.out _).mono ?_; clear CA; rintro e w2 ⟨rfl, t2⟩; have T9 := hid t2; clear t2)
          go_ret
          exact ⟨rfl, (hT.out.drewN _).trans T9.out (by simp)⟩
        · have q5 : decide (L[k].position ≤ L[i].position) = false := by rw [decide_eq_false_iff_not]; exact hle
          have OK3 := hid (OS2.out (fun j hj e => by obtain rfl : j = i := by omega
                                                     omega))
          clear hle OS2 hik PV
          generalize L[k].position = p at *
          generalize L[i].position = p' at *
          go_upto_region 6 with fail
          go_quiet (fail)
          go_wp2
          go_roundw
          case rel => exact ⟨k + 1, by omega, by go_num, OK3, hid (hT.out.drewN _)⟩
          case measure => simp [RowKit.intOf]; omega
      · have q3 : decide ((k : Int) > 0) = false := by rw [decide_eq_false_iff_not]; omega
        have q4 : decide (0 < k) = false := by rw [decide_eq_false_iff_not]; omega
        have OK3 := hid (OS2.out (fun j hj e => by omega))
        clear OS2 PV hk0
        generalize L[k].position = p at *
        go_upto_region 6 with fail
        go_quiet (fail)
        go_wp2
        go_roundw
        case rel => exact ⟨k + 1, by omega, by go_num, OK3, hid (hT.out.drewN _)⟩
        case measure => simp [RowKit.intOf]; omega
    · obtain rfl : k = L.length := by omega
      have hlt2 : decide (L.length < L.length) = false := by simp
      have RS := hid (okQ_rising hok.out)
      have PS := hid (okQ_pos hok.out)
      clear hok
      go_wp2
      go_loopw [6, 8, 9] (fun av tv kv wq => ∃ (k j cap : Nat) (y : Option Addr), kv = .int .i64 k ∧ k ≤ j ∧ j ≤ 40 ∧ (j < L.length ∨ j = 0) ∧ tv = .int .i64 (atF L j) ∧ av = .slice y j cap ∧ Hid (wq.ownsRow W.heap.size TSto 8 (.slice y j cap) j (stoVals ((L.take j).map canS))) ∧ Hid (Touch [] W wq)) (fun _ _ kv _ => 60 - (RowKit.intOf kv).toNat)
      case atStart => exact ⟨0, 0, 0, none, rfl, Nat.le_refl _, by omega, .inr rfl, by rw [atF_zero], rfl, hid (World.ownsRow_nil _ _ _ _), hT⟩
      case round =>
        obtain ⟨k, j, cap, y, rfl, hkj, hj40, hjl, rfl, rfl, hrow, hT2⟩ := hrel
        have h60 : decide ((k : Int) < 60) = true := by rw [decide_eq_true_eq]; omega
        have h60' : decide (k < 60) = true := by rw [decide_eq_true_eq]; omega
        have hat0 : 0 ≤ atF L j := by
          unfold atF
          split
          · have := (PS.out _ (List.getElem_mem (show j - 1 < L.length by omega))).1
            omega
          · omega
        have CP := hid (C1.out (atF L j) wr hat0 hT2.out)
        have PG := hid (fw_page RS.out PS.out (show j ≤ L.length by omega) hn0)
        have FOK := hid (fwdL_ok HG.out (atF L j) n)
        unfold PageR at CP
        generalize fwdL L (atF L j) n = FL at *
        generalize fwdN L (atF L j) n = fN at *
        generalize fwdE L (atF L j) n = fE at *
        clear hat0
        generalize atF L j = tt at *
        have FLn : Hid (FL.length ≤ 40) := hid (by
          rcases PG.out with ⟨-, h⟩ | ⟨-, h1, h, -⟩
          · have := congrArg List.length h
            rw [List.length_append, List.length_map, List.length_map] at this
            omega
          · have := congrArg List.length h
            rw [List.length_append, List.length_map, List.length_map, List.length_take, List.length_take] at this
            omega)
        go_upto_region 14 with (go_at_call 15; refine CP.out.mono ?_; clear CP; rintro e w2 ⟨v1, rfl, r1, t1⟩; obtain ⟨y1, c1, rfl, hn1', -⟩ := slice_form r1)
        obtain ⟨W3, hW3⟩ : ∃ W3, W3 = w2.alloc (.cells #[.slice y1 FL.length c1, .int .i64 fN, .bool fE] TPage) := ⟨_, rfl⟩
        have P3 : Hid (W3.heap[w2.heap.size]? = some (.cells #[.slice y1 FL.length c1, .int .i64 fN, .bool fE] TPage (0, 0))) := by rw [hW3]; exact hid (heap_alloc_new w2 _)
        have T3 : Touch [] wr W3 := by rw [hW3]; exact t1.alloc _
        have X3 : Hid (StoX W3 y1 FL) := by rw [hW3]; exact hid ((stoX_row r1 rfl FOK.out).touch ((Touch.refl [] w2).alloc _))
        have HN1 : y1 = none → c1 = 0 ∧ FL = [] := fun e => ⟨(hn1' e).1, List.eq_nil_of_length_eq_zero (hn1' e).2⟩
        simp only [TPage] at hW3
        rw [← hW3]
        clear hW3 r1 t1 hn1'
        have R3 := hid (owns_touch hrow.out T3)
        have HT3 := hid (hT2.out.trans T3 (by simp))
        clear hrow hT2 T3
        generalize w2.heap.size = pb at *
        obtain ⟨p0, p1, p2⟩ := pg_cells P3.out
        have hfl := FLn.out
        have HNH := hid HN1
        clear HN1
        go_upto_region 17 with (at_builtin; refine wpList_append_stos rfl (.tmp 80) (.tmp 82) rfl W.heap.size _ j ((L.take j).map canS) rfl R3.out y1 FL.length c1 FL rfl rfl X3.out HNH.out (by omega) HT3.out.size ?_; intro y4 cap4 w4 hown4 hg4; have R4 := hid hown4; have HT4 := hid (HT3.out.grown hg4 (fun k hk => .inr (row_lt R3.out hk).1)); have P4 := hid ((hg4.block pb (lt_of_block P3.out) (fun e => by obtain ⟨_, cur, hh⟩ := row_lt R3.out e.symm; rw [P3.out] at hh; cases hh)).trans P3.out); clear hown4 hg4)
        obtain ⟨p0, p1, p2⟩ := pg_cells P4.out
        clear R3 HT3 X3 HNH P3 P4
        rcases PG.out with ⟨rfl, e1⟩ | ⟨rfl, h1, e1, rfl⟩
        rotate_left
        · have e0 : j + FL.length = j + n.toNat := by
            have := congrArg List.length e1
            rw [List.length_append, List.length_map, List.length_map, List.length_take, List.length_take] at this
            omega
          have E1 := hid e1
          have E0 := hid e0
          clear e0 e1 PG
          go_wp2
          go_roundw
          case rel =>
            refine ⟨k + 1, j + FL.length, cap4, y4, by go_num, ?_, ?_, .inl ?_, by rw [E0.out], rfl, ?_, HT4⟩
            · have := E0.out; omega
            · have := E0.out; omega
            · have := E0.out; omega
            · have h := R4.out
              rw [E1.out] at h
              exact hid (by rw [E0.out] at h ⊢; exact h)
          case measure => simp [RowKit.intOf]; omega
        have e0 : j + FL.length = L.length := by
          have := congrArg List.length e1
          rw [List.length_append, List.length_map, List.length_map, List.length_take] at this
          omega
        rw [e1, e0] at R4
        rw [e0]
        have AX := hid (stoX_row R4.out (by rw [List.length_map]) (fun s hs => by obtain ⟨s', hs', rfl⟩ := List.mem_map.1 hs; exact canS_ok (HG.out s' hs').1))
        clear R4 e0 e1 PG FLn FOK hfl hjl hkj
        go_wp2
        go_loopw [7, 8, 12] (fun bv tv kv wq => ∃ (k m d cap : Nat) (y : Option Addr), kv = .int .i64 k ∧ k ≤ d ∧ m + d = L.length ∧ (0 < m ∨ d = 0) ∧ tv = .int .i64 (bT L m) ∧ Hid (0 ≤ bT L m) ∧ bv = .slice y d cap ∧ Hid (wq.ownsRow w4.heap.size TSto 8 (.slice y d cap) d (stoVals ((L.drop m).map canS))) ∧ Hid (Touch [] w4 wq)) (fun _ _ kv _ => 60 - (RowKit.intOf kv).toNat)
        case atStart => exact ⟨0, L.length, 0, 0, none, rfl, Nat.le_refl _, by omega, .inr rfl, by unfold bT; rw [dif_neg (by omega)], hid (by unfold bT; rw [dif_neg (by omega)]; omega), rfl, hid (by rw [List.drop_length]; exact World.ownsRow_nil _ _ _ _), hid (Touch.refl _ _)⟩
        case round =>
          obtain ⟨k, m, d, cap, y, rfl, hkd, hmd, hm0, rfl, hbt, rfl, hrow, hT2⟩ := hrel
          have g60 : decide ((k : Int) < 60) = true := by rw [decide_eq_true_eq]; omega
          have g60' : decide (k < 60) = true := by rw [decide_eq_true_eq]; omega
          have gt0 : decide (bT L m ≥ 0) = true := by rw [decide_eq_true_eq]; exact hbt.out
          have CP := hid (C2.out (bT L m) wr hbt.out (HT4.out.trans hT2.out (by simp)))
          have PG := hid (bw_page RS.out PS.out (show m ≤ L.length by omega) hn0)
          have BOK := hid (bwdL_ok HG.out (bT L m) n)
          unfold PageR at CP
          generalize bwdL L (bT L m) n = BL at *
          generalize bwdN L (bT L m) n = bN at *
          generalize bwdE L (bT L m) n = bE at *
          clear hbt
          generalize bT L m = tt at *
          have DL : Hid ((L.drop m).length = d) := hid (by rw [List.length_drop]; omega)
          have BLn : Hid (BL.length ≤ 40) := hid (by
            rcases PG.out with ⟨-, h⟩ | ⟨-, h1, h, -⟩
            · have := congrArg List.length h
              rw [List.length_append, List.length_map, List.length_map, List.length_reverse] at this
              omega
            · have := congrArg List.length h
              rw [List.length_append, List.length_map, List.length_map, List.length_reverse, List.length_drop, List.length_drop] at this
              omega)
          go_upto_region 24 with (go_at_call 16; refine CP.out.mono ?_; clear CP; rintro e w5 ⟨v2, rfl, r2, t2⟩; obtain ⟨y2, c2, rfl, -, -⟩ := slice_form r2)
          obtain ⟨W6, hW6⟩ : ∃ W6, W6 = w5.alloc (.cells #[.slice y2 BL.length c2, .int .i64 bN, .bool bE] TPage) := ⟨_, rfl⟩
          have Q6 : Hid (W6.heap[w5.heap.size]? = some (.cells #[.slice y2 BL.length c2, .int .i64 bN, .bool bE] TPage (0, 0))) := by rw [hW6]; exact hid (heap_alloc_new w5 _)
          have T6 : Touch [] wr W6 := by rw [hW6]; exact t2.alloc _
          have X6 : Hid (StoX W6 y2 BL) := by rw [hW6]; exact hid ((stoX_row r2 rfl BOK.out).touch ((Touch.refl [] w5).alloc _))
          simp only [TPage] at hW6
          rw [← hW6]
          clear hW6 r2 t2
          have R6 := hid (owns_touch hrow.out T6)
          have HT6 := hid (hT2.out.trans T6 (by simp))
          clear hrow hT2 T6
          generalize w5.heap.size = qb at *
          have hbl := BLn.out
          have hdl := DL.out
          go_wp2
          go_loopw [7, 15] (fun bv iv wq => ∃ (i capi : Nat) (yi : Option Addr), iv = .int .i64 i ∧ i ≤ BL.length ∧ bv = .slice yi (d + i) capi ∧ Hid (wq.ownsRow w4.heap.size TSto 8 (.slice yi (d + i) capi) (d + i) (stoVals ((BL.take i).reverse ++ (L.drop m).map canS))) ∧ Hid (Touch [] W6 wq)) (fun _ iv _ => BL.length - (RowKit.intOf iv).toNat)
          case atStart => exact ⟨0, cap, y, rfl, Nat.zero_le _, rfl, R6, hid (Touch.refl _ _)⟩
          case round =>
            obtain ⟨i, capi, yi, rfl, hi, rfl, hrow, hT7⟩ := hrel
            obtain ⟨q0, -, -⟩ := pg_cells (touch_other hT7.out Q6.out (by simp))
            by_cases hlt : i < BL.length
            · have hlt4 : decide (i < BL.length) = true := by simpa using hlt
              have hiI : (i : Int) < BL.length := by omega
              obtain ⟨b, off, rfl, ha, hok⟩ := (X6.out.touch hT7.out) i hlt
              have TK : Hid ((BL.take (i + 1)).reverse ++ (L.drop m).map canS = [BL[i]] ++ ((BL.take i).reverse ++ (L.drop m).map canS)) := hid (by
                rw [List.take_succ_eq_append_getElem hlt, List.reverse_append]; simp)
              have LN : Hid ((BL.take i).length = i) := hid (by rw [List.length_take]; omega)
              obtain ⟨_, -, -, hnil, -⟩ : ∃ z : Nat, True ∧ True ∧ (yi = none → capi = 0 ∧ d + i = 0) ∧ True := by
                obtain ⟨y', c', e', h', -⟩ := slice_form hrow.out
                simp only [Value.slice.injEq, true_and] at e'
                obtain ⟨rfl, rfl⟩ := e'
                exact ⟨0, trivial, trivial, h', trivial⟩
              have HLST : Hid (((BL.take i).reverse ++ (L.drop m).map canS).length = d + i) := hid (by rw [List.length_append, List.length_reverse, LN.out, List.length_map, hdl]; omega)
              have HOKS : Hid (∀ s ∈ (BL.take i).reverse ++ (L.drop m).map canS, s.Ok) := hid (by
                intro s hs
                rcases List.mem_append.1 hs with h | h
                · exact BOK.out s (List.mem_of_mem_take (List.mem_reverse.1 h))
                · obtain ⟨s', hs', rfl⟩ := List.mem_map.1 h
                  exact canS_ok (HG.out s' (List.mem_of_mem_drop hs')).1)
              generalize BL[i] = s at *
              generalize (BL.take i).reverse ++ (L.drop m).map canS = bl at *
              obtain ⟨s0, s1, s2, s3, s4, s5, s6, s7⟩ := s
              obtain ⟨e0, e1, e2, e3, e4, e5, e6, e7⟩ := ha
              simp only at e0 e1 e2 e3 e4 e5 e6 e7
              have XB := hid (stoX_row hrow.out HLST.out.symm HOKS.out)
              have XN : Hid (yi = none → capi = 0 ∧ bl = []) := hid fun e => ⟨(hnil e).1, List.eq_nil_of_length_eq_zero (by have := HLST.out; have := (hnil e).2; omega)⟩
              clear hok LN hnil
              go_wp2_with (at_builtin; refine wpList_append_stos rfl (.tmp 117) (.tmp 118) rfl wr.heap.size (.slice (some ⟨wr.heap.size, 0, none⟩) 1 1) 1 [⟨s0, s1, s2, s3, s4, s5, s6, s7⟩] rfl (row_one wr ⟨s0, s1, s2, s3, s4, s5, s6, s7⟩) yi (d + i) capi bl rfl HLST.out.symm (XB.out.touch ((Touch.refl [] wr).alloc _)) XN.out (by omega) (by simp) ?_; intro y8 cap8 w8 hown8 hg8; have R8 := hid hown8; have HT8 := hid (hT7.out.trans (((Touch.refl [] wr).alloc _).grown hg8 (fun k hk => .inr (by simp [Value.ownBlock] at hk; omega))) (by simp)); clear hown8 hg8)
              go_roundw
              case rel =>
                refine ⟨i + 1, cap8, y8, by go_num, by omega, ?_, ?_, HT8⟩
                · rw [show 1 + (d + i) = d + (i + 1) by omega]
                · have h := own_base R8.out (base' := w4.heap.size) (Nat.le_trans HT6.out.size hT7.out.size)
                  rw [← TK.out, show 1 + (d + i) = d + (i + 1) by omega] at h
                  exact hid h
              case measure => simp [RowKit.intOf]; omega
            · obtain rfl : i = BL.length := by omega
              have hlt4 : decide (BL.length < BL.length) = false := by simp
              obtain ⟨q0, q1, q2⟩ := pg_cells (touch_other hT7.out Q6.out (by simp))
              rw [List.take_length] at hrow
              rcases PG.out with ⟨rfl, e1⟩ | ⟨rfl, h1, e1, rfl, h2⟩
              rotate_left
              · have e0 : d + BL.length = d + n.toNat := by
                  have := congrArg List.length e1
                  rw [List.length_append, List.length_map, List.length_map, List.length_reverse, List.length_drop, List.length_drop] at this
                  omega
                have E1 := hid e1
                have E0 := hid e0
                have H2 := hid h2
                clear e0 e1 PG h2
                go_wp2
                go_roundw
                case rel =>
                  refine ⟨k + 1, m - n.toNat, d + BL.length, capi, yi, by go_num, ?_, ?_, .inl (by omega), rfl, H2, rfl, ?_, hid (HT6.out.trans hT7.out (by simp))⟩
                  · have := E0.out; omega
                  · have := E0.out; omega
                  · have h := hrow.out
                    rw [E1.out] at h
                    exact hid h
                case measure => simp [RowKit.intOf]; omega
              have e0 : d + BL.length = L.length := by
                have := congrArg List.length e1
                rw [List.length_append, List.length_map, List.length_map, List.length_reverse, List.length_drop] at this
                omega
              rw [e1, e0] at hrow
              rw [e0]
              have BX := hid (stoX_row hrow.out (by rw [List.length_map]) (fun s hs => by obtain ⟨s', hs', rfl⟩ := List.mem_map.1 hs; exact canS_ok (HG.out s' hs').1))
              have T9 := hid ((HT4.out.trans HT6.out (by simp)).trans hT7.out (by simp))
              have T8 := hid (HT6.out.trans hT7.out (by simp))
              have SAM : ∀ i (h : i < L.length), sameS ((L.map canS)[i]'(by rw [List.length_map]; exact h)) L[i] = true := fun i h => by rw [List.getElem_map]; exact sameS_back _
              have CSa : Hid (∀ w, Touch [] wr w → Calls Try.prog 17 #[.slice y4 L.length cap4, .slice x L.length c] w fun e w' => e = .returned (.bool true) ∧ Touch [] w w') := hid fun w t => sameList_any x y4 c cap4 L (L.map canS) w (by rw [List.length_map]) SAM (by omega) (HX.out.touch (T9.out.trans t (by simp))) (AX.out.touch (T8.out.trans t (by simp)))
              have CSb : Hid (∀ w, Touch [] wr w → Calls Try.prog 17 #[.slice yi L.length capi, .slice x L.length c] w fun e w' => e = .returned (.bool true) ∧ Touch [] w w') := hid fun w t => sameList_any x yi c capi L (L.map canS) w (by rw [List.length_map]) SAM (by omega) (HX.out.touch (T9.out.trans t (by simp))) (BX.out.touch t)
              clear hrow e0 e1 PG SAM AX BX
              go_wp2_with (go_at_call 8; refine (CA.out _).mono ?_; clear CA; rintro e wa ⟨rfl, s1⟩; have S1 := hid s1; clear s1)
              refine (CSa.out _ S1.out).mono ?_
              rintro e wb ⟨rfl, s2⟩
              have S2 := hid (S1.out.trans s2 (by simp))
              clear s2 CSa
              go_wp2_with fail
              refine (CSb.out _ S2.out).mono ?_
              rintro e wc ⟨rfl, s3⟩
              have S3 := hid (S2.out.trans s3 (by simp))
              clear s3 CSb
              go_wp2
              go_ret
              exact ⟨rfl, T9.out.trans S3.out (by simp)⟩
end Go.Proofs.Ytmgglmoiepjebaa
