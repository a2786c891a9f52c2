/- TableAsTab, walked. -/
import Derived.Test.YtdjcpdlfapfmkaaAl13
import Derived.Test.YtdjcpdlfapfmkaaSi13
import Derived.Test.YtdjcpdlfapfmkaaSe12
import Derived.Test.YtdjcpdlfapfmkaaEn12
namespace Go.Proofs.Ytdjcpdlfapfmkaa
open Go.RowKit Go.Lib Go.ChangeShapes
set_option maxRecDepth 100000

theorem touch_new {w : World} {o : Obj} {w' : World} (t : Touch [w.heap.size] (w.alloc o) w') : Touch [] w w' := ((Touch.refl [] w).alloc o).trans t (by simp)

set_option maxHeartbeats 8000000 in
theorem walk_TableAsTab (v0 : Value) (l : List En) (hh : Int) (wh : (Lit.int .i64 hh).wf = true) (fr : Int) (wf : (Lit.int .i64 fr).wf = true) (tt : Int) (wt : (Lit.int .i64 tt).wf = true) (W : World) (hv : Ents W v0 l) :
    Calls Try.prog 5 #[v0, .int .i64 hh, .int .i64 fr, .int .i64 tt] W fun e W' => e = .returned (.bool true) ∧ Touch [] W W' := by
  obtain ⟨x0, c0, rfl, hlen, hX⟩ := hv
  clear wh wf wt
  have C0 := hid fun w' => alive13_true w'
  by_cases hl : 60 < l.length
  · have h1 : decide ((60 : Int) < (l.length : Int)) = true := by rw [decide_eq_true_eq]; omega
    have h2 : decide (60 < l.length) = true := by rw [decide_eq_true_eq]; omega
    clear hX hlen hl
    go_enter Try.func5, Try.ntmps5
    go_wp2_with (go_at_call 30; refine (C0.out _).mono ?_; clear C0; rintro e w1 ⟨rfl, t1⟩; have T1 := hid t1; clear t1)
    go_ret
    exact ⟨rfl, T1.out⟩
  · have h1 : decide ((60 : Int) < (l.length : Int)) = false := by rw [decide_eq_false_iff_not]; omega
    have h2 : decide (60 < l.length) = false := by rw [decide_eq_false_iff_not]; omega
    have hl' : l.length ≤ 60 := by omega
    obtain ⟨tb, htb⟩ : ∃ tb, tb = W.heap.size := ⟨_, rfl⟩
    obtain ⟨w1, hw1⟩ : ∃ w1, w1 = W.alloc (.cells #[.pointer none] 79) := ⟨_, rfl⟩
    have CN := new_any W
    rw [← hw1, ← htb] at CN
    have TN : ∀ w', Touch [tb] w1 w' → Touch [] W w' := by rw [htb, hw1]; exact fun w' t => touch_new t
    have hT1 : TabB w1 tb .nil := by rw [htb, hw1]; exact tabB_new W
    have e1 : addAll Tr.nil.io l = addAll [] l := rfl
    have CA := add_any tb .nil x0 l l.length c0 rfl w1 hT1 (by simp [Tr.io]) (by simp [Tr.io]; omega) (fun w' t => hX.t0 (TN w' t))
    rw [e1] at CA
    have hs : SortedE (addAll [] l) := sorted_addAll l (by simp)
    have hk : OkL (addAll [] l) := ok_addAll l (by simp)
    have hn := (addAll_len l (l := []) (by simp)).2
    simp only [List.length_nil, Nat.zero_add] at hn
    generalize addAll [] l = A at *
    have hA1 : fromE A (0, 0, 0) = A := from_zero hk
    have hA60 : A.length ≤ 60 := by omega
    have CALL := hid fun w' (T : Tr) (hio : T.io = A) (k : TabB w' tb T) => all_any (some ⟨tb, 0, none⟩) T (by rw [hio]; exact hs) (by rw [hio]; omega) w' k.at
    have CNH := hid CN
    have CAH := hid CA
    have TNH := hid TN
    clear CN CA TN hT1 e1 hX hw1 htb hlen hl
    go_enter Try.func5, Try.ntmps5
    go_wp2_with (first
      | (go_at_call 8; refine CNH.out.mono ?_; clear CNH; rintro e w' ⟨rfl, h⟩; have h := h.symm; subst h)
      | (go_at_call 14; refine CAH.out.mono ?_; clear CAH; rintro e w2 ⟨T', rfl, hT', hio, t2⟩; have HT := hid hT'; have HIO := hid hio; have T2 := hid (TNH.out w2 t2); clear hT' hio t2)
      | (go_at_call 16; refine (CALL.out w2 T' HIO.out HT.out).mono ?_; rintro e w3 ⟨v, rfl, hrow, t3⟩; rw [HIO.out, hA1] at hrow; obtain ⟨x, c, rfl, -, hx⟩ := entX_own hrow; have HX := hid hx; have HT3 := hid (HT.out.t0 t3); have T3 := hid (T2.out.trans t3 (by simp)); clear hrow hx t3))
    have TL : Hid (Touch [] w2 w3 → True) := hid fun _ => trivial
    have B := build_any x c A w3 HX.out (by omega)
    unfold buildV at B
    by_cases hf : fitE A
    · rw [if_pos hf] at B
      have BH := hid B
      have OP := hid fun w' => open_tab hf w' (by omega)
      have HF := hid hf
      clear B hf
      generalize sealed (tabT A) = st at *
      refine BH.out.mono ?_
      clear BH
      rintro e w4 ⟨rfl, t4⟩
      have T4 := hid (T3.out.trans t4 (by simp))
      have HT4 := hid (HT3.out.t0 t4)
      clear t4 HT3 T3 HX
      go_wp2_with fail
      refine (OP.out _).mono ?_
      clear OP
      rintro e w5 ⟨pb, rfl, pt5, t5⟩
      have T5 := hid (T4.out.trans t5 (by simp))
      have HT5 := hid (HT4.out.t0 t5)
      have HP5 := hid pt5
      clear t5 pt5 T4 HT4
      have TW5 := T5
      have L1 := hid (tblast_any hh HP5.out HF.out.2 HF.out.1 (by omega))
      have L2 := hid fun w' (t : Touch [] w5 w') => last_any hh w' (HT5.out.t0 t).at (by rw [HIO.out]; exact HF.out.2)
      rw [HIO.out] at L2
      unfold lastV at L1 L2
      generalize (lastE A hh).getD (0, 0, 0) = s at *
      generalize (lastE A hh).isSome = sb at *
      go_wp2_with fail
      refine L1.out.mono ?_
      clear L1
      rintro e w6 ⟨rfl, t6⟩
      have T6 : Hid (Touch [] w5 w6) := hid t6
      clear t6
      go_upto_region 14 with fail
      have E6 := hid (show EnB (w6.alloc (.cells #[.int .i64 s.1, .int .i64 s.2.1, .int .i64 s.2.2] TEn)) w6.heap.size s from heap_alloc_new w6 _)
      have T7 := hid (T6.out.alloc (.cells #[.int .i64 s.1, .int .i64 s.2.1, .int .i64 s.2.2] TEn))
      obtain ⟨w7, hw7⟩ : ∃ w7, w7 = w6.alloc (.cells #[.int .i64 s.1, .int .i64 s.2.1, .int .i64 s.2.2] TEn) := ⟨_, rfl⟩
      obtain ⟨b1, hb1⟩ : ∃ b1, b1 = w6.heap.size := ⟨_, rfl⟩
      rw [← hw7] at E6 T7
      rw [← hb1] at E6
      rw [← hw7, ← hb1]
      clear hw7 hb1 T6
      go_wp2_with fail
      refine (L2.out _ T7.out).mono ?_
      clear L2
      rintro e w8 ⟨rfl, t8⟩
      have T8 := hid (T7.out.trans t8 (by simp))
      have E8 := hid (E6.out.t t8)
      clear t8 E6 T7
      go_upto_region 15 with fail
      have E9 := hid (show EnB (w8.alloc (.cells #[.int .i64 s.1, .int .i64 s.2.1, .int .i64 s.2.2] TEn)) w8.heap.size s from heap_alloc_new w8 _)
      have E10 := hid (show EnB (w8.alloc (.cells #[.int .i64 s.1, .int .i64 s.2.1, .int .i64 s.2.2] TEn)) b1 s from heap_alloc_keep E8.out _)
      have T9 := hid (T8.out.alloc (.cells #[.int .i64 s.1, .int .i64 s.2.1, .int .i64 s.2.2] TEn))
      obtain ⟨w9, hw9⟩ : ∃ w9, w9 = w8.alloc (.cells #[.int .i64 s.1, .int .i64 s.2.1, .int .i64 s.2.2] TEn) := ⟨_, rfl⟩
      obtain ⟨b2, hb2⟩ : ∃ b2, b2 = w8.heap.size := ⟨_, rfl⟩
      rw [← hw9] at E9 E10 T9
      rw [← hb2] at E9
      rw [← hw9, ← hb2]
      clear hw9 hb2 E8 T8
      go_wp2_with fail
      refine (C0.out _).mono ?_
      rintro e wa ⟨rfl, ta⟩
      have TA5 := hid (T9.out.trans ta (by simp))
      obtain ⟨q0, q1, q2⟩ := (E9.out.t ta).c
      obtain ⟨r0, r1, r2⟩ := (E10.out.t ta).c
      clear ta E9 E10 T9
      have hsb : (sb == sb) = true := by simp
      have TR := tab_range HF.out.2 hk hh fr tt
      have KP := hid fun w' (t : Touch [] w5 w') => HP5.out.t0 t
      have KT := hid fun w' (t : Touch [] w5 w') => HT5.out.t0 t
      have hrl : (rngL A hh fr tt).length ≤ 1000000 := Nat.le_trans (List.length_filter_le _ _) (by omega)
      have hfl : (A.filter (isHV hh fr)).length ≤ 1000000 := Nat.le_trans (List.length_filter_le _ _) (by omega)
      have FL := find_list hs hk hh fr
      have SE := hid fun w' (t : Touch [] w5 w') (u v : Value) (B1 B2 n1 n2 : Nat) (m : List En) (hm : m.length ≤ 1000000) (hu : w'.ownsRow B1 TEn 3 u n1 (envals m)) (hv : w'.ownsRow B2 TEn 3 v n2 (envals m)) => sameEns_rows hu hv hm (fun y1 y2 d1 d2 g1 g2 => sameEntries_any y1 y2 d1 d2 m m w' hm hm g1 g2)
      go_wp2_with fail
      refine (tbrange_any hh fr tt (KP.out _ TA5.out) HF.out.2 HF.out.1 (by omega)).mono ?_
      rintro e wb ⟨ub, rfl, hub, tb1⟩
      have TB := hid (TA5.out.trans tb1 (by simp))
      have HUB := hid hub
      clear hub tb1
      go_wp2_with fail
      refine (range_any hh fr tt (some ⟨tb, 0, none⟩) T' (by rw [HIO.out]; exact hs) (by rw [HIO.out]; omega) wb (KT.out _ TB.out).at).mono ?_
      rintro e wc ⟨uc, rfl, huc, tc1⟩
      rw [HIO.out, TR] at huc
      have TC := hid (TB.out.trans tc1 (by simp))
      have HUC := hid huc
      have HUB2 := hid (owns_touch HUB.out tc1)
      clear huc tc1 HUB TB
      go_wp2_with fail
      refine (SE.out wc TC.out _ _ _ _ _ _ _ hrl HUB2.out HUC.out).mono ?_
      rintro e wd ⟨rfl, td1⟩
      have TD := hid (TC.out.trans td1 (by simp))
      clear td1 HUB2 HUC TC
      go_wp2_with fail
      refine (tbfind_any hh fr (KP.out _ TD.out) HF.out.2 HF.out.1 (by omega)).mono ?_
      rintro e we ⟨ue, rfl, hue, te1⟩
      have TE := hid (TD.out.trans te1 (by simp))
      have HUE := hid hue
      clear hue te1 TD
      go_wp2_with fail
      refine (find_any hh fr (some ⟨tb, 0, none⟩) T' (by rw [HIO.out]; exact hs) (by rw [HIO.out]; omega) we (KT.out _ TE.out).at).mono ?_
      rintro e wf ⟨uf, rfl, huf, tf1⟩
      rw [HIO.out, FL] at huf
      have TF := hid (TE.out.trans tf1 (by simp))
      have HUF := hid huf
      have HUE2 := hid (owns_touch HUE.out tf1)
      clear huf tf1 HUE TE
      go_wp2_with fail
      refine (sameInts_rows (l := (A.filter (isHV hh fr)).map fun e => e.2.2) (by have := HUE2.out; rwa [posV_int] at this) (by have := HUF.out; rwa [posV_int] at this) (by rw [List.length_map]; exact hfl)).mono ?_
      rintro e wg ⟨rfl, tg1⟩
      have TG := hid (TF.out.trans tg1 (by simp))
      clear tg1 HUE2 HUF TF
      go_wp2_with fail
      refine (tball_any (KP.out _ TG.out) (by omega)).mono ?_
      rintro e wh ⟨uh, rfl, huh, th1⟩
      have TH := hid (TG.out.trans th1 (by simp))
      have HUH := hid huh
      clear huh th1 TG
      go_wp2_with fail
      refine (CALL.out wh T' HIO.out (KT.out _ TH.out)).mono ?_
      rintro e wi ⟨ui, rfl, hui, ti1⟩
      rw [HIO.out, hA1] at hui
      have TI := hid (TH.out.trans ti1 (by simp))
      have HUI := hid hui
      have HUH2 := hid (owns_touch HUH.out ti1)
      clear hui ti1 HUH TH
      go_wp2_with fail
      refine (SE.out wi TI.out _ _ _ _ _ _ _ (by omega) HUH2.out HUI.out).mono ?_
      rintro e wj ⟨rfl, tj1⟩
      have TJ := hid (TI.out.trans tj1 (by simp))
      clear tj1 HUH2 HUI TI
      go_wp2_with fail
      refine (tblen_any (KP.out _ TJ.out)).mono ?_
      rintro e wk ⟨rfl, rfl⟩
      have LT := tablen_any wk (KT.out _ TJ.out).at
      rw [T'.ct_io, HIO.out] at LT
      have LTH := hid LT
      clear LT
      go_wp2_with fail
      refine LTH.out.mono ?_
      rintro e wl ⟨rfl, rfl⟩
      go_wp2
      go_ret
      exact ⟨rfl, TW5.out.trans TJ.out (by simp)⟩
    · rw [if_neg hf] at B
      have BH := hid B
      clear B hf
      refine BH.out.mono ?_
      clear BH
      rintro e w4 ⟨rfl, t4⟩
      have T4 := hid (T3.out.trans t4 (by simp))
      clear t4
      go_wp2_with (go_at_call 30; refine (C0.out _).mono ?_; clear C0; rintro e w5 ⟨rfl, t1⟩; have T1 := hid (T4.out.trans t1 (by simp)); clear t1)
      go_ret
      exact ⟨rfl, T1.out⟩
end Go.Proofs.Ytdjcpdlfapfmkaa
