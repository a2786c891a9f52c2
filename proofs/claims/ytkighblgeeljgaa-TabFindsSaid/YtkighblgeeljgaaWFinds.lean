/- TabFinds, walked. -/
import Derived.Test.YtkighblgeeljgaaPu12
namespace Go.Proofs.Ytkighblgeeljgaa
open Go.RowKit Go.Lib
set_option maxRecDepth 100000

def PosX (w : World) (x : Option Addr) (l : List En) : Prop := ∀ (i : Nat) (h : i < l.length), ∃ b, x = some ⟨b, 0, none⟩ ∧ w.cell? ⟨b, i, none⟩ = some (.int .i64 (l[i]'h).2.2)
theorem posX_own {w : World} {base n : Nat} {v : Value} {l : List En} (h : w.ownsRow base TInt 1 v n (posV l)) : ∃ x c, v = .slice x n c ∧ n = l.length ∧ PosX w x l := by
  have hn : n = l.length := by have := h.1; simp [posV] at this; omega
  rcases h.2 with ⟨rfl, h0⟩ | ⟨g, cap, cur, rfl, _, hg, hnc, _, hcs, ht⟩
  · refine ⟨none, 0, by rw [h0], hn, fun i hi => ?_⟩
    omega
  · refine ⟨_, _, rfl, hn, fun i hi => ⟨g, rfl, ?_⟩⟩
    rw [cell_of hg i]
    have hk : (posV l)[i]? = some (.int .i64 (l[i]'hi).2.2) := by simp [posV, hi]
    rw [← ht, List.getElem?_take] at hk
    split at hk
    · simpa using hk
    · cases hk
theorem touch_new {w : World} {o : Obj} {w' : World} (t : Touch [w.heap.size] (w.alloc o) w') : Touch [] w w' := ((Touch.refl [] w).alloc o).trans t (by simp)

/-- The last one of a hash among the first ones. -/
def lastH (A : List En) (hh : Int) (i : Nat) : Option En := ((A.take i).filter fun e => decide (e.1 = hh)).getLast?
set_option maxHeartbeats 4000000 in
theorem walk_TabFinds (v0 : Value) (l : List En) (hh : Int) (wh : (Lit.int .i64 hh).wf = true) (W : World) (hv : Ents W v0 l) :
    Calls Try.prog 6 #[v0, .int .i64 hh] W fun e W' => e = .returned (.bool true) ∧ Touch [] W W' := by
  obtain ⟨x0, c0, rfl, hlen, hX⟩ := hv
  clear wh
  by_cases hl : 40 < l.length
  · have h1 : decide ((40 : Int) < (l.length : Int)) = true := by rw [decide_eq_true_eq]; omega
    have h2 : decide (40 < l.length) = true := by rw [decide_eq_true_eq]; omega
    have CA := hid (alive12_true W)
    clear hX hlen hl
    go_enter Try.func6, Try.ntmps6
    go_wp2_with (go_at_call 7; refine CA.out.mono ?_; clear CA; rintro e w1 ⟨rfl, t1⟩; have T1 := hid t1; clear t1)
    go_ret
    exact ⟨rfl, T1.out⟩
  · have h1 : decide ((40 : Int) < (l.length : Int)) = false := by rw [decide_eq_false_iff_not]; omega
    have h2 : decide (40 < l.length) = false := by rw [decide_eq_false_iff_not]; omega
    have hl' : l.length ≤ 40 := by omega
    obtain ⟨tb, htb⟩ : ∃ tb, tb = W.heap.size := ⟨_, rfl⟩
    obtain ⟨w1, hw1⟩ : ∃ w1, w1 = W.alloc (.cells #[.pointer none] 72) := ⟨_, rfl⟩
    have CN := new_any W
    rw [← hw1, ← htb] at CN
    have TN : ∀ w', Touch [tb] w1 w' → Touch [] W w' := by rw [htb, hw1]; exact fun w' t => touch_new t
    have hT1 : TabB w1 tb .nil := by rw [htb, hw1]; exact tabB_new W
    have e1 : addAll Tr.nil.io l = addAll [] l := rfl
    have CA := add_any tb .nil x0 l l.length c0 rfl w1 hT1 (by simp [Tr.io]) (by simp [Tr.io]; omega) (fun w' t => hX.t0 (TN w' t))
    rw [e1] at CA
    have hs : SortedE (addAll [] l) := sorted_addAll l (by simp)
    have hk : OkL (addAll [] l) := ok_addAll l (by simp)
    have hn := (addAll_len l (l := []) (by simp)).2
    simp only [List.length_nil, Nat.zero_add] at hn
    generalize addAll [] l = A at *
    have hA1 : fromE A (0, 0, 0) = A := from_zero hk
    have CALL := hid fun w' (T : Tr) (hio : T.io = A) (k : TabB w' tb T) => all_any (some ⟨tb, 0, none⟩) T (by rw [hio]; exact hs) (by rw [hio]; omega) w' k.at
    have CNH := hid CN
    have CAH := hid CA
    have TNH := hid TN
    clear CN CA TN hT1 e1 hX hw1 htb hlen hl
    go_enter Try.func6, Try.ntmps6
    go_upto_region 8 with (first
      | (go_at_call 8; refine CNH.out.mono ?_; clear CNH; rintro e w' ⟨rfl, h⟩; have h := h.symm; subst h)
      | (go_at_call 14; refine CAH.out.mono ?_; clear CAH; rintro e w2 ⟨T', rfl, hT', hio, t2⟩; have HT := hid hT'; have HIO := hid hio; have T2 := hid (TNH.out w2 t2); clear hT' hio t2)
      | (go_at_call 16; refine (CALL.out w2 T' HIO.out HT.out).mono ?_; clear CALL; rintro e w3 ⟨v, rfl, hrow, t3⟩; rw [HIO.out, hA1] at hrow; obtain ⟨x, c, rfl, -, hx⟩ := entX_own hrow; have HX := hid hx; have HT3 := hid (HT.out.t0 t3); have T3 := hid (T2.out.trans t3 (by simp)); clear hrow hx t3))
    have CF := hid fun w' (t : Touch [] w3 w') (e : En) (hm : e ∈ A) => find_list hs hk e.1 e.2.1 ▸ (HIO.out ▸ find_any e.1 e.2.1 (some ⟨tb, 0, none⟩) T' (by rw [HIO.out]; exact hs) (by rw [HIO.out]; omega) w' (HT3.out.t0 t).at)
    have CLa := hid fun w' (t : Touch [] w3 w') => last_list hs hh ▸ (HIO.out ▸ last_any hh w' (HT3.out.t0 t).at (by rw [HIO.out]; exact hs))
    obtain ⟨xb, hxb⟩ : ∃ xb, xb = w3.heap.size := ⟨_, rfl⟩
    obtain ⟨w4, hw4⟩ : ∃ w4, w4 = w3.alloc (.cells #[.int .i64 0, .int .i64 0, .int .i64 0] TEn) := ⟨_, rfl⟩
    have hB : EnB w4 xb (0, 0, 0) := by rw [hw4, hxb]; exact heap_alloc_new w3 _
    have hT4 : Touch [] w3 w4 := by rw [hw4]; exact (Touch.refl _ _).alloc _
    have hxe := hid hxb
    go_upto_region 9 with fail
    rw [← hxb, ← hw4]
    clear hw4 hxb
    go_wp2_with fail
    go_loopw [8, 9] (fun hv iv wr => ∃ i : Nat, i ≤ A.length ∧ iv = .int .i64 i ∧ hv = .bool (lastH A hh i).isSome ∧ EnB wr xb ((lastH A hh i).getD (0, 0, 0)) ∧ Touch [] w3 wr) (fun _ iv _ => A.length - (RowKit.intOf iv).toNat)
    case atStart => exact ⟨0, Nat.zero_le _, rfl, rfl, hB, hT4⟩
    case round =>
      obtain ⟨i, hi, rfl, rfl, hBr, hTr⟩ := hrel
      have BR := hid hBr
      have TR := hid hTr
      clear hBr hTr hB hT4
      by_cases hlt : i < A.length
      · have hlt' : decide (i < A.length) = true := by simpa using hlt
        have hI : (i : Int) < A.length := by omega
        obtain ⟨b, off, rfl, g⟩ := HX.out i hlt
        have q0 := TR.out.drew.cell g.1
        have q1 := TR.out.drew.cell g.2.1
        have q2 := TR.out.drew.cell g.2.2
        have hmem : A[i] ∈ A := List.getElem_mem hlt
        have CFi := hid (CF.out wr.drew TR.out.drew A[i] hmem)
        have hst : A.take (i + 1) = A.take i ++ [A[i]] := List.take_succ_eq_append_getElem hlt
        have hPm : A[i] ∈ A.filter (isHV A[i].1 A[i].2.1) := List.mem_filter.2 ⟨hmem, by simp [isHV]⟩
        have hPl : (A.filter (isHV A[i].1 A[i].2.1)).length ≤ A.length := List.length_filter_le _ _
        have G := hid (fun w' (t : Touch [] w3 w') => And.intro (t.cell g.1) (And.intro (t.cell g.2.1) (t.cell g.2.2)))
        have PREV := hid (fun (h0 : 0 < i) w' (t : Touch [] w3 w') => HX.out (i - 1) (by omega))
        generalize hai : A[i] = a at *
        generalize hP : A.filter (isHV a.1 a.2.1) = P at *
        clear g
        go_upto_region 12 with fail
        go_still_tail 11, (by kernel_rfl)
        change wpList _ _ _ _ _ wr.drew
        go_wp2_with (go_at_call 18; refine CFi.out.mono ?_; clear CFi; rintro e w5 ⟨u, rfl, hrow, t5⟩; obtain ⟨px, pc, rfl, -, hpx⟩ := posX_own hrow; have HPX := hid hpx; have T5 := hid (TR.out.drew.trans t5 (by simp)); have T5' := hid T5.out; have B5 := hid (EnB.t (w := wr) BR.out ((Touch.refl [] wr).drew.trans t5 (by simp))); clear hrow hpx t5)
        have G5 := G.out w5 T5.out
        go_loopw [11, 12] (fun tv kv wr2 => ∃ k : Nat, k ≤ P.length ∧ kv = .int .i64 k ∧ tv = .bool ((P.take k).any fun e => decide (e.2.2 = a.2.2)) ∧ Hid (Touch [] w5 wr2)) (fun _ kv _ => P.length - (RowKit.intOf kv).toNat)
        case atStart => exact ⟨0, Nat.zero_le _, rfl, by simp, hid (Touch.refl _ _)⟩
        case round =>
          obtain ⟨k, hk5, rfl, rfl, T6⟩ := hrel
          by_cases hkt : k < P.length
          · have hkt' : decide (k < P.length) = true := by simpa using hkt
            have hK : (k : Int) < P.length := by omega
            obtain ⟨pb, rfl, g6⟩ := HPX.out k hkt
            have r0 := T6.out.drew.cell g6
            have r1 := T6.out.drew.cell G5.2.2
            have hst5 : Hid (((P.take (k + 1)).any fun e => decide (e.2.2 = a.2.2)) = (((P.take k).any fun e => decide (e.2.2 = a.2.2)) || decide (P[k].2.2 = a.2.2))) := hid (by rw [List.take_succ_eq_append_getElem hkt, List.any_append]; simp)
            generalize ((P.take k).any fun e => decide (e.2.2 = a.2.2)) = th at *
            generalize P[k].2.2 = pp at *
            cases th with
            | true =>
              go_wp2
              go_region
              all_goals go_wp2
              all_goals go_roundw
              all_goals first
                | exact ⟨k + 1, by omega, by go_num, by rw [hst5.out]; rfl, hid T6.out.drew⟩
                | (simp [RowKit.intOf]; omega)
            | false =>
              go_wp2
              go_region
              all_goals go_wp2
              all_goals go_roundw
              all_goals first
                | exact ⟨k + 1, by omega, by go_num, by rw [hst5.out]; rfl, hid T6.out.drew⟩
                | (simp [RowKit.intOf]; omega)
          · have hkt' : decide (k < P.length) = false := by simpa using hkt
            have e : k = P.length := by omega
            subst e
            have hth : (P.take P.length).any (fun e => decide (e.2.2 = a.2.2)) = true := by rw [List.take_length, List.any_eq_true]; exact ⟨a, hPm, by simp⟩
            rw [hth]
            clear hkt' hkt hth T5 HPX hPm hPl hP
            have FIN : Hid (∀ w6, Touch [] w5 w6 → Touch [] w3 w6 ∧ EnB w6 xb ((lastH A hh i).getD (0, 0, 0))) := hid fun w6 t => ⟨T5'.out.trans t (by simp), B5.out.t t⟩
            have STEP : Hid (lastH A hh (i + 1) = if a.1 = hh then some a else lastH A hh i) := hid (by
              unfold lastH
              rw [hst, List.filter_append]
              by_cases ha : a.1 = hh <;> simp [ha])
            obtain ⟨ι, f, ⟨θ0, hθ0⟩, inst, FT, FE⟩ := held_class wr
            have F0 : ∀ θ, (f θ).cell? ⟨b, off + i * 3, none⟩ = some (.int .i64 a.1) := fun θ => (FT.out θ).cell (T6.out.cell G5.1)
            have F1 : ∀ θ, (f θ).cell? ⟨b, off + i * 3 + 1, none⟩ = some (.int .i64 a.2.1) := fun θ => (FT.out θ).cell (T6.out.cell G5.2.1)
            have F2 : ∀ θ, (f θ).cell? ⟨b, off + i * 3 + 2, none⟩ = some (.int .i64 a.2.2) := fun θ => (FT.out θ).cell (T6.out.cell G5.2.2)
            by_cases h0 : i = 0
            · have hp0 : decide ((0 : Int) < (i : Int)) = false := by rw [decide_eq_false_iff_not]; omega
              have hp1 : decide (0 < i) = false := by rw [decide_eq_false_iff_not]; omega
              clear h0
              go_upto_region 18 with fail
              refine wp_region_held f θ0 (by kernel_rfl) (by kernel_rfl) hθ0 ?_
              repeat go_big_quiet_step (fail)
              refine wpQuiet_nil ?_
              rintro _ ⟨θ, rfl⟩
              have H6 := hid (FIN.out _ (T6.out.trans (FT.out θ) (by simp)))
              have Q0 := F0 θ
              have Q1 := F1 θ
              have Q2 := F2 θ
              generalize f θ = w6 at *
              clear F0 F1 F2 FT FE hθ0 FIN hp0 hp1
              obtain ⟨y0, y1, y2⟩ := H6.out.2.c
              have z0 := free_of H6.out.2 0
              have z1 := free_of H6.out.2 1
              have z2 := free_of H6.out.2 2
              by_cases ha : a.1 = hh
              · have ha' := hid (STEP.out.trans (if_pos ha))
                have haq := hid ha
                have hab : (a.1 == hh) = true := by simp [ha]
                clear ha
                go_wp2
                go_roundw
                case rel => exact ⟨i + 1, by omega, by go_num, by rw [ha'.out]; rfl, by rw [ha'.out]; exact en_set H6.out.2 a, ((H6.out.1.setCell (p := ⟨xb, 0, none⟩) (.inr (Nat.le_of_eq hxe.out.symm)) _).setCell (p := ⟨xb, 1, none⟩) (.inr (Nat.le_of_eq hxe.out.symm)) _).setCell (p := ⟨xb, 2, none⟩) (.inr (Nat.le_of_eq hxe.out.symm)) _⟩
                case measure => simp [RowKit.intOf]; omega
              · have ha' := hid (STEP.out.trans (if_neg ha))
                have hab : (a.1 == hh) = false := by simp [ha]
                clear ha
                go_wp2
                go_roundw
                case rel => exact ⟨i + 1, by omega, by go_num, by rw [ha'.out], by rw [ha'.out]; exact H6.out.2, H6.out.1⟩
                case measure => simp [RowKit.intOf]; omega
            · obtain ⟨i', rfl⟩ : ∃ i', i = i' + 1 := ⟨i - 1, by omega⟩
              clear h0
              have LS := hid fun w' => less_any A[i'] a w'
              have hls : decide (ltE A[i'] a) = true := by rw [decide_eq_true_eq, ← hai]; exact List.pairwise_iff_getElem.1 hs i' (i' + 1) (by omega) hlt (by omega)
              rw [hls] at LS
              obtain ⟨b', off', hbo, g'⟩ := HX.out i' (by omega)
              cases hbo
              have g2 : Hid (∀ w', Touch [] w3 w' → _) := hid fun w' (t : Touch [] w3 w') => And.intro (t.cell g'.1) (And.intro (t.cell g'.2.1) (t.cell g'.2.2))
              have hw0 : IntKind.i64.wrap ((i' : Int) + 1 - 1) = (i' : Int) := by rw [show (i' : Int) + 1 - 1 = i' by omega]; exact IntWalk.i64_in _ (by omega)
              have hp0 : decide ((0 : Int) < (i' : Int) + 1) = true := by rw [decide_eq_true_eq]; omega
              have hj0 : (i' : Int) < A.length := by omega
              have hj1 : decide (i' < A.length) = true := by rw [decide_eq_true_eq]; omega
              have E0 : ∀ θ, (f θ).cell? ⟨b, off + i' * 3, none⟩ = some (.int .i64 A[i'].1) := fun θ => (g2.out _ (T5'.out.trans (T6.out.trans (FT.out θ) (by simp)) (by simp))).1
              have E1 : ∀ θ, (f θ).cell? ⟨b, off + i' * 3 + 1, none⟩ = some (.int .i64 A[i'].2.1) := fun θ => (g2.out _ (T5'.out.trans (T6.out.trans (FT.out θ) (by simp)) (by simp))).2.1
              have E2 : ∀ θ, (f θ).cell? ⟨b, off + i' * 3 + 2, none⟩ = some (.int .i64 A[i'].2.2) := fun θ => (g2.out _ (T5'.out.trans (T6.out.trans (FT.out θ) (by simp)) (by simp))).2.2
              have LR := hid fun θ => (LS.out (f θ)).mono fun e w'' ⟨he, h2⟩ => And.intro he (FE.out w'' ((FT.out θ).trans h2 (by simp)))
              generalize A[i'] = a' at *
              go_upto_region 18 with fail
              refine wp_region_held f θ0 (by kernel_rfl) (by kernel_rfl) hθ0 ?_
              repeat go_big_quiet_step (exact LR.out _)
              refine wpQuiet_nil ?_
              rintro _ ⟨θ, rfl⟩
              have H6 := hid (FIN.out _ (T6.out.trans (FT.out θ) (by simp)))
              have Q0 := F0 θ
              have Q1 := F1 θ
              have Q2 := F2 θ
              generalize f θ = w6 at *
              clear F0 F1 F2 FT FE hθ0 FIN E0 E1 E2 LR LS hls hw0 hp0 hj0 hj1
              obtain ⟨y0, y1, y2⟩ := H6.out.2.c
              have z0 := free_of H6.out.2 0
              have z1 := free_of H6.out.2 1
              have z2 := free_of H6.out.2 2
              by_cases ha : a.1 = hh
              · have ha' := hid (STEP.out.trans (if_pos ha))
                have haq := hid ha
                have hab : (a.1 == hh) = true := by simp [ha]
                clear ha
                go_wp2
                go_roundw
                case rel => exact ⟨(i' + 1) + 1, by omega, by go_num, by rw [ha'.out]; rfl, by rw [ha'.out]; exact en_set H6.out.2 a, ((H6.out.1.setCell (p := ⟨xb, 0, none⟩) (.inr (Nat.le_of_eq hxe.out.symm)) _).setCell (p := ⟨xb, 1, none⟩) (.inr (Nat.le_of_eq hxe.out.symm)) _).setCell (p := ⟨xb, 2, none⟩) (.inr (Nat.le_of_eq hxe.out.symm)) _⟩
                case measure => simp [RowKit.intOf]; omega
              · have ha' := hid (STEP.out.trans (if_neg ha))
                have hab : (a.1 == hh) = false := by simp [ha]
                clear ha
                go_wp2
                go_roundw
                case rel => exact ⟨(i' + 1) + 1, by omega, by go_num, by rw [ha'.out], by rw [ha'.out]; exact H6.out.2, H6.out.1⟩
                case measure => simp [RowKit.intOf]; omega
      · have hlt' : decide (i < A.length) = false := by simpa using hlt
        have e : i = A.length := by omega
        subst e
        have ho : lastH A hh A.length = (A.filter fun e => decide (e.1 = hh)).getLast? := by unfold lastH; rw [List.take_length]
        have CL2 := hid (CLa.out wr TR.out)
        rw [← ho] at CL2
        generalize lastH A hh A.length = o at *
        have hz : lastV o = .tuple #[.agg #[.int .i64 (o.getD (0, 0, 0)).1, .int .i64 (o.getD (0, 0, 0)).2.1, .int .i64 (o.getD (0, 0, 0)).2.2], .bool o.isSome] := rfl
        rw [hz] at CL2
        have AL := hid fun w' => alive12_true w'
        generalize o.getD (0, 0, 0) = z at *
        generalize o.isSome = ob at *
        have TW := hid (T3.out.trans TR.out (by simp))
        have BQ := hid fun w' (t : Touch [] wr w') => EnB.t (w := wr) BR.out t
        clear ho hz CLa CF HT3 HX T3 TR BR hs hk hA1 hn
        go_wp2_with (first
          | (go_at_call 21; refine CL2.out.mono ?_; clear CL2; rintro e w6 ⟨rfl, t6⟩; have T6 := hid t6; have N6 := hid (heap_alloc_new w6 (.cells #[.int .i64 z.1, .int .i64 z.2.1, .int .i64 z.2.2] TEn)); have A6 := hid ((Touch.refl [] w6).alloc (.cells #[.int .i64 z.1, .int .i64 z.2.1, .int .i64 z.2.2] TEn)); clear t6)
          | (go_at_call 7; refine (AL.out _).mono ?_; clear AL; rintro e w7 ⟨rfl, t7⟩; have T7 := hid t7; obtain ⟨k0, k1, k2⟩ := EnB.c (w := w7) (touch_other t7 N6.out (by simp)); obtain ⟨m0, m1, m2⟩ := EnB.c (BQ.out w7 ((T6.out.trans A6.out (by simp)).trans t7 (by simp))); clear t7))
        go_ret
        exact ⟨rfl, ((TW.out.trans T6.out (by simp)).trans A6.out (by simp)).trans T7.out (by simp)⟩
end Go.Proofs.Ytkighblgeeljgaa
