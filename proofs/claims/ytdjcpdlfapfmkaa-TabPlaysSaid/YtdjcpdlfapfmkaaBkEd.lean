/- The book: lists are grown, and marks looked at: Entries. -/
import Derived.Test.YtdjcpdlfapfmkaaBkEc
namespace Go.Proofs.Ytdjcpdlfapfmkaa
set_option maxRecDepth 100000
open Go.RowKit Go.Lib Go.ChangeShapes Go.WideShapes

set_option maxHeartbeats 4000000 in
theorem growE_any (kb base : Nat) (c : Cs) (vs : List Value) (ns : Nat → Nat) (W : World) (hB : BkBlk W kb c) (hR : Rows1 kdE W base (c 6) vs ns (fun j => marks kdE j 0 (ns j))) (hb : base ≤ W.heap.size) :
    Calls Try.prog 63 #[.pointer (some ⟨kb, 0, none⟩)] W fun e W' => ∃ ov gs, e = .returned ov ∧ gs.length = vs.length ∧ Rest [TEn, TEns] W W' ∧ Newer W base W' ∧ W.heap.size ≤ W'.heap.size ∧ Grown kdE W' base (c 6) vs gs ns ∧ W'.ownsRow W.heap.size TEns 1 ov gs.length gs := by
  obtain ⟨y1, c1, e1, hy1, hy1'⟩ := slice_form hR.own1
  rw [e1] at hR
  rw [e1]
  obtain ⟨i0, hi0, hz0, hz1, hz2⟩ := info_parts infoEn
  obtain ⟨i1, hi1, hy0, hyy1, hyy2⟩ := info_parts infoSSE
  have HR := hid hR
  have HB := hid hb
  have CB : Hid (∀ w, Rest [TEn, TEns] W w → w.cell? ⟨kb, 6, none⟩ = some (.slice y1 vs.length c1)) := hid fun w t => by
    have h0 := bk_cell (t.blk hB (by decide)) 6 (by decide)
    rwa [show c ⟨6, by decide⟩ = .slice y1 vs.length c1 from e1] at h0
  have hn250 : (vs.length : Int) ≤ 250 := by have := hR.few; omega
  clear hR hb hB e1
  go_enter Try.func63, Try.ntmps63
  go_wp2
  go_loopw [3, 4] (fun ov iv wr => ∃ (i : Nat) (gs : List Value), i ≤ vs.length ∧ iv = .int .i64 i ∧ gs.length = i ∧ Rest [TEn, TEns] W wr ∧ Newer W base wr ∧ W.heap.size ≤ wr.heap.size ∧ Grown kdE wr base (.slice y1 vs.length c1) vs gs ns ∧ wr.ownsRow W.heap.size TEns 1 ov gs.length gs) (fun _ iv _ => vs.length - (RowKit.intOf iv).toNat)
  case atStart => exact ⟨0, [], Nat.zero_le _, rfl, rfl, Rest.refl _ _, Newer.refl _ _, Nat.le_refl _, ⟨HR.out, fun j h => absurd h (Nat.not_lt_zero j), Nat.zero_le _, by simp, fun a b h => absurd h (Nat.not_lt_zero a)⟩, World.ownsRow_nil _ _ _ _⟩
  case round =>
    obtain ⟨i, gs, hi, rfl, hgs, hS, hN, hz, hG, hO⟩ := hrel
    obtain ⟨yo, co, rfl, hyo, hyo'⟩ := slice_form hO
    have HS := hid hS
    have HN := hid hN
    have HZ := hid hz
    have HQ := hid hG
    have HO := hid hO
    have HGS := hid hgs
    have k0 := CB.out _ hS
    clear hN hG hz hO hgs hS
    by_cases hlt : i < vs.length
    · have hl2 : decide (i < vs.length) = true := by simpa using hlt
      have hkI : (i : Int) < vs.length := by omega
      have hk0 : (0 : Int) ≤ i := by omega
      obtain ⟨g1, q1, e1, a1, hg1⟩ := rows_at HQ.out.r.own1 i hlt hlt
      simp only [Value.slice.injEq, true_and] at e1
      obtain ⟨rfl, rfl⟩ := e1
      obtain ⟨yi, ci, ei, hyi, hyi'⟩ := slice_form (HQ.out.r.r1 i hlt)
      rw [ei] at a1
      have LS := HQ.out.start hlt HGS.out
      rw [ei] at LS
      have HLS := hid LS
      have hsm := HQ.out.r.small i
      have hsmI : (ns i : Int) ≤ 3100 := by omega
      have hsm0 : (0 : Int) ≤ ns i := by omega
      have HSM := hid hsm
      have h250 : i ≤ 1000 := by have := HR.out.few; omega
      clear ei hg1 LS hsm
      go_wp2
      go_loopw [5, 6] (fun lv nv wq => ∃ t : Nat, t ≤ 12 ∧ nv = .int .i64 t ∧ Longer kdE wq base (.slice (some ⟨g1, 0, none⟩) vs.length c1) vs gs ns i t lv ∧ wq.ownsRow W.heap.size TEns 1 (.slice yo gs.length co) gs.length gs ∧ Rest [TEn, TEns] W wq ∧ Newer W base wq ∧ W.heap.size ≤ wq.heap.size) (fun _ nv _ => 12 - (RowKit.intOf nv).toNat)
      case atStart => exact ⟨0, Nat.zero_le _, rfl, HLS.out, HO.out, HS.out, HN.out, HZ.out⟩
      case round =>
        obtain ⟨t, ht, rfl, hL, hO2, hS2, hN2, hZ2⟩ := hrel
        obtain ⟨yl, cl, rfl, hyl, hyl'⟩ := slice_form hL.own
        have HL := hid hL
        have HO2 := hid hO2
        have HS2 := hid hS2
        have HN2 := hid hN2
        have HZ2 := hid hZ2
        have htI : (t : Int) ≤ 12 := by omega
        have ht0 : (0 : Int) ≤ t := by omega
        clear hL hO2 hN2 hZ2 hS2
        by_cases htl : t < 12
        · have htl2 : (t : Int) < 12 := by omega
          have MT : Hid (∀ w, Calls Try.prog 102 #[.int .i64 i, .int .i64 ((ns i : Int) + t), .int .i64 1] w fun e w' => ∃ v, e = .returned v ∧ w'.ownsRow w.heap.size TEn 3 v 1 (envals (marks kdE i (ns i + t) 1)) ∧ Touch [] w w') := fun w => by
            have h := markE_any i (ns i + t) 1 w h250 (by have := HSM.out; omega)
            rw [show ((ns i + t : Nat) : Int) = (ns i : Int) + t from by omega] at h
            exact h
          go_wp2_with fail
          refine (MT.out _).mono ?_
          rintro e w2 ⟨mv, rfl, hm, t2⟩
          obtain ⟨ym, cm, rfl, _, _⟩ := slice_form hm
          have HM := hid hm
          have T2 := hid t2
          have L2 := hid (HL.out.touch t2)
          have O2 := hid (owns_touch HO2.out t2)
          clear hm t2 MT
          go_wp2_with (at_builtin; refine wpList_append_grew _ rfl (.tmp 27) (.tmp 31) TEns rfl base TEn i0 (.agg #[.int .i64 0, .int .i64 0, .int .i64 0]) 3 24 Try.underlying36 hi0 hz0 hz1 hz2 rfl (by decide) (.slice yl (ns i + t) cl) (ns i + t) (envals (marks kdE i 0 (ns i + t))) rfl L2.out.own (.slice ym 1 cm) 1 wr.heap.size (envals (marks kdE i (ns i + t) 1)) rfl HM.out (envals_one _) (by have := HSM.out; omega) (by decide) (by have := HB.out; have := HZ2.out; have := T2.out.size; omega) ?_; intro y3 c3 w3 hG3; have G3 := hid hG3; clear hG3)
          go_roundw
          case rel => exact ⟨t + 1, by omega, by go_num, L2.out.next kdokE hlt (by have := HGS.out; omega) G3.out, G3.out.other (far_types L2.out.own O2.out (by decide)) O2.out, (HS2.out.trans (Rest.touch T2.out)).trans (G3.out.rest L2.out.own (by simp)), (HN2.out.touch T2.out).grew G3.out L2.out.own (Nat.le_refl _), by have := HZ2.out; have := T2.out.size; have := G3.out.size; omega⟩
          case measure => simp [RowKit.intOf]; omega
        · obtain rfl : t = 12 := by omega
          have MT : Hid (∀ w, Calls Try.prog 102 #[.int .i64 i, .int .i64 ((ns i : Int) + 12), .int .i64 60] w fun e w' => ∃ v, e = .returned v ∧ w'.ownsRow w.heap.size TEn 3 v 60 (envals (marks kdE i (ns i + 12) 60)) ∧ Touch [] w w') := fun w => by
            have h := markE_any i (ns i + 12) 60 w h250 (by have := HSM.out; omega)
            rw [show ((ns i + 12 : Nat) : Int) = (ns i : Int) + 12 from by omega] at h
            exact h
          go_wp2_with fail
          refine (MT.out _).mono ?_
          rintro e w2 ⟨mv, rfl, hm, t2⟩
          obtain ⟨ym, cm, rfl, _, _⟩ := slice_form hm
          have HM := hid hm
          have T2 := hid t2
          have L2 := hid (HL.out.touch t2)
          have O2 := hid (owns_touch HO2.out t2)
          have Z2 := hid (show W.heap.size ≤ w2.heap.size by have := HZ2.out; have := t2.size; omega)
          clear hm t2 MT
          go_wp2_with (first | (at_builtin; refine wpList_append_grew _ rfl (.tmp 34) (.tmp 38) TEns rfl base TEn i0 (.agg #[.int .i64 0, .int .i64 0, .int .i64 0]) 3 24 Try.underlying36 hi0 hz0 hz1 hz2 rfl (by decide) (.slice yl (ns i + 12) cl) (ns i + 12) (envals (marks kdE i 0 (ns i + 12))) rfl L2.out.own (.slice ym 60 cm) 60 wr.heap.size (envals (marks kdE i (ns i + 12) 60)) rfl HM.out (envals_one _) (by have := HSM.out; omega) (by decide) (by have := HB.out; have := Z2.out; omega) ?_; intro y3 c3 w3 hG3; have G3 := hid hG3; have O3 := hid (hG3.other (far_types L2.out.own O2.out (by decide)) O2.out); clear hG3) | (at_builtin; refine wpList_append_grew _ rfl (.tmp 33) (.tmp 40) TSSE rfl W.heap.size TEns i1 nilS 1 24 Try.underlying31 hi1 hy0 hyy1 hyy2 rfl (by decide) (.slice yo gs.length co) gs.length gs rfl (O3.out.alloc _) (.slice (some ⟨w3.heap.size, 0, none⟩) 1 1) 1 0 [.slice y3 (ns i + 12 + 60) c3] rfl (lit_one _ _ _ _ rfl) (by intro u hu; simp at hu; subst hu; rfl) (by have := HGS.out; omega) (by decide) (by have := Z2.out; have := G3.out.size; simp; omega) ?_; intro y4 c4 w4 hG4; have G4 := hid hG4; clear hG4))
          have D3 := hid ((L2.out.next kdokE hlt (by have := HGS.out; omega) G3.out).done hlt HGS.out)
          have N3 := hid ((HN2.out.touch T2.out).grew G3.out L2.out.own (Nat.le_refl _))
          have tvfar := hid (far_new HR.out.own1 (O3.out.alloc (.cells #[.slice y3 (ns i + 12 + 60) c3] TEns)) (Nat.le_refl _))
          have D4 := hid ((D3.out.touch ((Touch.refl [] w3).alloc (.cells #[.slice y3 (ns i + 12 + 60) c3] TEns))).strs kdokE tvfar.out.symm (O3.out.alloc _) G4.out)
          refine ⟨⟨i + 1, gs ++ [.slice y3 (ns i + 12 + 60) c3], by omega, by go_num, by simp [HGS.out], ?_, ?_, ?_, D4.out, ?_⟩, by simp [RowKit.intOf]; omega⟩
          · exact (((HS2.out.trans (Rest.touch T2.out)).trans (G3.out.rest L2.out.own (by simp))).trans (Rest.touch ((Touch.refl [] w3).alloc (.cells #[.slice y3 (ns i + 12 + 60) c3] TEns)))).trans (G4.out.rest (O3.out.alloc _) (by simp))
          · exact (N3.out.touch ((Touch.refl [] w3).alloc (.cells #[.slice y3 (ns i + 12 + 60) c3] TEns))).grew G4.out (O3.out.alloc _) HB.out
          · have h1 := Z2.out
            have h2 := G3.out.size
            have h3 := G4.out.size
            simp at h3
            omega
          · rw [show (gs ++ [Value.slice y3 (ns i + 12 + 60) c3]).length = gs.length + 1 by simp]
            exact G4.out.own
    · obtain rfl : i = vs.length := by omega
      have hl2 : decide (vs.length < vs.length) = false := by simp
      clear hlt hi
      go_wp2
      go_ret
      exact ⟨_, gs, rfl, HGS.out, HS.out, HN.out, HZ.out, HQ.out, HO.out⟩

set_option maxHeartbeats 4000000 in
theorem markedE_any (v : Value) (gs : List Value) (ms : Nat → Nat) (bo bg : Nat) (W : World) (hO : W.ownsRow bo TEns 1 v gs.length gs) (hr : ∀ j (h : j < gs.length), W.ownsRow bg TEn 3 gs[j] (ms j) (envals (marks kdE j 0 (ms j)))) (hfew : gs.length ≤ 250) (hsm : ∀ j, ms j ≤ 3200) :
    Calls Try.prog 69 #[v] W fun e W' => e = .returned (.bool true) ∧ Touch [] W W' := by
  obtain ⟨y1, c1, rfl, hy1, hy1'⟩ := slice_form hO
  have HO := hid hO
  have HR := hid hr
  have HS := hid hsm
  have hn250 : (gs.length : Int) ≤ 250 := by omega
  have HF := hid hfew
  clear hO hr hsm hfew
  go_enter Try.func69, Try.ntmps69
  go_wp2
  go_loopw [3] (fun iv wr => ∃ k : Nat, k ≤ gs.length ∧ iv = .int .i64 k ∧ Touch [] W wr) (fun iv _ => gs.length - (RowKit.intOf iv).toNat)
  case atStart => exact ⟨0, Nat.zero_le _, rfl, Touch.refl _ _⟩
  case round =>
    obtain ⟨k, hk, rfl, ht⟩ := hrel
    have HT := hid ht
    clear ht
    by_cases hlt : k < gs.length
    · have hl2 : decide (k < gs.length) = true := by simpa using hlt
      have hkI : (k : Int) < gs.length := by omega
      have hk0 : (0 : Int) ≤ k := by omega
      obtain ⟨g1, q1, e1, a1, _⟩ := rows_at (owns_touch HO.out HT.out) k hlt hlt
      simp only [Value.slice.injEq, true_and] at e1
      obtain ⟨rfl, rfl⟩ := e1
      have hrow := owns_touch (HR.out k hlt) HT.out
      obtain ⟨yi, ci, ei, hyi, hyi'⟩ := slice_form hrow
      rw [ei] at a1 hrow
      have HROW := hid hrow
      have hsmk := HS.out k
      have hsmI : (ms k : Int) ≤ 3200 := by omega
      have MT : Hid (∀ w, Calls Try.prog 102 #[.int .i64 k, .int .i64 0, .int .i64 (ms k)] w fun e w' => ∃ v, e = .returned v ∧ w'.ownsRow w.heap.size TEn 3 v (ms k) (envals (marks kdE k 0 (ms k))) ∧ Touch [] w w') := fun w => markE_any k 0 (ms k) w (by have := HF.out; omega) (by omega)
      have HSM := hid hsmk
      have a1d : wr.drew.cell? ⟨g1, k, none⟩ = some (.slice yi (ms k) ci) := a1
      clear hrow ei hsmk
      go_upto_region 4 with fail
      go_region_law (first
        | (refine step_call _ rfl (f := 102) (args := #[.int .i64 k, .int .i64 0, .int .i64 (ms k)]) (by simp [go_sem, Act.eval]) (MT.out _) ?_
           rintro e w2 ⟨mv, rfl, hm, t2⟩
           obtain ⟨ym, cm, rfl, _, _⟩ := slice_form hm
           refine ⟨_, rfl, ?_⟩
           have T2 : Hid (Touch [] wr w2) := hid (((Touch.refl [] wr).drew).trans t2 (by simp))
           have HM := hid hm
           have a2 := T2.out.cell a1
           clear hm t2)
        | (refine step_call _ rfl (f := 23) (args := #[.slice yi (ms k) ci, .slice ym (ms k) cm]) (by simp [go_sem, Act.eval]) (sameE_rows (owns_touch HROW.out T2.out) HM.out (by rw [marks_len]; have := HSM.out; omega)) ?_
           rintro e w3 ⟨rfl, t3⟩
           refine ⟨_, rfl, ?_⟩
           have T3 : Hid (Touch [] wr w3) := hid (T2.out.trans t3 (by simp))
           have a3 := T3.out.cell a1
           clear t3))
      all_goals
        go_wp2
        go_roundw
        case rel => exact ⟨k + 1, by omega, by go_num, HT.out.trans T3.out (by simp)⟩
        case measure => simp [RowKit.intOf]; omega
    · obtain rfl : k = gs.length := by omega
      have hl2 : decide (gs.length < gs.length) = false := by simp
      clear hlt hk
      go_wp2
      go_ret
      exact ⟨rfl, HT.out⟩
end Go.Proofs.Ytdjcpdlfapfmkaa
