/- The book: marks are put: Ints. -/
import Derived.Test.YtdjcpdlfapfmkaaBkIb
namespace Go.Proofs.Ytdjcpdlfapfmkaa
set_option maxRecDepth 100000
open Go.RowKit Go.Lib Go.ChangeShapes Go.WideShapes

theorem putI_step (M L : List Int) (k : Nat) (h : k < M.length) (hl : L.length = M.length) : (intV (M.take k ++ L.drop k)).set k (.int .i64 M[k]) = intV (M.take (k + 1) ++ L.drop (k + 1)) := by
  unfold intV
  rw [← List.map_set]
  congr 1
  rw [List.set_append_right _ _ (by simp; omega), List.take_succ_eq_append_getElem h, List.append_assoc]
  congr 1
  have : k - (M.take k).length = 0 := by simp; omega
  rw [this, List.drop_eq_getElem_cons (show k < L.length by omega)]
  rfl

set_option maxHeartbeats 4000000 in
theorem putmI_any (kb base : Nat) (c : Cs) (vs : List Value) (ns : Nat → Nat) (M : Nat → List Int) (W : World) (hB : BkBlk W kb c) (hR : Rows1 kdI W base (c 2) vs ns M) :
    Calls Try.prog 56 #[.pointer (some ⟨kb, 0, none⟩)] W fun e W' => e = .returned (.tuple #[]) ∧ Rest [TInt] W W' ∧ Newer W base W' ∧ W.heap.size ≤ W'.heap.size ∧ Rows1 kdI W' base (c 2) vs ns (part kdI ns M vs.length) := by
  obtain ⟨y1, c1, e1, hy1, hy1'⟩ := slice_form hR.own1
  have CE := hid e1
  rw [e1] at hR
  rw [e1]
  have HR := hid hR
  have HBK := hid hB
  have CB : Hid (∀ w, Rest [TInt] W w → w.cell? ⟨kb, 2, none⟩ = some (.slice y1 vs.length c1)) := hid fun w t => by
    have h0 := bk_cell (t.blk hB (by decide)) 2 (by decide)
    rwa [show c ⟨2, by decide⟩ = .slice y1 vs.length c1 from e1] at h0
  have hn250 : (vs.length : Int) ≤ 250 := by have := hR.few; omega
  clear hR hB e1
  go_enter Try.func56, Try.ntmps56
  go_wp2
  go_loopw [2] (fun iv wr => ∃ i : Nat, i ≤ vs.length ∧ iv = .int .i64 i ∧ Rest [TInt] W wr ∧ Newer W base wr ∧ W.heap.size ≤ wr.heap.size ∧ Rows1 kdI wr base (.slice y1 vs.length c1) vs ns (part kdI ns M i)) (fun iv _ => vs.length - (RowKit.intOf iv).toNat)
  case atStart => exact ⟨0, Nat.zero_le _, rfl, Rest.refl _ _, Newer.refl _ _, Nat.le_refl _, by rw [part_zero]; exact HR.out⟩
  case round =>
    obtain ⟨i, hi, rfl, hS, hN, hz, hr⟩ := hrel
    have HS := hid hS
    have HN := hid hN
    have HZ := hid hz
    have HQ := hid hr
    have k0 := CB.out _ hS
    clear hN hr hz hS
    by_cases hlt : i < vs.length
    · have hl2 : decide (i < vs.length) = true := by simpa using hlt
      have hkI : (i : Int) < vs.length := by omega
      have hk0 : (0 : Int) ≤ i := by omega
      obtain ⟨g1, q1, e1, a1, hg1⟩ := rows_at HQ.out.own1 i hlt hlt
      simp only [Value.slice.injEq, true_and] at e1
      obtain ⟨rfl, rfl⟩ := e1
      have HG1 := hid hg1
      have HOI := hid (HQ.out.r1 i hlt)
      obtain ⟨yi, ci, ei, hyi, hyi'⟩ := slice_form HOI.out
      have HEI := hid ei
      rw [ei] at a1
      have hsm := HQ.out.small i
      have hsmI : (ns i : Int) ≤ 3100 := by omega
      have hfw := HR.out.few
      have MT := hid (fun w => markI_any i 0 (ns i) w (by omega) (by omega))
      simp only [Int.natCast_zero] at MT
      clear ei hg1 hsm hfw
      go_wp2_with fail
      refine (MT.out _).mono ?_
      rintro e w2 ⟨mv, rfl, hm, t2⟩
      obtain ⟨ym, cm, rfl, hym, hym'⟩ := slice_form hm
      have HM := hid hm
      have T2 := hid t2
      have R2 := hid (HQ.out.touch t2)
      have HOI2 := hid (R2.out.r1 i hlt)
      have far2 := hid (far_new HOI.out hm (Nat.le_refl _))
      have S2 := hid (HS.out.trans (Rest.touch t2))
      clear hm t2 a1 k0
      go_wp2
      go_loopw [4] (fun kv wq => ∃ k : Nat, k ≤ ns i ∧ kv = .int .i64 k ∧ wq.ownsRow base TInt 1 vs[i] (ns i) (intV ((marks kdI i 0 (ns i)).take k ++ (part kdI ns M i i).drop k)) ∧ Touch (vs[i].ownBlock.toList) w2 wq ∧ Rest [TInt] w2 wq) (fun kv _ => ns i - (RowKit.intOf kv).toNat)
      case atStart => exact ⟨0, Nat.zero_le _, rfl, by have h := R2.out.r1 i hlt; simpa only [List.take_zero, List.nil_append, List.drop_zero] using h, Touch.refl _ _, Rest.refl _ _⟩
      case round =>
        obtain ⟨k, hk, rfl, ho, ht, hs3⟩ := hrel
        have HO := hid ho
        have HT := hid ht
        have HS3 := hid hs3
        clear ho ht hs3
        by_cases hkl : k < ns i
        · have hl3 : decide (k < ns i) = true := by simpa using hkl
          have hkI2 : (k : Int) < ns i := by omega
          have hk02 : (0 : Int) ≤ k := by omega
          have hml : k < (marks kdI i 0 (ns i)).length := by rw [marks_len]; exact hkl
          have ho2 := HO.out
          rw [HEI.out] at ho2
          obtain ⟨g, q, eg, _, _⟩ := ho2.form (by omega)
          simp only [Value.slice.injEq, true_and] at eg
          obtain ⟨rfl, rfl⟩ := eg
          have hF : Hid ((vs[i].ownBlock).toList = [g]) := hid (by rw [HEI.out]; rfl)
          have hob : Hid (vs[i].ownBlock = some g) := hid (by rw [HEI.out]; rfl)
          obtain ⟨gm, qm, em, _, _⟩ := HM.out.form (show 0 < ns i by omega)
          simp only [Value.slice.injEq, true_and] at em
          obtain ⟨rfl, rfl⟩ := em
          have ngm : g ≠ gm := fun e => far2.out g hob.out (by rw [e]; rfl)
          have ngk : g ≠ kb := not_book (S2.out.blk HBK.out (by decide)) HOI2.out (by decide) hob.out
          have ng1 : g ≠ g1 := fun e => far_types HOI2.out R2.out.own1 (by decide) g hob.out (by rw [e]; rfl)
          have HTg := hid (show Touch [g] w2 wr by have := HT.out; rwa [hF.out] at this)
          have SW := S2.out.trans HS3.out
          have l0 := CB.out _ SW
          have l1 : wr.cell? ⟨g1, i, none⟩ = some (.slice (some ⟨g, 0, none⟩) (ns i) ci) := by
            obtain ⟨g4, q4, e4, a4, _⟩ := rows_at (HS3.out.row R2.out.own1 (by decide)) i hlt hlt
            simp only [Value.slice.injEq, Option.some.injEq, Addr.mk.injEq, and_true, true_and] at e4
            obtain ⟨rfl, rfl⟩ := e4
            rw [a4, HEI.out]
          have hM2 := own_touch_far HM.out HTg.out (fun k hk => by simp [Value.ownBlock] at hk; subst hk; simp; exact fun e => ngm e.symm)
          have l2 : wr.cell? ⟨gm, k, none⟩ = some (.int .i64 (marks kdI i 0 (ns i))[k]) := by
            rw [hM2.cellAt k (by omega)]
            simp [intV, hml]
          have l3 : ∃ z, wr.cell? ⟨g, k, none⟩ = some z := by
            rw [ho2.cellAt k (by omega)]
            have := ho2.1
            exact ⟨_, List.getElem?_eq_getElem (by omega)⟩
          obtain ⟨z, l3⟩ := l3
          have l4 := fun j => ho2.frozenAt j
          have l40 := l4 k
          clear l4
          have hML : Hid ((part kdI ns M i i).length = (marks kdI i 0 (ns i)).length) := hid (by have := HOI.out.1; rw [kdokI.len, show kdI.sz = 1 from rfl] at this; rw [marks_len]; omega)
          have hst := hid (putI_step (marks kdI i 0 (ns i)) (part kdI ns M i i) k hml hML.out)
          generalize (marks kdI i 0 (ns i))[k] = tx at *
          go_upto_region 7 with fail
          go_region_held3 (fun w' => w'.cell? ⟨kb, 2, none⟩ = some (.slice (some ⟨g1, 0, none⟩) vs.length c1) ∧ w'.cell? ⟨g1, i, none⟩ = some (.slice (some ⟨g, 0, none⟩) (ns i) ci) ∧ w'.cell? ⟨gm, k, none⟩ = some (.int .i64 tx)) (go_keep) (fail)
          all_goals
            go_wp2
            go_roundw
            case rel =>
              refine ⟨k + 1, by omega, by go_num, ?_, ?_, ?_⟩
              · rw [HEI.out, ← hst.out]
                exact ((owns_touch ho2 ((Touch.refl [] wr).drew)).stored k _).1
              · rw [hF.out]
                exact (HTg.out.drew).setCell (.inl (by simp)) _
              · exact HS3.out.trans ((Rest.touch ((Touch.refl [] wr).drew)).set_own (owns_touch ho2 ((Touch.refl [] wr).drew)) k _)
            case measure => simp [RowKit.intOf]; omega
        · obtain rfl : k = ns i := by omega
          have hl3 : decide (ns i < ns i) = false := by simp
          have hfin := HO.out
          have hML : (part kdI ns M i i).length = ns i := by have := HOI.out.1; rw [kdokI.len, show kdI.sz = 1 from rfl] at this; omega
          rw [List.take_of_length_le (by rw [marks_len]; exact Nat.le_refl _), List.drop_of_length_le (by omega), List.append_nil] at hfin
          have hFb : Hid (∀ k ∈ vs[i].ownBlock.toList, vs[i].ownBlock = some k) := hid (fun k hk => by simpa using hk)
          have R3 := R2.out.turn kdokI hlt hFb.out HT.out hfin
          rw [part_step] at R3
          have R4 := hid R3
          clear R3 hfin hk
          go_wp2
          go_roundw
          case rel => exact ⟨i + 1, by omega, by go_num, S2.out.trans HS3.out, (HN.out.touch T2.out).block HT.out (fun k hk => own_row HOI.out k (hFb.out k hk)), by have := HZ.out; have := T2.out.size; have := HT.out.size; omega, R4.out⟩
          case measure => simp [RowKit.intOf]; omega
    · obtain rfl : i = vs.length := by omega
      have hl2 : decide (vs.length < vs.length) = false := by simp
      clear hlt hi
      go_wp2
      go_end0
      exact ⟨rfl, HS.out, HN.out, HZ.out, HQ.out⟩
end Go.Proofs.Ytdjcpdlfapfmkaa
