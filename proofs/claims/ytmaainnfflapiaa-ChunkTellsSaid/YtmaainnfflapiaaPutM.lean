/- The book's putTexts. -/
import Derived.Test.YtmaainnfflapiaaStill
namespace Go.Proofs.Ytmaainnfflapiaa
set_option maxRecDepth 100000
open Go.RowKit Go.Lib Go.ChangeShapes Go.WideShapes

/-- The lists that are kept, and what is in each: so many texts, M. -/
structure Rows1 (W : World) (kb base : Nat) (tv wv : Value) (vs : List Value) (ns : Nat → Nat) (M : Nat → List ByteArray) : Prop where
  blk : BkBlk W kb tv wv
  ge : base ≤ kb
  own1 : W.ownsRow base TStrs 1 tv vs.length vs
  r1 : ∀ j (h : j < vs.length), W.ownsRow base TStr 1 vs[j] (ns j) (svals (M j))
  ap : vs.Pairwise Far
  few : vs.length ≤ 250
  small : ∀ j, ns j ≤ 3100
theorem Rows1.touch {W W' : World} {kb base : Nat} {tv wv : Value} {vs : List Value} {ns : Nat → Nat} {M : Nat → List ByteArray} (h : Rows1 W kb base tv wv vs ns M) (t : Touch [] W W') : Rows1 W' kb base tv wv vs ns M :=
  ⟨touch_other t h.blk (by simp), h.ge, owns_touch h.own1 t, fun j hj => owns_touch (h.r1 j hj) t, h.ap, h.few, h.small⟩
theorem far_of_pair {vs : List Value} (h : vs.Pairwise Far) {i j : Nat} (hi : i < vs.length) (hj : j < vs.length) (hne : i ≠ j) : Far vs[i] vs[j] := by
  rw [List.pairwise_iff_getElem] at h
  rcases Nat.lt_or_gt_of_ne hne with hlt | hlt
  · exact h i j hi hj hlt
  · exact (h j i hj hi hlt).symm
/-- A row stays where another one's block alone was turned. -/
theorem own_touch_far {W W' : World} {F : List Nat} {b s n : Nat} {e : TypeId} {v : Value} {xs : List Value} (h : W.ownsRow b e s v n xs) (t : Touch F W W') (hF : ∀ k, v.ownBlock = some k → k ∉ F) : W'.ownsRow b e s v n xs := by
  refine ⟨h.1, ?_⟩
  rcases h.2 with h2 | ⟨g, cap, cur, rfl, hb, hh, r⟩
  · exact .inl h2
  · exact .inr ⟨g, cap, cur, rfl, hb, touch_other t hh (hF g rfl), r⟩
theorem not_book {w : World} {kb b s n k : Nat} {tv wv v : Value} {e : TypeId} {xs : List Value} (hB : BkBlk w kb tv wv) (h : w.ownsRow b e s v n xs) (he : e ≠ TBook) (hk : v.ownBlock = some k) : k ≠ kb := fun e2 => by
  rcases h.2 with ⟨rfl, _⟩ | ⟨g, cap, cur, rfl, _, hh, _⟩
  · cases hk
  · simp only [Value.ownBlock, Option.some.injEq] at hk
    subst hk
    subst e2
    rw [hB] at hh
    cases hh
    exact he rfl
/-- After list i was turned. -/
theorem Rows1.turn {W W' : World} {kb base i : Nat} {tv wv : Value} {vs : List Value} {ns : Nat → Nat} {M : Nat → List ByteArray} (h : Rows1 W kb base tv wv vs ns M) (hi : i < vs.length) {F : List Nat} (hF : ∀ k ∈ F, vs[i].ownBlock = some k) (t : Touch F W W') {L : List ByteArray} (hL : W'.ownsRow base TStr 1 vs[i] (ns i) (svals L)) :
    Rows1 W' kb base tv wv vs ns (fun j => if j = i then L else M j) := by
  refine ⟨touch_other t h.blk (fun hk => not_book h.blk (h.r1 i hi) (by decide) (hF _ hk) rfl), h.ge, own_touch_far h.own1 t (fun k hk hkF => far_types h.own1 (h.r1 i hi) (by decide) k hk (hF _ hkF)), fun j hj => ?_, h.ap, h.few, h.small⟩
  by_cases hji : j = i
  · subst hji
    simpa using hL
  · rw [if_neg hji]
    exact own_touch_far (h.r1 j hj) t (fun k hk hkF => far_of_pair h.ap hj hi hji k hk (hF _ hkF))
/-- What is newer than W0 alone was turned. -/
def Newer (W : World) (base : Nat) (W' : World) : Prop := ∀ W0, Touch [] W0 W → W0.heap.size ≤ base → Touch [] W0 W'
theorem Newer.refl (W : World) (base : Nat) : Newer W base W := fun _ h _ => h
theorem Newer.touch {W W1 W2 : World} {base : Nat} (h : Newer W base W1) (t : Touch [] W1 W2) : Newer W base W2 := fun W0 h0 hs => (h W0 h0 hs).trans t (by simp)
theorem Newer.trans {W W1 W2 : World} {base : Nat} (h : Newer W base W1) (h2 : Newer W1 base W2) : Newer W base W2 := fun W0 h0 hs => h2 W0 (h W0 h0 hs) hs
theorem Newer.block {W W1 W2 : World} {base : Nat} (h : Newer W base W1) {F : List Nat} (t : Touch F W1 W2) (hF : ∀ k ∈ F, base ≤ k) : Newer W base W2 := fun W0 h0 hs =>
  (h W0 h0 hs).trans t (fun k hk => by right; exact Nat.le_trans hs (hF k hk))
theorem put_step (M L : List ByteArray) (k : Nat) (h : k < M.length) (hl : L.length = M.length) : (svals (M.take k ++ L.drop k)).set k (.string M[k]) = svals (M.take (k + 1) ++ L.drop (k + 1)) := by
  unfold svals
  rw [← List.map_set]
  congr 1
  rw [List.set_append_right _ _ (by simp; omega), List.take_succ_eq_append_getElem h, List.append_assoc]
  congr 1
  have : k - (M.take k).length = 0 := by simp; omega
  rw [this, List.drop_eq_getElem_cons (show k < L.length by omega)]
  rfl

/-- The marks of the first lists, and of the others what is in them. -/
def part (ns : Nat → Nat) (M : Nat → List ByteArray) (i : Nat) : Nat → List ByteArray := fun j => if j < i then marks j 0 (ns j) else M j
theorem part_zero (ns : Nat → Nat) (M : Nat → List ByteArray) : part ns M 0 = M := by funext j; simp [part]
theorem part_step (ns : Nat → Nat) (M : Nat → List ByteArray) (i : Nat) : (fun j => if j = i then marks i 0 (ns i) else part ns M i j) = part ns M (i + 1) := by
  funext j
  unfold part
  by_cases h1 : j = i
  · subst h1; simp
  · rw [if_neg h1]
    by_cases h2 : j < i
    · rw [if_pos h2, if_pos (by omega)]
    · rw [if_neg h2, if_neg (by omega)]

set_option maxHeartbeats 4000000 in
set_option maxRecDepth 100000 in
theorem putTexts_any (kb base : Nat) (tv wv : Value) (vs : List Value) (ns : Nat → Nat) (M : Nat → List ByteArray) (W : World) (hR : Rows1 W kb base tv wv vs ns M) :
    Calls Try.prog 40 #[.pointer (some ⟨kb, 0, none⟩)] W fun e W' => e = .returned (.tuple #[]) ∧ Newer W base W' ∧ W.heap.size ≤ W'.heap.size ∧ Rows1 W' kb base tv wv vs ns (part ns M vs.length) := by
  obtain ⟨y1, c1, rfl, hy1, hy1'⟩ := slice_form hR.own1
  have HR := hid hR
  have hn250 : (vs.length : Int) ≤ 250 := by have := hR.few; omega
  clear hR
  go_enter Try.func40, Try.ntmps40
  go_wp2
  go_loopw [2] (fun iv wr => ∃ i : Nat, i ≤ vs.length ∧ iv = .int .i64 i ∧ Newer W base wr ∧ W.heap.size ≤ wr.heap.size ∧ Rows1 wr kb base (.slice y1 vs.length c1) wv vs ns (part ns M i)) (fun iv _ => vs.length - (RowKit.intOf iv).toNat)
  case atStart => exact ⟨0, Nat.zero_le _, rfl, Newer.refl _ _, Nat.le_refl _, by rw [part_zero]; exact HR.out⟩
  case round =>
    obtain ⟨i, hi, rfl, hN, hz, hr⟩ := hrel
    have HN := hid hN
    have HZ := hid hz
    have HQ := hid hr
    have k0 := cell_of hr.blk 0
    clear hN hr hz
    by_cases hlt : i < vs.length
    · have hl2 : decide (i < vs.length) = true := by simpa using hlt
      have hkI : (i : Int) < vs.length := by omega
      have hk0 : (0 : Int) ≤ i := by omega
      obtain ⟨g1, q1, e1, a1, hg1⟩ := strs_at HQ.out.own1 i hlt hlt
      simp only [Value.slice.injEq, true_and] at e1
      obtain ⟨rfl, rfl⟩ := e1
      have HG1 := hid hg1
      have HOI := hid (HQ.out.r1 i hlt)
      obtain ⟨yi, ci, ei, hyi, hyi'⟩ := slice_form HOI.out
      have HEI := hid ei
      rw [ei] at a1
      have hsm := HQ.out.small i
      have hsmI : (ns i : Int) ≤ 3100 := by omega
      have MT := hid (fun w => markTexts_any i 0 (ns i) w (by omega) (by omega))
      simp only [Int.natCast_zero] at MT
      clear ei hg1 hsm
      go_wp2_with fail
      refine (MT.out _).mono ?_
      rintro e w2 ⟨mv, rfl, hm, t2⟩
      obtain ⟨ym, cm, rfl, hym, hym'⟩ := slice_form hm
      have HM := hid hm
      have T2 := hid t2
      have R2 := hid (HQ.out.touch t2)
      have HOI2 := hid (R2.out.r1 i hlt)
      have far2 := hid (far_new HOI.out hm (Nat.le_refl _))
      have FB : Hid (∀ k, (Value.slice ym (ns i) cm).ownBlock = some k → k ≠ kb) := hid (fun k hk => not_book R2.out.blk hm (by decide) hk)
      clear hm t2 a1 k0
      go_wp2
      go_loopw [4] (fun kv wq => ∃ k : Nat, k ≤ ns i ∧ kv = .int .i64 k ∧ wq.ownsRow base TStr 1 vs[i] (ns i) (svals ((marks i 0 (ns i)).take k ++ (part ns M i i).drop k)) ∧ Touch (vs[i].ownBlock.toList) w2 wq) (fun kv _ => ns i - (RowKit.intOf kv).toNat)
      case atStart => exact ⟨0, Nat.zero_le _, rfl, by simpa using R2.out.r1 i hlt, Touch.refl _ _⟩
      case round =>
        obtain ⟨k, hk, rfl, ho, ht⟩ := hrel
        have HO := hid ho
        have HT := hid ht
        clear ho ht
        by_cases hkl : k < ns i
        · have hl3 : decide (k < ns i) = true := by simpa using hkl
          have hkI2 : (k : Int) < ns i := by omega
          have hk02 : (0 : Int) ≤ k := by omega
          have hml : k < (marks i 0 (ns i)).length := by rw [marks_len]; exact hkl
          have ho2 := HO.out
          rw [HEI.out] at ho2
          obtain ⟨g, q, eg, _, _⟩ := ho2.form (by omega)
          simp only [Value.slice.injEq, true_and] at eg
          obtain ⟨rfl, rfl⟩ := eg
          have hF : Hid ((vs[i].ownBlock).toList = [g]) := hid (by rw [HEI.out]; rfl)
          have hob : Hid (vs[i].ownBlock = some g) := hid (by rw [HEI.out]; rfl)
          have ngk : g ≠ kb := not_book R2.out.blk HOI2.out (by decide) hob.out
          obtain ⟨g3, q3, e3, a3, _⟩ := strs_at R2.out.own1 i hlt hlt
          simp only [Value.slice.injEq, Option.some.injEq, Addr.mk.injEq, and_true, true_and] at e3
          obtain ⟨rfl, rfl⟩ := e3
          have ng1 : g ≠ g1 := fun e => far_types HOI2.out R2.out.own1 (by decide) g hob.out (by rw [e]; rfl)
          obtain ⟨gm, qm, em, _, _⟩ := HM.out.form (show 0 < ns i by omega)
          simp only [Value.slice.injEq, true_and] at em
          obtain ⟨rfl, rfl⟩ := em
          have ngm : g ≠ gm := fun e => far2.out g hob.out (by rw [e]; rfl)
          have HTg := hid (show Touch [g] w2 wr by have := HT.out; rwa [hF.out] at this)
          have l0 := cell_of (touch_other HTg.out R2.out.blk (by simp; exact fun e => ngk e.symm)) 0
          have l1 : wr.cell? ⟨g1, i, none⟩ = some (.slice (some ⟨g, 0, none⟩) (ns i) ci) := by
            obtain ⟨g4, q4, e4, a4, _⟩ := strs_at (own_touch_far R2.out.own1 HTg.out (fun k hk => by simp [Value.ownBlock] at hk; subst hk; simp; exact fun e => ng1 e.symm)) i hlt hlt
            simp only [Value.slice.injEq, Option.some.injEq, Addr.mk.injEq, and_true, true_and] at e4
            obtain ⟨rfl, rfl⟩ := e4
            rw [a4, HEI.out]
          have l2 : wr.cell? ⟨gm, k, none⟩ = some (.string (marks i 0 (ns i))[k]) := by
            have h := own_touch_far HM.out HTg.out (fun k hk => by simp [Value.ownBlock] at hk; subst hk; simp; exact fun e => ngm e.symm)
            rw [h.cellAt k (by omega)]
            simp [svals, hml]
          have l3 : ∃ z, wr.cell? ⟨g, k, none⟩ = some z := by
            rw [ho2.cellAt k (by omega)]
            have := ho2.1
            exact ⟨_, List.getElem?_eq_getElem (by omega)⟩
          obtain ⟨z, l3⟩ := l3
          have l4 := ho2.frozenAt k
          have hML : Hid ((part ns M i i).length = (marks i 0 (ns i)).length) := hid (by have := HOI.out.1; rw [svals_len] at this; rw [marks_len]; omega)
          have hst := hid (put_step (marks i 0 (ns i)) (part ns M i i) k hml hML.out)
          generalize (marks i 0 (ns i))[k] = tx at *
          clear a3
          go_upto_region 7 with fail
          go_region_held3 (fun w' => w'.cell? ⟨kb, 0, none⟩ = some (.slice (some ⟨g1, 0, none⟩) vs.length c1) ∧ w'.cell? ⟨g1, i, none⟩ = some (.slice (some ⟨g, 0, none⟩) (ns i) ci) ∧ w'.cell? ⟨gm, k, none⟩ = some (.string tx)) (go_keep) (fail)
          all_goals
            go_wp2
            go_roundw
            case rel =>
              refine ⟨k + 1, by omega, by go_num, ?_, ?_⟩
              · rw [HEI.out, ← hst.out]
                exact ((owns_touch ho2 ((Touch.refl [] wr).drew)).stored k _).1
              · rw [hF.out]
                exact (HTg.out.drew).setCell (.inl (by simp)) _
            case measure => simp [RowKit.intOf]; omega
        · obtain rfl : k = ns i := by omega
          have hl3 : decide (ns i < ns i) = false := by simp
          have hfin := HO.out
          have hML : (part ns M i i).length = ns i := by have := HOI.out.1; rw [svals_len] at this; omega
          rw [List.take_of_length_le (by rw [marks_len]; exact Nat.le_refl _), List.drop_of_length_le (by omega), List.append_nil] at hfin
          have hFb : Hid (∀ k ∈ vs[i].ownBlock.toList, vs[i].ownBlock = some k) := hid (fun k hk => by simpa using hk)
          have R3 := R2.out.turn hlt hFb.out HT.out hfin
          rw [part_step] at R3
          have R4 := hid R3
          clear R3 hfin hk
          go_wp2
          go_roundw
          case rel => exact ⟨i + 1, by omega, by go_num, (HN.out.touch T2.out).block HT.out (fun k hk => own_row HOI.out k (hFb.out k hk)), by have := HZ.out; have := T2.out.size; have := HT.out.size; omega, R4.out⟩
          case measure => simp [RowKit.intOf]; omega
    · obtain rfl : i = vs.length := by omega
      have hl2 : decide (vs.length < vs.length) = false := by simp
      clear hlt hi
      go_wp2
      go_end0
      exact ⟨rfl, HN.out, HZ.out, HQ.out⟩
end Go.Proofs.Ytmaainnfflapiaa
