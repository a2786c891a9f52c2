/- Commands' bytes, read back: plain facts. -/
import Derived.Test.YtcihnfgfficmlaaGsto7
import Derived.Test.YtcihnfgfficmlaaCSame
namespace Go.Proofs.Ytcihnfgfficmlaa
open Go.RowKit Go.Lib

theorem iTake_fit (x y : List UInt8) (n : Nat) (h : x.length = n) : iTake (x ++ y, 0) n = (x, (y, 0)) := by
  unfold iTake
  rw [if_neg (by simp), if_neg (by simp [← h])]
  subst h
  simp
theorem u64_lt (v : Int) : u64 v < 18446744073709551616 := by unfold u64; omega
theorem i64_u64 (v : Int) (h0 : -9223372036854775808 ≤ v) (h1 : v ≤ 9223372036854775807) : i64 (u64 v) = v := by
  unfold i64 u64
  split <;> omega
theorem val_be8 (v : Nat) (h : v < 18446744073709551616) : val (be 8 v) = v := by rw [val_be]; exact Nat.mod_eq_of_lt h
theorem val_be1 (v : Nat) (h : v < 256) : val (be 1 v) = v := by rw [val_be]; exact Nat.mod_eq_of_lt h
theorem text_fit (s : ByteArray) (y : List UInt8) (most : Int) (h : (s.size : Int) ≤ most) (hl : s.size ≤ 65536) : iText (txtB s ++ y, 0) most = (s.data.toList, (y, 0)) := by
  unfold iText txtB
  have hl2 := list_len s
  have hv : s.size % 256 ^ 4 = s.size := Nat.mod_eq_of_lt (by omega)
  rw [List.append_assoc, iTake_fit _ _ 4 (be_length _ _), val_be, hv, if_neg (by simp; omega), iTake_fit _ _ _ hl2]
theorem bytesT_list (s : ByteArray) : bytesT s.data.toList = s := by unfold bytesT; exact txt_eq (by simp)

/-- An event as it comes back. -/
def canE (e : EvD) : EvD := ⟨e.id, e.typ, e.data, canon e.val⟩
theorem valid_canE (e : EvD) : validE (canE e) = validE e := rfl
theorem layE_canE (e : EvD) : layE (canE e) = layE e := by unfold layE canE; simp only [canon_canon]
theorem takeE_lay (e : EvD) (hi : e.id ≤ 9223372036854775807) (hf : e.val < 18446744073709551616) (hv : validE e = true) (y : List UInt8) : takeE (layE e ++ y, 0) = (canE e, (y, 0)) := by
  obtain ⟨h1, h2, h3⟩ := valid_iff.1 hv
  have h4 := strm_size h2
  have hb : layE e ++ y = be 8 (u64 e.id) ++ (txtB e.typ ++ (txtB e.data ++ (be 8 (canon e.val) ++ y))) := by unfold layE; simp only [List.append_assoc]
  unfold takeE
  rw [hb]
  simp only [iTake_fit _ _ 8 (be_length _ _), text_fit e.typ _ 60 (by omega) (by omega), text_fit e.data _ 200 (by omega) (by omega)]
  rw [val_be8 _ (u64_lt _), i64_u64 _ (by omega) hi, bytesT_list, bytesT_list, val_be8 _ (canon_lt hf), canon_canon]
  rfl
theorem layL_cons (e : EvD) (l : List EvD) : layL (e :: l) = layE e ++ layL l := rfl
theorem upto_lay (l : List EvD) (y : List UInt8) (hok : ∀ e ∈ l, e.id ≤ 9223372036854775807 ∧ e.val < 18446744073709551616 ∧ validE e = true) : ∀ j, j ≤ l.length → upto (layL l ++ y, 0) j = ((l.take j).map canE, (layL (l.drop j) ++ y, 0))
  | 0, _ => rfl
  | j + 1, h => by
    have ih := upto_lay l y hok j (by omega)
    obtain ⟨a1, a2, a3⟩ := hok l[j] (List.getElem_mem _)
    rw [upto_step (by rw [ih]), ih]
    simp only []
    rw [List.drop_eq_getElem_cons (show j < l.length by omega), layL_cons, List.append_assoc, takeE_lay _ a1 a2 a3, List.take_succ_eq_append_getElem (show j < l.length by omega), List.map_append]
    rfl

/-- A command as it comes back. -/
def canC (c : CmdD) : CmdD := ⟨c.kind, c.time, c.stream, c.exp, c.evs.map canE, c.cnt, c.age, c.bef⟩
theorem layL_canE (l : List EvD) : layL (l.map canE) = layL l := by
  induction l with
  | nil => rfl
  | cons e l ih => rw [List.map_cons, layL_cons, layL_cons, layE_canE, ih]
theorem layC_canC (c : CmdD) : layC (canC c) = layC c := by unfold layC canC; simp only [layL_canE, List.length_map]
theorem all_canE (l : List EvD) : (l.map canE).all validE = l.all validE := by
  induction l with
  | nil => rfl
  | cons e l ih => rw [List.map_cons, List.all_cons, List.all_cons, valid_canE, ih]
theorem check_canC (c : CmdD) : checkC (canC c) = checkC c := by
  unfold checkC canC
  simp only [all_canE, List.length_map, List.map_eq_nil_iff, ne_eq]

/-- What may be lies in its bounds. -/
structure CmdD.Rng (c : CmdD) : Prop where
  k0 : 1 ≤ c.kind
  k1 : c.kind ≤ 5
  t0 : 0 ≤ c.time
  t1 : c.time ≤ 1099511627776
  e0 : -4 ≤ c.exp
  e1 : c.exp ≤ 1099511627776
  c0 : 0 ≤ c.cnt
  c1 : c.cnt ≤ 1099511627776
  a0 : 0 ≤ c.age
  a1 : c.age ≤ 1099511627776
  b0 : 0 ≤ c.bef
  b1 : c.bef ≤ 1099511627776
theorem exp_rng {x : Int} (h : expOk x = true) : -4 ≤ x ∧ x ≤ 1099511627776 := by
  unfold expOk at h
  simp only [Bool.or_eq_true, decide_eq_true_eq, great_iff] at h
  omega
theorem check_rng {c : CmdD} (h : checkC c = 0) : c.Rng := by
  unfold checkC at h
  split at h
  · cases h
  rename_i h1
  split at h
  · cases h
  split at h
  · cases h
  split at h
  · cases h
  split at h
  · cases h
  split at h
  · cases h
  rename_i h6
  split at h
  · cases h
  rename_i h7
  split at h
  · cases h
  rename_i h8
  have g : great = 1099511627776 := rfl
  rw [g] at h1
  have he : -4 ≤ c.exp ∧ c.exp ≤ 1099511627776 := by
    by_cases hk : c.kind = 1 ∨ c.kind = 3
    · refine exp_rng ?_
      cases hq : expOk c.exp with
      | true => rfl
      | false => exact absurd ⟨hk, hq⟩ h6
    · have : ¬ (c.kind ≠ 1 ∧ c.kind ≠ 3 ∧ c.exp ≠ 0) := fun hq => h8 (.inr (.inr (.inl hq)))
      omega
  have hm : (0 ≤ c.cnt ∧ c.cnt ≤ 1099511627776) ∧ (0 ≤ c.age ∧ c.age ≤ 1099511627776) ∧ (0 ≤ c.bef ∧ c.bef ≤ 1099511627776) := by
    by_cases hk : c.kind = 2
    · have hq : validM c.cnt c.age c.bef = true := by
        cases hq : validM c.cnt c.age c.bef with
        | true => rfl
        | false => exact absurd ⟨hk, hq⟩ h7
      unfold validM at hq
      simp only [Bool.and_eq_true, great_iff] at hq
      exact ⟨hq.1.1, hq.1.2, hq.2⟩
    · have : ¬ (c.kind ≠ 2 ∧ (c.cnt ≠ 0 ∨ c.age ≠ 0 ∨ c.bef ≠ 0)) := fun hq => h8 (.inr (.inl hq))
      omega
  exact ⟨by omega, by omega, by omega, by omega, he.1, he.2, hm.1.1, hm.1.2, hm.2.1.1, hm.2.1.2, hm.2.2.1, hm.2.2.2⟩

theorem got_lay (c : CmdD) (m : List UInt8) (h : checkC c = 0) (hok : ∀ e ∈ c.evs, e.id ≤ 9223372036854775807 ∧ e.val < 18446744073709551616) : (gotOf (layC c ++ m)).cmd = canC c ∧ (gotOf (layC c ++ m)).r.2 = (m, 0) := by
  have S := check_small h
  have R := check_rng h
  have r1 := R.k0; have r2 := R.k1; have r3 := R.t0; have r4 := R.t1; have r5 := R.e0; have r6 := R.e1; have r7 := R.c0; have r8 := R.c1; have r9 := R.a0; have r10 := R.a1; have r11 := R.b0; have r12 := R.b1
  have s1 := S.s; have s2 := S.l
  obtain ⟨e1, e2, e3, e4, e5, e6, e7, e8, e9⟩ := reads_got (layC c ++ m)
  generalize gotOf (layC c ++ m) = g at *
  have hb : layC c ++ m = be 1 (u64 c.kind) ++ (be 8 (u64 c.time) ++ (txtB c.stream ++ (be 8 (u64 c.exp) ++ (be 1 c.evs.length ++ (layL c.evs ++ (be 8 (u64 c.cnt) ++ (be 8 (u64 c.age) ++ (be 8 (u64 c.bef) ++ m)))))))) := by unfold layC; simp only [List.append_assoc]
  rw [hb, iTake_fit _ _ 1 (be_length _ _)] at e1
  rw [e1, iTake_fit _ _ 8 (be_length _ _)] at e2
  rw [e2, text_fit _ _ 60 (by omega) (by omega)] at e3
  rw [e3, iTake_fit _ _ 8 (be_length _ _)] at e4
  rw [e4, iTake_fit _ _ 1 (be_length _ _)] at e5
  rw [e5] at e6
  simp only [] at e6
  rw [val_be1 _ (by omega), upto_lay _ _ (fun e he => ⟨(hok e he).1, (hok e he).2, S.v e he⟩) _ (Nat.le_refl _), List.take_length, List.drop_length] at e6
  simp only [show layL [] = [] from rfl, List.nil_append] at e6
  rw [e6, iTake_fit _ _ 8 (be_length _ _)] at e7
  rw [e7, iTake_fit _ _ 8 (be_length _ _)] at e8
  rw [e8, iTake_fit _ _ 8 (be_length _ _)] at e9
  refine ⟨?_, by rw [e9]⟩
  unfold Got.cmd canC
  rw [e1, e2, e3, e4, e6, e7, e8, e9]
  simp only []
  have hk : ((val (be 1 (u64 c.kind)) : Nat) : Int) = c.kind := by
    rw [val_be1 _ (by unfold u64; omega)]
    unfold u64
    omega
  rw [hk, val_be8 _ (u64_lt _), val_be8 _ (u64_lt _), val_be8 _ (u64_lt _), val_be8 _ (u64_lt _), val_be8 _ (u64_lt _), i64_u64 _ (by omega) (by omega), i64_u64 _ (by omega) (by omega), i64_u64 _ (by omega) (by omega), i64_u64 _ (by omega) (by omega), i64_u64 _ (by omega) (by omega), bytesT_list]

/-- What was laid is got. -/
theorem get_lay (c : CmdD) (h : checkC c = 0) (hok : ∀ e ∈ c.evs, e.id ≤ 9223372036854775807 ∧ e.val < 18446744073709551616) : getOf (layC c) = (canC c, 0) := by
  obtain ⟨g1, g2⟩ := got_lay c [] h hok
  rw [List.append_nil] at g1 g2
  unfold getOf
  rw [g2, g1, if_neg (by decide), if_neg]
  rintro (q | q)
  · exact q (by rw [check_canC]; exact h)
  · exact q (layC_canC c)
/-- With something behind it, it isn't. -/
theorem get_more (c : CmdD) (m : List UInt8) (hm : m ≠ []) (h : checkC c = 0) (hok : ∀ e ∈ c.evs, e.id ≤ 9223372036854775807 ∧ e.val < 18446744073709551616) : (getOf (layC c ++ m)).2 = 6 := by
  obtain ⟨g1, g2⟩ := got_lay c m h hok
  have he : (iEnd (m, 0)).2 = 6 := by unfold iEnd; rw [if_neg hm]
  unfold getOf
  rw [g2, he, if_pos (by decide)]
theorem got_evs (b : List UInt8) : (gotOf b).cmd.evs = (gotOf b).l.1 := rfl
/-- What is got is what was laid. -/
theorem get_ok {b : List UInt8} (hb : b.length ≤ 4000) (h : (getOf b).2 = 0) : ∃ d, getOf b = (d, 0) ∧ checkC d = 0 ∧ layC d = b ∧ ∀ e ∈ d.evs, e.id ≤ 9223372036854775807 ∧ e.val < 18446744073709551616 := by
  unfold getOf at h ⊢
  split at h
  · rename_i q
    exact absurd h q
  rename_i q1
  split at h
  · cases h
  rename_i q2
  rw [if_neg q1, if_neg q2]
  refine ⟨_, rfl, by simpa using fun q => q2 (.inl q), by simpa using fun q => q2 (.inr q), ?_⟩
  intro e he
  rw [got_evs, (reads_got b).l] at he
  have hl : (gotOf b).n.2.1.length ≤ 4000 := by
    obtain ⟨e1, e2, e3, e4, e5, _, _, _, _⟩ := reads_got b
    rw [e5]; refine Nat.le_trans (iTake_le _ _).2 ?_
    rw [e4]; refine Nat.le_trans (iTake_le _ _).2 ?_
    rw [e3]; refine Nat.le_trans (iText_le _ _) ?_
    rw [e2]; refine Nat.le_trans (iTake_le _ _).2 ?_
    rw [e1]; exact Nat.le_trans (iTake_le _ _).2 hb
  have := upto_ok _ hl _ e he
  exact ⟨this.i1, this.v⟩
theorem layC_len {c : CmdD} (h : checkC c = 0) : (layC c).length ≤ 4000 := by
  have S := check_small h
  have s1 := S.s; have s2 := S.l
  have := layL_len c.evs S.v
  unfold layC
  simp only [List.length_append, be_length, txtB_len]
  omega
/-- Cut, it isn't got. -/
theorem get_cut (c : CmdD) (h : checkC c = 0) (hok : ∀ e ∈ c.evs, e.id ≤ 9223372036854775807 ∧ e.val < 18446744073709551616) (k : Nat) (hk : k < (layC c).length) : (getOf ((layC c).take k)).2 ≠ 0 := by
  intro h0
  have hl := layC_len h
  obtain ⟨d, h1, h2, h3, h4⟩ := get_ok (by rw [List.length_take]; omega) h0
  have h5 : layC c = layC d ++ (layC c).drop k := by rw [h3, List.take_append_drop]
  have h6 := get_more d ((layC c).drop k) (by intro e; have := congrArg List.length e; simp at this; omega) h2 h4
  rw [← h5, get_lay c h hok] at h6
  cases h6
theorem sameE_iff {a b : EvD} : sameE a b = true ↔ canE a = canE b := by
  unfold sameE canE
  obtain ⟨a0, a1, a2, a3⟩ := a
  obtain ⟨b0, b1, b2, b3⟩ := b
  simp only [Bool.and_eq_true, decide_eq_true_eq, EvD.mk.injEq]
  constructor
  · rintro ⟨⟨⟨h0, h1⟩, h2⟩, h3⟩; exact ⟨h0, h1, h2, h3⟩
  · rintro ⟨h0, h1, h2, h3⟩; exact ⟨⟨⟨h0, h1⟩, h2⟩, h3⟩
theorem sameL_iff : ∀ {l m : List EvD}, sameL l m = true ↔ l.map canE = m.map canE
  | [], [] => by simp [sameL]
  | [], b :: m => by simp [sameL]
  | a :: l, [] => by simp [sameL]
  | a :: l, b :: m => by simp only [sameL, Bool.and_eq_true, List.map_cons, List.cons.injEq, sameE_iff, sameL_iff]
theorem sameC_iff {a b : CmdD} : sameC a b = true ↔ canC a = canC b := by
  unfold sameC canC
  obtain ⟨a0, a1, a2, a3, a4, a5, a6, a7⟩ := a
  obtain ⟨b0, b1, b2, b3, b4, b5, b6, b7⟩ := b
  simp only [Bool.and_eq_true, decide_eq_true_eq, CmdD.mk.injEq, sameL_iff]
  constructor
  · rintro ⟨⟨⟨⟨⟨h0, h1⟩, h2⟩, h3⟩, ⟨h5, h6⟩, h7⟩, h4⟩; exact ⟨h0, h1, h2, h3, h4, h5, h6, h7⟩
  · rintro ⟨h0, h1, h2, h3, h4, h5, h6, h7⟩; exact ⟨⟨⟨⟨⟨h0, h1⟩, h2⟩, h3⟩, ⟨h5, h6⟩, h7⟩, h4⟩
/-- Unlike commands have unlike bytes. -/
theorem lay_apart {a b : CmdD} (ha : checkC a = 0) (hb : checkC b = 0) (oa : ∀ e ∈ a.evs, e.id ≤ 9223372036854775807 ∧ e.val < 18446744073709551616) (ob : ∀ e ∈ b.evs, e.id ≤ 9223372036854775807 ∧ e.val < 18446744073709551616) : layC a = layC b ↔ sameC a b = true := by
  rw [sameC_iff]
  constructor
  · intro h
    have h1 := get_lay a ha oa
    rw [h, get_lay b hb ob] at h1
    exact (congrArg Prod.fst h1).symm
  · intro h
    rw [← layC_canC a, h, layC_canC]
theorem sameC_comm (a b : CmdD) : sameC a b = sameC b a := by
  rw [Bool.eq_iff_iff, sameC_iff, sameC_iff]
  exact eq_comm
theorem sameC_self (a : CmdD) : sameC a a = true := sameC_iff.2 rfl
theorem canC_canC (c : CmdD) : canC (canC c) = canC c := by
  unfold canC
  simp only [List.map_map, CmdD.mk.injEq, true_and, and_true]
  refine List.map_congr_left fun e _ => ?_
  simp only [Function.comp_apply, canE, canon_canon]

/-! ### Stored events -/
theorem got_layS (s : StD) (m : List UInt8) (h : validS s = true) (hi : s.e.id ≤ 9223372036854775807) (hf : s.e.val < 18446744073709551616) : (gotS (layS s ++ m)).sto = ⟨canE s.e, s.stream, s.ver, s.pos, s.time⟩ ∧ (gotS (layS s ++ m)).t.2 = (m, 0) := by
  unfold validS at h
  simp only [Bool.and_eq_true, great_iff] at h
  obtain ⟨⟨⟨⟨h1, h2⟩, h3, h4⟩, h5, h6⟩, h7, h8⟩ := h
  have hs := strm_size h2
  obtain ⟨e1, e2, e3, e4, e5⟩ := reads_gotS (layS s ++ m)
  generalize gotS (layS s ++ m) = g at *
  have hb : layS s ++ m = layE s.e ++ (txtB s.stream ++ (be 8 (u64 s.ver) ++ (be 8 (u64 s.pos) ++ (be 8 (u64 s.time) ++ m)))) := by unfold layS; simp only [List.append_assoc]
  rw [hb, takeE_lay _ hi hf h1] at e1
  rw [e1, text_fit _ _ 60 (by omega) (by omega)] at e2
  rw [e2, iTake_fit _ _ 8 (be_length _ _)] at e3
  rw [e3, iTake_fit _ _ 8 (be_length _ _)] at e4
  rw [e4, iTake_fit _ _ 8 (be_length _ _)] at e5
  refine ⟨?_, by rw [e5]⟩
  unfold GotS.sto
  rw [e1, e2, e3, e4, e5]
  simp only []
  rw [val_be8 _ (u64_lt _), val_be8 _ (u64_lt _), val_be8 _ (u64_lt _), i64_u64 _ (by omega) (by omega), i64_u64 _ (by omega) (by omega), i64_u64 _ (by omega) (by omega), bytesT_list]
/-- A stored event as it comes back. -/
def canS (s : StD) : StD := ⟨canE s.e, s.stream, s.ver, s.pos, s.time⟩
theorem getS_lay (s : StD) (h : validS s = true) (hi : s.e.id ≤ 9223372036854775807) (hf : s.e.val < 18446744073709551616) : getS (layS s) = (canS s, 0) := by
  obtain ⟨g1, g2⟩ := got_layS s [] h hi hf
  rw [List.append_nil] at g1 g2
  have hv : validS (canS s) = true := h
  have hl : layS (canS s) = layS s := by unfold layS canS; simp only [layE_canE]
  unfold getS
  rw [g2, g1, if_neg (by decide), if_neg]
  · rfl
  rintro (q | q)
  · exact absurd (hv.symm.trans q) (by decide)
  · exact q hl
theorem sameS_iff {a b : StD} : sameS a b = true ↔ canS a = canS b := by
  unfold sameS canS
  obtain ⟨a0, a1, a2, a3, a4⟩ := a
  obtain ⟨b0, b1, b2, b3, b4⟩ := b
  simp only [Bool.and_eq_true, decide_eq_true_eq, StD.mk.injEq, sameE_iff]
  constructor
  · rintro ⟨⟨⟨⟨h0, h1⟩, h2⟩, h3⟩, h4⟩; exact ⟨h0, h1, h2, h3, h4⟩
  · rintro ⟨h0, h1, h2, h3, h4⟩; exact ⟨⟨⟨⟨h0, h1⟩, h2⟩, h3⟩, h4⟩
theorem canS_canS (s : StD) : canS (canS s) = canS s := by unfold canS canE; simp only [canon_canon]
/-- A stored event that is read back is the one that was laid. -/
theorem sameS_back (s : StD) : sameS (canS s) s = true := sameS_iff.2 (canS_canS s)
theorem sameC_back (c : CmdD) : sameC c (canC c) = true := sameC_iff.2 (canC_canC c).symm
end Go.Proofs.Ytcihnfgfficmlaa
