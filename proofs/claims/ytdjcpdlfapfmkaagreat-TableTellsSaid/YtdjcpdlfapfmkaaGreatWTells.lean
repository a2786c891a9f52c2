/- TableTells, walked. -/
import Derived.Test.YtdjcpdlfapfmkaaGreatBookm
import Derived.Test.YtdjcpdlfapfmkaaGreatRlw13
import Derived.Test.YtdjcpdlfapfmkaaGreatRtm13
import Derived.Test.YtdjcpdlfapfmkaaGreatAl13
import Derived.Deep.Cut
import Derived.Deep.CutRange
namespace Go.Proofs.YtdjcpdlfapfmkaaGreat
open Go.RowKit Go.Lib Go.ChangeShapes Go.WideShapes
set_option maxRecDepth 100000

theorem posV_intV (m : List En) : posV m = intV (m.map fun e => e.2.2) := by simp [posV, intV]
theorem isR_rngL (l : List En) (h f t : Int) : rngL l h f t = l.filter (isR h f t) := rfl
theorem KBk.sub {w : World} {b0 kb nE nI : Nat} {pE pI pE' pI' : List Value} (h : KBk w b0 kb nE nI pE pI) (h1 : ∀ p ∈ pE', p ∈ pE) (h2 : ∀ p ∈ pI', p ∈ pI) : KBk w b0 kb nE nI pE' pI' := by
  obtain ⟨ge, c, vsE, usE, LsE, vsI, usI, LsI, hB, hE, hI, z0, z4, z8, z10, n1, n2, p1, p2⟩ := h
  exact ⟨ge, c, vsE, usE, LsE, vsI, usI, LsI, hB, hE, hI, z0, z4, z8, z10, n1, n2, fun p hp => p1 p (h1 p hp), fun p hp => p2 p (h2 p hp)⟩
theorem LentE.pre {w : World} {B g c : Nat} {l : List En} (h : LentE w B (.slice (some ⟨g, 0, none⟩) l.length c) l) : EntX w (some ⟨g, 0, none⟩) l := by
  obtain ⟨g', c', e, _, hx⟩ := h.x
  cases e
  exact hx.pre
theorem TblR.rest {w w' : World} {tb : Nat} {l : List En} {ts : List TypeId} (h : TblR w tb l) (r : Rest ts w w') (h1 : TTab ∉ ts) (h2 : TEn ∉ ts) : TblR w' tb l := by
  obtain ⟨g, c, a1, a2, cur, a3, a4⟩ := h
  exact ⟨g, c, r _ _ _ _ a1 h1, a2, cur, r _ _ _ _ a3 h2, a4⟩
theorem buildV_form (l : List En) : ∃ (sv : ByteArray) (ev : Int), buildV l = .tuple #[.string sv, .int .i64 ev] ∧ ((fitE l ∧ sv = sealed (tabT l) ∧ ev = 0) ∨ ev = 1) := by
  by_cases h : fitE l
  · exact ⟨_, 0, if_pos h, .inl ⟨h, rfl, rfl⟩⟩
  · exact ⟨_, 1, if_neg h, .inr rfl⟩
theorem openR_some {b : ByteArray} {l : List En} (h : (openR b).1 = some l) : (openR b).2 = 0 ∧ fitE l ∧ 12 + 24 * l.length ≤ b.size := by
  unfold openR at h ⊢
  by_cases h4 : b.size < 4
  · rw [if_pos h4] at h; cases h
  · rw [if_neg h4] at h ⊢
    by_cases hf : b.extract 0 4 = ⟨(four (crc (b.extract 4 b.size).data.toList)).toArray⟩
    · rw [if_pos hf] at h ⊢
      cases ho : openL (b.extract 4 b.size).data.toList with
      | none => rw [ho] at h; cases h
      | some l' =>
        rw [ho] at h
        cases h
        obtain ⟨k1, k2⟩ := openL_some ho
        have := congrArg List.length k2
        rw [list_len, list_len, tabT_size] at this
        have hs : (b.extract 4 b.size).size = b.size - 4 := by simp
        exact ⟨rfl, k1, by omega⟩
    · rw [if_neg hf] at h; cases h
theorem openR_none {b : ByteArray} (h : (openR b).1 = none) : (openR b).2 ≠ 0 := by
  unfold openR at h ⊢
  by_cases h4 : b.size < 4
  · rw [if_pos h4]; decide
  · rw [if_neg h4] at h ⊢
    by_cases hf : b.extract 0 4 = ⟨(four (crc (b.extract 4 b.size).data.toList)).toArray⟩
    · rw [if_pos hf] at h ⊢
      cases ho : openL (b.extract 4 b.size).data.toList with
      | none => decide
      | some l' => rw [ho] at h; cases h
    · rw [if_neg hf]; decide

structure St13 (W w : World) (kb : Nat) (pv : Value) (l : List En) (k : Nat) : Prop where
  book : ∃ nE nI, nE ≤ 3 * k ∧ nI ≤ k ∧ KBk w W.heap.size kb nE nI [] []
  row : w.ownsRow W.heap.size TREn 3 pv l.length (envals l)
  t : Touch [] W w
theorem St13.touch {W w w' : World} {kb : Nat} {pv : Value} {l : List En} {k : Nat} (h : St13 W w kb pv l k) (t : Touch [] w w') : St13 W w' kb pv l k := by
  obtain ⟨nE, nI, h1, h2, h3⟩ := h.book
  exact ⟨⟨nE, nI, h1, h2, h3.touch t⟩, owns_touch h.row t, h.t.trans t (by simp)⟩
structure Got (W w : World) (o : Option (List En)) (er : Int) (p : Option Addr) (rv : Value) : Prop where
  op : OpenP w o p
  row : w.ownsRow W.heap.size TREn 3 rv (o.getD []).length (envals (o.getD []))
  e1 : o = none → er ≠ 0
  e2 : ∀ l, o = some l → er = 0 ∧ l.length ≤ 130
theorem OpenP.touch {w w' : World} {o : Option (List En)} {p : Option Addr} (h : OpenP w o p) (t : Touch [] w w') : OpenP w' o p := by
  rcases h with h | ⟨l, tb, h1, h2, h3, h4⟩
  · exact .inl h
  · exact .inr ⟨l, tb, h1, h2, h3, h4.t0 t⟩

theorem tells13_long (x : Option Addr) (c : Nat) (l : List En) (b : ByteArray) (h f t : Int) (W : World) (hlen : (60 : Int) < l.length ∨ ((l.length : Int) ≤ 60 ∧ (3000 : Int) < b.size)) :
    Calls Tryz.prog 3 #[.slice x l.length c, .string b, .int .i64 h, .int .i64 f, .int .i64 t] W fun e w' => e = .returned (.bool true) ∧ Touch [] W w' := by
  have AL := hid (fun w => alive13_true w)
  rcases hlen with h1 | ⟨h1, h2⟩
  all_goals
    go_enter Tryz.func3, Tryz.ntmps3
    go_wp2_with (go_at_call 5; refine (AL.out _).mono ?_; rintro e w1 ⟨rfl, t1⟩)
    go_ret
    exact ⟨rfl, t1⟩

set_option maxHeartbeats 16000000 in
theorem tells13_in (x : Option Addr) (c : Nat) (l : List En) (b : ByteArray) (h f t : Int) (W : World) (hX : EntX W x l) (hc : x = none → c = 0 ∧ l = []) (hl : (l.length : Int) ≤ 60) (hb : (b.size : Int) ≤ 3000) :
    Calls Tryz.prog 3 #[.slice x l.length c, .string b, .int .i64 h, .int .i64 f, .int .i64 t] W fun e w' => e = .returned (.bool true) ∧ Touch [] W w' := by
  have AL := hid (fun w => alive13_true w)
  have EX := hid (fun w (t : Touch [] W w) => hX.t0 t)
  have EN := hid hc
  obtain ⟨sv, ev, hbv, hcase⟩ := buildV_form l
  have HBV := hid hbv
  have HCS := hid hcase
  have q0 : (sv.toList == sv.toList) = true := by simp
  have q1 : (ev != ev) = false := by simp
  have hlN : l.length ≤ 60 := by omega
  have hbN : b.size ≤ 3000 := by omega
  clear hX hc hbv hcase
  go_enter Tryz.func3, Tryz.ntmps3
  go_wp2_with fail
  refine (plain_any x c l W (EX.out W (Touch.refl [] W)) (by omega)).mono ?_
  rintro e w1 ⟨pv, rfl, hp, t1⟩
  have T1 := hid t1
  have P1 := hid hp
  obtain ⟨yp, cp, rfl, -, -, -, -, -⟩ := entX_ownT hp
  clear hp t1
  go_wp2_with fail
  refine (lentE_any x c l w1 (EX.out w1 T1.out) EN.out (by omega)).mono ?_
  rintro e w2 ⟨mv, rfl, hm, t2⟩
  obtain ⟨gm, cm, rfl, -, -⟩ := hm.x
  have M2 := hid hm
  have T2 := hid (T1.out.trans t2 (by simp))
  have P2 := hid (owns_touch P1.out t2)
  clear hm t2 T1 P1
  have B2 := build_any (some ⟨gm, 0, none⟩) cm l w2 M2.out.pre (by omega)
  rw [HBV.out] at B2
  have BH := hid B2
  clear B2
  go_wp2_with fail
  refine BH.out.mono ?_
  rintro e w3 ⟨rfl, t3⟩
  have T3 := hid (T2.out.trans t3 (by simp))
  have P3 := hid (owns_touch P2.out t3)
  have M3 := hid (M2.out.t t3)
  clear t3 BH T2 P2 M2
  have hxp : EntX w3 yp l := by
    obtain ⟨x9, c9, e9, -, -, -, -, h9⟩ := entX_ownT P3.out
    cases e9
    exact h9
  have B3 := refBuild_any yp cp l w3 hxp (by omega)
  rw [HBV.out] at B3
  have BH := hid B3
  clear B3 hxp
  go_wp2_with fail
  refine BH.out.mono ?_
  rintro e w4 ⟨rfl, t4⟩
  have T4 := hid (T3.out.trans t4 (by simp))
  have P4 := hid (owns_touch P3.out t4)
  have M4 := hid (M3.out.t t4)
  have ST := hid (staysE_any _ _ x c l w4 M4.out (EX.out w4 T4.out) (by omega))
  clear t4 BH T3 P3 M3
  go_wp2_with fail
  refine ST.out.mono ?_
  rintro e w5 ⟨rfl, t5⟩
  have T5 := hid (T4.out.trans t5 (by simp))
  have P5 := hid (owns_touch P4.out t5)
  clear t5 ST T4 P4 M4
  go_wp2_with fail
  obtain ⟨kb, hkb⟩ : ∃ kb, kb = w5.heap.size := ⟨_, rfl⟩
  obtain ⟨W1, hW1⟩ : ∃ V, V = w5.alloc (.cells #[nilS, nilS, nilS, nilS, nilS, nilS, nilS, nilS, nilS, nilS, nilS, nilS] TBook) := ⟨_, rfl⟩
  have R0 : Hid (St13 W W1 kb (.slice yp l.length cp) l 0) := hid (by
    have hB : BkBlk W1 kb (fun _ => nilS) := by rw [hW1, hkb]; exact heap_alloc_new _ _
    exact ⟨⟨0, 0, by omega, by omega, KBk.start (by rw [hkb]; exact T5.out.size) hB⟩, by rw [hW1]; exact P5.out.alloc _, by rw [hW1]; exact T5.out.alloc _⟩)
  rw [← hW1, ← hkb]
  clear hW1 hkb T5 P5
  have OB := hid (fun w => open_any b w (by omega))
  have RB := hid (fun w => refTabOpen_any b w (by omega))
  have OS := hid (fun (hf : fitE l) w => open_any (sealed (tabT l)) w (by rw [sealed_size, tabT_size]; omega))
  have E1 := hid (openR_none (b := b))
  have E2 := hid (fun l' (h' : (openR b).1 = some l') => openR_some h')
  have q2 : ((openR b).2 != (openR b).2) = false := by simp
  generalize (openR b).1 = ob at *
  generalize (openR b).2 = eb at *
  go_loopw [18] (fun kv wr => ∃ k : Nat, k ≤ 2 ∧ kv = .int .i64 k ∧ St13 W wr kb (.slice yp l.length cp) l k) (fun kv _ => 2 - (RowKit.intOf kv).toNat)
  case atStart => exact ⟨0, by omega, rfl, R0.out⟩
  case round =>
    obtain ⟨k, hk, rfl, hS⟩ := hrel
    have HS := hid hS
    clear hS R0
    by_cases hlt : k < 2
    · have hkI : (k : Int) < 2 := by omega
      have hkd : decide ((k : Int) < 2) = true := by simpa using hkI
      go_wp2_with fail
      refine (OB.out wr).mono ?_
      rintro e w1 ⟨p1, rfl, op1, t1⟩
      have S1 := hid (HS.out.touch t1)
      have O1 := hid op1
      clear op1 t1
      go_wp2_with fail
      refine (RB.out w1).mono ?_
      rintro e w2 ⟨rv, rfl, ro, t2⟩
      have S2 := hid (S1.out.touch t2)
      have G2 : Hid (Got W w2 ob eb p1 rv) := hid ⟨O1.out.touch t2, own_up ro S1.out.t.size, E1.out, fun l' h' => by obtain ⟨k1, k2, k3⟩ := E2.out l' h'; exact ⟨k1, by omega⟩⟩
      clear ro t2 O1 S1
      go_upto_region 15 with fail
      obtain ⟨X, hX⟩ : ∃ X, X = (decide (k = 1) && decide (ev = 0)) := ⟨_, rfl⟩
      go_cut [89] from 84 to 89 (fun v w9 => v = .bool X ∧ w9 = w2)
      case first =>
        subst hX
        by_cases h1 : k = 1
        · subst h1
          by_cases h0 : ev = 0
          · have hb0 : (ev == 0) = true := by simpa using h0
            have HB0 := hid (show (decide ((1 : Nat) = 1) && decide (ev = 0)) = true by simp [h0])
            clear h0
            go_wp2
            go_meet
            exact ⟨by rw [HB0.out], rfl⟩
          · have hb0 : (ev == 0) = false := by simpa using h0
            have HB0 := hid (show (decide ((1 : Nat) = 1) && decide (ev = 0)) = false by simp [h0])
            clear h0
            go_wp2
            go_meet
            exact ⟨by rw [HB0.out], rfl⟩
        · have hb1 : ((k : Int) == 1) = false := by rw [beq_eq_false_iff_ne]; omega
          have HB0 := hid (show (decide (k = 1) && decide (ev = 0)) = false by simp [h1])
          clear h1
          go_wp2
          go_meet
          exact ⟨by rw [HB0.out], rfl⟩
      case rest =>
        obtain ⟨hsv, hwz⟩ := hcut
        subst hsv
        rw [← hwz] at S2 G2
        clear hwz
        go_upto_if 89 with fail
        go_cut [19, 20, 21, 22] from 70 to 200 (fun v19 v20 v21 v22 w3 => ∃ o er p rv, v19 = .pointer p ∧ v20 = .int .i64 er ∧ v21 = rv ∧ v22 = .int .i64 er ∧ Got W w3 o er p rv ∧ St13 W w3 kb (.slice yp l.length cp) l k)
        case first =>
          cases X with
          | false =>
            clear hX
            go_wp2
            go_meet
            exact ⟨ob, eb, p1, rv, rfl, rfl, rfl, rfl, G2.out, S2.out⟩
          | true =>
            have hk0 : ev = 0 := by
              have := hX.symm
              simp at this
              exact this.2
            obtain ⟨hf, hsv, hev⟩ : fitE l ∧ sv = sealed (tabT l) ∧ ev = 0 := by
              rcases HCS.out with h' | h'
              · exact h'
              · omega
            have OS1 := OS.out hf wc
            rw [openR_tab hf, ← hsv] at OS1
            have OSH := hid OS1
            clear OS1 hX hk0 hsv hev hf
            go_wp2_with fail
            refine OSH.out.mono ?_
            rintro e w4 ⟨p4, rfl, op4, t4⟩
            have S4 := hid (S2.out.touch t4)
            have O4 := hid op4
            clear op4 t4 OSH
            go_wp2
            go_meet
            exact ⟨some l, 0, p4, .slice yp l.length cp, rfl, rfl, rfl, rfl, ⟨O4.out, S4.out.row, fun h' => (by cases h'), fun l' h' => by cases h'; exact ⟨rfl, by omega⟩⟩, S4.out⟩
        case rest =>
          obtain ⟨o, er, p, rv2, rfl, rfl, rfl, rfl, hG, hS⟩ := hcut
          have SS := hid hS
          have GG := hid hG
          clear hG hS S2 G2 hX OB RB OS E1 E2 q2 HBV HCS q0 q1
          have qe : (er != er) = false := by simp
          rcases GG.out.op with ⟨ho, hp⟩ | ⟨l2, tb, ho, hf2, hp, htb⟩
          · subst hp
            have he0 : (er == 0) = false := by simpa using GG.out.e1 ho
            clear ho GG
            go_wp2
            go_roundw
            case rel => exact ⟨k + 1, by omega, by go_num, by obtain ⟨nE, nI, a1, a2, a3⟩ := SS.out.book; exact ⟨⟨nE, nI, by omega, by omega, a3⟩, SS.out.row, SS.out.t⟩⟩
            case measure => simp [RowKit.intOf]; omega
          · subst hp
            obtain ⟨he, hl2⟩ := GG.out.e2 l2 ho
            have RR := GG.out.row
            rw [ho, Option.getD_some] at RR
            obtain ⟨yq, cq, rfl, -, -, -, -, -⟩ := entX_ownT RR
            have RW := hid RR
            have he0 : (er == 0) = true := by simpa using he
            have TB := hid htb
            have FI := hid hf2
            clear RR GG he ho htb hf2
            have hlB : (l2.filter (isR h f t)).length ≤ 130 := Nat.le_trans (List.length_filter_le _ _) hl2
            have hlC : (l2.filter (isHV h f)).length ≤ 130 := Nat.le_trans (List.length_filter_le _ _) hl2
            have hlM : (midsE l2).length ≤ 130 := Nat.le_trans (midsN_len l2 l2.length) hl2
            obtain ⟨nE, nI, hnE, hnI, hK0⟩ := SS.out.book
            have K0 := hid hK0
            clear hK0
            have KA := hid (tball_any (w := wc) TB.out.at (by omega))
            go_wp2_with fail
            refine KA.out.mono ?_
            rintro e w1 ⟨va, rfl, oa, t1⟩
            have S1 := hid (SS.out.touch t1)
            have K1 := hid (K0.out.pendE t1 oa)
            have A1 := hid oa
            have B1t := hid (TB.out.t0 t1)
            have RW1 := hid (owns_touch RW.out t1)
            have KB := hid (tbrange_any h f t (w := w1) B1t.out.at FI.out.2 FI.out.1 (by omega))
            rw [isR_rngL] at KB
            clear oa t1 KA K0 TB RW
            go_wp2_with fail
            refine KB.out.mono ?_
            rintro e w2 ⟨vb, rfl, ob, t2⟩
            have S2 := hid (S1.out.touch t2)
            have K2 := hid (K1.out.pendE t2 ob)
            have A2 := hid (owns_touch A1.out t2)
            have B2 := hid ob
            have FAB := hid (far_new A1.out ob (Nat.le_refl _))
            have B2t := hid (B1t.out.t0 t2)
            have RW2 := hid (owns_touch RW1.out t2)
            have HB0 := hid SS.out.t.size
            have HB1 := hid S1.out.t.size
            have HB2 := hid S2.out.t.size
            have KC := hid (tbfind_any h f (w := w2) B2t.out.at FI.out.2 FI.out.1 (by omega))
            rw [posV_intV] at KC
            clear ob t2 KB K1 A1 B1t RW1
            go_wp2_with fail
            refine KC.out.mono ?_
            rintro e w3 ⟨vc, rfl, oc, t3⟩
            have S3 := hid (S2.out.touch t3)
            have K3 := hid (K2.out.pendI t3 oc)
            have A3 := hid (owns_touch A2.out t3)
            have B3 := hid (owns_touch B2.out t3)
            have C3 : Hid (w3.ownsRow w2.heap.size TInt 1 vc ((l2.filter (isHV h f)).map fun e => e.2.2).length (intV ((l2.filter (isHV h f)).map fun e => e.2.2))) := hid (by rw [List.length_map]; exact oc)
            have B3t := hid (B2t.out.t0 t3)
            have RW3 := hid (owns_touch RW2.out t3)
            have HB3 := hid S3.out.t.size
            have KM := hid (tbmids_any (w := w3) B3t.out.at (by omega))
            clear oc t3 KC K2 A2 B2 B2t RW2
            go_wp2_with fail
            refine KM.out.mono ?_
            rintro e w4 ⟨vm, rfl, om, t4⟩
            have S4 := hid (S3.out.touch t4)
            have K4 := hid ((K3.out.pendE t4 om).sub (pE' := [va, vb, vm]) (pI' := [vc]) (by simp) (by simp))
            have A4 := hid (owns_touch A3.out t4)
            have B4 := hid (owns_touch B3.out t4)
            have C4 := hid (owns_touch C3.out t4)
            have M4 := hid om
            have FAM := hid (far_new A3.out om (Nat.le_refl _))
            have FBM := hid (far_new B3.out om (Nat.le_refl _))
            have B4t := hid (B3t.out.t0 t4)
            have RW4 := hid (owns_touch RW3.out t4)
            have T4 := hid S4.out.t
            have PR4 := hid S4.out.row
            have PA := hid (K4.out.putE A4.out HB0.out (fun p hp => by
              simp at hp
              rcases hp with rfl | rfl
              · exact ⟨FAB.out, _, _, _, B4.out⟩
              · exact ⟨FAM.out, _, _, _, M4.out⟩) (by omega) (by omega) T4.out.size)
            clear om t4 KM K3 A3 B3 C3 B3t RW3 S1 S2 S3 SS K4
            go_wp2_with fail
            refine PA.out.mono ?_
            rintro e w5 ⟨rfl, r5, n5, s5, k5⟩
            have A5 := hid (r5.row A4.out (by decide))
            have B5 := hid (r5.row B4.out (by decide))
            have C5 := hid (r5.row C4.out (by decide))
            have M5 := hid (r5.row M4.out (by decide))
            have RW5 := hid (r5.row RW4.out (by decide))
            have PR5 := hid (r5.row PR4.out (by decide))
            have B5t := hid (B4t.out.rest r5 (by decide) (by decide))
            have T5 := hid (n5 W T4.out (Nat.le_refl _))
            have PB := hid (k5.putE B5.out HB1.out (fun p hp => by
              simp at hp
              subst hp
              exact ⟨FBM.out, _, _, _, M5.out⟩) (by omega) (by omega) T5.out.size)
            clear r5 n5 s5 k5 PA A4 B4 C4 M4 RW4 PR4 B4t T4 S4
            go_wp2_with fail
            refine PB.out.mono ?_
            rintro e w6 ⟨rfl, r6, n6, s6, k6⟩
            have A6 := hid (r6.row A5.out (by decide))
            have B6 := hid (r6.row B5.out (by decide))
            have C6 := hid (r6.row C5.out (by decide))
            have M6 := hid (r6.row M5.out (by decide))
            have RW6 := hid (r6.row RW5.out (by decide))
            have PR6 := hid (r6.row PR5.out (by decide))
            have B6t := hid (B5t.out.rest r6 (by decide) (by decide))
            have T6 := hid (n6 W T5.out (Nat.le_refl _))
            have PC := hid (k6.putI C6.out HB2.out (fun p hp => by simp at hp) (by omega) (by rw [List.length_map]; omega) T6.out.size)
            clear r6 n6 s6 k6 PB A5 B5 C5 M5 RW5 PR5 B5t T5
            go_wp2_with fail
            refine PC.out.mono ?_
            rintro e w7 ⟨rfl, r7, n7, s7, k7⟩
            have A7 := hid (r7.row A6.out (by decide))
            have B7 := hid (r7.row B6.out (by decide))
            have C7 := hid (r7.row C6.out (by decide))
            have M7 := hid (r7.row M6.out (by decide))
            have RW7 := hid (r7.row RW6.out (by decide))
            have PR7 := hid (r7.row PR6.out (by decide))
            have B7t := hid (B6t.out.rest r7 (by decide) (by decide))
            have T7 := hid (n7 W T6.out (Nat.le_refl _))
            have PM := hid (k7.putE M7.out HB3.out (fun p hp => by simp at hp) (by omega) (by omega) T7.out.size)
            clear r7 n7 s7 k7 PC A6 B6 C6 M6 RW6 PR6 B6t T6
            go_wp2_with fail
            refine PM.out.mono ?_
            rintro e w8 ⟨rfl, r8, n8, s8, k8⟩
            have A8 := hid (r8.row A7.out (by decide))
            have B8 := hid (r8.row B7.out (by decide))
            have C8 := hid (r8.row C7.out (by decide))
            have M8 := hid (r8.row M7.out (by decide))
            have RW8 := hid (r8.row RW7.out (by decide))
            have B8t := hid (B7t.out.rest r8 (by decide) (by decide))
            have T8 := hid (n8 W T7.out (Nat.le_refl _))
            have Q8 : Hid (St13 W w8 kb (.slice yp l.length cp) l (k + 1)) := hid ⟨⟨_, _, by omega, by omega, k8⟩, r8.row PR7.out (by decide), T8.out⟩
            clear r8 n8 s8 k8 PM A7 B7 C7 M7 RW7 PR7 B7t T7
            have LT := hid (tblast_any h (w := w8) B8t.out.at FI.out.2 FI.out.1 (by omega))
            have XW := hid (fun w (t : Touch [] w8 w) => (show EntX w yq l2 by
              obtain ⟨x9, c9, e9, -, -, -, -, h9⟩ := entX_ownT (owns_touch RW8.out t)
              cases e9
              exact h9))
            have LR := hid (fun w (t : Touch [] w8 w) => by
              have := refLast_any h yq cq l2 w (XW.out w t) (by omega)
              rwa [lastR_sorted FI.out.2] at this)
            unfold lastV at LT LR
            generalize (lastE l2 h).isSome = bo at *
            generalize (lastE l2 h).getD (0, 0, 0) = eo at *
            obtain ⟨z1, z2, z3⟩ := eo
            unfold enV at LT LR
            dsimp only at LT LR
            go_wp2_with fail
            refine LT.out.mono ?_
            rintro e w9 ⟨rfl, t9⟩
            obtain ⟨x7, hx7⟩ : ∃ x, x = w9.heap.size := ⟨_, rfl⟩
            obtain ⟨V7, hV7⟩ : ∃ V, V = w9.alloc (.cells #[.int .i64 z1, .int .i64 z2, .int .i64 z3] TEn) := ⟨_, rfl⟩
            have EB7 : Hid (EnB V7 x7 (z1, z2, z3)) := hid (by rw [hV7, hx7]; exact heap_alloc_new w9 _)
            have T7 : Hid (Touch [] w8 V7) := hid (by rw [hV7]; exact t9.alloc _)
            clear t9 LT
            go_wp2_with fail
            rw [← hV7, ← hx7]
            clear hV7 hx7
            refine (LR.out V7 T7.out).mono ?_
            rintro e w10 ⟨rfl, t10⟩
            obtain ⟨x8, hx8⟩ : ∃ x, x = w10.heap.size := ⟨_, rfl⟩
            obtain ⟨V8, hV8⟩ : ∃ V, V = w10.alloc (.cells #[.int .i64 z1, .int .i64 z2, .int .i64 z3] TREn) := ⟨_, rfl⟩
            have EB8 : Hid (REnB V8 x8 (z1, z2, z3)) := hid (by rw [hV8, hx8]; exact heap_alloc_new w10 _)
            have T78 : Hid (Touch [] V7 V8) := hid (by rw [hV8]; exact t10.alloc _)
            have TV8 : Hid (Touch [] w8 V8) := hid (T7.out.trans T78.out (by simp))
            clear t10 LR
            go_upto_region 28 with fail
            rw [← hV8, ← hx8]
            clear hV8 hx8
            have XV := hid (fun w (t : Touch [] V8 w) => XW.out w (TV8.out.trans t (by simp)))
            have LN := hid (fun w (t : Touch [] V8 w) => tblen_any (w := w) (B8t.out.t0 (TV8.out.trans t (by simp))).at)
            have hbo : (bo != bo) = false := by simp
            have A9 := hid (owns_touch A8.out TV8.out)
            have B9 := hid (owns_touch B8.out TV8.out)
            have C9 := hid (owns_touch C8.out TV8.out)
            have M9 := hid (owns_touch M8.out TV8.out)
            have FIN := hid (fun w (t : Touch [] V8 w) => Q8.out.touch (TV8.out.trans t (by simp)))
            have PC7 := hid (fun w (t : Touch [] V8 w) => (EB7.out.t (T78.out.trans t (by simp))).c)
            have PC8 := hid (fun w (t : Touch [] V8 w) => (EB8.out.t t).c)
            clear A8 B8 C8 M8 T7 T78 TV8 EB7 EB8 Q8 T8 XW RW8 B8t HB0 HB1 HB2 HB3 FAB FAM FBM
            go_wp2_with fail
            refine (real_any yq cq l2 V8 (XV.out V8 (Touch.refl [] V8)) (by omega)).mono ?_
            rintro e w11 ⟨ra, rfl, ho, t11⟩
            have S11 := hid (sameE_rows (owns_touch A9.out t11) ho (by omega))
            have T11 := hid t11
            clear ho t11
            go_wp2_with fail
            refine S11.out.mono ?_
            rintro e w12 ⟨rfl, t12⟩
            have T12 := hid (T11.out.trans t12 (by simp))
            clear t12 S11 T11
            go_wp2_with fail
            refine (refRange_any h f t yq cq l2 w12 (XV.out w12 T12.out) (by omega)).mono ?_
            rintro e w13 ⟨rb, rfl, ho, t13⟩
            obtain ⟨yb, cb, rfl, -, -, -, -, hxb⟩ := entX_ownT ho
            have XB := hid hxb
            have T13 := hid (T12.out.trans t13 (by simp))
            clear ho hxb t13 T12
            go_wp2_with fail
            refine (real_any yb cb (l2.filter (isR h f t)) w13 XB.out (by omega)).mono ?_
            rintro e w14 ⟨rb2, rfl, ho, t14⟩
            have T14 := hid (T13.out.trans t14 (by simp))
            have S14 := hid (sameE_rows (owns_touch B9.out T14.out) ho (by omega))
            clear ho t14 T13 XB
            go_wp2_with fail
            refine S14.out.mono ?_
            rintro e w15 ⟨rfl, t15⟩
            have T15 := hid (T14.out.trans t15 (by simp))
            clear t15 S14 T14
            go_wp2_with fail
            refine (refFind_any h f yq cq l2 w15 (XV.out w15 T15.out) (by omega)).mono ?_
            rintro e w16 ⟨rc, rfl, ho, t16⟩
            have T16 := hid (T15.out.trans t16 (by simp))
            rw [posV_intV] at ho
            have S16 := hid (sameInts_rows (owns_touch C9.out T16.out) ho (by rw [List.length_map]; omega))
            clear ho t16 T15
            go_wp2_with fail
            refine S16.out.mono ?_
            rintro e w17 ⟨rfl, t17⟩
            have T17 := hid (T16.out.trans t17 (by simp))
            clear t17 S16 T16
            go_wp2_with fail
            refine (refMids_any yq cq l2 w17 (XV.out w17 T17.out) (by omega)).mono ?_
            rintro e w18 ⟨rm, rfl, ho, t18⟩
            obtain ⟨ym, cm9, rfl, -, -, -, -, hxm⟩ := entX_ownT ho
            have XM := hid hxm
            have T18 := hid (T17.out.trans t18 (by simp))
            clear ho hxm t18 T17
            go_wp2_with fail
            refine (real_any ym cm9 (midsE l2) w18 XM.out (by omega)).mono ?_
            rintro e w19 ⟨rm2, rfl, ho, t19⟩
            have T19 := hid (T18.out.trans t19 (by simp))
            have S19 := hid (sameE_rows (owns_touch M9.out T19.out) ho (by omega))
            clear ho t19 T18 XM
            go_wp2_with fail
            refine S19.out.mono ?_
            rintro e w20 ⟨rfl, t20⟩
            have T20 := hid (T19.out.trans t20 (by simp))
            clear t20 S19 T19
            obtain ⟨p0, p1', p2⟩ := PC7.out w20 T20.out
            obtain ⟨r0, r1, r2⟩ := PC8.out w20 T20.out
            dsimp only at p0 p1' p2 r0 r1 r2
            go_wp2_with fail
            refine (LN.out w20 T20.out).mono ?_
            rintro e w21 ⟨rfl, h21⟩
            subst h21
            go_wp2
            go_roundw
            case rel => exact ⟨k + 1, by omega, by go_num, FIN.out _ T20.out⟩
            case measure => simp [RowKit.intOf]; omega
    · obtain rfl : k = 2 := by omega
      obtain ⟨nE, nI, hE, hI, hB⟩ := HS.out.book
      have P' := hid (fun w1 (t1 : Touch [] wr w1) => (hB.touch t1).apart (HS.out.touch t1).t.size)
      clear hB
      go_wp2_with fail
      refine (AL.out _).mono ?_
      rintro e w1 ⟨rfl, t1⟩
      have A1 := hid (P'.out w1 t1)
      have T1 := hid (HS.out.t.trans t1 (by simp))
      clear t1 P'
      go_wp2_with fail
      refine A1.out.mono ?_
      rintro e w2 ⟨rfl, n2⟩
      have T2 := hid (n2 W T1.out (Nat.le_refl _))
      clear n2
      go_wp2
      go_ret
      exact ⟨rfl, T2.out⟩
theorem walk_TableTells (v0 : Value) (l : List En) (b : ByteArray) (_wb : b.size ≤ maxLen) (h : Int) (_wh : (Lit.int .i64 h).wf = true) (f : Int) (_wf : (Lit.int .i64 f).wf = true) (t : Int) (_wt : (Lit.int .i64 t).wf = true) (W : World) (h0 : EntsC W v0 l) :
    Calls Tryz.prog 3 #[v0, .string b, .int .i64 h, .int .i64 f, .int .i64 t] W fun e W' => e = .returned (.bool true) ∧ Touch [] W W' := by
  obtain ⟨⟨x, c, rfl, _, hX⟩, hc0⟩ := h0
  by_cases hl : 60 < l.length
  · exact tells13_long x c l b h f t W (.inl (by omega))
  · by_cases hb : 3000 < b.size
    · exact tells13_long x c l b h f t W (.inr ⟨by omega, by omega⟩)
    · refine tells13_in x c l b h f t W hX (fun e => ⟨hc0 _ _ (by rw [e]), ?_⟩) (by omega) (by omega)
      subst e
      cases l with
      | nil => rfl
      | cons a l => obtain ⟨b', off, hb', _⟩ := hX 0 (by simp); cases hb'
end Go.Proofs.YtdjcpdlfapfmkaaGreat
