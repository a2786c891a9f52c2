/- IndexCuts, walked. -/
import Derived.Test.YtnkflmimnpolcaaCt14
namespace Go.Proofs.Ytnkflmimnpolcaa
open Go.RowKit Go.Lib Go.Shelf
set_option maxRecDepth 100000

theorem kpE_rest {ts : List TypeId} {W W' : World} (h : Rest ts W W') (hs : W.heap.size ≤ W'.heap.size) (h1 : 67 ∉ ts) (h2 : TEn ∉ ts) : KpE W W' :=
  ⟨hs, fun k o hk ⟨cs, ho⟩ => by
    rcases ho with ⟨rfl, _⟩ | rfl
    · exact h k cs _ _ hk h2
    · exact h k cs _ _ hk h1⟩
abbrev TTab : TypeId := 47
theorem TabIn.rest {ts : List TypeId} {W W' : World} {tb o : Nat} {cs : Array Value} {ty : TypeId} {T : Tr} (h : TabIn W tb o cs ty T) (r : Rest ts W W') (hs : W.heap.size ≤ W'.heap.size) (h0 : ty ∉ ts) (h1 : 67 ∉ ts) (h2 : TEn ∉ ts) : TabIn W' tb o cs ty T := by
  obtain ⟨g1, g2, p, g3, g4⟩ := h
  exact ⟨r _ _ _ _ g1 h0, g2, p, g3, g4.kp (kpE_rest r hs h1 h2)⟩
theorem IxAt.rest {ts : List TypeId} {W W' : World} {xb room most : Nat} {T : Tr} {L : List LvV} (h : IxAt W xb room most T L) (r : Rest ts W W') (hs : W.heap.size ≤ W'.heap.size) (h0 : TIx ∉ ts) (h1 : 67 ∉ ts) (h2 : TEn ∉ ts) (h3 : TTb ∉ ts) (h4 : TTbs ∉ ts) : IxAt W' xb room most T L := by
  obtain ⟨⟨p, x, c, g1, g2, g3⟩, g4, g5⟩ := h
  exact ⟨⟨p, x, c, r _ _ _ _ g1 h0, g2.kp (kpE_rest r hs h1 h2), ⟨r.row g3.own h4, fun v hv => (g3.lv v hv).rest r h2 h3⟩⟩, g4, g5⟩
theorem Ik.rest {ts : List TypeId} {W W' : World} {xb room most k : Nat} {S : List En} (h : Ik W xb room most S k) (r : Rest ts W W') (hs : W.heap.size ≤ W'.heap.size) (h0 : TIx ∉ ts) (h1 : 67 ∉ ts) (h2 : TEn ∉ ts) (h3 : TTb ∉ ts) (h4 : TTbs ∉ ts) : Ik W' xb room most S k := by
  obtain ⟨M, C, hx, g⟩ := h
  obtain ⟨T, L, g1, g2⟩ := hx.ex
  exact ⟨M, C, ⟨T, L, g1.rest r hs h0 h1 h2 h3 h4, g2⟩, g⟩
theorem Ik.block {w : World} {xb room most k : Nat} {S : List En} (h : Ik w xb room most S k) : ∃ cs, w.heap[xb]? = some (.cells cs TIx) := by
  obtain ⟨M, C, hx, -⟩ := h
  obtain ⟨T, L, ⟨⟨p, x, c, g1, -⟩, -⟩, -⟩ := hx.ex
  exact ⟨_, g1⟩
theorem cutL_cutL (l : List En) (q : Int) : cutL (cutL l q) q = cutL l q := by simp [cutL, List.filter_filter]

set_option maxHeartbeats 8000000 in
theorem walk_IndexCuts (v0 : Value) (l : List En) (rm : Int) (_wr : (Lit.int .i64 rm).wf = true) (q : Int) (_wq : (Lit.int .i64 q).wf = true) (hh : Int) (_wh : (Lit.int .i64 hh).wf = true) (W : World) (hv : Ents W v0 l) :
    Calls Try.prog 4 #[v0, .int .i64 rm, .int .i64 q, .int .i64 hh] W fun e W' => e = .returned (.bool true) ∧ Touch [] W W' := by
  obtain ⟨x0, c0, rfl, hlen, hX, hwf⟩ := hv
  have C0 := hid fun w' => alive14_any w'
  by_cases hl : 50 < l.length
  · have h1 : decide ((50 : Int) < (l.length : Int)) = true := by rw [decide_eq_true_eq]; omega
    have h2 : decide (50 < l.length) = true := by rw [decide_eq_true_eq]; omega
    clear hX hlen hl hwf
    go_enter Try.func4, Try.ntmps4
    go_wp2_with (go_at_call 6; refine (C0.out _).mono ?_; clear C0; rintro e w1 ⟨rfl, t1⟩; have T1 := hid t1; clear t1)
    go_ret
    exact ⟨rfl, T1.out⟩
  have h1 : decide ((50 : Int) < (l.length : Int)) = false := by rw [decide_eq_false_iff_not]; omega
  have h2 : decide (50 < l.length) = false := by rw [decide_eq_false_iff_not]; omega
  have hl' : l.length ≤ 50 := by omega
  have hs : SortedE (addAll [] l) := sorted_addAll l (by simp [SortedE])
  have hk : OkL (addAll [] l) := ok_addAll l (by intro x hx; cases hx)
  have hn := (addAll_len l (l := []) (by simp [SortedE])).2
  simp only [List.length_nil, Nat.zero_add] at hn
  have CI := hid (new14_any rm 3 W)
  have HX := hid hX
  have HWF := hid hwf
  clear hX hwf
  go_enter Try.func4, Try.ntmps4
  go_wp2_with fail
  refine CI.out.mono ?_
  rintro e w1 ⟨xb, rfl, hI, t1, hx1⟩
  have T1 := hid t1
  have HI := hid hI
  have HX1 := hid (show W.heap.size ≤ xb from hx1)
  clear hI t1 hx1 CI
  go_wp2_with fail
  refine (new_any w1).mono ?_
  rintro e w2 ⟨rfl, hw2⟩
  have hT2 : TabIn w2 w1.heap.size 0 #[.pointer none] TTab .nil := by rw [hw2]; exact tabIn_new w1
  have t2 : Touch [] w1 w2 := by rw [hw2]; exact (Touch.refl [] w1).alloc _
  have HT2 := hid hT2
  have T2 := hid (T1.out.trans t2 (by simp))
  have HI2 := hid (HI.out.t0 t2)
  have hx2 : xb < w1.heap.size := by obtain ⟨p, x, c, g1, -⟩ := HI.out.blk; exact lt_of_block g1
  have HTB := hid (show W.heap.size ≤ w1.heap.size from T1.out.size)
  generalize w1.heap.size = tb at *
  clear hT2 t2 hw2 HI
  go_wp2_with fail
  refine (ik_add HI2.out x0 c0 l (fun w' t => HX.out.t0 (T2.out.trans t (by intro y hy; obtain rfl := List.mem_singleton.1 hy; exact .inr HX1.out))) HWF.out (by omega)).mono ?_
  rintro e w3 ⟨n3, rfl, ik3, t3⟩
  obtain ⟨cs2, hb2⟩ : ∃ cs, w2.heap[xb]? = some (.cells cs TIx) := by obtain ⟨p, x, c, g1, -⟩ := HI2.out.blk; exact ⟨_, g1⟩
  have HT3 := hid (HT2.out.rest (rest_touch_ix hb2 t3) t3.size (by decide) (by decide) (by decide))
  have IK3 := hid ik3
  have T3 := hid (T2.out.trans t3 (by intro y hy; obtain rfl := List.mem_singleton.1 hy; exact .inr HX1.out))
  clear ik3 t3 hb2 HT2 HI2 T2
  go_wp2_with fail
  have e1 : addAll Tr.nil.io l = addAll [] l := rfl
  have CA := add_any tb 0 #[.pointer none] TTab .nil x0 l l.length c0 rfl w3 HT3.out (by simp [Tr.io, SortedE]) (by simp [Tr.io]; omega) (fun w' t => HX.out.t0 (T3.out.trans t (by intro y hy; obtain rfl := List.mem_singleton.1 hy; exact .inr HTB.out)))
  rw [e1] at CA
  refine CA.mono ?_
  clear CA
  rintro e w4 ⟨T', cs', -, rfl, hT', hio, t4⟩
  have IK4 := hid (IK3.out.rest (rest_touch_ix HT3.out.hb t4) t4.size (by decide) (by decide) (by decide) (by decide) (by decide))
  have HT4 := hid hT'
  have HIO := hid hio
  have T4 := hid (T3.out.trans t4 (by intro y hy; obtain rfl := List.mem_singleton.1 hy; exact .inr HTB.out))
  clear hT' hio t4 HT3 IK3 T3 e1
  generalize addAll [] l = A at *
  have hA60 : A.length ≤ 50 := by omega
  go_wp2_with fail
  refine (ik_cut IK4.out (by omega) q).mono ?_
  rintro e w5 ⟨rfl, ik5, t5⟩
  obtain ⟨cs4, hb4⟩ := IK4.out.block
  have HT5 := hid (HT4.out.rest (rest_touch_ix hb4 t5) t5.size (by decide) (by decide) (by decide))
  have IK5 := hid ik5
  have T5 := hid (T4.out.trans t5 (by intro y hy; obtain rfl := List.mem_singleton.1 hy; exact .inr HX1.out))
  clear ik5 t5 hb4 HT4 IK4 T4
  go_wp2_with fail
  have CT := cut_any q tb 0 cs' TTab T' (by rw [HIO.out]; exact hs) (by rw [HIO.out]; exact from_zero hk) (by rw [HIO.out]; omega) w5 HT5.out
  rw [HIO.out] at CT
  refine CT.mono ?_
  clear CT
  rintro e w6 ⟨T6', cs6, -, rfl, hT6, hio6, t6⟩
  have IK6 := hid (IK5.out.rest (rest_touch_ix HT5.out.hb t6) t6.size (by decide) (by decide) (by decide) (by decide) (by decide))
  have HT6 := hid hT6
  have HIO6 := hid hio6
  have T6 := hid (T5.out.trans t6 (by intro y hy; obtain rfl := List.mem_singleton.1 hy; exact .inr HTB.out))
  clear hT6 hio6 t6 HT5 IK5 T5 HIO
  have hs6 : SortedE (cutL A q) := cutL_sorted hs q
  have hk6 : OkL (cutL A q) := fun e he => hk e (cutL_sub _ _ e he)
  have hl6 : (cutL A q).length ≤ 50 := by have := cutL_len A q; omega
  have CX := hid fun w' (t : Touch [] w6 w') => ik_cut (IK6.out.t0 t) (by omega) q
  rw [cutL_cutL, Nat.sub_self] at CX
  have hN : ((((A.length - (cutL A q).length : Nat) : Int)) == ((A.length - (cutL A q).length : Nat) : Int)) = true := by simp
  generalize ((A.length - (cutL A q).length : Nat) : Int) = N at *
  generalize cutL A q = B at *
  clear hs hk hn hA60
  have hB : (((B.length : Nat) : Int) == ((B.length : Nat) : Int)) = true := by simp
  go_wp2_with fail
  refine (C0.out _).mono ?_
  rintro e w7 ⟨rfl, t7⟩
  have T7 := hid t7
  clear t7 C0
  go_wp2_with fail
  refine (ik_len (IK6.out.t0 T7.out)).mono ?_
  rintro e w8 ⟨rfl, t8⟩
  have T8 := hid (T7.out.trans t8 (by simp))
  clear t8 T7
  go_wp2_with fail
  have LT := tablen_any w8 (HT6.out.t0 T8.out).at
  rw [T6'.ct_io, HIO6.out] at LT
  refine LT.mono ?_
  clear LT
  rintro e w9 ⟨rfl, hw9⟩
  have hw9 := hw9.symm
  subst hw9
  have TRG := tab_range hs6 hk6 hh 0 4611686018427387904
  have hrl : (rngL B hh 0 4611686018427387904).length ≤ 1000000 := Nat.le_trans (List.length_filter_le _ _) (by omega)
  have SE := hid fun w' (u v : Value) (B1 B2 n1 n2 : Nat) (m : List En) (hm : m.length ≤ 1000000) (hu : w'.ownsRow B1 TEn 3 u n1 (envals m)) (hv : w'.ownsRow B2 TEn 3 v n2 (envals m)) => sameEns_rows hu hv hm (fun y1 y2 d1 d2 g1 g2 => sameEntries_any y1 y2 d1 d2 m m w' hm hm g1 g2)
  go_wp2_with fail
  refine (ik_range (IK6.out.t0 T8.out) (by omega) hh 0 4611686018427387904 (by omega) (by omega)).mono ?_
  rintro e wb ⟨ub, rfl, hub, tb1⟩
  have TB := hid (T8.out.trans tb1 (by simp))
  have HUB := hid hub
  clear hub tb1 T8
  go_wp2_with fail
  refine (range_any hh 0 4611686018427387904 (some ⟨tb, 0, none⟩) T6' (by rw [HIO6.out]; exact hs6) (by rw [HIO6.out]; omega) wb (HT6.out.t0 TB.out).at).mono ?_
  rintro e wc ⟨uc, rfl, huc, tc1⟩
  rw [HIO6.out, TRG] at huc
  have TC := hid (TB.out.trans tc1 (by simp))
  have HUC := hid huc
  have HUB2 := hid (owns_touch HUB.out tc1)
  clear huc tc1 HUB TB
  go_wp2_with fail
  refine (SE.out wc _ _ _ _ _ _ _ hrl HUB2.out HUC.out).mono ?_
  rintro e wd ⟨rfl, td1⟩
  have TD := hid (TC.out.trans td1 (by simp))
  clear td1 HUB2 HUC TC
  go_wp2_with fail
  refine (CX.out wd TD.out).mono ?_
  rintro e we ⟨rfl, -, te⟩
  have TE := hid ((T6.out.trans TD.out (by simp)).trans te (by intro y hy; obtain rfl := List.mem_singleton.1 hy; exact .inr HX1.out))
  clear te TD
  go_wp2
  go_ret
  exact ⟨rfl, TE.out⟩
end Go.Proofs.Ytnkflmimnpolcaa
