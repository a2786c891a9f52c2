/- An index of so many entries, whatever it did with them. IndexSame, walked. -/
import Derived.Test.YtnkflmimnpolcaaLam14
import Derived.Test.YtnkflmimnpolcaaMem14
import Derived.Test.YtnkflmimnpolcaaAl14
import Derived.Test.YtnkflmimnpolcaaAv14
import Derived.Test.YtnkflmimnpolcaaIl12
import Derived.Test.YtnkflmimnpolcaaRg12
namespace Go.Proofs.Ytnkflmimnpolcaa
open Go.RowKit Go.Lib Go.Shelf
set_option maxRecDepth 100000

def Ik (w : World) (xb room most : Nat) (S : List En) (k : Nat) : Prop := ∃ M C, IxS w xb room most S M C ∧ OkS S C ∧ C.length ≤ k
theorem Ik.t0 {w w' : World} {xb room most k : Nat} {S : List En} (h : Ik w xb room most S k) (t : Touch [] w w') : Ik w' xb room most S k := by
  obtain ⟨M, C, h1, h2, h3⟩ := h
  exact ⟨M, C, h1.t0 t, h2, h3⟩
theorem Ik.le {w : World} {xb room most k m : Nat} {S : List En} (h : Ik w xb room most S k) (hk : k ≤ m) : Ik w xb room most S m := by
  obtain ⟨M, C, h1, h2, h3⟩ := h
  exact ⟨M, C, h1, h2, Nat.le_trans h3 hk⟩
theorem OkS.levels {S : List En} {C C' : List Nat} (h : OkS S C) (hl : C'.length ≤ 50000) : OkS S C' := ⟨h.s, h.ok, h.len, hl⟩
theorem ik_add {w : World} {xb room most : Nat} (h : IxAt w xb room most .nil []) (x : Option Addr) (c : Nat) (l : List En) (hE : ∀ w', Touch [xb] w w' → EntX w' x l) (hwf : ∀ e ∈ l, wfE e) (hlen : l.length ≤ 1000) :
    Calls Try.prog 10 #[.pointer (some ⟨xb, 0, none⟩), .slice x l.length c] w fun e w' => ∃ n : Nat, e = .returned (.int .i64 n) ∧ Ik w' xb room most (addAll [] l) l.length ∧ Touch [xb] w w' := by
  have R := run_start (w := w) (fun _ => (0, 0, 0)) h (Touch.refl [] w)
  have st := R.st
  have ok := R.ok
  refine (add14_any (M := 0) (C := []) st ok x c l hE hwf (by simp [Sn, addAll]; omega) (by simp; omega)).mono ?_
  rintro e w' ⟨n, rfl, A⟩
  have h1 := A.st
  have h2 := A.ok
  have h3 := itC_len room most (0, []) n
  have h4 := A.le
  rw [List.take_length] at h1 h2
  exact ⟨n, rfl, ⟨_, _, h1, h2, by simp at h3; omega⟩, A.t⟩
theorem ik_flush {w : World} {xb room most k : Nat} {S : List En} (h : Ik w xb room most S k) (hk : k ≤ 1000) :
    Calls Try.prog 11 #[.pointer (some ⟨xb, 0, none⟩)] w fun e w' => ∃ b, e = .returned (.bool b) ∧ Ik w' xb room most S (k + 1) ∧ Touch [xb] w w' := by
  obtain ⟨M, C, h1, h2, h3⟩ := h
  by_cases hM : M = 0
  · subst hM
    refine (ixs_flush0 h1).mono ?_
    rintro e w' ⟨rfl, rfl⟩
    exact ⟨_, rfl, ⟨_, _, h1, h2, by omega⟩, Touch.refl _ _⟩
  · refine (ixs_flush h1 h2 hM).mono ?_
    rintro e w' ⟨rfl, h4, t⟩
    have := (car_len most 1 C).2
    exact ⟨_, rfl, ⟨_, _, h4, h2.levels (by omega), by omega⟩, t⟩
theorem ik_merge {w : World} {xb room most k : Nat} {S : List En} (h : Ik w xb room most S k) (hk : k ≤ 1000) :
    Calls Try.prog 12 #[.pointer (some ⟨xb, 0, none⟩)] w fun e w' => ∃ b, e = .returned (.bool b) ∧ Ik w' xb room most S (k + 1) ∧ Touch [xb] w w' := by
  obtain ⟨M, C, h1, h2, h3⟩ := h
  refine (ixs_merge h1 h2).mono ?_
  rintro e w' ⟨b, M', C', rfl, h4, h5, t⟩
  exact ⟨_, rfl, ⟨_, _, h4, h2.levels (by omega), by omega⟩, t⟩
theorem ik_len {w : World} {xb room most k : Nat} {S : List En} (h : Ik w xb room most S k) :
    Calls Try.prog 21 #[.pointer (some ⟨xb, 0, none⟩)] w fun e w' => e = .returned (.int .i64 (S.length : Nat)) ∧ Touch [] w w' := by
  obtain ⟨M, C, h1, h2, h3⟩ := h
  exact ixs_len h1 h2
theorem ik_last {w : World} {xb room most k : Nat} {S : List En} (h : Ik w xb room most S k) (h5 : S.length ≤ 5000) (a : Int) :
    Calls Try.prog 13 #[.pointer (some ⟨xb, 0, none⟩), .int .i64 a] w fun r w' => r = .returned (lastV (lastE S a)) ∧ Touch [] w w' := by
  obtain ⟨M, C, h1, h2, h3⟩ := h
  exact ixs_last h1 h2 h5 a
theorem ik_range {w : World} {xb room most k : Nat} {S : List En} (h : Ik w xb room most S k) (h5 : S.length ≤ 5000) (a f t : Int) (f0 : -9223372036854775808 ≤ f) (t1 : t ≤ 9223372036854775807) :
    Calls Try.prog 16 #[.pointer (some ⟨xb, 0, none⟩), .int .i64 a, .int .i64 f, .int .i64 t] w fun r w' => ∃ u, r = .returned u ∧ w'.ownsRow w.heap.size TEn 3 u (rngL S a f t).length (envals (rngL S a f t)) ∧ Touch [] w w' := by
  obtain ⟨M, C, h1, h2, h3⟩ := h
  exact ixs_range h1 h2 h5 a f t f0 t1
theorem ik_find {w : World} {xb room most k : Nat} {S : List En} (h : Ik w xb room most S k) (h5 : S.length ≤ 5000) (a v : Int) :
    Calls Try.prog 19 #[.pointer (some ⟨xb, 0, none⟩), .int .i64 a, .int .i64 v] w fun r w' => ∃ u, r = .returned u ∧ w'.ownsRow w.heap.size TInt 1 u (S.filter (isHV a v)).length (intV ((S.filter (isHV a v)).map fun e => e.2.2)) ∧ Touch [] w w' := by
  obtain ⟨M, C, h1, h2, h3⟩ := h
  exact ixs_find h1 h2 h5 a v
end Go.Proofs.Ytnkflmimnpolcaa

namespace Go.Proofs.Ytnkflmimnpolcaa
open Go.RowKit Go.Lib Go.Shelf
set_option maxRecDepth 100000

set_option maxHeartbeats 8000000 in
theorem walk_IndexSame (v0 : Value) (l : List En) (v1 : Value) (rs : List Int) (hh : Int) (_wh : (Lit.int .i64 hh).wf = true) (fr : Int) (wf : (Lit.int .i64 fr).wf = true) (tt : Int) (wt : (Lit.int .i64 tt).wf = true) (W : World) (hv : Ents W v0 l) (hr : Ints W v1 rs) :
    Calls Try.prog 3 #[v0, v1, .int .i64 hh, .int .i64 fr, .int .i64 tt] W fun e W' => e = .returned (.bool true) ∧ Touch [] W W' := by
  obtain ⟨x0, c0, rfl, hlen, hX, hwf⟩ := hv
  obtain ⟨x1, c1, rfl, hlen1, hR⟩ := hr
  have f0 := (i64_range wf).1
  have t1 := (i64_range wt).2
  clear wf wt
  have C0 := hid fun w' => alive14_any w'
  by_cases hl : 60 < l.length
  · have h1 : decide ((60 : Int) < (l.length : Int)) = true := by rw [decide_eq_true_eq]; omega
    have h2 : decide (60 < l.length) = true := by rw [decide_eq_true_eq]; omega
    clear hX hlen hl hR hlen1 hwf
    go_enter Try.func3, Try.ntmps3
    go_wp2_with (go_at_call 6; refine (C0.out _).mono ?_; clear C0; rintro e w1 ⟨rfl, t1⟩; have T1 := hid t1; clear t1)
    go_ret
    exact ⟨rfl, T1.out⟩
  have h1 : decide ((60 : Int) < (l.length : Int)) = false := by rw [decide_eq_false_iff_not]; omega
  have h2 : decide (60 < l.length) = false := by rw [decide_eq_false_iff_not]; omega
  have hl' : l.length ≤ 60 := by omega
  by_cases hl2 : 6 < rs.length
  · have h3 : decide ((6 : Int) < (rs.length : Int)) = true := by rw [decide_eq_true_eq]; omega
    have h4 : decide (6 < rs.length) = true := by rw [decide_eq_true_eq]; omega
    clear hX hlen hl hR hlen1 hwf hl2
    go_enter Try.func3, Try.ntmps3
    go_wp2_with (go_at_call 6; refine (C0.out _).mono ?_; clear C0; rintro e w1 ⟨rfl, t1⟩; have T1 := hid t1; clear t1)
    go_ret
    exact ⟨rfl, T1.out⟩
  have h3 : decide ((6 : Int) < (rs.length : Int)) = false := by rw [decide_eq_false_iff_not]; omega
  have h4 : decide (6 < rs.length) = false := by rw [decide_eq_false_iff_not]; omega
  have hl2' : rs.length ≤ 6 := by omega
  obtain ⟨tb, htb⟩ : ∃ tb, tb = W.heap.size := ⟨_, rfl⟩
  obtain ⟨w1, hw1⟩ : ∃ w1, w1 = W.alloc (.cells #[.pointer none] 47) := ⟨_, rfl⟩
  have CN := new_any W
  rw [← hw1, ← htb] at CN
  have TN : ∀ w', Touch [tb] w1 w' → Touch [] W w' := by rw [htb, hw1]; exact fun w' t => ((Touch.refl [] W).alloc _).trans t (by simp)
  have hT1 : TabIn w1 tb 0 #[.pointer none] 47 .nil := by rw [htb, hw1]; exact tabIn_new W
  have e1 : addAll Tr.nil.io l = addAll [] l := rfl
  have CA := add_any tb 0 #[.pointer none] 47 .nil x0 l l.length c0 rfl w1 hT1 (by simp [Tr.io, SortedE]) (by simp [Tr.io]; omega) (fun w' t => hX.t0 (TN w' t))
  rw [e1] at CA
  have hs : SortedE (addAll [] l) := sorted_addAll l (by simp [SortedE])
  have hk : OkL (addAll [] l) := ok_addAll l (by intro x hx; cases hx)
  have hn := (addAll_len l (l := []) (by simp [SortedE])).2
  simp only [List.length_nil, Nat.zero_add] at hn
  have CADD := hid fun xb room most (w : World) (hI : IxAt w xb room most .nil []) (ht : ∀ w', Touch [xb] w w' → Touch [] W w') => ik_add hI x0 c0 l (fun w' t => hX.t0 (ht w' t)) hwf (by omega)
  generalize addAll [] l = A at *
  have hA60 : A.length ≤ 60 := by omega
  have CNH := hid CN
  have CAH := hid CA
  have TNH := hid TN
  have HR := hid hR
  clear CN CA TN hT1 e1 hX hw1 htb hlen hl hwf hR hlen1 hl2
  go_enter Try.func3, Try.ntmps3
  go_wp2_with (first
    | (go_at_call 7; refine CNH.out.mono ?_; clear CNH; rintro e w' ⟨rfl, h⟩; have h := h.symm; subst h)
    | (go_at_call 8; refine CAH.out.mono ?_; clear CAH; rintro e w2 ⟨T', cs', -, rfl, hT', hio, t2⟩; have HT := hid hT'; have HIO := hid hio; have T2 := hid (TNH.out w2 t2); clear hT' hio t2 TNH))
  go_loopw [12] (fun iv wr => ∃ k : Nat, k ≤ rs.length ∧ iv = .int .i64 k ∧ Hid (Touch [] w2 wr)) (fun iv _ => rs.length - (RowKit.intOf iv).toNat)
  case atStart => exact ⟨0, Nat.zero_le _, rfl, hid (Touch.refl _ _)⟩
  case round =>
    obtain ⟨k, hkl, rfl, TR⟩ := hrel
    by_cases hlt : k < rs.length
    · have hlt2 : decide (k < rs.length) = true := by simpa using hlt
      have hIk : (k : Int) < rs.length := by omega
      obtain ⟨b, off, rfl, g0⟩ := HR.out k hlt
      have TW := hid (T2.out.trans TR.out (by simp))
      have g1 := TW.out.cell g0
      have gk := hid fun w' (t : Touch [] W w') => t.cell g0
      generalize rs[k] = r at *
      clear g0
      go_upto_region 10 with fail
      go_region_held3 (fun w' => w'.cell? ⟨b, off + k, none⟩ = some (.int .i64 r)) (first | go_keep | assumption) (first | (go_at_call 9; refine (new14_any _ _ _).mono ?_; rintro e wn ⟨xb, rfl, hI, tn, hx⟩; have TN := hid (show Touch [] wr wn from ((Touch.refl [] wr).drew).trans tn (by simp)); have g2 := gk.out wn (TW.out.trans TN.out (by simp)); have HI := hid hI; have HX := hid (show wr.heap.size ≤ xb from hx); clear hI hx tn))
      have AT := hid fun w' (t : Touch [xb] wn w') => (show Touch [] wr w' from TN.out.trans t (by intro x hx'; simp at hx'; subst hx'; exact .inr HX.out))
      have CAD := hid (CADD.out xb _ _ wn HI.out (fun w' t => TW.out.trans (AT.out w' t) (by simp)))
      clear HI
      go_wp2_with (first
        | (go_at_call 10; refine CAD.out.mono ?_; clear CAD; rintro e wz ⟨n, rfl, ik, tz⟩; have IK := hid ik; have TZ := hid tz; have gz := gk.out wz (TW.out.trans (AT.out wz tz) (by simp)); clear ik tz)
        | (go_at_call 11; refine (ik_flush IK.out (by omega)).mono ?_; rintro e wy ⟨b', rfl, ik, ty⟩; have IK := hid ik; have TZ := hid (TZ.out.trans ty (by simp)); have gz := gk.out wy (TW.out.trans (AT.out wy TZ.out) (by simp)); clear ik ty)
        | (go_at_call 12; refine (ik_merge IK.out (by omega)).mono ?_; rintro e wx ⟨b'', rfl, ik, tx⟩; have IK := hid ik; have TZ := hid (TZ.out.trans tx (by simp)); clear ik tx))
      all_goals
        have TY := hid (TR.out.trans (AT.out _ TZ.out) (by simp))
        have L1 := hid (ik_last IK.out (by omega) hh)
        have L2 := hid fun w' (t : Touch [] w2 w') => last_any hh w' (HT.out.t0 t).at (by rw [HIO.out]; exact hs)
        rw [HIO.out] at L2
        unfold lastV at L1 L2
        generalize (lastE A hh).getD (0, 0, 0) = s at *
        generalize (lastE A hh).isSome = sb at *
        refine L1.out.mono ?_
        clear L1
        rintro e w6 ⟨rfl, t6⟩
        have TY6 := hid (TY.out.trans t6 (by simp))
        have IK6 := hid (IK.out.t0 t6)
        clear t6 IK TY TZ
        go_upto_region 19 with fail
        obtain ⟨w7, hw7⟩ : ∃ w7, w7 = w6.alloc (.cells #[.int .i64 s.1, .int .i64 s.2.1, .int .i64 s.2.2] TEn) := ⟨_, rfl⟩
        obtain ⟨b1, hb1⟩ : ∃ b1, b1 = w6.heap.size := ⟨_, rfl⟩
        have E7 : Hid (EnB w7 b1 s) := hid (by rw [hw7, hb1]; exact heap_alloc_new w6 _)
        have t7 : Touch [] w6 w7 := by rw [hw7]; exact (Touch.refl [] w6).alloc _
        have TY7 := hid (TY6.out.trans t7 (by simp))
        have IK7 := hid (IK6.out.t0 t7)
        rw [← hw7, ← hb1]
        clear hw7 hb1 t7 TY6 IK6
        go_wp2_with fail
        refine (L2.out _ TY7.out).mono ?_
        clear L2
        rintro e w8 ⟨rfl, t8⟩
        have E8 := hid (E7.out.t t8)
        have TY8 := hid (TY7.out.trans t8 (by simp))
        have IK8 := hid (IK7.out.t0 t8)
        clear t8 E7 TY7 IK7
        go_upto_region 20 with fail
        obtain ⟨w9, hw9⟩ : ∃ w9, w9 = w8.alloc (.cells #[.int .i64 s.1, .int .i64 s.2.1, .int .i64 s.2.2] TEn) := ⟨_, rfl⟩
        obtain ⟨b2, hb2⟩ : ∃ b2, b2 = w8.heap.size := ⟨_, rfl⟩
        have E9 : Hid (EnB w9 b2 s) := hid (by rw [hw9, hb2]; exact heap_alloc_new w8 _)
        have t9 : Touch [] w8 w9 := by rw [hw9]; exact (Touch.refl [] w8).alloc _
        have E10 := hid (E8.out.t t9)
        have TY9 := hid (TY8.out.trans t9 (by simp))
        have IK9 := hid (IK8.out.t0 t9)
        rw [← hw9, ← hb2]
        clear hw9 hb2 t9 TY8 IK8 E8
        have hsb : (sb == sb) = true := by simp
        have TRG := tab_range hs hk hh fr tt
        have KT := hid fun w' (t : Touch [] w2 w') => HT.out.t0 t
        have KI := hid fun w' (t : Touch [] w9 w') => IK9.out.t0 t
        have hrl : (rngL A hh fr tt).length ≤ 1000000 := Nat.le_trans (List.length_filter_le _ _) (by omega)
        have hfl : (A.filter (isHV hh fr)).length ≤ 1000000 := Nat.le_trans (List.length_filter_le _ _) (by omega)
        have FL := find_list hs hk hh fr
        have SE := hid fun w' (u v : Value) (B1 B2 n1 n2 : Nat) (m : List En) (hm : m.length ≤ 1000000) (hu : w'.ownsRow B1 TEn 3 u n1 (envals m)) (hv : w'.ownsRow B2 TEn 3 v n2 (envals m)) => sameEns_rows hu hv hm (fun y1 y2 d1 d2 g1 g2 => sameEntries_any y1 y2 d1 d2 m m w' hm hm g1 g2)
        go_wp2_with fail
        refine (ik_range IK9.out (by omega) hh fr tt f0 t1).mono ?_
        rintro e wb ⟨ub, rfl, hub, tb1⟩
        have TB := hid tb1
        have HUB := hid hub
        clear hub tb1
        go_wp2_with fail
        refine (range_any hh fr tt (some ⟨tb, 0, none⟩) T' (by rw [HIO.out]; exact hs) (by rw [HIO.out]; omega) wb (KT.out _ (TY9.out.trans TB.out (by simp))).at).mono ?_
        rintro e wc ⟨uc, rfl, huc, tc1⟩
        rw [HIO.out, TRG] at huc
        have TC := hid (TB.out.trans tc1 (by simp))
        have HUC := hid huc
        have HUB2 := hid (owns_touch HUB.out tc1)
        clear huc tc1 HUB TB
        go_wp2_with fail
        refine (SE.out wc _ _ _ _ _ _ _ hrl HUB2.out HUC.out).mono ?_
        rintro e wd ⟨rfl, td1⟩
        have TD := hid (TC.out.trans td1 (by simp))
        clear td1 HUB2 HUC TC
        go_wp2_with fail
        refine (ik_find (KI.out _ TD.out) (by omega) hh fr).mono ?_
        rintro e we ⟨ue, rfl, hue, te1⟩
        have TE := hid (TD.out.trans te1 (by simp))
        have HUE := hid hue
        clear hue te1 TD
        go_wp2_with fail
        refine (find_any hh fr (some ⟨tb, 0, none⟩) T' (by rw [HIO.out]; exact hs) (by rw [HIO.out]; omega) we (KT.out _ (TY9.out.trans TE.out (by simp))).at).mono ?_
        rintro e wf ⟨uf, rfl, huf, tf1⟩
        rw [HIO.out, FL] at huf
        have TF := hid (TE.out.trans tf1 (by simp))
        have HUF := hid huf
        have HUE2 := hid (owns_touch HUE.out tf1)
        clear huf tf1 HUE TE
        go_wp2_with fail
        refine (sameInts_rows (l := (A.filter (isHV hh fr)).map fun e => e.2.2) HUE2.out (by have := HUF.out; rwa [posV_int] at this) (by rw [List.length_map]; exact hfl)).mono ?_
        rintro e wg ⟨rfl, tg1⟩
        have TG := hid (TF.out.trans tg1 (by simp))
        clear tg1 HUE2 HUF TF
        obtain ⟨q0, q1, q2⟩ := (E9.out.t TG.out).c
        obtain ⟨r0, r1, r2⟩ := (E10.out.t TG.out).c
        go_wp2_with fail
        refine (ik_len (KI.out _ TG.out)).mono ?_
        rintro e wh ⟨rfl, th1⟩
        have TH := hid (TG.out.trans th1 (by simp))
        clear th1 TG
        have LT := tablen_any wh (KT.out _ (TY9.out.trans TH.out (by simp))).at
        rw [T'.ct_io, HIO.out] at LT
        have LTH := hid LT
        clear LT
        go_wp2_with fail
        refine LTH.out.mono ?_
        rintro e wl ⟨rfl, hwl⟩
        have hwl := hwl.symm
        subst hwl
        go_wp2_with fail
        go_roundw
        case rel => exact ⟨k + 1, by omega, by go_num, hid (TY9.out.trans TH.out (by simp))⟩
        case measure => simp [RowKit.intOf]; omega
    · obtain rfl : k = rs.length := by omega
      have hlt2 : decide (rs.length < rs.length) = false := by simp
      go_wp2_with (go_at_call 6; refine (C0.out _).mono ?_; clear C0; rintro e wq ⟨rfl, tq⟩; have TQ := hid tq; clear tq)
      go_ret
      exact ⟨rfl, (T2.out.trans TR.out (by simp)).trans TQ.out (by simp)⟩
end Go.Proofs.Ytnkflmimnpolcaa
