/- ViewLinks, walked. -/
import Derived.Test.YtmgglmoiepjebaaLks16
namespace Go.Proofs.Ytmgglmoiepjebaa
open Go.RowKit Go.Lib Go.Shelf
set_option maxRecDepth 100000

noncomputable def wantV (look : Int → ByteArray → Option StoD) (s : StoD) : StoD :=
  if (s.typ.toList == [36, 62]) = true then
    match uOf s.data with
    | none => s
    | some p => match look p.1 p.2 with
      | some x => x
      | none => ⟨s.id, unrS, s.data, s.value, s.stream, s.version, s.position, s.time⟩
  else s
theorem want_same (look : Int → ByteArray → Option StoD) (s : StoD) : sameS (resolveV look (canS s)) (wantV look s) = true := by
  rw [sameS_iff]
  have ht : (canS s).typ = s.typ := rfl
  have hd : (canS s).data = s.data := rfl
  unfold resolveV wantV
  rw [ht, hd]
  split
  · cases uOf s.data with
    | none => simp [canS, canon_canon]
    | some p =>
      cases hk : look p.1 p.2 with
      | some x => simp [canS, canon_canon, hk]
      | none => simp [canS, canon_canon, hk]
  · simp [canS, canon_canon]
theorem resolveV_ok {look : Int → ByteArray → Option StoD} {s : StoD} (h : s.Ok) (hl : ∀ v t x, look v t = some x → x.Ok) : (resolveV look s).Ok := by
  unfold resolveV
  split
  · cases uOf s.data with
    | none => exact h
    | some p =>
      cases hk : look p.1 p.2 with
      | some x => simp only [hk]; exact canS_ok (hl _ _ x hk)
      | none => simp only [hk]; exact ⟨h.v, h.i0, h.i1, h.lo, h.hi, h.p0, h.p1, h.m0, h.m1, by show (11 : Nat) ≤ maxLen; unfold maxLen; decide, h.d, h.s⟩
  · exact h

set_option maxHeartbeats 16000000 in
theorem walk_ViewLinks (v1 : Value) (L : List StoD) (v2 : Value) (T : List StoD) (no : Bool) (W : World) (h1 : Stos W v1 L) (h2 : Stos W v2 T) :
    Calls Try.prog 3 #[v1, v2, .bool no] W fun e W' => e = .returned (.bool true) ∧ Touch [] W W' := by
  obtain ⟨x, c, rfl, hlc, hcm, hX0, hnil⟩ := h1
  obtain ⟨x2, c2, rfl, hlc2, hcm2, hX20, hnil2⟩ := h2
  have CA := hid alive16_any
  have hsf := store_flt
  have hmf : ∀ (fn : Fn) (first cap : Array Value) (w : World), (Instr.makeFunc fn first cap).run Try.prog w = .ok (.func fn first cap) w := fun _ _ _ _ => rfl
  obtain ⟨W1, hW1⟩ : ∃ W1, W1 = W.alloc (.cells #[.slice x2 T.length c2] 22) := ⟨_, rfl⟩
  have t1 : Touch [] W W1 := by rw [hW1]; exact (Touch.refl _ _).alloc _
  have b1 : W1.heap[W.heap.size]? = some (.cells #[.slice x2 T.length c2] 22 (0, 0)) := by rw [hW1]; exact heap_alloc_new W _
  have c0 := cell_of b1 0
  simp at c0
  have hX := hX0.touch t1
  have hX2 := hX20.touch t1
  have CF1 : Hid (Calls Try.prog 7 #[.int .i64 30, .slice x L.length c] W1 fun e w' => e = .returned (.bool (fewB 30 L)) ∧ W1 = w') := hid (few_any 30 (by decide) x c L W1 (by omega) hX)
  have CF2 : Hid (Calls Try.prog 7 #[.int .i64 30, .slice x2 T.length c2] W1 fun e w' => e = .returned (.bool (fewB 30 T)) ∧ W1 = w') := hid (few_any 30 (by decide) x2 c2 T W1 (by omega) hX2)
  have TW := hid t1
  clear hX0 hX20 t1
  by_cases hbad : fewB 30 L = false ∨ fewB 30 T = false
  · have hcase : (fewB 30 L = false) ∨ (fewB 30 L = true ∧ fewB 30 T = false) := by
      cases h : fewB 30 L
      · exact .inl rfl
      · rw [h] at hbad
        rcases hbad with h | h
        · cases h
        · exact .inr ⟨rfl, h⟩
    clear hbad hX hX2 hnil hnil2 hlc hcm hlc2 hcm2 b1
    generalize fewB 30 L = g1 at *
    generalize fewB 30 T = g2 at *
    rcases hcase with rfl | ⟨rfl, rfl⟩
    all_goals
      go_enter Try.func3, Try.ntmps3
      go_upto_region 1 with fail
      rw [← hW1]
      clear hW1
      go_wp2_with (first
        | (go_at_call 7; (with_reducible refine CF1.out.mono ?_); rintro e w1 ⟨rfl, rfl⟩)
        | (go_at_call 7; (with_reducible refine CF2.out.mono ?_); rintro e w1 ⟨rfl, rfl⟩)
        | (go_at_call 8; refine (CA.out _).mono ?_; clear CA; rintro e w2 ⟨rfl, t2⟩; have T9 := hid t2; clear t2))
      go_ret
      exact ⟨rfl, TW.out.trans T9.out (by simp)⟩
  have hf1 : fewB 30 L = true := by
    cases h : fewB 30 L
    · exact absurd (.inl h) hbad
    · rfl
  have hf2 : fewB 30 T = true := by
    cases h : fewB 30 T
    · exact absurd (.inr h) hbad
    · rfl
  have hG := few_good hf1 (stoX_ok hX)
  have hG2 := few_good hf2 (stoX_ok hX2)
  have hl30 := (few_parts hf1).1
  have hT30 := (few_parts hf2).1
  rw [hf1] at CF1
  rw [hf2] at CF2
  clear hf1 hf2 hbad
  have hFO : ∀ v t x, T.find? (hitB v t) = some x → Good x := fun v t x h => hG2 x (List.mem_of_find?_eq_some h)
  have hOk : ∀ v t x, T.find? (hitB v t) = some x → x.typ.size ≤ 281474976710656 ∧ x.data.size ≤ 281474976710656 ∧ x.stream.size ≤ 281474976710656 := fun v t x h => by
    have q := hFO v t x h
    have q1 := q.2.1
    have q2 := q.2.2.1
    have q3 := q.2.2.2
    exact ⟨by omega, by omega, by omega⟩
  have CL := hid (lentSto_any x c L W1 (by omega) hX hnil)
  have CFd := hid (fun (v : Int) (t : ByteArray) (W' : World) (h : Touch [] W1 W') => find_any v t W.heap.size x2 c2 T W' (by omega) (hX2.touch h) (touch_other h b1 (by simp)))
  have CK := hid (fun (g cap : Nat) (W' : World) (h : Touch [] W1 W') (hm : StoX W' (some ⟨g, 0, none⟩) L) => links_any (resV W.heap.size) (fun v t => T.find? (hitB v t)) (some ⟨g, 0, none⟩) cap L W' (by omega) hm hG (fun v t W'' h2 => ask_some W.heap.size v t (T.find? (hitB v t)) W'' (fun W3 h3 => CFd.out v t W3 (h.trans (h2.trans h3 (by simp)) (by simp)))) hOk)
  have CN := hid (fun (g cap : Nat) (W' : World) (hm : StoX W' (some ⟨g, 0, none⟩) L) => links_any .nilFunc (fun _ _ => none) (some ⟨g, 0, none⟩) cap L W' (by omega) hm hG (fun v t W'' _ => ask_nil v t W'') (fun _ _ _ h => by cases h))
  have CS := hid (fun (g cap base : Nat) (W' : World) (hcap : L.length + 1 ≤ cap) (h : Touch [] W1 W') (hm : Marked W' base g cap L) => stays_any g cap base x c L W' (by omega) hcap hm (hX.touch h) (stoX_ok hX))
  have HX := hid hX
  have HG := hid hG
  have HFO := hid hFO
  have hlI : (L.length : Int) ≤ 30 := by omega
  clear hX hX2 hG hG2 hFO hOk hnil hnil2 hlc2 hcm2 b1
  go_enter Try.func3, Try.ntmps3
  go_upto_region 1 with fail
  rw [← hW1]
  clear hW1
  cases no
  · go_upto_region 10 with (first
      | (go_at_call 7; (with_reducible refine CF1.out.mono ?_); rintro e w1 ⟨rfl, rfl⟩)
      | (go_at_call 7; (with_reducible refine CF2.out.mono ?_); rintro e w1 ⟨rfl, rfl⟩)
      | (go_at_call 10; (with_reducible refine CL.out.mono ?_); rintro e w2 ⟨g, cap, rfl, hcap, hcm3, hm2, t2⟩; have HM : Hid (Marked w2 W1.heap.size g cap L) := hid hm2; have T2 := hid t2; clear hm2 t2)
      | (go_at_call 11; (with_reducible refine (CK.out g cap _ T2.out (HM.out.list (stoX_ok HX.out))).mono ?_); rintro e w3 ⟨y, cap3, rfl, hr3, t3⟩; have R3 := hid hr3; have T3 := hid (T2.out.trans t3 (by simp)); have HM := hid (HM.out.touch t3); clear hr3 t3)
      | (go_at_call 12; (with_reducible refine (CS.out g cap _ _ hcap T3.out HM.out).mono ?_); rintro e w5 ⟨rfl, t5⟩; have T5 := hid (T3.out.trans t5 (by simp)); have X5 := hid (StoX.touch (stoX_row R3.out (by simp) (fun s hs => by obtain ⟨s', hs', rfl⟩ := List.mem_map.1 hs; obtain ⟨s2, hs2, rfl⟩ := List.mem_map.1 hs'; exact resolveV_ok (canS_ok (HG.out s2 hs2).1) (fun v t x h => (HFO.out v t x h).1))) t5); clear t5))
    obtain ⟨lk, hlk⟩ : ∃ lk : Int → ByteArray → Option StoD, lk = (fun v t => T.find? (hitB v t)) := ⟨_, rfl⟩
    rw [← hlk] at X5
    have LK1 := hid (fun (v : Int) (t : ByteArray) (x : StoD) (h : T.find? (hitB v t) = some x) => show lk v t = some x by rw [hlk]; exact h)
    have LK2 := hid (fun (v : Int) (t : ByteArray) => show True by trivial)
    have LK3 := hid (fun (v : Int) (t : ByteArray) (h : T.find? (hitB v t) = none) => show lk v t = none by rw [hlk]; exact h)
    clear hlk
    obtain ⟨RL, hRL⟩ : ∃ RL, RL = (L.map canS).map (resolveV lk) := ⟨_, rfl⟩
    rw [← hRL] at X5
    have RLn : Hid (RL.length = L.length) := hid (by rw [hRL]; simp)
    have SM : Hid (∀ k (h : k < L.length), sameS (RL[k]'(by rw [RLn.out]; exact h)) (wantV lk L[k]) = true) := hid (fun k h => by
      subst hRL
      rw [List.getElem_map, List.getElem_map]
      exact want_same lk L[k])
    clear hRL
    have RX := X5
    have T9 := T5
    generalize w5 = W9 at *
    clear R3 X5 T5
    clear CK CN HM CL
    go_wp2_with fail
    go_loopw [10] (fun iv wr => ∃ k : Nat, k ≤ L.length ∧ iv = .int .i64 k ∧ Hid (Touch [] W9 wr)) (fun iv _ => L.length - (RowKit.intOf iv).toNat)
    case atStart => exact ⟨0, Nat.zero_le _, rfl, hid (Touch.refl _ _)⟩
    case round =>
      obtain ⟨k, hk, rfl, hT⟩ := hrel
      by_cases hlt : k < L.length
      · have hl2 : decide (k < L.length) = true := by simpa using hlt
        have hkI : (k : Int) < L.length := by omega
        have hk0 : (0 : Int) ≤ k := by omega
        have T1 := hid (T9.out.trans hT.out (by simp))
        have ky : Hid (StoX W9 y RL) := RX
        obtain ⟨b, off, rfl, g1, g2⟩ := (HX.out.touch T1.out) k hlt
        obtain ⟨yb, yo, rfl, -, -⟩ := RX.out k (by rw [RLn.out]; exact hlt)
        obtain ⟨a0, a1, a2, a3, a4, a5, a6, a7⟩ := g1
        have RE := hid (fun (W' : World) (t : Touch [] wr W') => show StoAt W' yb yo k (RL[k]'(by rw [RLn.out]; exact hlt)) by
          obtain ⟨b', o', he, h1, -⟩ := (RX.out.touch (hT.out.trans t (by simp))) k (by rw [RLn.out]; exact hlt)
          cases he
          exact h1)
        have SS := hid (fun w => by
          have q := refSameS_any (RL[k]'(by rw [RLn.out]; exact hlt)) (wantV lk L[k]) w
          rw [SM.out k hlt] at q
          exact q)
        have HU := hid (refUnlink_any (s := L[k].data) (by have := (HG.out L[k] (List.getElem_mem hlt)).2.2.1; omega))
        clear g2 ky
        generalize RL[k]'(by rw [RLn.out]; exact hlt) = rk at *
        have r1 := hid (fun (h : (L[k].typ.toList == [36, 62]) = false) => show wantV lk L[k] = L[k] by unfold wantV; rw [if_neg (by rw [h]; decide)])
        have r2 := hid (fun (h : (L[k].typ.toList == [36, 62]) = true) (h2 : uOf L[k].data = none) => show wantV lk L[k] = L[k] by unfold wantV; rw [if_pos h, h2])
        have r3 := hid (fun (h : (L[k].typ.toList == [36, 62]) = true) (p : Int × ByteArray) (h2 : uOf L[k].data = some p) (x : StoD) (h3 : lk p.1 p.2 = some x) => show wantV lk L[k] = x by unfold wantV; rw [if_pos h, h2]; simp only [h3])
        have r4 := hid (fun (h : (L[k].typ.toList == [36, 62]) = true) (p : Int × ByteArray) (h2 : uOf L[k].data = some p) (h3 : lk p.1 p.2 = none) => show wantV lk L[k] = ⟨L[k].id, unrS, L[k].data, L[k].value, L[k].stream, L[k].version, L[k].position, L[k].time⟩ by unfold wantV; rw [if_pos h, h2]; simp only [h3])
        generalize wantV lk L[k] = wv at *
        generalize L[k] = s at *
        obtain ⟨sid, styp, sdata, svalue, sstream, sversion, sposition, stime⟩ := s
        obtain ⟨m0, m1, m2, m3, m4, m5, m6, m7⟩ := rk
        simp only at a0 a1 a2 a3 a4 a5 a6 a7 r1 r2 r3 r4 HU
        have K0 : SB (wr.alloc (.cells (sC ⟨sid, styp, sdata, svalue, sstream, sversion, sposition, stime⟩) TSto)) wr.heap.size ⟨sid, styp, sdata, svalue, sstream, sversion, sposition, stime⟩ := heap_alloc_new wr _
        have M0 : Touch [] wr (wr.alloc (.cells (sC ⟨sid, styp, sdata, svalue, sstream, sversion, sposition, stime⟩) TSto)) := (Touch.refl [] wr).alloc _
        simp only [sC, TSto] at K0 M0
        go_upto_region 14 with fail
        generalize (wr.alloc (.cells #[.int .i64 sid, .string styp, .string sdata, .float .f64 svalue, .string sstream, .int .i64 sversion, .int .i64 sposition, .int .i64 stime] 29)) = Wa at K0 M0 ⊢
        have KA : Hid (SB Wa wr.heap.size ⟨sid, styp, sdata, svalue, sstream, sversion, sposition, stime⟩) := hid K0
        have MA := hid M0
        have a2 := MA.out.cell a2
        clear K0 M0
        cases hu : uOf sdata with
        | none =>
          rw [hu] at HU
          simp only [uV] at HU
          have hwant : wv = ⟨sid, styp, sdata, svalue, sstream, sversion, sposition, stime⟩ := by
            by_cases h : (styp.toList == [36, 62]) = true
            · exact r2.out h hu
            · exact r1.out (by simpa using h)
          subst hwant
          go_upto_region 15 with (go_at_call 13; refine (HU.out _).mono ?_; rintro e w3 ⟨rfl, t3⟩)
          have M3 := hid (MA.out.trans t3 (by simp))
          have a1 := M3.out.cell a1
          clear r1 r2 r3 r4 a0 a2 a3 a4 a5 a6 a7
          by_cases h : (styp.toList == [36, 62]) = true
          · go_upto_region 20 with fail
            obtain ⟨e0, e1, e2, e3, e4, e5, e6, e7⟩ := RE.out w3 M3.out
            simp only at e0 e1 e2 e3 e4 e5 e6 e7
            obtain ⟨z0, z1, z2, z3, z4, z5, z6, z7⟩ := SB.at (W := w3) (b := wr.heap.size) (touch_other t3 KA.out (by simp))
            try simp only at z0 z1 z2 z3 z4 z5 z6 z7
            have TT := hid (hT.out.trans M3.out (by simp))
            go_still_tail 5, (by kernel_rfl)
            change wpList _ _ _ _ _ (World.drew w3)
            go_wp2_with fail
            refine (SS.out _).mono ?_
            rintro e w7 ⟨rfl, t7⟩
            have T7 := hid ((TT.out).drew.trans t7 (by simp))
            clear t7
            go_wp2
            go_roundw
            case rel => exact ⟨k + 1, by omega, by go_num, T7⟩
            case measure => simp [RowKit.intOf]; omega
          · have h' : (styp.toList == [36, 62]) = false := by simpa using h
            clear h
            go_upto_region 20 with fail
            obtain ⟨e0, e1, e2, e3, e4, e5, e6, e7⟩ := RE.out w3 M3.out
            simp only at e0 e1 e2 e3 e4 e5 e6 e7
            obtain ⟨z0, z1, z2, z3, z4, z5, z6, z7⟩ := SB.at (W := w3) (b := wr.heap.size) (touch_other t3 KA.out (by simp))
            try simp only at z0 z1 z2 z3 z4 z5 z6 z7
            have TT := hid (hT.out.trans M3.out (by simp))
            go_still_tail 5, (by kernel_rfl)
            change wpList _ _ _ _ _ (World.drew w3)
            go_wp2_with fail
            refine (SS.out _).mono ?_
            rintro e w7 ⟨rfl, t7⟩
            have T7 := hid ((TT.out).drew.trans t7 (by simp))
            clear t7
            go_wp2
            go_roundw
            case rel => exact ⟨k + 1, by omega, by go_num, T7⟩
            case measure => simp [RowKit.intOf]; omega
        | some p =>
          obtain ⟨pv, pt⟩ := p
          rw [hu] at HU
          simp only [uV] at HU
          go_upto_region 15 with (go_at_call 13; refine (HU.out _).mono ?_; rintro e w3 ⟨rfl, t3⟩)
          have M3 := hid (MA.out.trans t3 (by simp))
          have T3 := hid (T1.out.trans M3.out (by simp))
          have a1 := M3.out.cell a1
          by_cases h : (styp.toList == [36, 62]) = true
          · cases hfd : T.find? (hitB pv pt) with
            | none =>
              have hwant := r4.out h (pv, pt) hu (LK3.out pv pt hfd)
              subst hwant
              have HF := hid (fun W' (t : Touch [] W1 W') => by have q := CFd.out pv pt W' t; rw [hfd] at q; simp only [fdV, zeroS] at q; exact q)
              clear r1 r2 r3 r4 a0 a2 a3 a4 a5 a6 a7 hu HU
              go_upto_region 17 with ((with_reducible refine (HF.out _ T3.out).mono ?_); rintro e w4 ⟨rfl, t4⟩)
              have M5 : Touch [] wr (w4.alloc (.cells #[.int .i64 0, .string ⟨#[]⟩, .string ⟨#[]⟩, .float .f64 0, .string ⟨#[]⟩, .int .i64 0, .int .i64 0, .int .i64 0] TSto)) := (M3.out.trans t4 (by simp)).alloc _
              have K5 : SB (w4.alloc (.cells #[.int .i64 0, .string ⟨#[]⟩, .string ⟨#[]⟩, .float .f64 0, .string ⟨#[]⟩, .int .i64 0, .int .i64 0, .int .i64 0] TSto)) wr.heap.size ⟨sid, styp, sdata, svalue, sstream, sversion, sposition, stime⟩ := heap_alloc_keep (touch_other (t3.trans t4 (by simp)) KA.out (by simp)) _
              simp only [TSto] at M5 K5 ⊢
              generalize (w4.alloc (.cells #[.int .i64 0, .string ⟨#[]⟩, .string ⟨#[]⟩, .float .f64 0, .string ⟨#[]⟩, .int .i64 0, .int .i64 0, .int .i64 0] 29)) = W5 at M5 K5 ⊢
              obtain ⟨z0, z1, z2, z3, z4, z5, z6, z7⟩ := SB.at (W := W5) K5
              obtain ⟨-, y1, -⟩ := SB.free (W := W5) K5
              try simp only at z0 z1 z2 z3 z4 z5 z6 z7
              clear t3 t4 HF
              go_upto_region 20 with fail
              have M6 := M5.setCell (p := ⟨wr.heap.size, 1, none⟩) (.inr (Nat.le_refl _)) (.string ⟨#[36, 117, 110, 114, 101, 115, 111, 108, 118, 101, 100]⟩)
              have K6 : SB (W5.setCell ⟨wr.heap.size, 1, none⟩ (.string ⟨#[36, 117, 110, 114, 101, 115, 111, 108, 118, 101, 100]⟩)) wr.heap.size ⟨sid, ⟨#[36, 117, 110, 114, 101, 115, 111, 108, 118, 101, 100]⟩, sdata, svalue, sstream, sversion, sposition, stime⟩ := by
                have q := heap_set (i := 1) K5 (.string ⟨#[36, 117, 110, 114, 101, 115, 111, 108, 118, 101, 100]⟩)
                simp only [sC] at q
                unfold SB
                simpa using q
              clear z0 z1 z2 z3 z4 z5 z6 z7 y1 K5 M5
              generalize (W5.setCell ⟨wr.heap.size, 1, none⟩ (.string ⟨#[36, 117, 110, 114, 101, 115, 111, 108, 118, 101, 100]⟩)) = W6 at M6 K6 ⊢
              have TT := hid (hT.out.trans M6 (by simp))
              obtain ⟨e0, e1, e2, e3, e4, e5, e6, e7⟩ := RE.out W6 M6
              simp only at e0 e1 e2 e3 e4 e5 e6 e7
              obtain ⟨z0, z1, z2, z3, z4, z5, z6, z7⟩ := SB.at (W := W6) (b := wr.heap.size) K6
              try simp only at z0 z1 z2 z3 z4 z5 z6 z7
              go_still_tail 5, (by kernel_rfl)
              change wpList _ _ _ _ _ (World.drew W6)
              go_wp2_with fail
              refine (SS.out _).mono ?_
              rintro e w7 ⟨rfl, t7⟩
              have T7 := hid ((TT.out).drew.trans t7 (by simp))
              clear t7
              go_wp2
              go_roundw
              case rel => exact ⟨k + 1, by omega, by go_num, T7⟩
              case measure => simp [RowKit.intOf]; omega
            | some fx =>
              have hwant := r3.out h (pv, pt) hu fx (LK1.out pv pt fx hfd)
              obtain ⟨q0, q1, q2, q3, q4, q5, q6, q7⟩ := fx
              subst hwant
              have HF := hid (fun W' (t : Touch [] W1 W') => by have q := CFd.out pv pt W' t; rw [hfd] at q; simp only [fdV] at q; exact q)
              clear r1 r2 r3 r4 a0 a2 a3 a4 a5 a6 a7 hu HU
              go_upto_region 17 with ((with_reducible refine (HF.out _ T3.out).mono ?_); rintro e w4 ⟨rfl, t4⟩)
              have M5 : Touch [] wr (w4.alloc (.cells (sC ⟨q0, q1, q2, q3, q4, q5, q6, q7⟩) TSto)) := (M3.out.trans t4 (by simp)).alloc _
              have K5 : SB (w4.alloc (.cells (sC ⟨q0, q1, q2, q3, q4, q5, q6, q7⟩) TSto)) wr.heap.size ⟨sid, styp, sdata, svalue, sstream, sversion, sposition, stime⟩ := heap_alloc_keep (touch_other (t3.trans t4 (by simp)) KA.out (by simp)) _
              have N5 : SB (w4.alloc (.cells (sC ⟨q0, q1, q2, q3, q4, q5, q6, q7⟩) TSto)) w4.heap.size ⟨q0, q1, q2, q3, q4, q5, q6, q7⟩ := heap_alloc_new w4 _
              simp only [sC, TSto] at M5 K5 N5 ⊢
              generalize (w4.alloc (.cells #[.int .i64 q0, .string q1, .string q2, .float .f64 q3, .string q4, .int .i64 q5, .int .i64 q6, .int .i64 q7] 29)) = W5 at M5 K5 N5 ⊢
              obtain ⟨z0, z1, z2, z3, z4, z5, z6, z7⟩ := SB.at (W := W5) K5
              obtain ⟨y0, y1, y2, y3, y4, y5, y6, y7⟩ := SB.free (W := W5) K5
              obtain ⟨x0, x1, x2, x3, x4, x5, x6, x7⟩ := SB.at (W := W5) N5
              try simp only at z0 z1 z2 z3 z4 z5 z6 z7
              try simp only at x0 x1 x2 x3 x4 x5 x6 x7
              clear t3 t4 HF
              go_upto_region 20 with fail
              have M6 := setB_touch (b := wr.heap.size) (s := ⟨q0, q1, q2, q3, q4, q5, q6, q7⟩) M5 (.inr (Nat.le_refl _))
              have K6 := SB.set (W := W5) K5 ⟨q0, q1, q2, q3, q4, q5, q6, q7⟩
              simp only [setB] at M6 K6
              clear z0 z1 z2 z3 z4 z5 z6 z7 y0 y1 y2 y3 y4 y5 y6 y7 x0 x1 x2 x3 x4 x5 x6 x7 K5 M5 N5
              generalize ((((((((W5.setCell ⟨wr.heap.size, 0, none⟩ (.int .i64 q0)).setCell ⟨wr.heap.size, 1, none⟩ (.string q1)).setCell ⟨wr.heap.size, 2, none⟩ (.string q2)).setCell ⟨wr.heap.size, 3, none⟩ (.float .f64 q3)).setCell ⟨wr.heap.size, 4, none⟩ (.string q4)).setCell ⟨wr.heap.size, 5, none⟩ (.int .i64 q5)).setCell ⟨wr.heap.size, 6, none⟩ (.int .i64 q6)).setCell ⟨wr.heap.size, 7, none⟩ (.int .i64 q7)) = W6 at M6 K6 ⊢
              have TT := hid (hT.out.trans M6 (by simp))
              obtain ⟨e0, e1, e2, e3, e4, e5, e6, e7⟩ := RE.out W6 M6
              simp only at e0 e1 e2 e3 e4 e5 e6 e7
              obtain ⟨z0, z1, z2, z3, z4, z5, z6, z7⟩ := SB.at (W := W6) (b := wr.heap.size) K6
              try simp only at z0 z1 z2 z3 z4 z5 z6 z7
              go_still_tail 5, (by kernel_rfl)
              change wpList _ _ _ _ _ (World.drew W6)
              go_wp2_with fail
              refine (SS.out _).mono ?_
              rintro e w7 ⟨rfl, t7⟩
              have T7 := hid ((TT.out).drew.trans t7 (by simp))
              clear t7
              go_wp2
              go_roundw
              case rel => exact ⟨k + 1, by omega, by go_num, T7⟩
              case measure => simp [RowKit.intOf]; omega
          · have h' : (styp.toList == [36, 62]) = false := by simpa using h
            have hwant := r1.out h'
            subst hwant
            clear h r1 r2 r3 r4 a0 a2 a3 a4 a5 a6 a7
            go_upto_region 20 with fail
            obtain ⟨e0, e1, e2, e3, e4, e5, e6, e7⟩ := RE.out w3 M3.out
            simp only at e0 e1 e2 e3 e4 e5 e6 e7
            obtain ⟨z0, z1, z2, z3, z4, z5, z6, z7⟩ := SB.at (W := w3) (b := wr.heap.size) (touch_other t3 KA.out (by simp))
            try simp only at z0 z1 z2 z3 z4 z5 z6 z7
            have TT := hid (hT.out.trans M3.out (by simp))
            go_still_tail 5, (by kernel_rfl)
            change wpList _ _ _ _ _ (World.drew w3)
            go_wp2_with fail
            refine (SS.out _).mono ?_
            rintro e w7 ⟨rfl, t7⟩
            have T7 := hid ((TT.out).drew.trans t7 (by simp))
            clear t7
            go_wp2
            go_roundw
            case rel => exact ⟨k + 1, by omega, by go_num, T7⟩
            case measure => simp [RowKit.intOf]; omega
      · obtain rfl : k = L.length := by omega
        have hl2 : decide (L.length < L.length) = false := by simp
        go_wp2_with (go_at_call 8; refine (CA.out _).mono ?_; clear CA; rintro e w2 ⟨rfl, t2⟩; have T8 := hid t2; clear t2)
        go_ret
        exact ⟨rfl, TW.out.trans ((T9.out.trans hT.out (by simp)).trans T8.out (by simp)) (by simp)⟩
  · go_upto_region 10 with (first
      | (go_at_call 7; (with_reducible refine CF1.out.mono ?_); rintro e w1 ⟨rfl, rfl⟩)
      | (go_at_call 7; (with_reducible refine CF2.out.mono ?_); rintro e w1 ⟨rfl, rfl⟩)
      | (go_at_call 10; (with_reducible refine CL.out.mono ?_); rintro e w2 ⟨g, cap, rfl, hcap, hcm3, hm2, t2⟩; have HM : Hid (Marked w2 W1.heap.size g cap L) := hid hm2; have T2 := hid t2; clear hm2 t2)
      | (go_at_call 11; (with_reducible refine (CK.out g cap _ T2.out (HM.out.list (stoX_ok HX.out))).mono ?_); rintro e w3 ⟨y, cap3, rfl, hr3, t3⟩; have R3 := hid hr3; have T3 := hid (T2.out.trans t3 (by simp)); have HM := hid (HM.out.touch t3); clear hr3 t3)
      | (go_at_call 11; (with_reducible refine (CN.out g cap _ (HM.out.list (stoX_ok HX.out))).mono ?_); rintro e w4 ⟨y, cap3, rfl, hr3, t3⟩; have R3 := hid hr3; have T3 := hid (T3.out.trans t3 (by simp)); have HM := hid (HM.out.touch t3); clear hr3 t3)
      | (go_at_call 12; (with_reducible refine (CS.out g cap _ _ hcap T3.out HM.out).mono ?_); rintro e w5 ⟨rfl, t5⟩; have T5 := hid (T3.out.trans t5 (by simp)); have X5 := hid (StoX.touch (stoX_row R3.out (by simp) (fun s hs => by obtain ⟨s', hs', rfl⟩ := List.mem_map.1 hs; obtain ⟨s2, hs2, rfl⟩ := List.mem_map.1 hs'; exact resolveV_ok (canS_ok (HG.out s2 hs2).1) (fun _ _ _ h => by cases h))) t5); clear t5))
    obtain ⟨lk, hlk⟩ : ∃ lk : Int → ByteArray → Option StoD, lk = (fun _ _ => none) := ⟨_, rfl⟩
    rw [← hlk] at X5
    have LK1 := hid (fun (v : Int) (t : ByteArray) (x : StoD) (h : T.find? (hitB v t) = some x) => show True by trivial)
    have LK2 := hid (fun (v : Int) (t : ByteArray) => show lk v t = none by rw [hlk])
    have LK3 := hid (fun (v : Int) (t : ByteArray) (h : T.find? (hitB v t) = none) => show lk v t = none by rw [hlk])
    clear hlk
    obtain ⟨RL, hRL⟩ : ∃ RL, RL = (L.map canS).map (resolveV lk) := ⟨_, rfl⟩
    rw [← hRL] at X5
    have RLn : Hid (RL.length = L.length) := hid (by rw [hRL]; simp)
    have SM : Hid (∀ k (h : k < L.length), sameS (RL[k]'(by rw [RLn.out]; exact h)) (wantV lk L[k]) = true) := hid (fun k h => by
      subst hRL
      rw [List.getElem_map, List.getElem_map]
      exact want_same lk L[k])
    clear hRL
    have RX := X5
    have T9 := T5
    generalize w5 = W9 at *
    clear R3 X5 T5
    clear CK CN HM CL
    go_wp2_with fail
    go_loopw [10] (fun iv wr => ∃ k : Nat, k ≤ L.length ∧ iv = .int .i64 k ∧ Hid (Touch [] W9 wr)) (fun iv _ => L.length - (RowKit.intOf iv).toNat)
    case atStart => exact ⟨0, Nat.zero_le _, rfl, hid (Touch.refl _ _)⟩
    case round =>
      obtain ⟨k, hk, rfl, hT⟩ := hrel
      by_cases hlt : k < L.length
      · have hl2 : decide (k < L.length) = true := by simpa using hlt
        have hkI : (k : Int) < L.length := by omega
        have hk0 : (0 : Int) ≤ k := by omega
        have T1 := hid (T9.out.trans hT.out (by simp))
        have ky : Hid (StoX W9 y RL) := RX
        obtain ⟨b, off, rfl, g1, g2⟩ := (HX.out.touch T1.out) k hlt
        obtain ⟨yb, yo, rfl, -, -⟩ := RX.out k (by rw [RLn.out]; exact hlt)
        obtain ⟨a0, a1, a2, a3, a4, a5, a6, a7⟩ := g1
        have RE := hid (fun (W' : World) (t : Touch [] wr W') => show StoAt W' yb yo k (RL[k]'(by rw [RLn.out]; exact hlt)) by
          obtain ⟨b', o', he, h1, -⟩ := (RX.out.touch (hT.out.trans t (by simp))) k (by rw [RLn.out]; exact hlt)
          cases he
          exact h1)
        have SS := hid (fun w => by
          have q := refSameS_any (RL[k]'(by rw [RLn.out]; exact hlt)) (wantV lk L[k]) w
          rw [SM.out k hlt] at q
          exact q)
        have HU := hid (refUnlink_any (s := L[k].data) (by have := (HG.out L[k] (List.getElem_mem hlt)).2.2.1; omega))
        clear g2 ky
        generalize RL[k]'(by rw [RLn.out]; exact hlt) = rk at *
        have r1 := hid (fun (h : (L[k].typ.toList == [36, 62]) = false) => show wantV lk L[k] = L[k] by unfold wantV; rw [if_neg (by rw [h]; decide)])
        have r2 := hid (fun (h : (L[k].typ.toList == [36, 62]) = true) (h2 : uOf L[k].data = none) => show wantV lk L[k] = L[k] by unfold wantV; rw [if_pos h, h2])
        have r3 := hid (fun (h : (L[k].typ.toList == [36, 62]) = true) (p : Int × ByteArray) (h2 : uOf L[k].data = some p) (x : StoD) (h3 : lk p.1 p.2 = some x) => show wantV lk L[k] = x by unfold wantV; rw [if_pos h, h2]; simp only [h3])
        have r4 := hid (fun (h : (L[k].typ.toList == [36, 62]) = true) (p : Int × ByteArray) (h2 : uOf L[k].data = some p) (h3 : lk p.1 p.2 = none) => show wantV lk L[k] = ⟨L[k].id, unrS, L[k].data, L[k].value, L[k].stream, L[k].version, L[k].position, L[k].time⟩ by unfold wantV; rw [if_pos h, h2]; simp only [h3])
        generalize wantV lk L[k] = wv at *
        generalize L[k] = s at *
        obtain ⟨sid, styp, sdata, svalue, sstream, sversion, sposition, stime⟩ := s
        obtain ⟨m0, m1, m2, m3, m4, m5, m6, m7⟩ := rk
        simp only at a0 a1 a2 a3 a4 a5 a6 a7 r1 r2 r3 r4 HU
        have K0 : SB (wr.alloc (.cells (sC ⟨sid, styp, sdata, svalue, sstream, sversion, sposition, stime⟩) TSto)) wr.heap.size ⟨sid, styp, sdata, svalue, sstream, sversion, sposition, stime⟩ := heap_alloc_new wr _
        have M0 : Touch [] wr (wr.alloc (.cells (sC ⟨sid, styp, sdata, svalue, sstream, sversion, sposition, stime⟩) TSto)) := (Touch.refl [] wr).alloc _
        simp only [sC, TSto] at K0 M0
        go_upto_region 14 with fail
        generalize (wr.alloc (.cells #[.int .i64 sid, .string styp, .string sdata, .float .f64 svalue, .string sstream, .int .i64 sversion, .int .i64 sposition, .int .i64 stime] 29)) = Wa at K0 M0 ⊢
        have KA : Hid (SB Wa wr.heap.size ⟨sid, styp, sdata, svalue, sstream, sversion, sposition, stime⟩) := hid K0
        have MA := hid M0
        have a2 := MA.out.cell a2
        clear K0 M0
        cases hu : uOf sdata with
        | none =>
          rw [hu] at HU
          simp only [uV] at HU
          have hwant : wv = ⟨sid, styp, sdata, svalue, sstream, sversion, sposition, stime⟩ := by
            by_cases h : (styp.toList == [36, 62]) = true
            · exact r2.out h hu
            · exact r1.out (by simpa using h)
          subst hwant
          go_upto_region 15 with (go_at_call 13; refine (HU.out _).mono ?_; rintro e w3 ⟨rfl, t3⟩)
          have M3 := hid (MA.out.trans t3 (by simp))
          have a1 := M3.out.cell a1
          clear r1 r2 r3 r4 a0 a2 a3 a4 a5 a6 a7
          by_cases h : (styp.toList == [36, 62]) = true
          · go_upto_region 20 with fail
            obtain ⟨e0, e1, e2, e3, e4, e5, e6, e7⟩ := RE.out w3 M3.out
            simp only at e0 e1 e2 e3 e4 e5 e6 e7
            obtain ⟨z0, z1, z2, z3, z4, z5, z6, z7⟩ := SB.at (W := w3) (b := wr.heap.size) (touch_other t3 KA.out (by simp))
            try simp only at z0 z1 z2 z3 z4 z5 z6 z7
            have TT := hid (hT.out.trans M3.out (by simp))
            go_still_tail 5, (by kernel_rfl)
            change wpList _ _ _ _ _ (World.drew w3)
            go_wp2_with fail
            refine (SS.out _).mono ?_
            rintro e w7 ⟨rfl, t7⟩
            have T7 := hid ((TT.out).drew.trans t7 (by simp))
            clear t7
            go_wp2
            go_roundw
            case rel => exact ⟨k + 1, by omega, by go_num, T7⟩
            case measure => simp [RowKit.intOf]; omega
          · have h' : (styp.toList == [36, 62]) = false := by simpa using h
            clear h
            go_upto_region 20 with fail
            obtain ⟨e0, e1, e2, e3, e4, e5, e6, e7⟩ := RE.out w3 M3.out
            simp only at e0 e1 e2 e3 e4 e5 e6 e7
            obtain ⟨z0, z1, z2, z3, z4, z5, z6, z7⟩ := SB.at (W := w3) (b := wr.heap.size) (touch_other t3 KA.out (by simp))
            try simp only at z0 z1 z2 z3 z4 z5 z6 z7
            have TT := hid (hT.out.trans M3.out (by simp))
            go_still_tail 5, (by kernel_rfl)
            change wpList _ _ _ _ _ (World.drew w3)
            go_wp2_with fail
            refine (SS.out _).mono ?_
            rintro e w7 ⟨rfl, t7⟩
            have T7 := hid ((TT.out).drew.trans t7 (by simp))
            clear t7
            go_wp2
            go_roundw
            case rel => exact ⟨k + 1, by omega, by go_num, T7⟩
            case measure => simp [RowKit.intOf]; omega
        | some p =>
          obtain ⟨pv, pt⟩ := p
          rw [hu] at HU
          simp only [uV] at HU
          go_upto_region 15 with (go_at_call 13; refine (HU.out _).mono ?_; rintro e w3 ⟨rfl, t3⟩)
          have M3 := hid (MA.out.trans t3 (by simp))
          have T3 := hid (T1.out.trans M3.out (by simp))
          have a1 := M3.out.cell a1
          by_cases h : (styp.toList == [36, 62]) = true
          · cases hfd : T.find? (hitB pv pt) with
            | none =>
              have hwant := r4.out h (pv, pt) hu (LK3.out pv pt hfd)
              subst hwant
              have HF := hid (fun W' (t : Touch [] W1 W') => by have q := CFd.out pv pt W' t; rw [hfd] at q; simp only [fdV, zeroS] at q; exact q)
              clear r1 r2 r3 r4 a0 a2 a3 a4 a5 a6 a7 hu HU
              go_upto_region 17 with ((with_reducible refine (HF.out _ T3.out).mono ?_); rintro e w4 ⟨rfl, t4⟩)
              have M5 : Touch [] wr (w4.alloc (.cells #[.int .i64 0, .string ⟨#[]⟩, .string ⟨#[]⟩, .float .f64 0, .string ⟨#[]⟩, .int .i64 0, .int .i64 0, .int .i64 0] TSto)) := (M3.out.trans t4 (by simp)).alloc _
              have K5 : SB (w4.alloc (.cells #[.int .i64 0, .string ⟨#[]⟩, .string ⟨#[]⟩, .float .f64 0, .string ⟨#[]⟩, .int .i64 0, .int .i64 0, .int .i64 0] TSto)) wr.heap.size ⟨sid, styp, sdata, svalue, sstream, sversion, sposition, stime⟩ := heap_alloc_keep (touch_other (t3.trans t4 (by simp)) KA.out (by simp)) _
              simp only [TSto] at M5 K5 ⊢
              generalize (w4.alloc (.cells #[.int .i64 0, .string ⟨#[]⟩, .string ⟨#[]⟩, .float .f64 0, .string ⟨#[]⟩, .int .i64 0, .int .i64 0, .int .i64 0] 29)) = W5 at M5 K5 ⊢
              obtain ⟨z0, z1, z2, z3, z4, z5, z6, z7⟩ := SB.at (W := W5) K5
              obtain ⟨-, y1, -⟩ := SB.free (W := W5) K5
              try simp only at z0 z1 z2 z3 z4 z5 z6 z7
              clear t3 t4 HF
              go_upto_region 20 with fail
              have M6 := M5.setCell (p := ⟨wr.heap.size, 1, none⟩) (.inr (Nat.le_refl _)) (.string ⟨#[36, 117, 110, 114, 101, 115, 111, 108, 118, 101, 100]⟩)
              have K6 : SB (W5.setCell ⟨wr.heap.size, 1, none⟩ (.string ⟨#[36, 117, 110, 114, 101, 115, 111, 108, 118, 101, 100]⟩)) wr.heap.size ⟨sid, ⟨#[36, 117, 110, 114, 101, 115, 111, 108, 118, 101, 100]⟩, sdata, svalue, sstream, sversion, sposition, stime⟩ := by
                have q := heap_set (i := 1) K5 (.string ⟨#[36, 117, 110, 114, 101, 115, 111, 108, 118, 101, 100]⟩)
                simp only [sC] at q
                unfold SB
                simpa using q
              clear z0 z1 z2 z3 z4 z5 z6 z7 y1 K5 M5
              generalize (W5.setCell ⟨wr.heap.size, 1, none⟩ (.string ⟨#[36, 117, 110, 114, 101, 115, 111, 108, 118, 101, 100]⟩)) = W6 at M6 K6 ⊢
              have TT := hid (hT.out.trans M6 (by simp))
              obtain ⟨e0, e1, e2, e3, e4, e5, e6, e7⟩ := RE.out W6 M6
              simp only at e0 e1 e2 e3 e4 e5 e6 e7
              obtain ⟨z0, z1, z2, z3, z4, z5, z6, z7⟩ := SB.at (W := W6) (b := wr.heap.size) K6
              try simp only at z0 z1 z2 z3 z4 z5 z6 z7
              go_still_tail 5, (by kernel_rfl)
              change wpList _ _ _ _ _ (World.drew W6)
              go_wp2_with fail
              refine (SS.out _).mono ?_
              rintro e w7 ⟨rfl, t7⟩
              have T7 := hid ((TT.out).drew.trans t7 (by simp))
              clear t7
              go_wp2
              go_roundw
              case rel => exact ⟨k + 1, by omega, by go_num, T7⟩
              case measure => simp [RowKit.intOf]; omega
            | some fx =>
              have hwant := r4.out h (pv, pt) hu (LK2.out pv pt)
              subst hwant
              have HF := hid (fun W' (t : Touch [] W1 W') => by have q := CFd.out pv pt W' t; rw [hfd] at q; simp only [fdV] at q; exact q)
              clear r1 r2 r3 r4 a0 a2 a3 a4 a5 a6 a7 hu HU
              obtain ⟨q0, q1, q2, q3, q4, q5, q6, q7⟩ := fx
              go_upto_region 17 with ((with_reducible refine (HF.out _ T3.out).mono ?_); rintro e w4 ⟨rfl, t4⟩)
              have M5 : Touch [] wr (w4.alloc (.cells #[.int .i64 q0, .string q1, .string q2, .float .f64 q3, .string q4, .int .i64 q5, .int .i64 q6, .int .i64 q7] TSto)) := (M3.out.trans t4 (by simp)).alloc _
              have K5 : SB (w4.alloc (.cells #[.int .i64 q0, .string q1, .string q2, .float .f64 q3, .string q4, .int .i64 q5, .int .i64 q6, .int .i64 q7] TSto)) wr.heap.size ⟨sid, styp, sdata, svalue, sstream, sversion, sposition, stime⟩ := heap_alloc_keep (touch_other (t3.trans t4 (by simp)) KA.out (by simp)) _
              simp only [TSto] at M5 K5 ⊢
              generalize (w4.alloc (.cells #[.int .i64 q0, .string q1, .string q2, .float .f64 q3, .string q4, .int .i64 q5, .int .i64 q6, .int .i64 q7] 29)) = W5 at M5 K5 ⊢
              obtain ⟨z0, z1, z2, z3, z4, z5, z6, z7⟩ := SB.at (W := W5) K5
              obtain ⟨-, y1, -⟩ := SB.free (W := W5) K5
              try simp only at z0 z1 z2 z3 z4 z5 z6 z7
              clear t3 t4 HF
              go_upto_region 20 with fail
              have M6 := M5.setCell (p := ⟨wr.heap.size, 1, none⟩) (.inr (Nat.le_refl _)) (.string ⟨#[36, 117, 110, 114, 101, 115, 111, 108, 118, 101, 100]⟩)
              have K6 : SB (W5.setCell ⟨wr.heap.size, 1, none⟩ (.string ⟨#[36, 117, 110, 114, 101, 115, 111, 108, 118, 101, 100]⟩)) wr.heap.size ⟨sid, ⟨#[36, 117, 110, 114, 101, 115, 111, 108, 118, 101, 100]⟩, sdata, svalue, sstream, sversion, sposition, stime⟩ := by
                have q := heap_set (i := 1) K5 (.string ⟨#[36, 117, 110, 114, 101, 115, 111, 108, 118, 101, 100]⟩)
                simp only [sC] at q
                unfold SB
                simpa using q
              clear z0 z1 z2 z3 z4 z5 z6 z7 y1 K5 M5
              generalize (W5.setCell ⟨wr.heap.size, 1, none⟩ (.string ⟨#[36, 117, 110, 114, 101, 115, 111, 108, 118, 101, 100]⟩)) = W6 at M6 K6 ⊢
              have TT := hid (hT.out.trans M6 (by simp))
              obtain ⟨e0, e1, e2, e3, e4, e5, e6, e7⟩ := RE.out W6 M6
              simp only at e0 e1 e2 e3 e4 e5 e6 e7
              obtain ⟨z0, z1, z2, z3, z4, z5, z6, z7⟩ := SB.at (W := W6) (b := wr.heap.size) K6
              try simp only at z0 z1 z2 z3 z4 z5 z6 z7
              go_still_tail 5, (by kernel_rfl)
              change wpList _ _ _ _ _ (World.drew W6)
              go_wp2_with fail
              refine (SS.out _).mono ?_
              rintro e w7 ⟨rfl, t7⟩
              have T7 := hid ((TT.out).drew.trans t7 (by simp))
              clear t7
              go_wp2
              go_roundw
              case rel => exact ⟨k + 1, by omega, by go_num, T7⟩
              case measure => simp [RowKit.intOf]; omega
          · have h' : (styp.toList == [36, 62]) = false := by simpa using h
            have hwant := r1.out h'
            subst hwant
            clear h r1 r2 r3 r4 a0 a2 a3 a4 a5 a6 a7
            go_upto_region 20 with fail
            obtain ⟨e0, e1, e2, e3, e4, e5, e6, e7⟩ := RE.out w3 M3.out
            simp only at e0 e1 e2 e3 e4 e5 e6 e7
            obtain ⟨z0, z1, z2, z3, z4, z5, z6, z7⟩ := SB.at (W := w3) (b := wr.heap.size) (touch_other t3 KA.out (by simp))
            try simp only at z0 z1 z2 z3 z4 z5 z6 z7
            have TT := hid (hT.out.trans M3.out (by simp))
            go_still_tail 5, (by kernel_rfl)
            change wpList _ _ _ _ _ (World.drew w3)
            go_wp2_with fail
            refine (SS.out _).mono ?_
            rintro e w7 ⟨rfl, t7⟩
            have T7 := hid ((TT.out).drew.trans t7 (by simp))
            clear t7
            go_wp2
            go_roundw
            case rel => exact ⟨k + 1, by omega, by go_num, T7⟩
            case measure => simp [RowKit.intOf]; omega
      · obtain rfl : k = L.length := by omega
        have hl2 : decide (L.length < L.length) = false := by simp
        go_wp2_with (go_at_call 8; refine (CA.out _).mono ?_; clear CA; rintro e w2 ⟨rfl, t2⟩; have T8 := hid t2; clear t2)
        go_ret
        exact ⟨rfl, TW.out.trans ((T9.out.trans hT.out (by simp)).trans T8.out (by simp)) (by simp)⟩

end Go.Proofs.Ytmgglmoiepjebaa
