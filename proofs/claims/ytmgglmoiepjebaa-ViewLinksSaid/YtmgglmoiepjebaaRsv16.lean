/- resolve: an event; of a link what it leads to. -/
import Derived.Test.YtmgglmoiepjebaaAsk16
namespace Go.Proofs.Ytmgglmoiepjebaa
open Go.RowKit Go.Lib Go.ChangeShapes Go.WideShapes
set_option maxRecDepth 100000

def uV : Option (Int × ByteArray) → Value
  | some p => .tuple #[.int .i64 p.1, .string p.2, .int .i64 0]
  | none => .tuple #[.int .i64 0, .string ⟨#[]⟩, .int .i64 6]
theorem unl_both (s : ByteArray) (hs : s.size ≤ 281474976710656) : ∃ o : Option (Int × ByteArray),
    (∀ w, Calls Try.prog 34 #[.string s] w fun x w' => x = .returned (uV o) ∧ Touch [] w w') ∧
    (∀ w, Calls Try.prog 13 #[.string s] w fun x w' => x = .returned (uV o) ∧ Touch [] w w') := by
  obtain ⟨a, e, h⟩ := numSpec_form (hdB 64 s.data.toList)
  have h1 := fun w => unl_any s a e w hs h
  have h2 := fun w => refUnl_any s a e w hs h
  unfold unlV at h1 h2
  by_cases c : e = 0 ∧ 0 ≤ a ∧ strm (tlB 64 s.data.toList) = true
  · rw [if_pos c] at h1 h2
    exact ⟨some (a, txt (tlB 64 s.data.toList)), h1, h2⟩
  · rw [if_neg c] at h1 h2
    exact ⟨none, h1, h2⟩
open Classical in
noncomputable def uOf (s : ByteArray) : Option (Int × ByteArray) := if h : s.size ≤ 281474976710656 then (unl_both s h).choose else none
theorem uOf_at {s : ByteArray} (h : s.size ≤ 281474976710656) : uOf s = (unl_both s h).choose := by unfold uOf; rw [dif_pos h]
theorem unlink_any {s : ByteArray} (h : s.size ≤ 281474976710656) (w : World) : Calls Try.prog 34 #[.string s] w fun x w' => x = .returned (uV (uOf s)) ∧ Touch [] w w' := by
  rw [uOf_at h]; exact (unl_both s h).choose_spec.1 w
theorem refUnlink_any {s : ByteArray} (h : s.size ≤ 281474976710656) (w : World) : Calls Try.prog 13 #[.string s] w fun x w' => x = .returned (uV (uOf s)) ∧ Touch [] w w' := by
  rw [uOf_at h]; exact (unl_both s h).choose_spec.2 w

abbrev unrS : ByteArray := ⟨#[36, 117, 110, 114, 101, 115, 111, 108, 118, 101, 100]⟩
noncomputable def resolveV (look : Int → ByteArray → Option StoD) (s : StoD) : StoD :=
  if (s.typ.toList == [36, 62]) = true then
    match uOf s.data with
    | none => s
    | some p => match look p.1 p.2 with
      | some x => canS x
      | none => ⟨s.id, unrS, s.data, s.value, s.stream, s.version, s.position, s.time⟩
  else s

theorem two_new (w : World) (o0 o1 : Obj) :
    let W := (w.alloc o0).alloc o1
    W.heap[w.heap.size]? = some o0 ∧ W.heap[w.heap.size + 1]? = some o1 ∧ W.heap.size = w.heap.size + 2 ∧ Touch [] w W :=
  ⟨heap_alloc_keep (heap_alloc_new w o0) o1, new_after _ o1 _ (by simp), by simp, (((Touch.refl [] w).alloc _).alloc _)⟩

set_option maxHeartbeats 4000000 in
theorem resolve_any (R : Value) (look : Int → ByteArray → Option StoD) (s : StoD) (w : World) (hd : s.data.size ≤ 281474976710656)
    (hA : ∀ v t W', Touch [] w W' → Calls Try.prog 35 #[R, .int .i64 v, .string t] W' fun e w' => e = .returned (fdV (look v t)) ∧ Touch [] W' w')
    (hOk : ∀ v t x, look v t = some x → x.typ.size ≤ 281474976710656 ∧ x.data.size ≤ 281474976710656 ∧ x.stream.size ≤ 281474976710656) :
    Calls Try.prog 20 #[s.val, R] w fun e w' => e = .returned (resolveV look s).val ∧ Touch [] w w' := by
  obtain ⟨W2, hW2⟩ : ∃ W2, W2 = (w.alloc (.cells (sC s) TSto)).alloc (.cells (sC zeroS) TSto) := ⟨_, rfl⟩
  have F := two_new w (.cells (sC s) TSto) (.cells (sC zeroS) TSto)
  simp only [← hW2] at F
  obtain ⟨f0, f1, f2, f3⟩ := F
  have F0 : Hid (SB W2 w.heap.size s) := hid f0
  have F1 : Hid (SB W2 (w.heap.size + 1) zeroS) := hid f1
  have F2 := hid f2
  have F3 := hid f3
  have HU := hid (unlink_any hd)
  have HA := hid hA
  have HO := hid hOk
  have hsf := store_flt
  clear f0 f1 f2 f3 hA hOk
  have r1 := hid (fun (h : (s.typ.toList == [36, 62]) = false) => show resolveV look s = s by unfold resolveV; rw [if_neg (by rw [h]; decide)])
  have r2 := hid (fun (h : (s.typ.toList == [36, 62]) = true) (h2 : uOf s.data = none) => show resolveV look s = s by unfold resolveV; rw [if_pos h, h2])
  have r3 := hid (fun (h : (s.typ.toList == [36, 62]) = true) (p : Int × ByteArray) (h2 : uOf s.data = some p) (x : StoD) (h3 : look p.1 p.2 = some x) => show resolveV look s = canS x by unfold resolveV; rw [if_pos h, h2]; simp only [h3])
  have r4 := hid (fun (h : (s.typ.toList == [36, 62]) = true) (p : Int × ByteArray) (h2 : uOf s.data = some p) (h3 : look p.1 p.2 = none) => show resolveV look s = ⟨s.id, unrS, s.data, s.value, s.stream, s.version, s.position, s.time⟩ by unfold resolveV; rw [if_pos h, h2]; simp only [h3])
  generalize resolveV look s = rv at *
  obtain ⟨sid, styp, sdata, svalue, sstream, sversion, sposition, stime⟩ := s
  go_enter Try.func20, Try.ntmps20
  go_upto_region 1 with fail
  simp only [TSto, sC, zeroS] at hW2
  rw [← hW2]
  clear hW2
  obtain ⟨a0, a1, a2, a3, a4, a5, a6, a7⟩ := (F0.out).at
  simp only at a0 a1 a2 a3 a4 a5 a6 a7
  by_cases h : (styp.toList == [36, 62]) = true
  · cases hu : uOf sdata with
    | none =>
      have HV := hid (r2.out h hu)
      rw [hu] at HU
      simp only [uV] at HU
      clear r1 r2 r3 r4 hu
      go_upto_region 4 with (go_at_call 34; refine (HU.out _).mono ?_; rintro e w3 ⟨rfl, t3⟩)
      have T3 := hid (F3.out.trans t3 (by simp))
      have Fz : Hid (SB w3 (w.heap.size + 1) zeroS) := hid (touch_other t3 F1.out (by simp))
      obtain ⟨b0, b1, b2, b3, b4, b5, b6, b7⟩ := SB.at (W := w3) (b := w.heap.size) (touch_other t3 F0.out (by simp))
      simp only at b0 b1 b2 b3 b4 b5 b6 b7
      obtain ⟨z0, z1, z2, z3, z4, z5, z6, z7⟩ := SB.at (W := w3) (b := w.heap.size + 1) Fz.out
      try simp only at z0 z1 z2 z3 z4 z5 z6 z7
      obtain ⟨y0, y1, y2, y3, y4, y5, y6, y7⟩ := SB.free (W := w3) (b := w.heap.size + 1) Fz.out
      clear t3 a0 a1 a2 a3 a4 a5 a6 a7 HU HA HO
      go_wp2
      have K := SB.set (W := w3) (b := w.heap.size + 1) Fz.out ⟨sid, styp, sdata, svalue, sstream, sversion, sposition, stime⟩
      have M := setB_touch (W := w3) (b := w.heap.size + 1) (s := ⟨sid, styp, sdata, svalue, sstream, sversion, sposition, stime⟩) T3.out (.inr (by omega))
      simp only [setB] at K M
      generalize ((((((((w3.setCell ⟨w.heap.size + 1, 0, none⟩ (.int .i64 sid)).setCell ⟨w.heap.size + 1, 1, none⟩ (.string styp)).setCell ⟨w.heap.size + 1, 2, none⟩ (.string sdata)).setCell ⟨w.heap.size + 1, 3, none⟩ (.float .f64 svalue)).setCell ⟨w.heap.size + 1, 4, none⟩ (.string sstream)).setCell ⟨w.heap.size + 1, 5, none⟩ (.int .i64 sversion)).setCell ⟨w.heap.size + 1, 6, none⟩ (.int .i64 sposition)).setCell ⟨w.heap.size + 1, 7, none⟩ (.int .i64 stime)) = W9 at K M ⊢
      obtain ⟨k0, k1, k2, k3, k4, k5, k6, k7⟩ := SB.at (W := W9) (b := w.heap.size + 1) K
      try simp only at k0 k1 k2 k3 k4 k5 k6 k7
      refine bodyPost_ret (v := StoD.val ⟨sid, styp, sdata, svalue, sstream, sversion, sposition, stime⟩) (by simp [results, Try.results20, go_sem, k0, k1, k2, k3, k4, k5, k6, k7]) rfl ⟨by rw [HV.out], M⟩
    | some p =>
      obtain ⟨pv, pt⟩ := p
      rw [hu] at HU
      simp only [uV] at HU
      cases hk : look pv pt with
      | some x =>
        have HV := hid (r3.out h (pv, pt) hu x hk)
        obtain ⟨x1, x2, x3⟩ := HO.out pv pt x hk
        have HF := hid (fun W' => fresh_any x x1 x2 x3 W')
        have HK := hid (fun W' (t : Touch [] w W') => by have q := HA.out pv pt W' t; rw [hk] at q; simp only [fdV] at q; exact q)
        clear r1 r2 r3 r4 hu hk x1 x2 x3 HA HO
        generalize canS x = cs at *
        obtain ⟨c0, c1, c2, c3, c4, c5, c6, c7⟩ := cs
        obtain ⟨q0, q1, q2, q3, q4, q5, q6, q7⟩ := x
        go_upto_region 7 with (first
          | (go_at_call 34; refine (HU.out _).mono ?_; rintro e w3 ⟨rfl, t3⟩)
          | (go_at_call 35; refine (HK.out _ (F3.out.trans t3 (by simp))).mono ?_; rintro e w4 ⟨rfl, t4⟩))
        have t34 := t3.trans t4 (by simp)
        have K5 : SB (w4.alloc (.cells (sC ⟨q0, q1, q2, q3, q4, q5, q6, q7⟩) TSto)) w4.heap.size ⟨q0, q1, q2, q3, q4, q5, q6, q7⟩ := heap_alloc_new w4 _
        have M5 : Touch [] W2 (w4.alloc (.cells (sC ⟨q0, q1, q2, q3, q4, q5, q6, q7⟩) TSto)) := t34.alloc _
        simp only [sC, TSto] at K5 M5
        generalize (w4.alloc (.cells #[.int .i64 q0, .string q1, .string q2, .float .f64 q3, .string q4, .int .i64 q5, .int .i64 q6, .int .i64 q7] 29)) = W5 at K5 M5 ⊢
        have T5 := hid M5
        obtain ⟨k0, k1, k2, k3, k4, k5, k6, k7⟩ := SB.at (W := W5) K5
        try simp only at k0 k1 k2 k3 k4 k5 k6 k7
        clear t3 t4 t34 M5 K5 HU HK a0 a1 a2 a3 a4 a5 a6 a7
        go_wp2_with (go_at_call 19; refine (HF.out _).mono ?_; rintro e w6 ⟨rfl, t6⟩; have T6 := hid (T5.out.trans t6 (by simp)); have Fz : Hid (SB w6 (w.heap.size + 1) zeroS) := hid (touch_other T6.out F1.out (by simp)); clear t6; obtain ⟨z0, z1, z2, z3, z4, z5, z6, z7⟩ := SB.at (W := w6) (b := w.heap.size + 1) Fz.out; obtain ⟨y0, y1, y2, y3, y4, y5, y6, y7⟩ := SB.free (W := w6) (b := w.heap.size + 1) Fz.out)
        have T7 := hid (F3.out.trans T6.out (by simp))
        have K := SB.set (W := w6) (b := w.heap.size + 1) Fz.out ⟨c0, c1, c2, c3, c4, c5, c6, c7⟩
        have M := setB_touch (W := w6) (b := w.heap.size + 1) (s := ⟨c0, c1, c2, c3, c4, c5, c6, c7⟩) T7.out (.inr (by omega))
        simp only [setB] at K M
        generalize ((((((((w6.setCell ⟨w.heap.size + 1, 0, none⟩ (.int .i64 c0)).setCell ⟨w.heap.size + 1, 1, none⟩ (.string c1)).setCell ⟨w.heap.size + 1, 2, none⟩ (.string c2)).setCell ⟨w.heap.size + 1, 3, none⟩ (.float .f64 c3)).setCell ⟨w.heap.size + 1, 4, none⟩ (.string c4)).setCell ⟨w.heap.size + 1, 5, none⟩ (.int .i64 c5)).setCell ⟨w.heap.size + 1, 6, none⟩ (.int .i64 c6)).setCell ⟨w.heap.size + 1, 7, none⟩ (.int .i64 c7)) = W9 at K M ⊢
        obtain ⟨k0, k1, k2, k3, k4, k5, k6, k7⟩ := SB.at (W := W9) (b := w.heap.size + 1) K
        try simp only at k0 k1 k2 k3 k4 k5 k6 k7
        refine bodyPost_ret (v := StoD.val ⟨c0, c1, c2, c3, c4, c5, c6, c7⟩) (by simp [results, Try.results20, go_sem, k0, k1, k2, k3, k4, k5, k6, k7]) rfl ⟨by rw [HV.out], M⟩
      | none =>
        have HV := hid (r4.out h (pv, pt) hu hk)
        have HK := hid (fun W' (t : Touch [] w W') => by have q := HA.out pv pt W' t; rw [hk] at q; simp only [fdV] at q; exact q)
        clear r1 r2 r3 r4 hu hk HA HO
        go_upto_region 7 with (first
          | (go_at_call 34; refine (HU.out _).mono ?_; rintro e w3 ⟨rfl, t3⟩)
          | (go_at_call 35; refine (HK.out _ (F3.out.trans t3 (by simp))).mono ?_; rintro e w4 ⟨rfl, t4⟩))
        have M5 : Touch [] W2 (w4.alloc (.cells (sC zeroS) TSto)) := (t3.trans t4 (by simp)).alloc _
        simp only [sC, TSto, zeroS] at M5 ⊢
        generalize (w4.alloc (.cells #[.int .i64 0, .string ⟨#[]⟩, .string ⟨#[]⟩, .float .f64 0, .string ⟨#[]⟩, .int .i64 0, .int .i64 0, .int .i64 0] 29)) = W5 at M5 ⊢
        have Fs : Hid (SB W5 w.heap.size ⟨sid, styp, sdata, svalue, sstream, sversion, sposition, stime⟩) := hid (touch_other M5 F0.out (by simp))
        have Fz : Hid (SB W5 (w.heap.size + 1) zeroS) := hid (touch_other M5 F1.out (by simp))
        have T7 := hid (F3.out.trans M5 (by simp))
        obtain ⟨z0, z1, z2, z3, z4, z5, z6, z7⟩ := SB.at (W := W5) (b := w.heap.size + 1) Fz.out
        obtain ⟨y0, y1, y2, y3, y4, y5, y6, y7⟩ := SB.free (W := W5) (b := w.heap.size + 1) Fz.out
        obtain ⟨b0, b1, b2, b3, b4, b5, b6, b7⟩ := SB.at (W := W5) (b := w.heap.size) Fs.out
        obtain ⟨-, d1, -⟩ := SB.free (W := W5) (b := w.heap.size) Fs.out
        try simp only at b0 b1 b2 b3 b4 b5 b6 b7
        clear t3 t4 M5 HU HK a0 a1 a2 a3 a4 a5 a6 a7
        go_wp2
        have Fy : SB (W5.setCell ⟨w.heap.size, 1, none⟩ (.string ⟨#[36, 117, 110, 114, 101, 115, 111, 108, 118, 101, 100]⟩)) (w.heap.size + 1) zeroS := (heap_set_other _ (by simp)).trans Fz.out
        have T8 := T7.out.setCell (p := ⟨w.heap.size, 1, none⟩) (.inr (Nat.le_refl _)) (.string ⟨#[36, 117, 110, 114, 101, 115, 111, 108, 118, 101, 100]⟩)
        have K := SB.set (W := (W5.setCell ⟨w.heap.size, 1, none⟩ (.string ⟨#[36, 117, 110, 114, 101, 115, 111, 108, 118, 101, 100]⟩))) (b := w.heap.size + 1) Fy ⟨sid, ⟨#[36, 117, 110, 114, 101, 115, 111, 108, 118, 101, 100]⟩, sdata, svalue, sstream, sversion, sposition, stime⟩
        have M := setB_touch (W := (W5.setCell ⟨w.heap.size, 1, none⟩ (.string ⟨#[36, 117, 110, 114, 101, 115, 111, 108, 118, 101, 100]⟩))) (b := w.heap.size + 1) (s := ⟨sid, ⟨#[36, 117, 110, 114, 101, 115, 111, 108, 118, 101, 100]⟩, sdata, svalue, sstream, sversion, sposition, stime⟩) T8 (.inr (by omega))
        simp only [setB] at K M
        generalize (((((((((W5.setCell ⟨w.heap.size, 1, none⟩ (.string ⟨#[36, 117, 110, 114, 101, 115, 111, 108, 118, 101, 100]⟩)).setCell ⟨w.heap.size + 1, 0, none⟩ (.int .i64 sid)).setCell ⟨w.heap.size + 1, 1, none⟩ (.string ⟨#[36, 117, 110, 114, 101, 115, 111, 108, 118, 101, 100]⟩)).setCell ⟨w.heap.size + 1, 2, none⟩ (.string sdata)).setCell ⟨w.heap.size + 1, 3, none⟩ (.float .f64 svalue)).setCell ⟨w.heap.size + 1, 4, none⟩ (.string sstream)).setCell ⟨w.heap.size + 1, 5, none⟩ (.int .i64 sversion)).setCell ⟨w.heap.size + 1, 6, none⟩ (.int .i64 sposition)).setCell ⟨w.heap.size + 1, 7, none⟩ (.int .i64 stime)) = W9 at K M ⊢
        obtain ⟨k0, k1, k2, k3, k4, k5, k6, k7⟩ := SB.at (W := W9) (b := w.heap.size + 1) K
        try simp only at k0 k1 k2 k3 k4 k5 k6 k7
        refine bodyPost_ret (v := StoD.val ⟨sid, ⟨#[36, 117, 110, 114, 101, 115, 111, 108, 118, 101, 100]⟩, sdata, svalue, sstream, sversion, sposition, stime⟩) (by simp [results, Try.results20, go_sem, k0, k1, k2, k3, k4, k5, k6, k7]) rfl ⟨by rw [HV.out], M⟩
  · have h' : (styp.toList == [36, 62]) = false := by simpa using h
    have HV := hid (r1.out h')
    clear h r1 r2 r3 r4 HU HA HO
    obtain ⟨z0, z1, z2, z3, z4, z5, z6, z7⟩ := SB.at (W := W2) (b := w.heap.size + 1) F1.out
    try simp only at z0 z1 z2 z3 z4 z5 z6 z7
    obtain ⟨y0, y1, y2, y3, y4, y5, y6, y7⟩ := SB.free (W := W2) (b := w.heap.size + 1) F1.out
    go_wp2
    have K := SB.set (W := W2) (b := w.heap.size + 1) F1.out ⟨sid, styp, sdata, svalue, sstream, sversion, sposition, stime⟩
    have M := setB_touch (W := W2) (b := w.heap.size + 1) (s := ⟨sid, styp, sdata, svalue, sstream, sversion, sposition, stime⟩) F3.out (.inr (by omega))
    simp only [setB] at K M
    generalize ((((((((W2.setCell ⟨w.heap.size + 1, 0, none⟩ (.int .i64 sid)).setCell ⟨w.heap.size + 1, 1, none⟩ (.string styp)).setCell ⟨w.heap.size + 1, 2, none⟩ (.string sdata)).setCell ⟨w.heap.size + 1, 3, none⟩ (.float .f64 svalue)).setCell ⟨w.heap.size + 1, 4, none⟩ (.string sstream)).setCell ⟨w.heap.size + 1, 5, none⟩ (.int .i64 sversion)).setCell ⟨w.heap.size + 1, 6, none⟩ (.int .i64 sposition)).setCell ⟨w.heap.size + 1, 7, none⟩ (.int .i64 stime)) = W9 at K M ⊢
    obtain ⟨k0, k1, k2, k3, k4, k5, k6, k7⟩ := SB.at (W := W9) (b := w.heap.size + 1) K
    try simp only at k0 k1 k2 k3 k4 k5 k6 k7
    refine bodyPost_ret (v := StoD.val ⟨sid, styp, sdata, svalue, sstream, sversion, sposition, stime⟩) (by simp [results, Try.results20, go_sem, k0, k1, k2, k3, k4, k5, k6, k7]) rfl ⟨by rw [HV.out], M⟩

end Go.Proofs.Ytmgglmoiepjebaa
