/- MetaTells, walked. -/
import Derived.Test.YtepbflcmghkieaaDoorAg15
import Derived.Test.YtepbflcmghkieaaDoorRq15
import Derived.Test.YtepbflcmghkieaaDoorRf15
import Derived.Test.YtepbflcmghkieaaDoorHeld
namespace Go.Proofs.YtepbflcmghkieaaDoor
open Go.RowKit Go.Lib
set_option maxRecDepth 100000

def textP (m : MetaD) : ByteArray × Int := if okM m = true then (txt (textL m), 0) else (⟨#[]⟩, 1)
theorem textP_eq (m : MetaD) : textV m = .tuple #[.string (textP m).1, .int .i64 (textP m).2] := by
  unfold textV textP
  split <;> rfl
def parseP : Option MetaD → MetaD × Int
  | some m => (m, 0)
  | none => ((0, 0, 0), 6)
theorem parseP_eq (o : Option MetaD) : parseV o = .tuple #[.agg #[.int .i64 (parseP o).1.1, .int .i64 (parseP o).1.2.1, .int .i64 (parseP o).1.2.2], .int .i64 (parseP o).2] := by
  cases o <;> rfl
theorem tells_alive (m : MetaD) (s : ByteArray) (fl now : Int) (x : Option Addr) (c : Nat) (l : List Int) (W : World) (htab : Tab W) (hl : l.length ≤ 9223372036854775807) (h : 300 < s.size ∨ (s.size ≤ 300 ∧ 60 < l.length)) :
    Calls Tryd.prog 3 #[metaV m.1 m.2.1 m.2.2, .string s, .int .i64 fl, .int .i64 now, .slice x l.length c] W fun e W' => e = .returned (.bool true) ∧ Touch [] W W' := by
  have CA := hid fun w (t : Touch [] W w) => alive15_true w (htab.touch t)
  unfold metaV
  have T0 : Hid (∀ o, Touch [] W (W.alloc o)) := hid fun o => (Touch.refl [] W).alloc o
  rcases h with h | ⟨h1, h2⟩
  · have d1 : decide (300 < s.size) = true := by simpa using h
    have d2 : decide ((300 : Int) < (s.size : Int)) = true := by simp; omega
    clear h
    go_enter Tryd.func3, Tryd.ntmps3
    go_wp2_with fail
    refine (CA.out _ (T0.out _)).mono ?_
    rintro e w1 ⟨rfl, t1⟩
    have T1 := hid ((T0.out _).trans t1 (by simp))
    clear t1
    go_wp2
    go_ret
    exact ⟨rfl, T1.out⟩
  · have d1 : decide (300 < s.size) = false := by simpa using h1
    have d2 : decide ((300 : Int) < (s.size : Int)) = false := by simp; omega
    have d3 : decide (60 < l.length) = true := by simpa using h2
    have d4 : decide ((60 : Int) < (l.length : Int)) = true := by simp; omega
    clear h1 h2
    go_enter Tryd.func3, Tryd.ntmps3
    go_wp2_with fail
    refine (CA.out _ (T0.out _)).mono ?_
    rintro e w1 ⟨rfl, t1⟩
    have T1 := hid ((T0.out _).trans t1 (by simp))
    clear t1
    go_wp2
    go_ret
    exact ⟨rfl, T1.out⟩
set_option maxHeartbeats 8000000 in
theorem tells_main (m : MetaD) (wm : wfM m) (s : ByteArray) (fl now : Int) (f0 : -9223372036854775808 ≤ fl) (f1 : fl ≤ 9223372036854775807) (x : Option Addr) (c : Nat) (l : List Int) (W : World) (htab : Tab W) (hx : IntX W x l) (hc : x = none → c = 0 ∧ l = []) (hw : Wl l) (h1 : s.size ≤ 300) (h2 : l.length ≤ 60) :
    Calls Tryd.prog 3 #[metaV m.1 m.2.1 m.2.2, .string s, .int .i64 fl, .int .i64 now, .slice x l.length c] W fun e W' => e = .returned (.bool true) ∧ Touch [] W W' := by
  obtain ⟨W0, hW0⟩ : ∃ W0, W0 = W.alloc (.cells #[.int .i64 m.1, .int .i64 m.2.1, .int .i64 m.2.2] TMeta) := ⟨_, rfl⟩
  have B0 : MetaB W0 W.heap.size m := by rw [hW0]; exact heap_alloc_new W _
  have t0 : Touch [] W W0 := by rw [hW0]; exact (Touch.refl [] W).alloc _
  have T0 := hid t0
  have K : Hid (∀ w, Touch [] W0 w → w.cell? ⟨W.heap.size, 0, none⟩ = some (.int .i64 m.1) ∧ w.cell? ⟨W.heap.size, 1, none⟩ = some (.int .i64 m.2.1) ∧ w.cell? ⟨W.heap.size, 2, none⟩ = some (.int .i64 m.2.2)) := hid fun w t => (B0.t t).c
  have TB : Hid (∀ w, Touch [] W0 w → Tab w) := hid fun w t => htab.touch (t0.trans t (by simp))
  have CA := hid fun w (t : Touch [] W0 w) => alive15_true w (TB.out w t)
  have C1 : Hid (∀ w, Touch [] W0 w → Calls Tryd.prog 8 #[.agg #[.int .i64 m.1, .int .i64 m.2.1, .int .i64 m.2.2]] w fun e w' => e = .returned (.tuple #[.string (textP m).1, .int .i64 (textP m).2]) ∧ Touch [] w w') := hid fun w t => by
    have := metaText_any m w (TB.out w t)
    rwa [textP_eq] at this
  have C2 : Hid (∀ w, Calls Tryd.prog 9 #[.agg #[.int .i64 m.1, .int .i64 m.2.1, .int .i64 m.2.2]] w fun e w' => e = .returned (.tuple #[.string (textP m).1, .int .i64 (textP m).2]) ∧ Touch [] w w') := hid fun w => by
    have := refText_any m w
    rwa [textP_eq] at this
  have C3 : Hid (∀ w, Touch [] W0 w → Calls Tryd.prog 10 #[.string s] w fun e w' => e = .returned (.tuple #[.agg #[.int .i64 (parseP (parseL s.data.toList)).1.1, .int .i64 (parseP (parseL s.data.toList)).1.2.1, .int .i64 (parseP (parseL s.data.toList)).1.2.2], .int .i64 (parseP (parseL s.data.toList)).2]) ∧ Touch [] w w') := hid fun w t => by
    have := metaParse_any s w (TB.out w t) (by omega)
    rwa [parseP_eq] at this
  have C4 : Hid (∀ w, Calls Tryd.prog 11 #[.string s] w fun e w' => e = .returned (.tuple #[.agg #[.int .i64 (parseP (parseL s.data.toList)).1.1, .int .i64 (parseP (parseL s.data.toList)).1.2.1, .int .i64 (parseP (parseL s.data.toList)).1.2.2], .int .i64 (parseP (parseL s.data.toList)).2]) ∧ Touch [] w w') := hid fun w => by
    have := refParse_any s w (by omega)
    rwa [parseP_eq] at this
  have C5 : Hid ((textP m).2 = 0 → ∀ w, Touch [] W0 w → Calls Tryd.prog 10 #[.string (textP m).1] w fun e w' => e = .returned (.tuple #[.agg #[.int .i64 m.1, .int .i64 m.2.1, .int .i64 m.2.2], .int .i64 0]) ∧ Touch [] w w') := hid fun h w t => by
    unfold textP at h ⊢
    by_cases ok : okM m = true
    · rw [if_pos ok] at h ⊢
      have := metaParse_any (txt (textL m)) w (TB.out w t) (by rw [txt_size]; have := text_size m ok; omega)
      rwa [show (txt (textL m)).data.toList = textL m from rfl, parse_yes ok rfl] at this
    · rw [if_neg ok] at h
      exact absurd h (by decide)
  have CL : Hid (∀ w, Touch [] W0 w → Calls Tryd.prog 12 #[.slice x l.length c] w fun e w' => ∃ u, e = .returned u ∧ LentI w' w.heap.size u l ∧ Touch [] w w') := hid fun w t => lentI_any x c l w (hx.t0 (t0.trans t (by simp))) hc (by omega)
  have CS : Hid (∀ v B w, Touch [] W0 w → LentI w B v l → Calls Tryd.prog 15 #[v, .slice x l.length c] w fun e w' => e = .returned (.bool true) ∧ Touch [] w w') := hid fun v B w t hm => staysI_any v B x c l w hm (hx.t0 (t0.trans t (by simp))) (by omega)
  have CF : Hid (m.2.1 ≤ 2305843009213693952 → -2305843009213693952 ≤ now → now ≤ 2305843009213693952 → ∀ (g cm : Nat) w, IntX w (some ⟨g, 0, none⟩) l → Calls Tryd.prog 13 #[.agg #[.int .i64 m.1, .int .i64 m.2.1, .int .i64 m.2.2], .int .i64 fl, .int .i64 now, .slice (some ⟨g, 0, none⟩) l.length cm] w fun e w' => e = .returned (.int .i64 (floorV m fl now l)) ∧ Touch [] w w') := hid fun b1 b2 b3 g cm w hX => floor_any m fl now (some ⟨g, 0, none⟩) cm l w hX (by omega) hw f0 f1 wm.2.1.2 wm.1.2 (by omega) (by omega)
  have CG : Hid (m.2.1 ≤ 2305843009213693952 → -2305843009213693952 ≤ now → now ≤ 2305843009213693952 → ∀ w, Touch [] W0 w → Calls Tryd.prog 14 #[.agg #[.int .i64 m.1, .int .i64 m.2.1, .int .i64 m.2.2], .int .i64 fl, .int .i64 now, .slice x l.length c] w fun e w' => e = .returned (.int .i64 (floorV m fl now l)) ∧ Touch [] w w') := hid fun b1 b2 b3 w t => refFloor_any m fl now x c l w (hx.t0 (t0.trans t (by simp))) (by omega) f0 f1 b1 wm.1.2 b2 b3
  have N1 := fun w => meta_ne m m w
  have N2 := fun w => meta_ne (parseP (parseL s.data.toList)).1 (parseP (parseL s.data.toList)).1 w
  rw [decide_eq_true (rfl : m = m)] at N1
  rw [decide_eq_true (rfl : (parseP (parseL s.data.toList)).1 = _)] at N2
  unfold metaV at N1 N2 ⊢
  have d1 : decide (300 < s.size) = false := by simpa using h1
  have d2 : decide ((300 : Int) < (s.size : Int)) = false := by simp; omega
  have d3 : decide (60 < l.length) = false := by simpa using h2
  have d4 : decide ((60 : Int) < (l.length : Int)) = false := by simp; omega
  have HFV : Hid (floorV m fl now l = floorV m fl now l) := hid rfl
  clear TB B0 t0 hx hc hw htab f0 f1 wm h1
  generalize floorV m fl now l = fv at *
  generalize parseP (parseL s.data.toList) = pp at *
  generalize textP m = tp at *
  obtain ⟨ta, te⟩ := tp
  obtain ⟨pm, pe⟩ := pp
  obtain ⟨p1, p2, p3⟩ := pm
  dsimp only at *
  go_enter Tryd.func3, Tryd.ntmps3
  go_upto_region 1 with fail
  rw [← hW0]
  clear hW0
  obtain ⟨k0, k1, k2⟩ := K.out _ (Touch.refl [] W0)
  go_wp2_with fail
  refine (C1.out _ (Touch.refl [] W0)).mono ?_
  rintro e w1 ⟨rfl, t1⟩
  have T1 := hid t1
  obtain ⟨q0, q1, q2⟩ := K.out _ t1
  clear t1 k0 k1 k2 C1
  go_wp2_with fail
  refine (C2.out _).mono ?_
  rintro e w2 ⟨rfl, t2⟩
  have T2 := hid (T1.out.trans t2 (by simp))
  clear t2 q0 q1 q2 C2
  go_wp2_with fail
  refine (C3.out _ T2.out).mono ?_
  rintro e w3 ⟨rfl, t3⟩
  have T3 := hid (T2.out.trans t3 (by simp))
  obtain ⟨W4, hW4⟩ : ∃ W4, W4 = w3.alloc (.cells #[.int .i64 p1, .int .i64 p2, .int .i64 p3] TMeta) := ⟨_, rfl⟩
  have M4 : MetaB W4 w3.heap.size (p1, p2, p3) := by rw [hW4]; exact heap_alloc_new w3 _
  have HM4 := hid M4
  have t4 : Touch [] w3 W4 := by rw [hW4]; exact (Touch.refl [] w3).alloc _
  have T4 := hid (T3.out.trans t4 (by simp))
  clear t3 C3 M4 t4
  go_upto_region 6 with fail
  rw [← hW4]
  generalize hn4 : w3.heap.size = n4 at *
  clear hW4 hn4
  go_wp2_with fail
  refine (C4.out _).mono ?_
  rintro e w5 ⟨rfl, t5⟩
  obtain ⟨W6, hW6⟩ : ∃ W6, W6 = w5.alloc (.cells #[.int .i64 p1, .int .i64 p2, .int .i64 p3] TMeta) := ⟨_, rfl⟩
  have M6 : MetaB W6 w5.heap.size (p1, p2, p3) := by rw [hW6]; exact heap_alloc_new w5 _
  have t6 : Touch [] w5 W6 := by rw [hW6]; exact (Touch.refl [] w5).alloc _
  have T6 := hid (T4.out.trans (t5.trans t6 (by simp)) (by simp))
  obtain ⟨y0, y1, y2⟩ := M6.c
  obtain ⟨z0, z1, z2⟩ := (HM4.out.t (t5.trans t6 (by simp))).c
  clear t5 t6 C4 M6
  go_upto_region 7 with fail
  rw [← hW6]
  generalize hn6 : w5.heap.size = n6 at *
  clear hW6 hn6
  obtain ⟨x0, x1, x2⟩ := K.out _ T6.out
  go_upto_if 70 with fail
  go_cut [] (fun wx => Touch [] W0 wx)
  case first =>
    by_cases hte : te = 0
    · have C5e := hid (C5.out hte)
      have dte : (te == 0) = true := by simpa using hte
      obtain rfl := hte
      clear C5 CF CG
      go_wp2_with fail
      refine (C5e.out _ T6.out).mono ?_
      rintro e w7 ⟨rfl, t7⟩
      have T7 := hid (T6.out.trans t7 (by simp))
      obtain ⟨r0, r1, r2⟩ := K.out _ T7.out
      obtain ⟨W8, hW8⟩ : ∃ W8, W8 = w7.alloc (.cells #[.int .i64 m.1, .int .i64 m.2.1, .int .i64 m.2.2] TMeta) := ⟨_, rfl⟩
      have M8 : MetaB W8 w7.heap.size m := by rw [hW8]; exact heap_alloc_new w7 _
      have t8 : Touch [] w7 W8 := by rw [hW8]; exact (Touch.refl [] w7).alloc _
      have T8 := hid (T7.out.trans t8 (by simp))
      obtain ⟨g0, g1, g2⟩ := M8.c
      obtain ⟨j0, j1, j2⟩ := K.out _ T8.out
      clear t7 t8 C5e M8
      go_upto_region 11 with fail
      rw [← hW8]
      generalize hn8 : w7.heap.size = n8 at *
      clear hW8 hn8 r0 r1 r2
      go_wp2
      go_meet
      exact T8.out
    · have dte : (te == 0) = false := by simpa using hte
      clear C5 CF CG
      go_wp2
      go_meet
      exact T6.out
  case rest =>
    have HC := hid hcut
    obtain ⟨k0, k1, k2⟩ := K.out _ hcut
    clear hcut C5 N1 N2 x0 x1 x2 y0 y1 y2 z0 z1 z2 HM4 T6 T4 T3 T2 T1
    by_cases g1 : m.1 < -4611686018427387904
    · have e1 : decide (m.1 < 0) = true := by rw [decide_eq_true_eq]; omega
      have e2 : decide (m.1 < -4611686018427387904) = true := by simpa using g1
      clear CF CG CL CS
      go_wp2_with fail
      refine (CA.out _ HC.out).mono ?_
      rintro e w7 ⟨rfl, t7⟩
      have T7 := hid ((T0.out.trans HC.out (by simp)).trans t7 (by simp))
      clear t7
      go_wp2
      go_ret
      exact ⟨rfl, T7.out⟩
    · have e2 : decide (m.1 < -4611686018427387904) = false := by simpa using g1
      obtain ⟨bz, e1⟩ : ∃ bz, decide (m.1 < 0) = bz := ⟨_, rfl⟩
      by_cases g2 : 2305843009213693952 < m.2.1
      · have e3 : decide (2305843009213693952 < m.2.1) = true := by simpa using g2
        cases bz
        · clear g1
          clear CF CG CL CS
          go_wp2_with fail
          refine (CA.out _ HC.out).mono ?_
          rintro e w7 ⟨rfl, t7⟩
          have T7 := hid ((T0.out.trans HC.out (by simp)).trans t7 (by simp))
          clear t7
          go_wp2
          go_ret
          exact ⟨rfl, T7.out⟩
        · clear g1
          clear CF CG CL CS
          go_wp2_with fail
          refine (CA.out _ HC.out).mono ?_
          rintro e w7 ⟨rfl, t7⟩
          have T7 := hid ((T0.out.trans HC.out (by simp)).trans t7 (by simp))
          clear t7
          go_wp2
          go_ret
          exact ⟨rfl, T7.out⟩
      · have e3 : decide (2305843009213693952 < m.2.1) = false := by simpa using g2
        by_cases g3 : 2305843009213693952 < now
        · have e4 : decide (2305843009213693952 < now) = true := by simpa using g3
          cases bz
          · clear g1
            clear CF CG CL CS
            go_wp2_with fail
            refine (CA.out _ HC.out).mono ?_
            rintro e w7 ⟨rfl, t7⟩
            have T7 := hid ((T0.out.trans HC.out (by simp)).trans t7 (by simp))
            clear t7
            go_wp2
            go_ret
            exact ⟨rfl, T7.out⟩
          · clear g1
            clear CF CG CL CS
            go_wp2_with fail
            refine (CA.out _ HC.out).mono ?_
            rintro e w7 ⟨rfl, t7⟩
            have T7 := hid ((T0.out.trans HC.out (by simp)).trans t7 (by simp))
            clear t7
            go_wp2
            go_ret
            exact ⟨rfl, T7.out⟩
        · have e4 : decide (2305843009213693952 < now) = false := by simpa using g3
          by_cases g4 : now < -2305843009213693952
          · have e5 : decide (now < -2305843009213693952) = true := by simpa using g4
            cases bz
            · clear g1
              clear CF CG CL CS
              go_wp2_with fail
              refine (CA.out _ HC.out).mono ?_
              rintro e w7 ⟨rfl, t7⟩
              have T7 := hid ((T0.out.trans HC.out (by simp)).trans t7 (by simp))
              clear t7
              go_wp2
              go_ret
              exact ⟨rfl, T7.out⟩
            · clear g1
              clear CF CG CL CS
              go_wp2_with fail
              refine (CA.out _ HC.out).mono ?_
              rintro e w7 ⟨rfl, t7⟩
              have T7 := hid ((T0.out.trans HC.out (by simp)).trans t7 (by simp))
              clear t7
              go_wp2
              go_ret
              exact ⟨rfl, T7.out⟩
          · have e5 : decide (now < -2305843009213693952) = false := by simpa using g4
            cases bz
            · clear g1
              have CF2 := hid (CF.out (by omega) (by omega) (by omega))
              have CG2 := hid (CG.out (by omega) (by omega) (by omega))
              clear CF CG
              go_wp2_with fail
              refine (CL.out _ HC.out).mono ?_
              rintro e w8 ⟨u, rfl, hL, t8⟩
              obtain ⟨g, cm, hu, hcm, hX⟩ := hL.x
              subst hu
              have T8 := hid (HC.out.trans t8 (by simp))
              obtain ⟨ι, f, ⟨θ0, hθ0⟩, inst, FT, FE⟩ := held_class w8
              have F0 : ∀ θ, (f θ).cell? ⟨W.heap.size, 0, none⟩ = some (.int .i64 m.1) := fun θ => (K.out _ (T8.out.trans (FT.out θ) (by simp))).1
              have F1 : ∀ θ, (f θ).cell? ⟨W.heap.size, 1, none⟩ = some (.int .i64 m.2.1) := fun θ => (K.out _ (T8.out.trans (FT.out θ) (by simp))).2.1
              have F2 : ∀ θ, (f θ).cell? ⟨W.heap.size, 2, none⟩ = some (.int .i64 m.2.2) := fun θ => (K.out _ (T8.out.trans (FT.out θ) (by simp))).2.2
              have Q1 : Hid (∀ θ, Calls Tryd.prog 7 #[] (f θ) fun e w'' => e = .returned (.bool true) ∧ ∃ θ', w'' = f θ') := hid fun θ => (CA.out _ (T8.out.trans (FT.out θ) (by simp))).mono fun e w'' ⟨he, h2⟩ => ⟨he, FE.out _ ((FT.out θ).trans h2 (by simp))⟩
              have Q2 : Hid (∀ θ, Calls Tryd.prog 13 #[.agg #[.int .i64 m.1, .int .i64 m.2.1, .int .i64 m.2.2], .int .i64 fl, .int .i64 now, .slice (some ⟨g, 0, none⟩) l.length cm] (f θ) fun e w'' => e = .returned (.int .i64 fv) ∧ ∃ θ', w'' = f θ') := hid fun θ => (CF2.out g cm _ (hX.pre.t0 (FT.out θ))).mono fun e w'' ⟨he, h2⟩ => ⟨he, FE.out _ ((FT.out θ).trans h2 (by simp))⟩
              have Q3 : Hid (∀ θ, Calls Tryd.prog 14 #[.agg #[.int .i64 m.1, .int .i64 m.2.1, .int .i64 m.2.2], .int .i64 fl, .int .i64 now, .slice x l.length c] (f θ) fun e w'' => e = .returned (.int .i64 fv) ∧ ∃ θ', w'' = f θ') := hid fun θ => (CG2.out _ (T8.out.trans (FT.out θ) (by simp))).mono fun e w'' ⟨he, h2⟩ => ⟨he, FE.out _ ((FT.out θ).trans h2 (by simp))⟩
              have Q4 : Hid (∀ θ, Calls Tryd.prog 15 #[.slice (some ⟨g, 0, none⟩) l.length cm, .slice x l.length c] (f θ) fun e w'' => e = .returned (.bool true) ∧ ∃ θ', w'' = f θ') := hid fun θ => (CS.out _ _ _ (T8.out.trans (FT.out θ) (by simp)) (hL.t (FT.out θ))).mono fun e w'' ⟨he, h2⟩ => ⟨he, FE.out _ ((FT.out θ).trans h2 (by simp))⟩
              have HH := hid hθ0
              have fe : (fv == fv) = true := by simp
              have TT := hid (T0.out.trans T8.out (by simp))
              clear hθ0 hL hX t8 CF2 CG2 CL CS CA hcm
              go_upto_region 16 with fail
              refine wp_region_held f θ0 (by kernel_rfl) (by kernel_rfl) HH.out ?_
              repeat go_big_quiet_step (first | exact Q1.out _ | exact Q2.out _ | exact Q3.out _ | exact Q4.out _)
              refine wpQuiet_nil ?_
              intro _ hw'
              obtain ⟨θ, hw''⟩ := hw'
              subst hw''
              have TF := hid (FT.out θ)
              go_wp2
              go_ret
              exact ⟨rfl, TT.out.trans TF.out (by simp)⟩
            · clear g1
              have CF2 := hid (CF.out (by omega) (by omega) (by omega))
              have CG2 := hid (CG.out (by omega) (by omega) (by omega))
              clear CF CG
              go_wp2_with fail
              refine (CL.out _ HC.out).mono ?_
              rintro e w8 ⟨u, rfl, hL, t8⟩
              obtain ⟨g, cm, hu, hcm, hX⟩ := hL.x
              subst hu
              have T8 := hid (HC.out.trans t8 (by simp))
              obtain ⟨ι, f, ⟨θ0, hθ0⟩, inst, FT, FE⟩ := held_class w8
              have F0 : ∀ θ, (f θ).cell? ⟨W.heap.size, 0, none⟩ = some (.int .i64 m.1) := fun θ => (K.out _ (T8.out.trans (FT.out θ) (by simp))).1
              have F1 : ∀ θ, (f θ).cell? ⟨W.heap.size, 1, none⟩ = some (.int .i64 m.2.1) := fun θ => (K.out _ (T8.out.trans (FT.out θ) (by simp))).2.1
              have F2 : ∀ θ, (f θ).cell? ⟨W.heap.size, 2, none⟩ = some (.int .i64 m.2.2) := fun θ => (K.out _ (T8.out.trans (FT.out θ) (by simp))).2.2
              have Q1 : Hid (∀ θ, Calls Tryd.prog 7 #[] (f θ) fun e w'' => e = .returned (.bool true) ∧ ∃ θ', w'' = f θ') := hid fun θ => (CA.out _ (T8.out.trans (FT.out θ) (by simp))).mono fun e w'' ⟨he, h2⟩ => ⟨he, FE.out _ ((FT.out θ).trans h2 (by simp))⟩
              have Q2 : Hid (∀ θ, Calls Tryd.prog 13 #[.agg #[.int .i64 m.1, .int .i64 m.2.1, .int .i64 m.2.2], .int .i64 fl, .int .i64 now, .slice (some ⟨g, 0, none⟩) l.length cm] (f θ) fun e w'' => e = .returned (.int .i64 fv) ∧ ∃ θ', w'' = f θ') := hid fun θ => (CF2.out g cm _ (hX.pre.t0 (FT.out θ))).mono fun e w'' ⟨he, h2⟩ => ⟨he, FE.out _ ((FT.out θ).trans h2 (by simp))⟩
              have Q3 : Hid (∀ θ, Calls Tryd.prog 14 #[.agg #[.int .i64 m.1, .int .i64 m.2.1, .int .i64 m.2.2], .int .i64 fl, .int .i64 now, .slice x l.length c] (f θ) fun e w'' => e = .returned (.int .i64 fv) ∧ ∃ θ', w'' = f θ') := hid fun θ => (CG2.out _ (T8.out.trans (FT.out θ) (by simp))).mono fun e w'' ⟨he, h2⟩ => ⟨he, FE.out _ ((FT.out θ).trans h2 (by simp))⟩
              have Q4 : Hid (∀ θ, Calls Tryd.prog 15 #[.slice (some ⟨g, 0, none⟩) l.length cm, .slice x l.length c] (f θ) fun e w'' => e = .returned (.bool true) ∧ ∃ θ', w'' = f θ') := hid fun θ => (CS.out _ _ _ (T8.out.trans (FT.out θ) (by simp)) (hL.t (FT.out θ))).mono fun e w'' ⟨he, h2⟩ => ⟨he, FE.out _ ((FT.out θ).trans h2 (by simp))⟩
              have HH := hid hθ0
              have fe : (fv == fv) = true := by simp
              have TT := hid (T0.out.trans T8.out (by simp))
              clear hθ0 hL hX t8 CF2 CG2 CL CS CA hcm
              go_upto_region 16 with fail
              refine wp_region_held f θ0 (by kernel_rfl) (by kernel_rfl) HH.out ?_
              repeat go_big_quiet_step (first | exact Q1.out _ | exact Q2.out _ | exact Q3.out _ | exact Q4.out _)
              refine wpQuiet_nil ?_
              intro _ hw'
              obtain ⟨θ, hw''⟩ := hw'
              subst hw''
              have TF := hid (FT.out θ)
              go_wp2
              go_ret
              exact ⟨rfl, TT.out.trans TF.out (by simp)⟩
theorem walk_MetaTells (m : MetaD) (wm : wfM m) (s : ByteArray) (_ws : s.size ≤ maxLen) (fl : Int) (wf : (Lit.int .i64 fl).wf = true) (now : Int) (_wn : (Lit.int .i64 now).wf = true) (v : Value) (l : List Int) (W : World) (hl : IntsW W v l) (htab : Tab W) :
    Calls Tryd.prog 3 #[metaV m.1 m.2.1 m.2.2, .string s, .int .i64 fl, .int .i64 now, v] W fun e W' => e = .returned (.bool true) ∧ Touch [] W W' := by
  obtain ⟨x, c, rfl, hc, hx, hlen, hw⟩ := hl
  by_cases h1 : s.size ≤ 300
  · by_cases h2 : l.length ≤ 60
    · exact tells_main m wm s fl now (i64_range wf).1 (i64_range wf).2 x c l W htab hx hc hw h1 h2
    · exact tells_alive m s fl now x c l W htab hlen (.inr ⟨h1, by omega⟩)
  · exact tells_alive m s fl now x c l W htab hlen (.inl (by omega))
end Go.Proofs.YtepbflcmghkieaaDoor
