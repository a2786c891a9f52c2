/- The laws' own Text. -/
import Derived.Test.YtepbflcmghkieaaDoorTx15
import Derived.Test.YtepbflcmghkieaaDoorRefDig
import Derived.Deep.DeepCutAuto
namespace Go.Proofs.YtepbflcmghkieaaDoor
open Go.RowKit Go.Lib
set_option maxRecDepth 100000

/-- A part behind a blank. -/
def wcL (p : List UInt8) (v : Int) : List UInt8 := if v = 0 then [] else 32 :: (p ++ itoa v)
theorem wc_join (l : List (List UInt8)) : l ≠ [] → (l.flatMap fun s => 32 :: s) = 32 :: joinL (l.map txt) := by
  induction l with
  | nil => intro h; exact absurd rfl h
  | cons s l ih =>
    intro _
    cases l with
    | nil => simp [joinL_one, txt]
    | cons t l =>
      rw [List.flatMap_cons, ih (by simp)]
      simp only [List.map_cons]
      rw [joinL_cons]
      rfl
theorem wc_all (m : MetaD) (h : m ≠ (0, 0, 0)) : wcL cB m.1 ++ wcL aB m.2.1 ++ wcL bB m.2.2 = 32 :: joinL (partsT m) := by
  have e : ∀ p v, wcL p v = (wordOf p v).flatMap fun s => 32 :: s := fun p v => by
    unfold wcL wordOf
    split <;> simp
  rw [e, e, e, ← List.flatMap_append, ← List.flatMap_append]
  exact wc_join _ (parts_ne h)
theorem wc_len (p : List UInt8) (v : Int) (hp : p.length ≤ 7) (h0 : -9223372036854775808 ≤ v) (h1 : v ≤ 9223372036854775807) : (wcL p v).length ≤ 29 := by
  unfold wcL
  split
  · simp
  · have := itoa_len v h0 h1
    simp
    omega
theorem txt_app (a b : List UInt8) : txt a ++ txt b = txt (a ++ b) := by
  refine (arr_eq ?_).trans rfl
  simp [txt]
theorem refText_bad (m : MetaD) (w : World) (h : okM m = false) : Calls Tryd.prog 9 #[metaV m.1 m.2.1 m.2.2] w fun e w' => e = .returned (textV m) ∧ Touch [] w w' := by
  have hv : textV m = .tuple #[.string ⟨#[]⟩, .int .i64 1] := by unfold textV; rw [if_neg (by rw [h]; decide)]
  rw [hv]
  have C := hid fun W => refValidMeta_any m.1 m.2.1 m.2.2 W
  have h2 : validM m.1 m.2.1 m.2.2 = false := h
  rw [h2] at C
  unfold metaV at *
  clear h h2 hv
  obtain ⟨a, b, c⟩ := m
  dsimp only at *
  go_enter Tryd.func9, Tryd.ntmps9
  go_wp2_with (go_at_call 20; refine (C.out _).mono ?_; rintro e w1 ⟨rfl, t1⟩; have T1 := hid (((Touch.refl [] w).alloc _).trans t1 (by simp)); clear t1)
  go_ret2
  exact ⟨rfl, T1.out⟩
set_option maxHeartbeats 4000000 in
theorem refText_good (m : MetaD) (w : World) (h : okM m = true) : Calls Tryd.prog 9 #[metaV m.1 m.2.1 m.2.2] w fun e w' => e = .returned (textV m) ∧ Touch [] w w' := by
  have C := hid fun W => refValidMeta_any m.1 m.2.1 m.2.2 W
  rw [show validM m.1 m.2.1 m.2.2 = true from h] at C
  obtain ⟨⟨a0, a1⟩, ⟨b0, b1⟩, ⟨d0, d1⟩⟩ := okM_iff.1 h
  obtain ⟨W0, hW0⟩ : ∃ W0, W0 = w.alloc (.cells #[.int .i64 m.1, .int .i64 m.2.1, .int .i64 m.2.2] TMeta) := ⟨_, rfl⟩
  have B0 : MetaB W0 w.heap.size m := by rw [hW0]; exact heap_alloc_new w _
  have T0 : Touch [] w W0 := by rw [hW0]; exact (Touch.refl [] w).alloc _
  have K := hid fun W (t : Touch [] W0 W) => (⟨(B0.t t).at (k := 0) (by decide), (B0.t t).at (k := 1) (by decide), (B0.t t).at (k := 2) (by decide)⟩ : W.cell? ⟨w.heap.size, 0, none⟩ = some (.int .i64 m.1) ∧ W.cell? ⟨w.heap.size, 1, none⟩ = some (.int .i64 m.2.1) ∧ W.cell? ⟨w.heap.size, 2, none⟩ = some (.int .i64 m.2.2))
  have TW := hid T0
  have CD : Hid (∀ (v : Int) W, 0 ≤ v → v ≤ 1099511627776 → Calls Tryd.prog 21 #[.int .i64 v] W fun e w' => e = .returned (.string ⟨(itoa v).toArray⟩) ∧ Touch [] W w') := hid fun v W h0 h1 => refDigits_any v W (by omega) (by omega)
  have TV : Hid (textV m = .tuple #[.string (txt (textL m)), .int .i64 0]) := hid (by unfold textV; rw [if_pos h])
  have WA := hid (wc_all m)
  have ZT : Hid (m = (0, 0, 0) → textL m = [45]) := hid fun e => by rw [e]; rfl
  have NT : Hid (m ≠ (0, 0, 0) → textL m = joinL (partsT m)) := hid fun e => by unfold textL; rw [if_neg e]
  clear B0 T0 h
  unfold metaV at *
  obtain ⟨a, b, d⟩ := m
  dsimp only at *
  go_enter Tryd.func9, Tryd.ntmps9
  go_upto_region 1 with fail
  rw [← hW0]
  clear hW0
  obtain ⟨k0, k1, k2⟩ := K.out _ (Touch.refl [] W0)
  go_wp2_with fail
  refine (C.out _).mono ?_
  rintro e w1 ⟨rfl, t1⟩
  have T1 := hid t1
  obtain ⟨q0, q1, q2⟩ := K.out _ t1
  clear t1 k0 k1 k2
  go_upto_if 10 with fail
  go_cut [4] (fun sv wx => sv = .string (txt (wcL cB a)) ∧ Touch [] W0 wx)
  case first =>
    by_cases hz : a = 0
    · have hb : (a != 0) = false := by simpa using hz
      have WE : Hid (wcL cB a = []) := hid (by unfold wcL; rw [if_pos hz])
      clear hz
      go_wp2
      go_meet
      rw [WE.out]
      exact ⟨rfl, T1.out⟩
    · have hb : (a != 0) = true := by simpa using hz
      have CA := hid (CD.out a w1 a0 a1)
      have hsz : (⟨(itoa a).toArray⟩ : ByteArray).size ≤ 21 := itoa_len a (by omega) (by omega)
      have EQ : Hid ((⟨#[32, 99, 111, 117, 110, 116, 61]⟩ : ByteArray) ++ ⟨(itoa a).toArray⟩ = txt (wcL cB a)) := hid (by
        have e : wcL cB a = [32, 99, 111, 117, 110, 116, 61] ++ itoa a := by unfold wcL; rw [if_neg hz]; rfl
        rw [e]
        exact txt_app _ _)
      clear hz
      generalize (⟨(itoa a).toArray⟩ : ByteArray) = dg at *
      have hs : ¬ 9223372036854775807 < (⟨#[32, 99, 111, 117, 110, 116, 61]⟩ : ByteArray).size + dg.size := by
        show ¬ 9223372036854775807 < 7 + dg.size
        omega
      go_wp2_with (go_at_call 21; refine CA.out.mono ?_; rintro e w2 ⟨rfl, t2⟩; have T2 := hid (T1.out.trans t2 (by simp)); clear t2)
      go_meet
      rw [← EQ.out]
      exact ⟨rfl, T2.out⟩
  case rest =>
    obtain ⟨rfl, hc⟩ := hcut
    have T3 := hid hc
    obtain ⟨r0, r1, r2⟩ := K.out _ hc
    clear q0 q1 q2 hc
    have Z1 : (txt (wcL cB a)).size ≤ 29 := by rw [txt_size]; exact wc_len _ _ (by decide) (by omega) (by omega)
    generalize hwn : wc = w3 at *
    clear hwn
    go_upto_if 19 with fail
    go_cut [4] (fun sv wx => sv = .string (txt (wcL cB a ++ wcL aB b)) ∧ Touch [] W0 wx)
    case first =>
      by_cases hz : b = 0
      · have hb : (b != 0) = false := by simpa using hz
        have WE : Hid (wcL cB a ++ wcL aB b = wcL cB a) := hid (by unfold wcL; rw [if_pos hz]; simp)
        clear hz
        go_wp2
        go_meet
        rw [WE.out]
        exact ⟨rfl, T3.out⟩
      · have hb : (b != 0) = true := by simpa using hz
        have CA := hid (CD.out b w3 b0 b1)
        have hsz : (⟨(itoa b).toArray⟩ : ByteArray).size ≤ 21 := itoa_len b (by omega) (by omega)
        have EQ : Hid (txt (wcL cB a) ++ (⟨#[32, 97, 103, 101, 61]⟩ : ByteArray) ++ ⟨(itoa b).toArray⟩ = txt (wcL cB a ++ wcL aB b)) := hid (by
          have e : wcL aB b = [32, 97, 103, 101, 61] ++ itoa b := by unfold wcL; rw [if_neg hz]; rfl
          rw [e]
          exact (congrArg (· ++ _) (txt_app _ [32, 97, 103, 101, 61])).trans ((txt_app _ _).trans (by rw [List.append_assoc])))
        clear hz
        generalize (⟨(itoa b).toArray⟩ : ByteArray) = dg at *
        generalize txt (wcL cB a) = sc at *
        have hs1 : ¬ 9223372036854775807 < sc.size + (⟨#[32, 97, 103, 101, 61]⟩ : ByteArray).size := by
          show ¬ 9223372036854775807 < sc.size + 5
          omega
        have hs2 : ¬ 9223372036854775807 < (sc ++ (⟨#[32, 97, 103, 101, 61]⟩ : ByteArray)).size + dg.size := by
          rw [ByteArray.size_append]
          show ¬ 9223372036854775807 < sc.size + 5 + dg.size
          omega
        go_wp2_with (go_at_call 21; refine CA.out.mono ?_; rintro e w2 ⟨rfl, t2⟩; have T2 := hid (T3.out.trans t2 (by simp)); clear t2)
        go_meet
        rw [← EQ.out]
        exact ⟨rfl, T2.out⟩
    case rest =>
      obtain ⟨rfl, hc⟩ := hcut
      have T4 := hid hc
      obtain ⟨s0, s1, s2⟩ := K.out _ hc
      clear r0 r1 r2 hc
      have Z2 : (txt (wcL cB a ++ wcL aB b)).size ≤ 58 := by
        have z1 : (txt (wcL cB a)).size = (wcL cB a).length := txt_size _
        have z2 := wc_len aB b (by decide) (by omega) (by omega)
        rw [txt_size, List.length_append]
        omega
      generalize hwn : wc = w4 at *
      clear hwn
      go_upto_if 28 with fail
      go_cut [4] (fun sv wx => sv = .string (txt (wcL cB a ++ wcL aB b ++ wcL bB d)) ∧ Touch [] W0 wx)
      case first =>
        by_cases hz : d = 0
        · have hb : (d != 0) = false := by simpa using hz
          have WE : Hid (wcL cB a ++ wcL aB b ++ wcL bB d = wcL cB a ++ wcL aB b) := hid (by unfold wcL; rw [if_pos hz]; simp)
          clear hz
          go_wp2
          go_meet
          rw [WE.out]
          exact ⟨rfl, T4.out⟩
        · have hb : (d != 0) = true := by simpa using hz
          have CA := hid (CD.out d w4 d0 d1)
          have hsz : (⟨(itoa d).toArray⟩ : ByteArray).size ≤ 21 := itoa_len d (by omega) (by omega)
          have EQ : Hid (txt (wcL cB a ++ wcL aB b) ++ (⟨#[32, 98, 101, 102, 111, 114, 101, 61]⟩ : ByteArray) ++ ⟨(itoa d).toArray⟩ = txt (wcL cB a ++ wcL aB b ++ wcL bB d)) := hid (by
            have e : wcL bB d = [32, 98, 101, 102, 111, 114, 101, 61] ++ itoa d := by unfold wcL; rw [if_neg hz]; rfl
            rw [e]
            exact (congrArg (· ++ _) (txt_app _ [32, 98, 101, 102, 111, 114, 101, 61])).trans ((txt_app _ _).trans (by rw [List.append_assoc])))
          clear hz
          generalize (⟨(itoa d).toArray⟩ : ByteArray) = dg at *
          generalize txt (wcL cB a ++ wcL aB b) = sc at *
          have hs1 : ¬ 9223372036854775807 < sc.size + (⟨#[32, 98, 101, 102, 111, 114, 101, 61]⟩ : ByteArray).size := by
            show ¬ 9223372036854775807 < sc.size + 8
            omega
          have hs2 : ¬ 9223372036854775807 < (sc ++ (⟨#[32, 98, 101, 102, 111, 114, 101, 61]⟩ : ByteArray)).size + dg.size := by
            rw [ByteArray.size_append]
            show ¬ 9223372036854775807 < sc.size + 8 + dg.size
            omega
          go_wp2_with (go_at_call 21; refine CA.out.mono ?_; rintro e w2 ⟨rfl, t2⟩; have T2 := hid (T4.out.trans t2 (by simp)); clear t2)
          go_meet
          rw [← EQ.out]
          exact ⟨rfl, T2.out⟩
      case rest =>
        obtain ⟨rfl, hc⟩ := hcut
        have T5 := hid (TW.out.trans hc (by simp))
        clear s0 s1 s2 hc
        by_cases hm : ((a, b, d) : MetaD) = (0, 0, 0)
        · have ZT2 := hid (ZT.out hm)
          have e : wcL cB a ++ wcL aB b ++ wcL bB d = [] := by
            simp only [Prod.mk.injEq] at hm
            obtain ⟨rfl, rfl, rfl⟩ := hm
            rfl
          rw [e, show txt [] = (⟨#[]⟩ : ByteArray) from rfl]
          clear hm e ZT NT WA
          go_wp2
          go_ret2
          rw [TV.out, ZT2.out]
          exact ⟨rfl, T5.out⟩
        · have NT2 := hid (NT.out hm)
          have WA2 := WA.out hm
          rw [WA2]
          have X1 : Hid ((txt (32 :: joinL (partsT (a, b, d)))).extract 1 (txt (32 :: joinL (partsT (a, b, d)))).size = txt (joinL (partsT (a, b, d)))) := hid (by
            refine (arr_eq ?_).trans rfl
            simp [txt, ByteArray.extract, ByteArray.copySlice, ByteArray.size])
          have h1 : (1 : Int) ≤ (txt (32 :: joinL (partsT (a, b, d)))).size := by rw [txt_size]; simp; omega
          have h1n : 1 ≤ (txt (32 :: joinL (partsT (a, b, d)))).size := by rw [txt_size]; simp
          have e1 : (txt (32 :: joinL (partsT (a, b, d)))).toList.isEmpty = false := by rw [ByteArray.toList_eq]; rfl
          have e2 : ((txt (32 :: joinL (partsT (a, b, d)))).toList == []) = false := by rw [ByteArray.toList_eq]; rfl
          generalize txt (32 :: joinL (partsT (a, b, d))) = sc at *
          clear hm ZT NT WA WA2
          go_wp2
          go_ret2
          rw [TV.out, NT2.out, ← X1.out]
          exact ⟨rfl, T5.out⟩
theorem refText_any (m : MetaD) (w : World) : Calls Tryd.prog 9 #[metaV m.1 m.2.1 m.2.2] w fun e w' => e = .returned (textV m) ∧ Touch [] w w' := by
  by_cases h : okM m = true
  · exact refText_good m w h
  · exact refText_bad m w (by simpa using h)
end Go.Proofs.YtepbflcmghkieaaDoor
