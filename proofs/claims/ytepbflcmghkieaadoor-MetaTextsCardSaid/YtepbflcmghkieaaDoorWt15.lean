/- MetaTexts, walked. -/
import Derived.Test.YtepbflcmghkieaaDoorAl15
namespace Go.Proofs.YtepbflcmghkieaaDoor
open Go.RowKit Go.Lib
set_option maxRecDepth 100000

/-- Numbers that an int holds. -/
def wfM (m : MetaD) : Prop := (-9223372036854775808 ≤ m.1 ∧ m.1 ≤ 9223372036854775807) ∧ (-9223372036854775808 ≤ m.2.1 ∧ m.2.1 ≤ 9223372036854775807) ∧ (-9223372036854775808 ≤ m.2.2 ∧ m.2.2 ≤ 9223372036854775807)
theorem meta_eq (m n : MetaD) (W : World) : (binOp .eql TMeta (metaV m.1 m.2.1 m.2.2) (metaV n.1 n.2.1 n.2.2)).run Tryd.prog W = .ok (.bool (decide (m = n))) W := by
  unfold metaV
  simp [go_sem]
  obtain ⟨a, b, c⟩ := m
  obtain ⟨a', b', c'⟩ := n
  by_cases h1 : a = a' <;> by_cases h2 : b = b' <;> by_cases h3 : c = c' <;> simp [h1, h2, h3]
theorem meta_ne (m n : MetaD) (W : World) : (binOp .neq TMeta (metaV m.1 m.2.1 m.2.2) (metaV n.1 n.2.1 n.2.2)).run Tryd.prog W = .ok (.bool (!decide (m = n))) W := by
  unfold metaV
  simp [go_sem]
  obtain ⟨a, b, c⟩ := m
  obtain ⟨a', b', c'⟩ := n
  by_cases h1 : a = a' <;> by_cases h2 : b = b' <;> by_cases h3 : c = c' <;> simp [h1, h2, h3]
/-- No text of metadata ends in a blank. -/
theorem joinL_last : ∀ l : List ByteArray, l ≠ [] → (∀ s ∈ l, GoodW s) → ∃ x, (joinL l).getLast? = some x ∧ x ≠ 32
  | [], h, _ => absurd rfl h
  | [s], _, h => by
    obtain ⟨h1, h2⟩ := h s (by simp)
    rw [joinL_one]
    exact ⟨_, List.getLast?_eq_some_getLast h1, h2 _ (List.getLast_mem h1)⟩
  | s :: t :: l, _, h => by
    obtain ⟨x, hx, hn⟩ := joinL_last (t :: l) (by simp) (fun y hy => h y (by simp [hy]))
    refine ⟨x, ?_, hn⟩
    rw [joinL_cons, List.getLast?_append, List.getLast?_cons, hx]
    simp
theorem text_last (m : MetaD) : ∃ x, (textL m).getLast? = some x ∧ x ≠ 32 := by
  unfold textL
  split
  · exact ⟨45, rfl, by decide⟩
  · rename_i h
    exact joinL_last _ (fun e => parts_ne h (by rw [← parts_lists, e]; rfl)) (parts_good m)
theorem parse_blank (l : List UInt8) : parseL (l ++ [32]) = none := parse_no fun m _ e => by
  obtain ⟨x, h1, h2⟩ := text_last m
  rw [e] at h1
  simp at h1
  exact h2 h1.symm
theorem text_size (m : MetaD) (h : okM m = true) : (textL m).length ≤ 100 := by
  unfold textL
  split
  · decide
  · have hl : ∀ s ∈ partsT m, s.data.toList.length ≤ 28 := fun s hs => by
      have : s.data.toList ∈ partsW m := by rw [← parts_lists]; exact List.mem_map_of_mem hs
      have g := vk_great h
      have f : ∀ (p : List UInt8) (v : Int), p.length ≤ 7 → 0 ≤ v → v ≤ 1099511627776 → ∀ s ∈ wordOf p v, s.length ≤ 28 := fun p v hp h0 h1 s hs => by
        unfold wordOf at hs
        split at hs
        · cases hs
        · obtain rfl := List.mem_singleton.1 hs
          have := itoa_len v (by omega) (by omega)
          rw [List.length_append]; omega
      unfold partsW at this
      rcases List.mem_append.1 this with hs | hs
      · rcases List.mem_append.1 hs with hs | hs
        · exact f _ _ (by decide) (g 0).1 (g 0).2 _ hs
        · exact f _ _ (by decide) (g 1).1 (g 1).2 _ hs
      · exact f _ _ (by decide) (g 2).1 (g 2).2 _ hs
    have h2 := wsk_len m 3
    rw [wsk_all] at h2
    have h3 : ∀ l : List ByteArray, (∀ s ∈ l, s.data.toList.length ≤ 28) → (joinL l).length ≤ l.length * 29 := by
      intro l
      induction l with
      | nil => intro _; simp [joinL, Lib.join]
      | cons s l ih =>
        intro hs
        cases l with
        | nil => rw [joinL_one]; have := hs s (by simp); simp only [List.length_cons, List.length_nil]; omega
        | cons t l =>
          have := ih (fun x hx => hs x (by simp [hx]))
          have := hs s (by simp)
          rw [joinL_cons, List.length_append, List.length_cons]
          simp only [List.length_cons] at *
          omega
    have h4 := h3 (partsT m) hl
    omega
set_option maxHeartbeats 4000000 in
theorem walk_MetaTexts (a : MetaD) (_wa : wfM a) (b : MetaD) (_wb : wfM b) (W : World) (htab : Tab W) :
    Calls Tryd.prog 6 #[metaV a.1 a.2.1 a.2.2, metaV b.1 b.2.1 b.2.2] W fun e W' => e = .returned (.bool true) ∧ Touch [] W W' := by
  clear _wa _wb
  obtain ⟨W0, hW0⟩ : ∃ W0, W0 = (W.alloc (.cells #[.int .i64 a.1, .int .i64 a.2.1, .int .i64 a.2.2] TMeta)).alloc (.cells #[.int .i64 b.1, .int .i64 b.2.1, .int .i64 b.2.2] TMeta) := ⟨_, rfl⟩
  have A0 : MetaB W0 W.heap.size a := by rw [hW0]; exact heap_alloc_keep (heap_alloc_new W _) _
  have B0 : MetaB W0 (W.heap.size + 1) b := by
    rw [hW0]
    have := heap_alloc_new (W.alloc (.cells #[.int .i64 a.1, .int .i64 a.2.1, .int .i64 a.2.2] TMeta)) (.cells #[.int .i64 b.1, .int .i64 b.2.1, .int .i64 b.2.2] TMeta)
    rwa [World.size_alloc] at this
  have T0 : Touch [] W W0 := by rw [hW0]; exact ((Touch.refl [] W).alloc _).alloc _
  have TB : Hid (∀ w, Touch [] W0 w → Tab w) := hid fun w t => htab.touch (T0.trans t (by simp))
  have CT := hid fun m w (t : Touch [] W0 w) => metaText_any m w (TB.out w t)
  have CA := hid fun w (t : Touch [] W0 w) => alive15_true w (TB.out w t)
  have K : Hid (∀ w, Touch [] W0 w → (w.cell? ⟨W.heap.size, 0, none⟩ = some (.int .i64 a.1) ∧ w.cell? ⟨W.heap.size, 1, none⟩ = some (.int .i64 a.2.1) ∧ w.cell? ⟨W.heap.size, 2, none⟩ = some (.int .i64 a.2.2)) ∧ w.cell? ⟨W.heap.size + 1, 0, none⟩ = some (.int .i64 b.1) ∧ w.cell? ⟨W.heap.size + 1, 1, none⟩ = some (.int .i64 b.2.1) ∧ w.cell? ⟨W.heap.size + 1, 2, none⟩ = some (.int .i64 b.2.2)) := hid fun w t => ⟨(A0.t t).c, (B0.t t).c⟩
  have HT := hid T0
  clear T0 A0 B0 htab
  unfold metaV
  by_cases ok : okM a = true ∧ okM b = true
  · obtain ⟨oa, ob⟩ := ok
    have TA := hid fun w t => CT.out a w t
    have TC := hid fun w t => CT.out b w t
    unfold textV metaV at TA TC
    simp only [if_pos oa, if_pos ob] at TA TC
    have za : (txt (textL a)).size ≤ 100 := by rw [txt_size]; exact text_size a oa
    have P1 : Hid (∀ w, Touch [] W0 w → Calls Tryd.prog 10 #[.string (txt (textL a))] w fun e w' => e = .returned (.tuple #[.agg #[.int .i64 a.1, .int .i64 a.2.1, .int .i64 a.2.2], .int .i64 0]) ∧ Touch [] w w') := hid fun w t => by
      have := metaParse_any (txt (textL a)) w (TB.out w t) (by omega)
      rw [show (txt (textL a)).data.toList = textL a from rfl, parse_yes oa rfl] at this
      exact this
    have P2 : Hid (∀ w, Touch [] W0 w → Calls Tryd.prog 10 #[.string (txt (textL a) ++ ⟨#[32]⟩)] w fun e w' => e = .returned (.tuple #[.agg #[.int .i64 0, .int .i64 0, .int .i64 0], .int .i64 6]) ∧ Touch [] w w') := hid fun w t => by
      have e : (txt (textL a) ++ ⟨#[32]⟩ : ByteArray).data.toList = textL a ++ [32] := by simp [txt]
      have := metaParse_any (txt (textL a) ++ ⟨#[32]⟩) w (TB.out w t) (by rw [ByteArray.size_append]; show (txt (textL a)).size + 1 ≤ _; omega)
      rw [e, parse_blank] at this
      exact this
    have hs : ¬ 9223372036854775807 < (txt (textL a)).size + (⟨#[32]⟩ : ByteArray).size := by
      show ¬ 9223372036854775807 < (txt (textL a)).size + 1
      omega
    have E1 := fun w => meta_eq a b w
    have E2 := fun w => meta_eq a a w
    rw [decide_eq_true (rfl : a = a)] at E2
    unfold metaV at E1 E2
    have SE : ((txt (textL a)).toList == (txt (textL b)).toList) = decide (a = b) := by
      rw [ByteArray.toList_eq, ByteArray.toList_eq, Bool.eq_iff_iff, decide_eq_true_eq, beq_iff_eq]
      exact ⟨fun h => text_inj oa ob h, fun h => by rw [h]⟩
    clear ob oa CT TB
    generalize txt (textL a) = ta at *
    generalize txt (textL b) = tb at *
    generalize decide (a = b) = ab at *
    go_enter Tryd.func6, Tryd.ntmps6
    go_upto_region 1 with fail
    rw [← hW0]
    clear hW0
    obtain ⟨⟨k0, k1, k2⟩, k3, k4, k5⟩ := K.out _ (Touch.refl [] W0)
    go_wp2_with fail
    refine (TA.out _ (Touch.refl [] W0)).mono ?_
    rintro e w1 ⟨rfl, t1⟩
    have T1 := hid t1
    obtain ⟨⟨q0, q1, q2⟩, q3, q4, q5⟩ := K.out _ t1
    clear t1 k0 k1 k2 k3 k4 k5 TA
    go_wp2_with fail
    refine (TC.out _ T1.out).mono ?_
    rintro e w2 ⟨rfl, t2⟩
    have T2 := hid (T1.out.trans t2 (by simp))
    clear t2 q0 q1 q2 q3 q4 q5 TC
    go_wp2_with fail
    refine (P1.out _ T2.out).mono ?_
    rintro e w3 ⟨rfl, t3⟩
    have T3 := hid (T2.out.trans t3 (by simp))
    obtain ⟨W4, hW4⟩ : ∃ W4, W4 = w3.alloc (.cells #[.int .i64 a.1, .int .i64 a.2.1, .int .i64 a.2.2] TMeta) := ⟨_, rfl⟩
    have M4 : MetaB W4 w3.heap.size a := by rw [hW4]; exact heap_alloc_new w3 _
    have HM4 := hid M4
    have T4 : Touch [] w3 W4 := by rw [hW4]; exact (Touch.refl [] w3).alloc _
    have TT4 := hid (T3.out.trans T4 (by simp))
    clear t3 P1 M4 T4
    go_upto_region 6 with fail
    rw [← hW4]
    generalize hn9 : w3.heap.size = n9 at *
    clear hW4 hn9
    go_wp2_with fail
    refine (P2.out _ TT4.out).mono ?_
    rintro e w5 ⟨rfl, t5⟩
    have T5 := hid t5
    have T5' := hid (TT4.out.trans t5 (by simp))
    clear t5 P2
    go_wp2_with fail
    refine (CA.out _ (T5'.out.alloc _)).mono ?_
    rintro e w6 ⟨rfl, t6⟩
    have T6 := hid (((HT.out.trans T5'.out (by simp)).alloc _).trans t6 (by simp))
    obtain ⟨⟨z0, z1, z2⟩, z3, z4, z5⟩ := K.out _ ((T5'.out.alloc _).trans t6 (by simp))
    obtain ⟨y0, y1, y2⟩ := (HM4.out.t ((T5.out.alloc _).trans t6 (by simp))).c
    clear t6
    go_wp2
    go_ret
    exact ⟨by simp, T6.out⟩
  · have TA := hid fun w t => CT.out a w t
    have TC := hid fun w t => CT.out b w t
    unfold textV metaV at TA TC
    by_cases oa : okM a = true
    · have ob : okM b ≠ true := fun h => ok ⟨oa, h⟩
      simp only [if_pos oa, if_neg ob] at TA TC
      clear ok oa ob CT TB
      generalize txt (textL a) = ta at *
      go_enter Tryd.func6, Tryd.ntmps6
      go_upto_region 1 with fail
      rw [← hW0]
      clear hW0
      obtain ⟨⟨k0, k1, k2⟩, k3, k4, k5⟩ := K.out _ (Touch.refl [] W0)
      go_wp2_with fail
      refine (TA.out _ (Touch.refl [] W0)).mono ?_
      rintro e w1 ⟨rfl, t1⟩
      have T1 := hid t1
      obtain ⟨⟨q0, q1, q2⟩, q3, q4, q5⟩ := K.out _ t1
      clear t1 k0 k1 k2 k3 k4 k5 TA
      go_wp2_with fail
      refine (TC.out _ T1.out).mono ?_
      rintro e w2 ⟨rfl, t2⟩
      have T2 := hid (T1.out.trans t2 (by simp))
      clear t2 q0 q1 q2 q3 q4 q5 TC
      go_wp2_with fail
      refine (CA.out _ T2.out).mono ?_
      rintro e w3 ⟨rfl, t3⟩
      have T3 := hid ((HT.out.trans T2.out (by simp)).trans t3 (by simp))
      clear t3
      go_wp2
      go_ret
      exact ⟨rfl, T3.out⟩
    · by_cases ob : okM b = true
      · simp only [if_neg oa, if_pos ob] at TA TC
        clear ok oa ob CT TB
        generalize txt (textL b) = tb at *
        go_enter Tryd.func6, Tryd.ntmps6
        go_upto_region 1 with fail
        rw [← hW0]
        clear hW0
        obtain ⟨⟨k0, k1, k2⟩, k3, k4, k5⟩ := K.out _ (Touch.refl [] W0)
        go_wp2_with fail
        refine (TA.out _ (Touch.refl [] W0)).mono ?_
        rintro e w1 ⟨rfl, t1⟩
        have T1 := hid t1
        obtain ⟨⟨q0, q1, q2⟩, q3, q4, q5⟩ := K.out _ t1
        clear t1 k0 k1 k2 k3 k4 k5 TA
        go_wp2_with fail
        refine (TC.out _ T1.out).mono ?_
        rintro e w2 ⟨rfl, t2⟩
        have T2 := hid (T1.out.trans t2 (by simp))
        clear t2 q0 q1 q2 q3 q4 q5 TC
        go_wp2_with fail
        refine (CA.out _ T2.out).mono ?_
        rintro e w3 ⟨rfl, t3⟩
        have T3 := hid ((HT.out.trans T2.out (by simp)).trans t3 (by simp))
        clear t3
        go_wp2
        go_ret
        exact ⟨rfl, T3.out⟩
      · simp only [if_neg oa, if_neg ob] at TA TC
        clear ok oa ob CT TB
        go_enter Tryd.func6, Tryd.ntmps6
        go_upto_region 1 with fail
        rw [← hW0]
        clear hW0
        obtain ⟨⟨k0, k1, k2⟩, k3, k4, k5⟩ := K.out _ (Touch.refl [] W0)
        go_wp2_with fail
        refine (TA.out _ (Touch.refl [] W0)).mono ?_
        rintro e w1 ⟨rfl, t1⟩
        have T1 := hid t1
        obtain ⟨⟨q0, q1, q2⟩, q3, q4, q5⟩ := K.out _ t1
        clear t1 k0 k1 k2 k3 k4 k5 TA
        go_wp2_with fail
        refine (TC.out _ T1.out).mono ?_
        rintro e w2 ⟨rfl, t2⟩
        have T2 := hid (T1.out.trans t2 (by simp))
        clear t2 q0 q1 q2 q3 q4 q5 TC
        go_wp2_with fail
        refine (CA.out _ T2.out).mono ?_
        rintro e w3 ⟨rfl, t3⟩
        have T3 := hid ((HT.out.trans T2.out (by simp)).trans t3 (by simp))
        clear t3
        go_wp2
        go_ret
        exact ⟨rfl, T3.out⟩
end Go.Proofs.YtepbflcmghkieaaDoor
