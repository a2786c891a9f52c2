/- The walk of NameLinks. -/
import Derived.Test.YtjkkecmidegooaaDoorWNBack
namespace Go.Proofs.YtjkkecmidegooaaDoor
open Go.RowKit Go.Lib Go.ChangeShapes

theorem links_early (a b : Int) (s t : ByteArray) (w : World) (htab : Tab w)
    (h : (60 : Int) < s.size ∨ ((s.size : Int) ≤ 60 ∧ (60 : Int) < t.size) ∨ ((s.size : Int) ≤ 60 ∧ (t.size : Int) ≤ 60 ∧ strm s.data.toList = false) ∨ ((s.size : Int) ≤ 60 ∧ (t.size : Int) ≤ 60 ∧ strm s.data.toList = true ∧ strm t.data.toList = false) ∨
      ((s.size : Int) ≤ 60 ∧ (t.size : Int) ≤ 60 ∧ strm s.data.toList = true ∧ strm t.data.toList = true ∧ a < 0) ∨ ((s.size : Int) ≤ 60 ∧ (t.size : Int) ≤ 60 ∧ strm s.data.toList = true ∧ strm t.data.toList = true ∧ 0 ≤ a ∧ b < 0)) :
    Calls Tryd.prog 7 #[.int .i64 a, .int .i64 b, .string s, .string t] w fun e w' => e = .returned (.bool true) ∧ Touch [] w w' := by
  have Ht := hid htab; clear htab
  have C1 := hid (fun w => stm_any s w)
  have C2 := hid (fun w => stm_any t w)
  rcases h with h | ⟨h1, h2⟩ | ⟨h1, h2, h3⟩ | ⟨h1, h2, h3, h4⟩ | ⟨h1, h2, h3, h4, h5⟩ | ⟨h1, h2, h3, h4, h5, h6⟩
  · have C0 := hid (alive_true w Ht.out)
    go_enter Tryd.func7, Tryd.ntmps7
    go_wp2_with (go_at_call 8; refine C0.out.mono ?_; rintro e w1 ⟨rfl, a1⟩)
    go_ret
    exact ⟨rfl, a1⟩
  · have C0 := hid (alive_true w Ht.out)
    go_enter Tryd.func7, Tryd.ntmps7
    go_wp2_with (go_at_call 8; refine C0.out.mono ?_; rintro e w1 ⟨rfl, a1⟩)
    go_ret
    exact ⟨rfl, a1⟩
  · rw [h3] at C1
    clear h3
    go_enter Tryd.func7, Tryd.ntmps7
    go_wp2_with (go_at_call 13; refine (C1.out _).mono ?_; rintro e w1 ⟨rfl, a1⟩)
    have A1 := hid a1; clear a1
    have C0 := hid (alive_true w1 (Ht.out.touch A1.out))
    go_wp2_with (go_at_call 8; refine C0.out.mono ?_; rintro e w2 ⟨rfl, a2⟩)
    go_ret
    exact ⟨rfl, A1.out.trans a2 (by simp)⟩
  all_goals
    rw [h3] at C1
    rw [h4] at C2
    clear h3 h4
    go_enter Tryd.func7, Tryd.ntmps7
    go_wp2_with (first | (go_at_call 13; refine (C1.out _).mono ?_; rintro e w1 ⟨rfl, a1⟩; have C1 := True.intro) | (go_at_call 13; refine (C2.out _).mono ?_; rintro e w2 ⟨rfl, a2⟩))
    have A1 : Hid (Touch [] w w2) := a1.trans a2 (by simp)
    clear a1 a2
    have C0 := hid (alive_true w2 (Ht.out.touch A1.out))
    go_wp2_with (go_at_call 8; refine C0.out.mono ?_; rintro e w3 ⟨rfl, a3⟩)
    go_ret
    exact ⟨rfl, A1.out.trans a3 (by simp)⟩

theorem itoa_inj {a b : Int} (ha : 0 ≤ a) (hb : 0 ≤ b) (h : itoa a = itoa b) : a = b := by
  unfold itoa at h
  rw [if_neg (by omega), if_neg (by omega)] at h
  have := congrArg dv h
  rw [dv_dec, dv_dec] at this
  omega
theorem linkB_inj {a b : Int} {s t : ByteArray} (ha : 0 ≤ a) (hb : 0 ≤ b) (h : linkB a s = linkB b t) : a = b ∧ s = t := by
  have h1 : itoa a ++ 64 :: s.data.toList = itoa b ++ 64 :: t.data.toList := by rw [← link_list, ← link_list, h]
  have h2 := congrArg (hdB 64) h1
  have h3 := congrArg (tlB 64) h1
  rw [(hd_link a _).1, (hd_link b _).1] at h2
  rw [(hd_link a _).2, (hd_link b _).2] at h3
  exact ⟨itoa_inj ha hb h2, by rw [← txt_self s, ← txt_self t, h3]⟩
theorem link_none (v : Int) (s : ByteArray) : strm (linkB v s).data.toList = false := by
  rw [Bool.eq_false_iff]
  intro h
  have := (strm_iff.1 h).2.2 64 (by rw [link_list]; simp)
  simp [okB] at this
theorem toList_ne {x y : ByteArray} (h : x ≠ y) : (x.toList == y.toList) = false := by
  rw [ByteArray.toList_eq, ByteArray.toList_eq, Bool.eq_false_iff]
  intro e
  exact h (by rw [← txt_self x, ← txt_self y, eq_of_beq e])

set_option maxHeartbeats 1000000 in
theorem walk_NameLinks (a : Int) (wa : (Lit.int .i64 a).wf = true) (b : Int) (wb : (Lit.int .i64 b).wf = true) (s : ByteArray) (_ws : s.size ≤ maxLen) (t : ByteArray) (_wt : t.size ≤ maxLen) (w : World) (htab : Tab w) :
    Calls Tryd.prog 7 #[.int .i64 a, .int .i64 b, .string s, .string t] w fun e w' => e = .returned (.bool true) ∧ Touch [] w w' := by
  obtain ⟨a0, a1⟩ := bounds_i64 wa
  obtain ⟨b0, b1⟩ := bounds_i64 wb
  by_cases g1 : (60 : Int) < s.size
  · exact links_early a b s t w htab (.inl g1)
  have h1 : (s.size : Int) ≤ 60 := by omega
  by_cases g2 : (60 : Int) < t.size
  · exact links_early a b s t w htab (.inr (.inl ⟨h1, g2⟩))
  have h2 : (t.size : Int) ≤ 60 := by omega
  by_cases g3 : strm s.data.toList = true
  rotate_left
  · exact links_early a b s t w htab (.inr (.inr (.inl ⟨h1, h2, by simpa using g3⟩)))
  by_cases g4 : strm t.data.toList = true
  rotate_left
  · exact links_early a b s t w htab (.inr (.inr (.inr (.inl ⟨h1, h2, g3, by simpa using g4⟩))))
  by_cases g5 : a < 0
  · exact links_early a b s t w htab (.inr (.inr (.inr (.inr (.inl ⟨h1, h2, g3, g4, g5⟩)))))
  have h5 : 0 ≤ a := by omega
  by_cases g6 : b < 0
  · exact links_early a b s t w htab (.inr (.inr (.inr (.inr (.inr ⟨h1, h2, g3, g4, h5, g6⟩)))))
  have h6 : 0 ≤ b := by omega
  have Ht := hid htab
  have C1 := hid (fun w => stm_any s w)
  have C2 := hid (fun w => stm_any t w)
  rw [g3] at C1
  rw [g4] at C2
  have C3 := hid (fun w h => link_any a s w a0 a1 (by omega) h)
  have C4 := hid (fun w h => link_any b t w b0 b1 (by omega) h)
  have C5 := hid (fun w => stm_any (linkB a s) w)
  rw [link_none] at C5
  have hinj := fun h : linkB a s = linkB b t => linkB_inj h5 h6 h
  have hcase : (linkB a s = linkB b t ∧ a = b ∧ s = t) ∨ (((linkB a s).toList == (linkB b t).toList) = false ∧ (a == b) = false) ∨ (((linkB a s).toList == (linkB b t).toList) = false ∧ a = b ∧ (s.toList == t.toList) = false) := by
    by_cases hab : a = b
    · by_cases hst : s = t
      · exact .inl ⟨by rw [hab, hst], hab, hst⟩
      · exact .inr (.inr ⟨toList_ne fun e => hst (hinj e).2, hab, toList_ne hst⟩)
    · exact .inr (.inl ⟨toList_ne fun e => hab (hinj e).1, by simpa using hab⟩)
  clear hinj
  generalize linkB a s = X at *
  generalize linkB b t = Y at *
  clear htab wa wb _ws _wt g1 g2 g3 g4 g5 g6 a0 a1 b0 b1
  have q5 : decide (a < 0) = false := by simpa using h5
  have q6 : decide (b < 0) = false := by simpa using h6
  clear h5 h6
  rcases hcase with ⟨q1, q2, q3⟩ | ⟨q1, q2⟩ | ⟨q1, q2, q3⟩
  · subst q1 q2 q3
    clear C2 C4
    go_enter Tryd.func7, Tryd.ntmps7
    go_wp2_with fail
    refine (C1.out _).mono ?_
    rintro e w1 ⟨rfl, a1⟩
    go_wp2_with fail
    refine (C1.out _).mono ?_
    rintro e w2 ⟨rfl, a2⟩
    have A2 : Hid (Touch [] w w2) := a1.trans a2 (by simp)
    clear a1 a2
    have C6 := hid (C3.out w2 (Ht.out.touch A2.out))
    go_wp2_with fail
    refine C6.out.mono ?_
    rintro e w3 ⟨rfl, a3⟩
    have A3 : Hid (Touch [] w w3) := A2.out.trans a3 (by simp)
    clear a3 C6
    have C7 := hid (C3.out w3 (Ht.out.touch A3.out))
    go_wp2_with fail
    refine C7.out.mono ?_
    rintro e w4 ⟨rfl, a4⟩
    have A4 : Hid (Touch [] w w4) := A3.out.trans a4 (by simp)
    clear a4 C7 C1
    have C0 := hid (alive_true w4 (Ht.out.touch A4.out))
    go_wp2_with (first | (go_at_call 8; refine C0.out.mono ?_; rintro e w5 ⟨rfl, a5⟩) | (go_at_call 13; refine (C5.out _).mono ?_; rintro e w6 ⟨rfl, a6⟩))
    go_ret
    exact ⟨rfl, (A4.out.trans a5 (by simp)).trans a6 (by simp)⟩
  · go_enter Tryd.func7, Tryd.ntmps7
    go_wp2_with fail
    refine (C1.out _).mono ?_
    rintro e w1 ⟨rfl, a1⟩
    go_wp2_with fail
    refine (C2.out _).mono ?_
    rintro e w2 ⟨rfl, a2⟩
    have A2 : Hid (Touch [] w w2) := a1.trans a2 (by simp)
    clear a1 a2 C2
    have C6 := hid (C3.out w2 (Ht.out.touch A2.out))
    go_wp2_with fail
    refine C6.out.mono ?_
    rintro e w3 ⟨rfl, a3⟩
    have A3 : Hid (Touch [] w w3) := A2.out.trans a3 (by simp)
    clear a3 C6
    have C7 := hid (C4.out w3 (Ht.out.touch A3.out))
    go_wp2_with fail
    refine C7.out.mono ?_
    rintro e w4 ⟨rfl, a4⟩
    have A4 : Hid (Touch [] w w4) := A3.out.trans a4 (by simp)
    clear a4 C7 C1
    have C0 := hid (alive_true w4 (Ht.out.touch A4.out))
    go_wp2_with (first | (go_at_call 8; refine C0.out.mono ?_; rintro e w5 ⟨rfl, a5⟩) | (go_at_call 13; refine (C5.out _).mono ?_; rintro e w6 ⟨rfl, a6⟩))
    go_ret
    exact ⟨rfl, (A4.out.trans a5 (by simp)).trans a6 (by simp)⟩
  · subst q2
    go_enter Tryd.func7, Tryd.ntmps7
    go_wp2_with fail
    refine (C1.out _).mono ?_
    rintro e w1 ⟨rfl, a1⟩
    go_wp2_with fail
    refine (C2.out _).mono ?_
    rintro e w2 ⟨rfl, a2⟩
    have A2 : Hid (Touch [] w w2) := a1.trans a2 (by simp)
    clear a1 a2 C2
    have C6 := hid (C3.out w2 (Ht.out.touch A2.out))
    go_wp2_with fail
    refine C6.out.mono ?_
    rintro e w3 ⟨rfl, a3⟩
    have A3 : Hid (Touch [] w w3) := A2.out.trans a3 (by simp)
    clear a3 C6
    have C7 := hid (C4.out w3 (Ht.out.touch A3.out))
    go_wp2_with fail
    refine C7.out.mono ?_
    rintro e w4 ⟨rfl, a4⟩
    have A4 : Hid (Touch [] w w4) := A3.out.trans a4 (by simp)
    clear a4 C7 C1
    have C0 := hid (alive_true w4 (Ht.out.touch A4.out))
    go_wp2_with (first | (go_at_call 8; refine C0.out.mono ?_; rintro e w5 ⟨rfl, a5⟩) | (go_at_call 13; refine (C5.out _).mono ?_; rintro e w6 ⟨rfl, a6⟩))
    go_ret
    exact ⟨rfl, (A4.out.trans a5 (by simp)).trans a6 (by simp)⟩
end Go.Proofs.YtjkkecmidegooaaDoor
