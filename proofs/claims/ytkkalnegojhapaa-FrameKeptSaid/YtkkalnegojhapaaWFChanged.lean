/- FrameChanged, walked. -/
import Derived.Test.YtkkalnegojhapaaRw8
namespace Go.Proofs.Ytkkalnegojhapaa
open Go.RowKit Go.Lib Go.ChangeShapes
set_option maxRecDepth 100000

theorem fchanged_early (s : ByteArray) (at_ b : Int) (w : World) (h : (3000 : Int) < s.size ∨ ((s.size : Int) ≤ 3000 ∧ at_ < 0) ∨ ((s.size : Int) ≤ 3000 ∧ 0 ≤ at_ ∧ b % 256 = 0)) :
    Calls Try.prog 5 #[.string s, .int .i64 at_, .int .i64 b] w fun e w' => e = .returned (.bool true) ∧ Touch [] w w' := by
  have C0 := hid (alive8_true w)
  rcases h with h1 | ⟨h1, h2⟩ | ⟨h1, h2, h3⟩
  all_goals
    go_enter Try.func5, Try.ntmps5
    go_wp2_with (go_at_call 8; refine C0.out.mono ?_; rintro e w1 ⟨rfl, a1⟩)
    go_ret
    exact ⟨rfl, a1⟩

set_option maxHeartbeats 2000000 in
theorem fchanged_full (s t : ByteArray) (at_ i : Nat) (c d : UInt8) (b : Int) (w : World) (h1 : (s.size : Int) ≤ 3000) (h2 : (at_ : Int) ≤ 9223372036854775807) (HT : Hid (t = frB s))
    (hmod : (at_ : Int) % (t.size : Int) = (i : Int)) (hi : i < t.data.toList.length) (hc : Hid (∀ h : i < t.data.toList.length, t.data.toList[i] = c)) (hd : b % 256 = (d.toNat : Int)) (hd0 : d ≠ 0) :
    Calls Try.prog 5 #[.string s, .int .i64 at_, .int .i64 b] w fun e w' => e = .returned (.bool true) ∧ Touch [] w w' := by
  have h0 : (0 : Int) ≤ at_ := by omega
  obtain ⟨hB, hE, hZ⟩ := frB_ok (s := s) (by omega)
  have C1 := hid (fun w => frPut_any s w (by omega))
  rw [← HT.out, hE] at C1
  rw [← HT.out] at hB hZ
  have hts : (t.size : Int) = s.size + 12 := by omega
  have CV := hid fun (w1 : World) => conv_rw t w1
  have q0 : ((t.size : Int) != (s.size : Int) + 12) = false := by rw [bne_eq_false_iff_eq]; exact hts
  have t4 : (12 : Int) ≤ t.size := by omega
  have tM : (t.size : Int) ≤ 4000 := by omega
  have Hi : Hid (i < t.data.toList.length) := hi
  have hi2 : (i : Int) < t.size := by rw [list_len] at hi; omega
  have hx : bits .xor .u8 (c.toNat : Int) (d.toNat : Int) = ((c ^^^ d).toNat : Int) := xor_u8 c d
  have hne : Hid (c ^^^ d ≠ c) := fun e => hd0 (by
    have h5 : c ^^^ (c ^^^ d) = c ^^^ c := by rw [e]
    rw [← UInt8.xor_assoc, UInt8.xor_self, UInt8.zero_xor] at h5
    exact h5)
  have hdb : decide (d.toNat = 0) = false := by
    rw [decide_eq_false_iff_not]
    intro e
    exact hd0 (UInt8.toNat_inj.1 e)
  have hdq : ((d.toNat : Int) == 0) = false := by
    rw [Bool.eq_false_iff]; intro e
    have := eq_of_beq e
    exact hd0 (UInt8.toNat_inj.1 (by show d.toNat = 0; omega))
  have HB := hid hB
  clear hts hi hE hZ hB
  generalize c ^^^ d = c2 at *
  obtain ⟨t2, ht2⟩ : ∃ t2 : ByteArray, t2 = ⟨(t.data.toList.set i c2).toArray⟩ := ⟨_, rfl⟩
  have ht2l : t2.data.toList = (frL s.data.toList).set i c2 := by rw [ht2, ← HB.out]
  have hz2 : t2.size = t.size := by rw [ht2]; exact set_size t i c2
  have C3 := hid (fun w => frFirst_any t2 w (by omega))
  have C4 := hid (fun w => frLast_any t2 w (by omega))
  unfold FirstV at C3
  unfold LastV at C4
  rw [ht2l] at C3 C4
  have hcl : ∀ h : i < (frL s.data.toList).length, c2 ≠ (frL s.data.toList)[i] := fun h e => hne.out (by
    have h5 := hc.out Hi.out
    rw [e, ← h5]
    simp only [HB.out])
  have hil : i < (frL s.data.toList).length := by rw [← HB.out]; exact Hi.out
  have F1 : ((firstOf ((frL s.data.toList).set i c2)).2.2 != 0) = true ∨ (((firstOf ((frL s.data.toList).set i c2)).2.2 != 0) = false ∧ ((bytesT (firstOf ((frL s.data.toList).set i c2)).1).toList == s.toList) = false) := by
    by_cases e : (firstOf ((frL s.data.toList).set i c2)).2.2 = 0
    · exact .inr ⟨by simpa using e, txt_ne (by simpa [bytesT] using first_changed hil (hcl hil) e)⟩
    · exact .inl (by simpa using e)
  have F2 : ((lastOf ((frL s.data.toList).set i c2)).2.2 != 0) = true ∨ (((lastOf ((frL s.data.toList).set i c2)).2.2 != 0) = false ∧ ((bytesT (lastOf ((frL s.data.toList).set i c2)).1).toList == s.toList) = false) := by
    by_cases e : (lastOf ((frL s.data.toList).set i c2)).2.2 = 0
    · exact .inr ⟨by simpa using e, txt_ne (by simpa [bytesT] using last_changed hil (hcl hil) e)⟩
    · exact .inl (by simpa using e)
  generalize firstOf ((frL s.data.toList).set i c2) = R1 at *
  generalize lastOf ((frL s.data.toList).set i c2) = R2 at *
  generalize bytesT R1.1 = X1 at *
  generalize bytesT R2.1 = X2 at *
  have HT2 := hid ht2
  clear ht2 ht2l hcl hil HB hne
  go_enter Try.func5, Try.ntmps5
  go_upto_region 6 with (go_at_call 9; refine (C1.out _).mono ?_; rintro e w1 ⟨rfl, a1⟩)
  obtain ⟨W, cp, HW, hconv, hback⟩ := CV.out w1
  clear hback
  have HR : Hid (Rw W w1.heap.size cp t.data.toList) := HW.out.2
  have HTW : Hid (Touch [] w W) := a1.trans HW.out.1 (by simp)
  have hg : Hid (w.heap.size ≤ w1.heap.size) := a1.size
  have c0 := HR.out.cell i Hi.out
  have f0 := HR.out.free i Hi.out
  rw [hc.out Hi.out] at c0
  clear a1 HW CV
  generalize w1.heap.size = g at *
  obtain ⟨w3, hw3⟩ : ∃ w3, w3 = W.setCell ⟨g, i, none⟩ (.int .u8 (c2.toNat : Int)) := ⟨_, rfl⟩
  have HR3 : Hid (Rw w3 g cp (t.data.toList.set i c2)) := by rw [hw3]; exact HR.out.put i c2
  have HT3 : Hid (Touch [] w w3) := by rw [hw3]; exact HTW.out.setCell (.inr hg.out) _
  go_upto_region 8 with fail
  rw [← hw3]
  clear hw3 c0 f0 hconv
  have hb3 := HR3.out.back t.size (by rw [List.length_set, list_len])
  rw [← HT2.out] at hb3
  go_wp2_with fail
  refine (C3.out _).mono ?_
  rintro e w4 ⟨rfl, a4⟩
  have hb4 := (HR3.out.touch a4).back t.size (by rw [List.length_set, list_len])
  rw [← HT2.out] at hb4
  clear hb3
  go_wp2_with fail
  refine (C4.out _).mono ?_
  rintro e w5 ⟨rfl, a5⟩
  clear hb4
  have HT5 : Hid (Touch [] w w5) := (HT3.out.trans a4 (by simp)).trans a5 (by simp)
  have C9 := hid (alive8_true w5)
  clear q0 t4 tM hmod hi2 h0 h1 h2 hx a4 a5 hz2 HR3 HR
  rcases F1 with F1 | ⟨F1, G1⟩
  all_goals
    rcases F2 with F2 | ⟨F2, G2⟩
    all_goals
      go_wp2_with (go_at_call 8; refine C9.out.mono ?_; rintro e w6 ⟨rfl, a6⟩)
      go_ret
      exact ⟨by first | rfl | simp [G1] | simp [G2] | simp [G1, G2], HT5.out.trans a6 (by simp)⟩

theorem i64_range {x : Int} (h : (Lit.int .i64 x).wf = true) : -9223372036854775808 ≤ x ∧ x ≤ 9223372036854775807 := by
  have e1 : IntKind.i64.min = -9223372036854775808 := rfl
  have e2 : IntKind.i64.max = 9223372036854775807 := rfl
  simp only [Lit.wf, e1, e2, Bool.and_eq_true, decide_eq_true_eq] at h
  exact h
theorem walk_FrameChanged (s : ByteArray) (_ws : s.size ≤ maxLen) (x : Int) (wx : (Lit.int .i64 x).wf = true) (y : Int) (_wy : (Lit.int .i64 y).wf = true) (w : World) :
    Calls Try.prog 5 #[.string s, .int .i64 x, .int .i64 y] w fun e w' => e = .returned (.bool true) ∧ Touch [] w w' := by
  by_cases h1 : (3000 : Int) < s.size
  · exact fchanged_early s x y w (.inl h1)
  by_cases h2 : x < 0
  · exact fchanged_early s x y w (.inr (.inl ⟨by omega, h2⟩))
  by_cases h3 : y % 256 = 0
  · exact fchanged_early s x y w (.inr (.inr ⟨by omega, by omega, h3⟩))
  obtain ⟨_, b2⟩ := i64_range wx
  obtain ⟨m, rfl⟩ := Int.eq_ofNat_of_zero_le (show 0 ≤ x by omega)
  obtain ⟨_, _, hZ⟩ := frB_ok (s := s) (by omega)
  have hml : m % (frB s).size < (frB s).data.toList.length := by rw [list_len]; exact Nat.mod_lt _ (by omega)
  have hdd : y % 256 = ((UInt8.ofNat (y % 256).toNat).toNat : Int) := by rw [UInt8.toNat_ofNat']; omega
  refine fchanged_full s (frB s) m (m % (frB s).size) (frB s).data.toList[m % (frB s).size] (UInt8.ofNat (y % 256).toNat) y w (by omega) (by omega) rfl (by omega) hml (fun _ => rfl) hdd ?_
  intro e
  rw [e] at hdd
  exact h3 (by rw [hdd]; rfl)
end Go.Proofs.Ytkkalnegojhapaa
