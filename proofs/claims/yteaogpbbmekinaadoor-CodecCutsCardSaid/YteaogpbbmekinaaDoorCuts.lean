/- The walk of CodecCuts. -/
import Derived.Test.YteaogpbbmekinaaDoorAlive
import Derived.Test.YteaogpbbmekinaaDoorFacts
namespace Go.Proofs.YteaogpbbmekinaaDoor
open Go.RowKit Go.Lib

theorem cuts_early (s : ByteArray) (cut : Int) (w : World) (htab : Tab w) (h : 1000 < s.size ∨ cut < 0 ∨ (s.size : Int) + 4 ≤ cut) :
    Calls Tryd.prog 10 #[.string s, .int .i64 cut] w fun e w' => e = .returned (.bool true) ∧ Touch [] w w' := by
  have C0 := hid (alive_true w htab)
  clear htab
  by_cases h0 : 1000 < s.size
  · have h1 : (1000 : Int) < s.size := by omega
    clear h h0
    go_enter Tryd.func10, Tryd.ntmps10
    go_wp2_with (go_at_call 14; refine C0.out.mono ?_; rintro e w1 ⟨rfl, a1⟩)
    go_ret
    exact ⟨rfl, a1⟩
  · have h1 : (s.size : Int) ≤ 1000 := by omega
    by_cases h2 : cut < 0
    · clear h h0
      go_enter Tryd.func10, Tryd.ntmps10
      go_wp2_with (go_at_call 14; refine C0.out.mono ?_; rintro e w1 ⟨rfl, a1⟩)
      go_ret
      exact ⟨rfl, a1⟩
    · have h3 : 0 ≤ cut := by omega
      have h4 : (s.size : Int) + 4 ≤ cut := by omega
      clear h h0 h2
      go_enter Tryd.func10, Tryd.ntmps10
      go_wp2_with (go_at_call 14; refine C0.out.mono ?_; rintro e w1 ⟨rfl, a1⟩)
      go_ret
      exact ⟨rfl, a1⟩

theorem cuts_full (s T : ByteArray) (cut : Nat) (w : World) (htab : Tab w) (h1 : (s.size : Int) ≤ 1000) (h2 : (cut : Int) < s.size + 4) (hT : T = ⟨(be 4 s.size ++ s.data.toList).toArray⟩) :
    Calls Tryd.prog 10 #[.string s, .int .i64 cut] w fun e w' => e = .returned (.bool true) ∧ Touch [] w w' := by
  have C0 := hid (alive_true w htab)
  have hTd : T.data.toList = be 4 s.size ++ s.data.toList := by rw [hT]
  have hTi : (T.size : Int) = s.size + 4 := by rw [← list_len, hTd, List.length_append, be_length, list_len]; omega
  have hD : Hid (pDone (pText ([], 0) s.data.toList) = .tuple #[.string T, .int .i64 0]) := by
    unfold Hid
    rw [text_new _ (by rw [list_len]; omega), list_len, hT]
    simp [pDone]
  have hX : Hid (iText ((T.extract 0 cut).data.toList, 0) 5000 = ([], ([], 5))) := by
    unfold Hid
    have := text_cut s.data.toList cut (by rw [list_len]; omega) (by rw [list_len]; omega) 5000 (by rw [list_len]; omega)
    rw [list_len] at this
    rw [extract_data, List.drop_zero, Nat.sub_zero, hTd]
    exact this
  have hE : Hid (((T.extract 0 cut).data.toList, (0 : Int)).1.length ≤ 281474976710656) := by
    show (T.extract 0 cut).data.toList.length ≤ _
    rw [extract_data, List.length_take]; omega
  have h3 : (0 : Int) ≤ cut := by omega
  have h4 : (cut : Int) ≤ T.size := by omega
  clear htab hT hTd
  have hTb : ((T.size : Int) != s.size + 4) = false := by rw [hTi]; simp
  clear hTi
  go_enter Tryd.func10, Tryd.ntmps10
  go_wp2_with (go_at_call 14; refine C0.out.mono ?_; rintro e w1 ⟨rfl, a1⟩)
  have A1 := hid a1; clear a1
  have C1 := hid (text_st _ _ _ s _ (outIs_new w1) (by decide))
  go_wp2_with (go_at_call 24; refine C1.out.mono ?_; rintro e w2 ⟨rfl, hp⟩)
  obtain ⟨F1, b1, b2, b3⟩ := StPost.new hp
  have C2 := hid (done_st _ F1 _ _ b1)
  rw [hD.out] at C2
  have A2 : Hid (Touch [] w w2) := A1.out.trans b2 (by simp)
  clear b1 b2 b3 hp
  go_wp2_with (go_at_call 26; refine C2.out.mono ?_; rintro e w3 ⟨rfl, n, rfl⟩)
  have A3 : Hid (Touch [] w (w2.drewN n)) := A2.out.drewN n
  generalize w2.drewN n = w3 at *
  have C3 := hid (newIn_any (T.extract 0 cut) w3)
  go_wp2_with (go_at_call 29; refine C3.out.mono ?_; rintro e w4 ⟨rfl, c1, c2⟩)
  have C4 := hid (inText_st _ _ 5000 _ c1 hE.out)
  rw [hX.out] at C4
  have A4 : Hid (Touch [] w w4) := A3.out.trans c2 (by simp)
  have hsz : Hid (w.heap.size ≤ w3.heap.size) := A3.out.size
  clear c1 c2
  go_wp2_with (go_at_call 38; refine C4.out.mono ?_; rintro e w5 ⟨rfl, d1, d2⟩)
  have C5 := hid (err_st _ _ _ d1)
  have C6 := hid (left_st _ _ _ d1)
  have C7 := hid (end_st _ _ _ d1)
  have he : iEnd (([] : List UInt8), 5) = ([], 5) := by simp [iEnd]
  rw [he] at C7
  clear he
  have A5 : Hid (Touch [] w w5) := A4.out.trans d2 (by intro x hx; simp at hx; subst hx; right; exact hsz.out)
  clear d1 d2
  go_wp2_with (first | (go_at_call 40; refine C5.out.mono ?_; rintro e w6 ⟨rfl, rfl⟩) | (go_at_call 41; refine C6.out.mono ?_; rintro e w6 ⟨rfl, rfl⟩) | (go_at_call 42; refine C7.out.mono ?_; rintro e w6 ⟨rfl, e1, e2⟩))
  have A6 : Hid (Touch [] w w6) := A5.out.trans e2 (by intro x hx; simp at hx; subst hx; right; exact hsz.out)
  go_ret
  exact ⟨rfl, A6.out⟩

theorem walk_CodecCuts (s : ByteArray) (_ws : s.size ≤ maxLen) (cut : Int) (_wc : (Lit.int .i64 cut).wf = true) (w : World) (htab : Tab w) :
    Calls Tryd.prog 10 #[.string s, .int .i64 cut] w fun e w' => e = .returned (.bool true) ∧ Touch [] w w' := by
  by_cases h : 1000 < s.size ∨ cut < 0 ∨ (s.size : Int) + 4 ≤ cut
  · exact cuts_early s cut w htab h
  · obtain ⟨n, rfl⟩ := Int.eq_ofNat_of_zero_le (show 0 ≤ cut by omega)
    exact cuts_full s _ n w htab (by omega) (by omega) rfl
end Go.Proofs.YteaogpbbmekinaaDoor
