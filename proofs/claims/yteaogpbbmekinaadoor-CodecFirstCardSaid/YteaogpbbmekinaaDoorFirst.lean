/- The walk of CodecFirst. -/
import Derived.Test.YteaogpbbmekinaaDoorAlive
import Derived.Test.YteaogpbbmekinaaDoorFacts
namespace Go.Proofs.YteaogpbbmekinaaDoor
open Go.RowKit Go.Lib

theorem first_early (n : Int) (s b : ByteArray) (w : World) (htab : Tab w) (h : (0 ≤ n ∧ n ≤ 255) ∨ 300 < s.size ∨ b.size < 5 ∨ 300 < b.size) :
    Calls Tryd.prog 8 #[.int .i64 n, .string s, .string b] w fun e w' => e = .returned (.bool true) ∧ Touch [] w w' := by
  have C0 := hid (alive_true w htab)
  clear htab
  by_cases h0 : 0 ≤ n ∧ n ≤ 255
  · obtain ⟨h1, h2⟩ := h0
    clear h
    go_enter Tryd.func8, Tryd.ntmps8
    go_wp2_with (go_at_call 14; refine C0.out.mono ?_; rintro e w1 ⟨rfl, a1⟩)
    go_ret
    exact ⟨rfl, a1⟩
  · have hr : 300 < s.size ∨ (s.size ≤ 300 ∧ b.size < 5) ∨ (s.size ≤ 300 ∧ 300 < b.size) := by omega
    have hn : n < 0 ∨ (0 ≤ n ∧ 255 < n) := by omega
    clear h h0
    rcases hn with hn | ⟨hn, hn2⟩
    all_goals
      rcases hr with hr | ⟨hr2, hr⟩ | ⟨hr2, hr⟩
    · have q1 : (300 : Int) < s.size := by omega
      clear hr
      go_enter Tryd.func8, Tryd.ntmps8
      go_wp2_with (go_at_call 14; refine C0.out.mono ?_; rintro e w1 ⟨rfl, a1⟩)
      go_ret
      exact ⟨rfl, a1⟩
    · have q1 : (s.size : Int) ≤ 300 := by omega
      have q2 : (b.size : Int) < 5 := by omega
      clear hr hr2
      go_enter Tryd.func8, Tryd.ntmps8
      go_wp2_with (go_at_call 14; refine C0.out.mono ?_; rintro e w1 ⟨rfl, a1⟩)
      go_ret
      exact ⟨rfl, a1⟩
    · have q1 : (s.size : Int) ≤ 300 := by omega
      have q2 : (5 : Int) ≤ b.size := by omega
      have q3 : (300 : Int) < b.size := by omega
      clear hr hr2
      go_enter Tryd.func8, Tryd.ntmps8
      go_wp2_with (go_at_call 14; refine C0.out.mono ?_; rintro e w1 ⟨rfl, a1⟩)
      go_ret
      exact ⟨rfl, a1⟩
    · have q1 : (300 : Int) < s.size := by omega
      clear hr
      go_enter Tryd.func8, Tryd.ntmps8
      go_wp2_with (go_at_call 14; refine C0.out.mono ?_; rintro e w1 ⟨rfl, a1⟩)
      go_ret
      exact ⟨rfl, a1⟩
    · have q1 : (s.size : Int) ≤ 300 := by omega
      have q2 : (b.size : Int) < 5 := by omega
      clear hr hr2
      go_enter Tryd.func8, Tryd.ntmps8
      go_wp2_with (go_at_call 14; refine C0.out.mono ?_; rintro e w1 ⟨rfl, a1⟩)
      go_ret
      exact ⟨rfl, a1⟩
    · have q1 : (s.size : Int) ≤ 300 := by omega
      have q2 : (5 : Int) ≤ b.size := by omega
      have q3 : (300 : Int) < b.size := by omega
      clear hr hr2
      go_enter Tryd.func8, Tryd.ntmps8
      go_wp2_with (go_at_call 14; refine C0.out.mono ?_; rintro e w1 ⟨rfl, a1⟩)
      go_ret
      exact ⟨rfl, a1⟩

/-- What is said of the sign of n: in both ways the walk is the same. -/
theorem first_full (n : Int) (s b : ByteArray) (w : World) (htab : Tab w) (hn : n < 0 ∨ (0 ≤ n ∧ 255 < n)) (q1 : (s.size : Int) ≤ 300) (q2 : (5 : Int) ≤ b.size) (q3 : (b.size : Int) ≤ 300) :
    Calls Tryd.prog 8 #[.int .i64 n, .string s, .string b] w fun e w' => e = .returned (.bool true) ∧ Touch [] w w' := by
  have C0 := hid (alive_true w htab)
  have q4 : b.size ≤ 300 := by omega
  have hS : Hid (((⟨#[0, 0, 0, 9]⟩ : ByteArray) ++ b).data.toList = 0 :: 0 :: 0 :: 9 :: b.data.toList) := by unfold Hid; simp
  have hu : Hid (pSmall 1 ([], 0) n = ([], 1)) := by
    unfold Hid pSmall
    rw [if_pos (by simp; omega)]; simp [pFail]
  have ht : Hid (pText ([], 1) s.data.toList = ([], 1)) := by
    unfold Hid pText
    rw [if_neg (by rw [list_len]; omega)]; simp [pPut]
  have hx : Hid (iText (0 :: 0 :: 0 :: 9 :: b.data.toList, 0) 8 = ([], ([], 2))) := by
    unfold Hid iText
    rw [iTake_good _ 4 (by simp), if_pos ⟨rfl, by simp [val]⟩]
  have hl : Hid (((0 :: 0 :: 0 :: 9 :: b.data.toList, (0 : Int)) : List UInt8 × Int).1.length ≤ 281474976710656) := by
    show (0 :: 0 :: 0 :: 9 :: b.data.toList).length ≤ _
    simp; omega
  clear htab
  rcases hn with hn | ⟨hn, hn2⟩
  all_goals
    go_enter Tryd.func8, Tryd.ntmps8
    go_wp2_with (go_at_call 14; refine C0.out.mono ?_; rintro e w1 ⟨rfl, a1⟩)
    have A1 := hid a1; clear a1
    have C1 := hid (u8_st _ _ _ n _ (outIs_new w1) (by decide))
    rw [hu.out] at C1
    go_wp2_with (go_at_call 15; refine C1.out.mono ?_; rintro e w2 ⟨rfl, hp⟩)
    obtain ⟨F1, b1, b2, b3⟩ := StPost.new hp
    have C2 := hid (text_st _ F1 _ s _ b1 (by decide))
    rw [ht.out] at C2
    have A2 : Hid (Touch [] w w2) := A1.out.trans b2 (by simp)
    have A2' : Hid (∀ f ∈ F1, f ∈ ([] : List Nat) ∨ w.heap.size ≤ f) := fun f hf => .inr (Nat.le_trans A1.out.size (b3 f hf))
    clear b1 b2 b3 hp
    go_wp2_with (go_at_call 24; refine C2.out.mono ?_; rintro e w3 ⟨rfl, hp⟩)
    obtain ⟨F2, b1, b2, b3⟩ := hp
    have C3 := hid (u64_st _ F2 _ 7 _ b1 (by decide))
    have A3 : Hid (Touch [] w w3) := A2.out.trans b2 A2'.out
    have A3' : Hid (∀ f ∈ F2, f ∈ ([] : List Nat) ∨ w.heap.size ≤ f) := fun f hf => by
      rcases b3 f hf with h | h
      · exact A2'.out f h
      · exact .inr (Nat.le_trans A2.out.size h)
    clear b1 b2 b3
    go_wp2_with (go_at_call 18; refine C3.out.mono ?_; rintro e w4 ⟨rfl, hp⟩)
    obtain ⟨F3, b1, b2, b3⟩ := hp
    have C4 := hid (done_st _ F3 _ _ b1)
    have hd : pDone (pPut ([], 1) (be 8 7)) = .tuple #[.string ⟨#[]⟩, .int .i64 1] := by simp [pPut, pDone]
    rw [hd] at C4
    have A4 : Hid (Touch [] w w4) := A3.out.trans b2 A3'.out
    clear b1 b2 b3 hd
    go_wp2_with (go_at_call 26; refine C4.out.mono ?_; rintro e w5 ⟨rfl, m, rfl⟩)
    have A5 : Hid (Touch [] w (w4.drewN m)) := A4.out.drewN m
    generalize w4.drewN m = w5 at *
    have C5 := hid (newIn_any ((⟨#[0, 0, 0, 9]⟩ : ByteArray) ++ b) w5)
    go_wp2_with (go_at_call 29; refine C5.out.mono ?_; rintro e w6 ⟨rfl, c1, c2⟩)
    rw [hS.out] at c1
    have C6 := hid (inText_st _ _ 8 _ c1 hl.out)
    rw [hx.out] at C6
    have A6 : Hid (Touch [] w w6) := A5.out.trans c2 (by simp)
    have hsz : Hid (w.heap.size ≤ w5.heap.size) := A5.out.size
    clear c1 c2
    go_wp2_with (go_at_call 38; refine C6.out.mono ?_; rintro e w7 ⟨rfl, d1, d2⟩)
    have A7 : Hid (Touch [] w w7) := A6.out.trans d2 (by intro x hx; simp at hx; subst hx; right; exact hsz.out)
    have C7 := hid (err_st _ _ _ d1)
    have C8 := hid (inU8_st _ _ _ d1)
    have h8 : val (iTake (([] : List UInt8), 2) 1).1 = 0 ∧ (iTake (([] : List UInt8), 2) 1).2 = ([], 2) := by decide
    rw [h8.1, h8.2] at C8
    clear d1 d2 h8
    go_wp2_with (first | (go_at_call 40; refine C7.out.mono ?_; rintro e w8 ⟨rfl, rfl⟩) | (go_at_call 30; refine C8.out.mono ?_; rintro e w8 ⟨rfl, d1, d2⟩))
    have A8 : Hid (Touch [] w w8) := A7.out.trans d2 (by intro x hx; simp at hx; subst hx; right; exact hsz.out)
    have C9 := hid (inText_st _ _ 900 _ d1 (by decide))
    have h9 : iText (([] : List UInt8), 2) 900 = ([], ([], 2)) := by decide
    rw [h9] at C9
    clear d1 d2 h9
    go_wp2_with (go_at_call 38; refine C9.out.mono ?_; rintro e w9 ⟨rfl, d1, d2⟩)
    have A9 : Hid (Touch [] w w9) := A8.out.trans d2 (by intro x hx; simp at hx; subst hx; right; exact hsz.out)
    have C10 := hid (end_st _ _ _ d1)
    have h10 : iEnd (([] : List UInt8), 2) = ([], 2) := by decide
    rw [h10] at C10
    clear d1 d2 h10
    go_wp2_with (go_at_call 42; refine C10.out.mono ?_; rintro e w10 ⟨rfl, d1, d2⟩)
    have A10 : Hid (Touch [] w w10) := A9.out.trans d2 (by intro x hx; simp at hx; subst hx; right; exact hsz.out)
    have C11 := hid (left_st _ _ _ d1)
    clear d1 d2
    go_wp2_with (go_at_call 41; refine C11.out.mono ?_; rintro e w11 ⟨rfl, rfl⟩)
    go_ret
    exact ⟨rfl, A10.out⟩

theorem walk_CodecFirst (n : Int) (_wn : (Lit.int .i64 n).wf = true) (s : ByteArray) (_ws : s.size ≤ maxLen) (b : ByteArray) (_wb : b.size ≤ maxLen) (w : World) (htab : Tab w) :
    Calls Tryd.prog 8 #[.int .i64 n, .string s, .string b] w fun e w' => e = .returned (.bool true) ∧ Touch [] w w' := by
  by_cases h : (0 ≤ n ∧ n ≤ 255) ∨ 300 < s.size ∨ b.size < 5 ∨ 300 < b.size
  · exact first_early n s b w htab h
  · exact first_full n s b w htab (by omega) (by omega) (by omega) (by omega)
end Go.Proofs.YteaogpbbmekinaaDoor
