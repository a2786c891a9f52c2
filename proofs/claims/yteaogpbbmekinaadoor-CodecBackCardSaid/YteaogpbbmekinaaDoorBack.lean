/- The walk of CodecBack. -/
import Derived.Test.YteaogpbbmekinaaDoorAlive
import Derived.Test.YteaogpbbmekinaaDoorFloat
import Derived.OpenShut
namespace Go.Proofs.YteaogpbbmekinaaDoor
open Go.RowKit Go.Lib Go.ChangeShapes

theorem back_early (a b : Int) (u : Nat) (v : Int) (bits : Nat) (s : ByteArray) (w : World) (htab : Tab w)
    (h : a < 0 ∨ (0 ≤ a ∧ 255 < a) ∨ (0 ≤ a ∧ a ≤ 255 ∧ b < 0) ∨ (0 ≤ a ∧ a ≤ 255 ∧ 0 ≤ b ∧ 4294967295 < b) ∨ (0 ≤ a ∧ a ≤ 255 ∧ 0 ≤ b ∧ b ≤ 4294967295 ∧ (1000 : Int) < s.size)) :
    Calls Tryd.prog 7 #[.int .i64 a, .int .i64 b, .int .u64 u, .int .i64 v, .int .u64 bits, .string s] w fun e w' => e = .returned (.bool true) ∧ Touch [] w w' := by
  have C0 := hid (alive_true w htab)
  clear htab
  rcases h with h1 | ⟨h1, h2⟩ | ⟨h1, h2, h3⟩ | ⟨h1, h2, h3, h4⟩ | ⟨h1, h2, h3, h4, h5⟩
  all_goals
    go_enter Tryd.func7, Tryd.ntmps7
    go_wp2_with (go_at_call 14; refine C0.out.mono ?_; rintro e w1 ⟨rfl, a1⟩)
    go_ret
    exact ⟨rfl, a1⟩

theorem OutIs.next {o : Nat} {F : List Nat} {st : List UInt8 × Int} {w w2 w' : World} (h : StPost o F st w2 w') (A : Touch [] w w2) (hF : ∀ f ∈ F, w.heap.size ≤ f) :
    ∃ F', OutIs w' o F' st ∧ Touch [] w w' ∧ ∀ f ∈ F', w.heap.size ≤ f := by
  obtain ⟨F', h1, h2, h3⟩ := h
  refine ⟨F', h1, A.trans h2 (fun x hx => .inr (hF x hx)), fun f hf => ?_⟩
  rcases h3 f hf with h4 | h4
  · exact hF f h4
  · exact Nat.le_trans A.size h4

set_option maxRecDepth 100000 in
set_option maxHeartbeats 1000000 in
theorem back_full (a b : Nat) (u : Nat) (v : Int) (bits : Nat) (s T : ByteArray) (L1 L2 L3 L4 L5 R1 R2 R3 R4 R5 x1 x2 x3 x4 x5 : List UInt8) (w : World) (htab : Tab w)
    (h1 : (a : Int) ≤ 255) (h2 : (b : Int) ≤ 4294967295) (h3 : (s.size : Int) ≤ 1000)
    (f1 : Hid (pSmall 1 ([], 0) a = (L1, 0) ∧ L1.length ≤ 5000)) (f2 : Hid (pSmall 4 (L1, 0) b = (L2, 0) ∧ L2.length ≤ 5000)) (f3 : Hid (pPut (L2, 0) (be 8 u) = (L3, 0) ∧ L3.length ≤ 5000))
    (f4 : Hid (pPut (L3, 0) (be 8 (wordOf v)) = (L4, 0) ∧ L4.length ≤ 5000)) (f5 : Hid (pPut (L4, 0) (be 8 (canon bits)) = (L5, 0) ∧ L5.length ≤ 5000))
    (f6 : Hid (pDone (pText (L5, 0) s.data.toList) = .tuple #[.string T, .int .i64 0] ∧ R5.length ≤ 5000))
    (g1 : Hid (iTake (T.data.toList, 0) 1 = (x1, (R1, 0)) ∧ val x1 = a)) (g2 : Hid (iTake (R1, 0) 4 = (x2, (R2, 0)) ∧ val x2 = b)) (g3 : Hid (iTake (R2, 0) 8 = (x3, (R3, 0)) ∧ val x3 = u))
    (g4 : Hid (iTake (R3, 0) 8 = (x4, (R4, 0)) ∧ wrap64 (val x4) = v)) (g5 : Hid (iTake (R4, 0) 8 = (x5, (R5, 0)) ∧ canon (val x5) = canon bits)) (g6 : Hid (iText (R5, 0) 1000 = (s.data.toList, ([], 0)))) :
    Calls Tryd.prog 7 #[.int .i64 a, .int .i64 b, .int .u64 u, .int .i64 v, .int .u64 bits, .string s] w fun e w' => e = .returned (.bool true) ∧ Touch [] w w' := by
  have C0 := hid (alive_true w htab)
  clear htab
  have k1 : (0 : Int) ≤ a := by omega
  have k2 : (0 : Int) ≤ b := by omega
  go_enter Tryd.func7, Tryd.ntmps7
  go_wp2_with (go_at_call 14; refine C0.out.mono ?_; rintro e w1 ⟨rfl, a1⟩)
  have A1 := hid a1; clear a1
  have C1 := hid (u8_st _ _ _ a _ (outIs_new w1) (by decide))
  rw [f1.out.1] at C1
  go_wp2_with (go_at_call 15; refine C1.out.mono ?_; rintro e w2 ⟨rfl, hp⟩)
  obtain ⟨F1, b1, b2, b3⟩ := StPost.new hp
  have A2 : Hid (Touch [] w w2) := A1.out.trans b2 (by simp)
  have B2 : Hid (∀ f ∈ F1, w.heap.size ≤ f) := fun f hf => Nat.le_trans A1.out.size (b3 f hf)
  have C2 := hid (u32_st _ _ _ b _ b1 (by have := f1.out.2; show L1.length + 4 ≤ _; omega))
  rw [f2.out.1] at C2
  clear b1 b2 b3 hp
  go_wp2_with (go_at_call 17; refine C2.out.mono ?_; rintro e w3 ⟨rfl, hp⟩)
  obtain ⟨F2, b1, b2, b3⟩ := OutIs.next hp A2.out B2.out
  have A3 := hid b2; have B3 := hid b3
  have C3 := hid (u64_st _ _ _ u _ b1 (by have := f2.out.2; show L2.length + 8 ≤ _; omega))
  rw [f3.out.1] at C3
  clear b1 b2 b3 hp
  go_wp2_with (go_at_call 18; refine C3.out.mono ?_; rintro e w4 ⟨rfl, hp⟩)
  obtain ⟨F3, b1, b2, b3⟩ := OutIs.next hp A3.out B3.out
  have A4 := hid b2; have B4 := hid b3
  have C4 := hid (i64_st _ _ _ v _ b1 (by have := f3.out.2; show L3.length + 8 ≤ _; omega))
  rw [f4.out.1] at C4
  clear b1 b2 b3 hp
  go_wp2_with (go_at_call 20; refine C4.out.mono ?_; rintro e w5 ⟨rfl, hp⟩)
  obtain ⟨F4, b1, b2, b3⟩ := OutIs.next hp A4.out B4.out
  have A5 := hid b2; have B5 := hid b3
  have C5 := hid (f64_st _ _ _ bits _ b1 (by have := f4.out.2; show L4.length + 8 ≤ _; omega))
  rw [f5.out.1] at C5
  clear b1 b2 b3 hp
  go_wp2_with (first | (go_at_call 22; refine (float_any _ _).mono ?_; rintro e w6 ⟨rfl, rfl⟩) | (go_at_call 21; refine C5.out.mono ?_; rintro e w6 ⟨rfl, hp⟩))
  obtain ⟨F5, b1, b2, b3⟩ := OutIs.next hp A5.out B5.out
  have A6 := hid b2; have B6 := hid b3
  have C6 := hid (text_st _ _ _ s _ b1 (by have := f5.out.2; show L5.length + 4 + 65536 ≤ _; omega))
  clear b1 b2 b3 hp
  go_wp2_with (go_at_call 24; refine C6.out.mono ?_; rintro e w7 ⟨rfl, hp⟩)
  obtain ⟨F6, b1, b2, b3⟩ := OutIs.next hp A6.out B6.out
  have A7 := hid b2
  have C7 := hid (done_st _ _ _ _ b1)
  rw [f6.out.1] at C7
  clear b1 b2 b3 hp
  go_wp2_with (go_at_call 26; refine C7.out.mono ?_; rintro e w8 ⟨rfl, m, rfl⟩)
  have A8 : Hid (Touch [] w (w7.drewN m)) := A7.out.drewN m
  generalize w7.drewN m = w8 at *
  have C8 := hid (newIn_any T w8)
  have hsz : Hid (w.heap.size ≤ w8.heap.size) := A8.out.size
  go_wp2_with (go_at_call 29; refine C8.out.mono ?_; rintro e w9 ⟨rfl, c1, c2⟩)
  have A9 : Hid (Touch [] w w9) := A8.out.trans c2 (by simp)
  have C9 := hid (inU8_st _ _ _ c1)
  rw [g1.out.1, g1.out.2] at C9
  clear c1 c2
  go_wp2_with (go_at_call 30; refine C9.out.mono ?_; rintro e w10 ⟨rfl, c1, c2⟩)
  have A10 : Hid (Touch [] w w10) := A9.out.trans c2 (by intro x hx; simp at hx; subst hx; right; exact hsz.out)
  have C10 := hid (inU32_st _ _ _ c1)
  rw [g2.out.1, g2.out.2] at C10
  clear c1 c2
  go_wp2_with (go_at_call 32; refine C10.out.mono ?_; rintro e w11 ⟨rfl, c1, c2⟩)
  have A11 : Hid (Touch [] w w11) := A10.out.trans c2 (by intro x hx; simp at hx; subst hx; right; exact hsz.out)
  have C11 := hid (inU64_st _ _ _ c1)
  rw [g3.out.1, g3.out.2] at C11
  clear c1 c2
  go_wp2_with (go_at_call 33; refine C11.out.mono ?_; rintro e w12 ⟨rfl, c1, c2⟩)
  have A12 : Hid (Touch [] w w12) := A11.out.trans c2 (by intro x hx; simp at hx; subst hx; right; exact hsz.out)
  have C12 := hid (inI64_st _ _ _ c1)
  rw [g4.out.1, g4.out.2] at C12
  clear c1 c2
  go_wp2_with (go_at_call 34; refine C12.out.mono ?_; rintro e w13 ⟨rfl, c1, c2⟩)
  have A13 : Hid (Touch [] w w13) := A12.out.trans c2 (by intro x hx; simp at hx; subst hx; right; exact hsz.out)
  have C13 := hid (inF64_st _ _ _ c1)
  rw [g5.out.1, g5.out.2] at C13
  clear c1 c2
  go_wp2_with (go_at_call 36; refine C13.out.mono ?_; rintro e w14 ⟨rfl, c1, c2⟩)
  have A14 : Hid (Touch [] w w14) := A13.out.trans c2 (by intro x hx; simp at hx; subst hx; right; exact hsz.out)
  have C14 := hid (inText_st _ _ 1000 _ c1 (by have := f6.out.2; show R5.length ≤ _; omega))
  rw [g6.out] at C14
  clear c1 c2
  have C15 : Hid (∀ w, Calls Tryd.prog 35 #[.float .f64 (canon bits), .float .f64 bits] w fun e w' => e = .returned (.bool true) ∧ w = w') := fun w =>
    (same_any (canon bits) bits w).mono fun e w' ⟨he, hw⟩ => ⟨by rw [he, canon_canon]; simp, hw⟩
  go_wp2_with (first | (go_at_call 22; refine (float_any _ _).mono ?_; rintro e w15 ⟨rfl, rfl⟩) | (go_at_call 35; refine (C15.out _).mono ?_; rintro e w15 ⟨rfl, rfl⟩) | (go_at_call 38; refine C14.out.mono ?_; rintro e w15 ⟨rfl, c1, c2⟩))
  have A15 : Hid (Touch [] w w15) := A14.out.trans c2 (by intro x hx; simp at hx; subst hx; right; exact hsz.out)
  have C16 := hid (end_st _ _ _ c1)
  have h16 : iEnd (([] : List UInt8), 0) = ([], 0) := by decide
  rw [h16] at C16
  clear c1 c2 h16
  go_wp2_with (go_at_call 42; refine C16.out.mono ?_; rintro e w16 ⟨rfl, c1, c2⟩)
  have A16 : Hid (Touch [] w w16) := A15.out.trans c2 (by intro x hx; simp at hx; subst hx; right; exact hsz.out)
  go_ret
  exact ⟨rfl, A16.out⟩

theorem iTake_app (x y : List UInt8) (n : Nat) (h : x.length = n) : iTake (x ++ y, 0) n = (x, (y, 0)) := by
  subst h
  rw [iTake_good _ _ (by simp)]
  simp
theorem wordOf_back (v : Int) (h0 : -9223372036854775808 ≤ v) (h1 : v ≤ 9223372036854775807) : wrap64 ((wordOf v % 256 ^ 8 : Nat) : Int) = v := by
  unfold wrap64 wordOf
  omega
theorem iText_whole (l : List UInt8) (most : Int) (h : (l.length : Int) ≤ most) (hl : l.length < 4294967296) : iText (be 4 l.length ++ l, 0) most = (l, ([], 0)) := by
  unfold iText
  rw [iTake_app _ _ 4 (be_length _ _), val_be, Nat.mod_eq_of_lt (by omega), if_neg (by simp; omega), iTake_good _ _ (Nat.le_refl _)]
  simp

theorem walk_CodecBack (a : Int) (_wa : (Lit.int .i64 a).wf = true) (b : Int) (_wb : (Lit.int .i64 b).wf = true) (u : Int) (wu : (Lit.int .u64 u).wf = true) (v : Int) (wv : (Lit.int .i64 v).wf = true) (bits : Int) (wbits : (Lit.int .u64 bits).wf = true)
    (s : ByteArray) (_ws : s.size ≤ maxLen) (w : World) (htab : Tab w) :
    Calls Tryd.prog 7 #[.int .i64 a, .int .i64 b, .int .u64 u, .int .i64 v, .int .u64 bits, .string s] w fun e w' => e = .returned (.bool true) ∧ Touch [] w w' := by
  obtain ⟨u0, u1⟩ := bounds_u64 wu
  obtain ⟨bits0, bits1⟩ := bounds_u64 wbits
  obtain ⟨v0, v1⟩ := bounds_i64 wv
  obtain ⟨u, rfl⟩ := Int.eq_ofNat_of_zero_le u0
  obtain ⟨bits, rfl⟩ := Int.eq_ofNat_of_zero_le bits0
  by_cases h : a < 0 ∨ (0 ≤ a ∧ 255 < a) ∨ (0 ≤ a ∧ a ≤ 255 ∧ b < 0) ∨ (0 ≤ a ∧ a ≤ 255 ∧ 0 ≤ b ∧ 4294967295 < b) ∨ (0 ≤ a ∧ a ≤ 255 ∧ 0 ≤ b ∧ b ≤ 4294967295 ∧ (1000 : Int) < s.size)
  · exact back_early a b u v bits s w htab h
  · obtain ⟨a, rfl⟩ := Int.eq_ofNat_of_zero_le (show 0 ≤ a by omega)
    obtain ⟨b, rfl⟩ := Int.eq_ofNat_of_zero_le (show 0 ≤ b by omega)
    have ha : (a : Int) ≤ 255 := by omega
    have hb : (b : Int) ≤ 4294967295 := by omega
    have hs : (s.size : Int) ≤ 1000 := by omega
    have hu : u < 18446744073709551616 := by omega
    have hbits : bits < 18446744073709551616 := by omega
    have hcan : canon bits < 18446744073709551616 := canon_lt hbits
    have hw : wordOf v < 18446744073709551616 := by unfold wordOf; omega
    have hlen := list_len s
    clear h
    have sm1 : pSmall 1 ([], 0) (a : Int) = ([] ++ be 1 a, 0) := by unfold pSmall; rw [if_neg (by simp; omega)]; simp [pPut]
    have sm4 : pSmall 4 (be 1 a, 0) (b : Int) = (be 1 a ++ be 4 b, 0) := by unfold pSmall; rw [if_neg (by simp; omega)]; simp [pPut]
    have tx : pText (be 1 a ++ be 4 b ++ be 8 u ++ be 8 (wordOf v) ++ be 8 (canon bits), 0) s.data.toList = (be 1 a ++ (be 4 b ++ (be 8 u ++ (be 8 (wordOf v) ++ (be 8 (canon bits) ++ (be 4 s.data.toList.length ++ s.data.toList))))), 0) := by
      unfold pText; rw [if_neg (by omega)]; simp [pPut]
    refine back_full a b u v bits s ⟨(be 1 a ++ (be 4 b ++ (be 8 u ++ (be 8 (wordOf v) ++ (be 8 (canon bits) ++ (be 4 s.data.toList.length ++ s.data.toList)))))).toArray⟩
      (be 1 a) (be 1 a ++ be 4 b) (be 1 a ++ be 4 b ++ be 8 u) (be 1 a ++ be 4 b ++ be 8 u ++ be 8 (wordOf v)) (be 1 a ++ be 4 b ++ be 8 u ++ be 8 (wordOf v) ++ be 8 (canon bits))
      (be 4 b ++ (be 8 u ++ (be 8 (wordOf v) ++ (be 8 (canon bits) ++ (be 4 s.data.toList.length ++ s.data.toList))))) (be 8 u ++ (be 8 (wordOf v) ++ (be 8 (canon bits) ++ (be 4 s.data.toList.length ++ s.data.toList))))
      (be 8 (wordOf v) ++ (be 8 (canon bits) ++ (be 4 s.data.toList.length ++ s.data.toList))) (be 8 (canon bits) ++ (be 4 s.data.toList.length ++ s.data.toList)) (be 4 s.data.toList.length ++ s.data.toList)
      (be 1 a) (be 4 b) (be 8 u) (be 8 (wordOf v)) (be 8 (canon bits)) w htab ha hb hs
      ⟨by rw [sm1]; simp, by simp [be_length]⟩ ⟨sm4, by simp [be_length]⟩ ⟨by simp [pPut], by simp [be_length]⟩ ⟨by simp [pPut], by simp [be_length]⟩ ⟨by simp [pPut], by simp [be_length]⟩
      ⟨by rw [tx]; simp [pDone], by rw [List.length_append, be_length]; omega⟩
      ⟨iTake_app _ _ 1 (be_length _ _), by rw [val_be]; omega⟩ ⟨iTake_app _ _ 4 (be_length _ _), by rw [val_be]; omega⟩ ⟨iTake_app _ _ 8 (be_length _ _), by rw [val_be]; omega⟩
      ⟨iTake_app _ _ 8 (be_length _ _), by rw [val_be]; exact wordOf_back v v0 v1⟩ ⟨iTake_app _ _ 8 (be_length _ _), by rw [val_be, Nat.mod_eq_of_lt (by omega), canon_canon]⟩ (iText_whole _ _ (by omega) (by omega))
end Go.Proofs.YteaogpbbmekinaaDoor
