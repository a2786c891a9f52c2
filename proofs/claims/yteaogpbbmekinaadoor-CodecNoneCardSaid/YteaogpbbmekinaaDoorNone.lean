/- The walk of CodecNone. -/
import Derived.Test.YteaogpbbmekinaaDoorAlive
import Derived.Test.YteaogpbbmekinaaDoorFloat
namespace Go.Proofs.YteaogpbbmekinaaDoor
open Go.RowKit Go.Lib

theorem text_nil (s : ByteArray) (w : World) (h : s.size ≤ 300) :
    Calls Tryd.prog 24 #[.pointer none, .string s] w fun e w' => e = .returned (.pointer none) ∧ Touch [] w w' := by
  have h1 : (s.size : Int) ≤ 65536 := by omega
  have C := hid (u32_nil s.size w)
  clear h
  go_enter Tryd.func24, Tryd.ntmps24
  go_wp2_with (first | (go_at_call 17; refine C.out.mono ?_; rintro e w1 ⟨rfl, hp⟩) | (go_at_call 54; refine (put_nil _ _).mono ?_; rintro e w' ⟨rfl, rfl⟩))
  go_ret
  exact ⟨rfl, hp⟩
theorem inU8_nil (w : World) : Calls Tryd.prog 30 #[.pointer none] w fun e w' => e = .returned (.int .i64 0) ∧ Touch [] w w' := by
  have C := hid (inNumber_nil 1 w (by decide))
  go_enter Tryd.func30, Tryd.ntmps30
  go_wp2_with (go_at_call 56; refine C.out.mono ?_; rintro e w1 ⟨rfl, hp⟩)
  go_ret
  exact ⟨rfl, hp⟩
theorem inU32_nil (w : World) : Calls Tryd.prog 32 #[.pointer none] w fun e w' => e = .returned (.int .i64 0) ∧ Touch [] w w' := by
  have C := hid (inNumber_nil 4 w (by decide))
  go_enter Tryd.func32, Tryd.ntmps32
  go_wp2_with (go_at_call 56; refine C.out.mono ?_; rintro e w1 ⟨rfl, hp⟩)
  go_ret
  exact ⟨rfl, hp⟩
theorem inU64_nil (w : World) : Calls Tryd.prog 33 #[.pointer none] w fun e w' => e = .returned (.int .u64 0) ∧ Touch [] w w' := by
  have C := hid (inNumber_nil 8 w (by decide))
  go_enter Tryd.func33, Tryd.ntmps33
  go_wp2_with (go_at_call 56; refine C.out.mono ?_; rintro e w1 ⟨rfl, hp⟩)
  go_ret
  exact ⟨rfl, hp⟩
theorem inI64_nil (w : World) : Calls Tryd.prog 34 #[.pointer none] w fun e w' => e = .returned (.int .i64 0) ∧ Touch [] w w' := by
  have C := hid (inNumber_nil 8 w (by decide))
  go_enter Tryd.func34, Tryd.ntmps34
  go_wp2_with (go_at_call 56; refine C.out.mono ?_; rintro e w1 ⟨rfl, hp⟩)
  go_ret
  exact ⟨rfl, hp⟩
theorem inText_nil (most : Int) (w : World) : Calls Tryd.prog 38 #[.pointer none, .int .i64 most] w fun e w' => e = .returned (.string ⟨#[]⟩) ∧ Touch [] w w' := by
  go_enter Tryd.func38, Tryd.ntmps38
  go_wp2_with (go_at_call 32; refine (inU32_nil _).mono ?_; rintro e w1 ⟨rfl, hp⟩)
  have C2 := hid (take_nil 0 w1)
  have C3 := hid (clone_any ⟨#[]⟩ w1 (by decide))
  have Hp := hid hp; clear hp
  go_wp2_with (first | (go_at_call 40; refine (err_nil _).mono ?_; rintro e w2 ⟨rfl, rfl⟩) | (go_at_call 61; refine C2.out.mono ?_; rintro e w2 ⟨rfl, rfl⟩) | (go_at_call 60; refine C3.out.mono ?_; rintro e w2 ⟨rfl, hp2⟩))
  go_ret
  exact ⟨rfl, Hp.out.trans hp2 (by simp)⟩
theorem end_nil (w : World) : Calls Tryd.prog 42 #[.pointer none] w fun e w' => e = .returned (.int .i64 1) ∧ w = w' := by
  go_enter Tryd.func42, Tryd.ntmps42
  go_wp2_with (first | (go_at_call 41; refine (left_nil _).mono ?_; rintro e w2 ⟨rfl, rfl⟩) | (go_at_call 40; refine (err_nil _).mono ?_; rintro e w2 ⟨rfl, rfl⟩))
  go_ret
  exact ⟨rfl, rfl⟩

theorem none_early (n : Int) (s : ByteArray) (w : World) (htab : Tab w) (h : (300 : Int) < s.size) :
    Calls Tryd.prog 6 #[.int .i64 n, .string s] w fun e w' => e = .returned (.bool true) ∧ Touch [] w w' := by
  have C0 := hid (alive_true w htab)
  clear htab
  go_enter Tryd.func6, Tryd.ntmps6
  go_wp2_with (go_at_call 14; refine C0.out.mono ?_; rintro e w1 ⟨rfl, a1⟩)
  go_ret
  exact ⟨rfl, a1⟩

set_option maxRecDepth 100000 in
set_option maxHeartbeats 1000000 in
theorem none_full (n : Int) (s : ByteArray) (w : World) (htab : Tab w) (h : (s.size : Int) ≤ 300) :
    Calls Tryd.prog 6 #[.int .i64 n, .string s] w fun e w' => e = .returned (.bool true) ∧ Touch [] w w' := by
  have Ht := hid htab; clear htab
  have hs : Hid (s.size ≤ 300) := by unfold Hid; omega
  have ho : (FloatKind.f64.format.order 0 0 == some Ordering.eq) = true := by decide +kernel
  go_enter Tryd.func6, Tryd.ntmps6
  go_wp2_with (go_at_call 15; refine (u8_nil _ _).mono ?_; rintro e w1 ⟨rfl, a1⟩)
  have A1 := hid a1; clear a1
  go_wp2_with (go_at_call 17; refine (u32_nil _ _).mono ?_; rintro e w2 ⟨rfl, a1⟩)
  have A2 : Hid (Touch [] w w2) := A1.out.trans a1 (by simp); clear a1
  have C3 := hid (u64_nil 1 w2)
  go_wp2_with (go_at_call 18; refine C3.out.mono ?_; rintro e w3 ⟨rfl, a1⟩)
  have A3 : Hid (Touch [] w w3) := A2.out.trans a1 (by simp); clear a1
  go_wp2_with (go_at_call 20; refine (i64_nil _ _).mono ?_; rintro e w4 ⟨rfl, a1⟩)
  have A4 : Hid (Touch [] w w4) := A3.out.trans a1 (by simp); clear a1
  go_wp2_with (go_at_call 21; refine (f64_nil _ _).mono ?_; rintro e w5 ⟨rfl, a1⟩)
  have A5 : Hid (Touch [] w w5) := A4.out.trans a1 (by simp); clear a1
  go_wp2_with (go_at_call 24; refine (text_nil _ _ hs.out).mono ?_; rintro e w6 ⟨rfl, a1⟩)
  have A6 : Hid (Touch [] w w6) := A5.out.trans a1 (by simp); clear a1
  have C0 := hid (alive_true w6 (Ht.out.touch A6.out))
  go_wp2_with (first | (go_at_call 26; refine (done_nil _).mono ?_; rintro e w7 ⟨rfl, rfl⟩) | (go_at_call 14; refine C0.out.mono ?_; rintro e w7 ⟨rfl, a1⟩))
  have A7 : Hid (Touch [] w w7) := A6.out.trans a1 (by simp); clear a1
  go_wp2_with (first | (go_at_call 28; refine (len_nil _).mono ?_; rintro e w8 ⟨rfl, rfl⟩) | (go_at_call 30; refine (inU8_nil _).mono ?_; rintro e w8 ⟨rfl, a1⟩))
  have A8 : Hid (Touch [] w w8) := A7.out.trans a1 (by simp); clear a1
  go_wp2_with (go_at_call 32; refine (inU32_nil _).mono ?_; rintro e w9 ⟨rfl, a1⟩)
  have A9 : Hid (Touch [] w w9) := A8.out.trans a1 (by simp); clear a1
  go_wp2_with (go_at_call 34; refine (inI64_nil _).mono ?_; rintro e w10 ⟨rfl, a1⟩)
  have A10 : Hid (Touch [] w w10) := A9.out.trans a1 (by simp); clear a1
  go_wp2_with (first | (go_at_call 41; refine (left_nil _).mono ?_; rintro e w11 ⟨rfl, rfl⟩) | (go_at_call 33; refine (inU64_nil _).mono ?_; rintro e w11 ⟨rfl, a1⟩))
  have A11 : Hid (Touch [] w w11) := A10.out.trans a1 (by simp); clear a1
  go_wp2_with (go_at_call 36; refine (inF64_nil _).mono ?_; rintro e w12 ⟨rfl, a1⟩)
  have A12 : Hid (Touch [] w w12) := A11.out.trans a1 (by simp); clear a1
  go_wp2_with (go_at_call 38; refine (inText_nil _ _).mono ?_; rintro e w13 ⟨rfl, a1⟩)
  have A13 : Hid (Touch [] w w13) := A12.out.trans a1 (by simp); clear a1
  go_wp2_with (first | (go_at_call 40; refine (err_nil _).mono ?_; rintro e w14 ⟨rfl, rfl⟩) | (go_at_call 42; refine (end_nil _).mono ?_; rintro e w14 ⟨rfl, rfl⟩))
  go_ret
  exact ⟨rfl, A13.out⟩

theorem walk_CodecNone (n : Int) (_wn : (Lit.int .i64 n).wf = true) (s : ByteArray) (_ws : s.size ≤ maxLen) (w : World) (htab : Tab w) :
    Calls Tryd.prog 6 #[.int .i64 n, .string s] w fun e w' => e = .returned (.bool true) ∧ Touch [] w w' := by
  by_cases h : (300 : Int) < s.size
  · exact none_early n s w htab h
  · exact none_full n s w htab (by omega)
end Go.Proofs.YteaogpbbmekinaaDoor
