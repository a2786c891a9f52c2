/- What the small functions of package real, and of the laws' own answer to it, return: Canon, Bits, Of, Class, Same, Less. -/
import Derived.Test.YtiglfdefeaddmaaBase
import Derived.Test.YtiglfdefeaddmaaFloats
import Derived.Test.YtiglfdefeaddmaaProg
namespace Go.Proofs.Ytiglfdefeaddmaa
open Go.RowKit Go.Lib

/-- Of 64 bits. -/
def Wd (b : Nat) : Prop := b < 18446744073709551616
instance (b : Nat) : Decidable (Wd b) := inferInstanceAs (Decidable (b < 18446744073709551616))
theorem Wd.lt {b : Nat} (h : Wd b) : b < 18446744073709551616 := h
theorem Wd.can {b : Nat} (h : Wd b) : Wd (can b) := can_lt h
theorem Wd.rung (b : Nat) : Wd (rung b) := by unfold Wd Proofs.Ytiglfdefeaddmaa.rung; omega
theorem fmt : FloatKind.f64.format = DD := rfl
theorem frombits_run (n : Nat) (w : World) : (callFunc 11 #[.int .u64 n]).run Try.prog w = .ok (.value (.float .f64 n)) w := by
  rw [run_callFunc_extern Try.func11 (by kernel_rfl) (by kernel_rfl) (by kernel_rfl) (e := Extern.MathFloatBits.float64frombits) (by kernel_rfl)]
  rfl
theorem tobits_run (b : Nat) (w : World) : (callFunc 43 #[.float .f64 b]).run Try.prog w = .ok (.value (.int .u64 b)) w := by
  rw [run_callFunc_extern Try.func43 (by kernel_rfl) (by kernel_rfl) (by kernel_rfl) (e := Extern.MathFloatBits.float64bits) (by kernel_rfl)]
  rfl
theorem nan_order {b : Nat} (hb : b < 18446744073709551616) : (FloatKind.f64.format.order b b != some .eq) = isNan b := nanB_eq b hb

theorem isNaN_any (b : Nat) (w : World) (hb : Wd b) :
    Calls Try.prog 42 #[.float .f64 b] w fun e w' => e = .returned (.bool (isNan b)) ∧ w = w' := by
  have hn := hid (nan_order hb.lt)
  clear hb
  go_enter Try.func42, Try.ntmps42
  go_wp2
  go_ret
  exact ⟨by rw [← hn.out]; rfl, rfl⟩

theorem canon_any (b : Nat) (w : World) (hb : Wd b) :
    Calls Try.prog 31 #[.float .f64 b] w fun e w' => e = .returned (.float .f64 (can b)) ∧ w = w' := by
  have C := hid (isNaN_any b w hb)
  have hn : ∀ w : World, (callFunc 11 #[.int .u64 9221120237041090560]).run Try.prog w = .ok (.value (.float .f64 9221120237041090560)) w := frombits_run 9221120237041090560
  clear hb
  by_cases h : isNan b = true
  · have hc := hid (can_nan h)
    rw [h] at C
    clear h
    go_enter Try.func31, Try.ntmps31
    go_wp2_with (go_at_call 42; refine C.out.mono ?_; rintro e w' ⟨rfl, rfl⟩)
    go_ret
    exact ⟨by rw [hc.out]; rfl, rfl⟩
  · have h2 := isNan_false b h
    have hc := hid (can_num h2)
    rw [h2] at C
    clear h h2
    go_enter Try.func31, Try.ntmps31
    go_wp2_with (go_at_call 42; refine C.out.mono ?_; rintro e w' ⟨rfl, rfl⟩)
    go_ret
    exact ⟨by rw [hc.out]; rfl, rfl⟩
theorem bits_any (b : Nat) (w : World) (hb : Wd b) :
    Calls Try.prog 106 #[.float .f64 b] w fun e w' => e = .returned (.int .u64 (can b)) ∧ w = w' := by
  have C := hid (canon_any b w hb)
  have hn := tobits_run (can b)
  clear hb
  go_enter Try.func106, Try.ntmps106
  go_wp2_with (go_at_call 31; refine C.out.mono ?_; rintro e w' ⟨rfl, rfl⟩)
  go_ret
  exact ⟨rfl, rfl⟩
theorem of_any (b : Nat) (w : World) (hb : Wd b) :
    Calls Try.prog 79 #[.int .u64 b] w fun e w' => e = .returned (.float .f64 (can b)) ∧ w = w' := by
  have C := hid (canon_any b w hb)
  have hn := frombits_run b
  clear hb
  go_enter Try.func79, Try.ntmps79
  go_wp2_with (go_at_call 31; refine C.out.mono ?_; rintro e w' ⟨rfl, rfl⟩)
  go_ret
  exact ⟨rfl, rfl⟩
theorem rank_any (b : Nat) (w : World) (hb : Wd b) :
    Calls Try.prog 101 #[.float .f64 b] w fun e w' => e = .returned (.int .u64 (rank b)) ∧ w = w' := by
  have C := hid (bits_any b w hb)
  have hc := can_lt hb.lt
  have h1 : bits .and .u64 (can b : Int) 9223372036854775808 = ((if 9223372036854775808 ≤ can b then 9223372036854775808 else 0 : Nat) : Int) := by rw [← and_top _ hc]; exact bits_and (can b) 9223372036854775808 hc (by decide)
  have h2 : bits .or .u64 (can b : Int) 9223372036854775808 = ((can b ||| 9223372036854775808 : Nat) : Int) := bits_or (can b) 9223372036854775808 hc (by decide)
  have h3 : bits .xor .u64 IntKind.u64.max (can b : Int) = ((18446744073709551615 - can b : Nat) : Int) := bits_not (can b) hc
  clear hb
  by_cases h : 9223372036854775808 ≤ can b
  · rw [if_pos h] at h1
    have h1 : (bits .and .u64 (can b : Int) 9223372036854775808 != 0) = true := by rw [h1]; rfl
    have hr := hid (show rank b = 18446744073709551615 - can b by unfold rank; rw [if_pos h])
    rw [← hr.out] at h3
    clear h hc h2
    go_enter Try.func101, Try.ntmps101
    go_wp2_with (go_at_call 106; refine C.out.mono ?_; rintro e w' ⟨rfl, rfl⟩)
    go_ret
    exact ⟨by first | rfl | (rw [← h3]; rfl), rfl⟩
  · rw [if_neg h] at h1
    have h1 : (bits .and .u64 (can b : Int) 9223372036854775808 != 0) = false := by rw [h1]; rfl
    have hr := hid (show rank b = can b + 9223372036854775808 by unfold rank; rw [if_neg h])
    rw [or_top _ (by omega), ← hr.out] at h2
    clear h hc h3
    go_enter Try.func101, Try.ntmps101
    go_wp2_with (go_at_call 106; refine C.out.mono ?_; rintro e w' ⟨rfl, rfl⟩)
    go_ret
    exact ⟨by first | rfl | (rw [← h2]; rfl), rfl⟩
theorem less_any (a b : Nat) (w : World) (ha : Wd a) (hb : Wd b) :
    Calls Try.prog 91 #[.float .f64 a, .float .f64 b] w fun e w' => e = .returned (.bool (decide (rank a < rank b))) ∧ w = w' := by
  have hq := hid (show decide ((rank a : Int) < (rank b : Int)) = decide (rank a < rank b) by rw [decide_eq_decide]; omega)
  go_enter Try.func91, Try.ntmps91
  go_wp2_with (go_at_call 101; refine (rank_any _ _ (by assumption)).mono ?_; rintro e w' ⟨rfl, rfl⟩)
  go_ret
  exact ⟨by rw [← hq.out]; rfl, rfl⟩

/-! ### Class -/
theorem abs_any (b : Nat) (w : World) (hb : Wd b) :
    Calls Try.prog 100 #[.float .f64 b] w fun e w' => e = .returned (.float .f64 (rung b)) ∧ w = w' := by
  have h1 := bits_andNot b hb.lt
  have h2 := tobits_run b
  have h3 := frombits_run (rung b)
  have e : ((b % 9223372036854775808 : Nat) : Int) = (rung b : Int) := rfl
  rw [e] at h1
  clear hb e
  go_enter Try.func100, Try.ntmps100
  go_wp2
  go_ret
  exact ⟨rfl, rfl⟩
theorem signbit_any (b : Nat) (w : World) (hb : Wd b) :
    Calls Try.prog 89 #[.float .f64 b] w fun e w' => e = .returned (.bool (neg b)) ∧ w = w' := by
  have h2 := tobits_run b
  have h1 : Hid (decide (wrap64 (b : Int) < 0) = neg b) := by
    have := hb.lt
    unfold Hid neg wrap64
    rw [decide_eq_decide]
    omega
  clear hb
  go_enter Try.func89, Try.ntmps89
  go_wp2
  go_ret
  exact ⟨by rw [← h1.out]; rfl, rfl⟩
end Go.Proofs.Ytiglfdefeaddmaa
