/- What the small functions of package real, and of the laws' own answer to it, return: Canon, Bits, Of, Class, Same, Less. -/
import Derived.Test.YtjljflaejfbljaaDoorBase
import Derived.Test.YtjljflaejfbljaaDoorFloats
import Derived.Test.YtjljflaejfbljaaDoorProg
namespace Go.Proofs.YtjljflaejfbljaaDoor
open Go.RowKit Go.Lib

/-- Of 64 bits. -/
def Wd (b : Nat) : Prop := b < 18446744073709551616
instance (b : Nat) : Decidable (Wd b) := inferInstanceAs (Decidable (b < 18446744073709551616))
theorem Wd.lt {b : Nat} (h : Wd b) : b < 18446744073709551616 := h
theorem Wd.can {b : Nat} (h : Wd b) : Wd (can b) := can_lt h
theorem Wd.rung (b : Nat) : Wd (rung b) := by unfold Wd Proofs.YtjljflaejfbljaaDoor.rung; omega
theorem fmt : FloatKind.f64.format = DD := rfl
theorem frombits_run (n : Nat) (w : World) : (callFunc 13 #[.int .u64 n]).run Tryd.prog w = .ok (.value (.float .f64 n)) w := by
  rw [run_callFunc_extern Tryd.func13 (by kernel_rfl) (by kernel_rfl) (by kernel_rfl) (e := Extern.MathFloatBits.float64frombits) (by kernel_rfl)]
  rfl
theorem tobits_run (b : Nat) (w : World) : (callFunc 20 #[.float .f64 b]).run Tryd.prog w = .ok (.value (.int .u64 b)) w := by
  rw [run_callFunc_extern Tryd.func20 (by kernel_rfl) (by kernel_rfl) (by kernel_rfl) (e := Extern.MathFloatBits.float64bits) (by kernel_rfl)]
  rfl
theorem nan_order {b : Nat} (hb : b < 18446744073709551616) : (FloatKind.f64.format.order b b != some .eq) = isNan b := nanB_eq b hb

theorem isNaN_any (b : Nat) (w : World) (hb : Wd b) :
    Calls Tryd.prog 35 #[.float .f64 b] w fun e w' => e = .returned (.bool (isNan b)) ∧ w = w' := by
  have hn := hid (nan_order hb.lt)
  clear hb
  go_enter Tryd.func35, Tryd.ntmps35
  go_wp2
  go_ret
  exact ⟨by rw [← hn.out]; rfl, rfl⟩

theorem canon_any (b : Nat) (w : World) (hb : Wd b) :
    Calls Tryd.prog 19 #[.float .f64 b] w fun e w' => e = .returned (.float .f64 (can b)) ∧ w = w' := by
  have C := hid (isNaN_any b w hb)
  have hn : ∀ w : World, (callFunc 13 #[.int .u64 9221120237041090560]).run Tryd.prog w = .ok (.value (.float .f64 9221120237041090560)) w := frombits_run 9221120237041090560
  clear hb
  by_cases h : isNan b = true
  · have hc := hid (can_nan h)
    rw [h] at C
    clear h
    go_enter Tryd.func19, Tryd.ntmps19
    go_wp2_with (go_at_call 35; refine C.out.mono ?_; rintro e w' ⟨rfl, rfl⟩)
    go_ret
    exact ⟨by rw [hc.out]; rfl, rfl⟩
  · have h2 := isNan_false b h
    have hc := hid (can_num h2)
    rw [h2] at C
    clear h h2
    go_enter Tryd.func19, Tryd.ntmps19
    go_wp2_with (go_at_call 35; refine C.out.mono ?_; rintro e w' ⟨rfl, rfl⟩)
    go_ret
    exact ⟨by rw [hc.out]; rfl, rfl⟩
theorem bits_any (b : Nat) (w : World) (hb : Wd b) :
    Calls Tryd.prog 16 #[.float .f64 b] w fun e w' => e = .returned (.int .u64 (can b)) ∧ w = w' := by
  have C := hid (canon_any b w hb)
  have hn := tobits_run (can b)
  clear hb
  go_enter Tryd.func16, Tryd.ntmps16
  go_wp2_with (go_at_call 19; refine C.out.mono ?_; rintro e w' ⟨rfl, rfl⟩)
  go_ret
  exact ⟨rfl, rfl⟩
theorem of_any (b : Nat) (w : World) (hb : Wd b) :
    Calls Tryd.prog 21 #[.int .u64 b] w fun e w' => e = .returned (.float .f64 (can b)) ∧ w = w' := by
  have C := hid (canon_any b w hb)
  have hn := frombits_run b
  clear hb
  go_enter Tryd.func21, Tryd.ntmps21
  go_wp2_with (go_at_call 19; refine C.out.mono ?_; rintro e w' ⟨rfl, rfl⟩)
  go_ret
  exact ⟨rfl, rfl⟩
theorem same_any (a b : Nat) (w : World) (ha : Wd a) (hb : Wd b) :
    Calls Tryd.prog 27 #[.float .f64 a, .float .f64 b] w fun e w' => e = .returned (.bool (decide (can a = can b))) ∧ w = w' := by
  have hq := hid (show ((can a : Int) == (can b : Int)) = decide (can a = can b) by rw [Bool.eq_iff_iff]; simp only [beq_iff_eq, decide_eq_true_eq]; omega)
  go_enter Tryd.func27, Tryd.ntmps27
  go_wp2_with (go_at_call 16; refine (bits_any _ _ (by assumption)).mono ?_; rintro e w' ⟨rfl, rfl⟩)
  go_ret
  exact ⟨by rw [← hq.out]; rfl, rfl⟩

theorem rank_any (b : Nat) (w : World) (hb : Wd b) :
    Calls Tryd.prog 48 #[.float .f64 b] w fun e w' => e = .returned (.int .u64 (rank b)) ∧ w = w' := by
  have C := hid (bits_any b w hb)
  have hc := can_lt hb.lt
  have h1 : bits .and .u64 (can b : Int) 9223372036854775808 = ((if 9223372036854775808 ≤ can b then 9223372036854775808 else 0 : Nat) : Int) := by rw [← and_top _ hc]; exact bits_and (can b) 9223372036854775808 hc (by decide)
  have h2 : bits .or .u64 (can b : Int) 9223372036854775808 = ((can b ||| 9223372036854775808 : Nat) : Int) := bits_or (can b) 9223372036854775808 hc (by decide)
  have h3 : bits .xor .u64 IntKind.u64.max (can b : Int) = ((18446744073709551615 - can b : Nat) : Int) := bits_not (can b) hc
  clear hb
  by_cases h : 9223372036854775808 ≤ can b
  · rw [if_pos h] at h1
    have h1 : (bits .and .u64 (can b : Int) 9223372036854775808 != 0) = true := by rw [h1]; rfl
    have hr := hid (show rank b = 18446744073709551615 - can b by unfold rank; rw [if_pos h])
    rw [← hr.out] at h3
    clear h hc h2
    go_enter Tryd.func48, Tryd.ntmps48
    go_wp2_with (go_at_call 16; refine C.out.mono ?_; rintro e w' ⟨rfl, rfl⟩)
    go_ret
    exact ⟨by first | rfl | (rw [← h3]; rfl), rfl⟩
  · rw [if_neg h] at h1
    have h1 : (bits .and .u64 (can b : Int) 9223372036854775808 != 0) = false := by rw [h1]; rfl
    have hr := hid (show rank b = can b + 9223372036854775808 by unfold rank; rw [if_neg h])
    rw [or_top _ (by omega), ← hr.out] at h2
    clear h hc h3
    go_enter Tryd.func48, Tryd.ntmps48
    go_wp2_with (go_at_call 16; refine C.out.mono ?_; rintro e w' ⟨rfl, rfl⟩)
    go_ret
    exact ⟨by first | rfl | (rw [← h2]; rfl), rfl⟩
theorem less_any (a b : Nat) (w : World) (ha : Wd a) (hb : Wd b) :
    Calls Tryd.prog 26 #[.float .f64 a, .float .f64 b] w fun e w' => e = .returned (.bool (decide (rank a < rank b))) ∧ w = w' := by
  have hq := hid (show decide ((rank a : Int) < (rank b : Int)) = decide (rank a < rank b) by rw [decide_eq_decide]; omega)
  go_enter Tryd.func26, Tryd.ntmps26
  go_wp2_with (go_at_call 48; refine (rank_any _ _ (by assumption)).mono ?_; rintro e w' ⟨rfl, rfl⟩)
  go_ret
  exact ⟨by rw [← hq.out]; rfl, rfl⟩

/-! ### Class -/
theorem abs_any (b : Nat) (w : World) (hb : Wd b) :
    Calls Tryd.prog 44 #[.float .f64 b] w fun e w' => e = .returned (.float .f64 (rung b)) ∧ w = w' := by
  have h1 := bits_andNot b hb.lt
  have h2 := tobits_run b
  have h3 := frombits_run (rung b)
  have e : ((b % 9223372036854775808 : Nat) : Int) = (rung b : Int) := rfl
  rw [e] at h1
  clear hb e
  go_enter Tryd.func44, Tryd.ntmps44
  go_wp2
  go_ret
  exact ⟨rfl, rfl⟩
theorem signbit_any (b : Nat) (w : World) (hb : Wd b) :
    Calls Tryd.prog 42 #[.float .f64 b] w fun e w' => e = .returned (.bool (neg b)) ∧ w = w' := by
  have h2 := tobits_run b
  have h1 : Hid (decide (wrap64 (b : Int) < 0) = neg b) := by
    have := hb.lt
    unfold Hid neg wrap64
    rw [decide_eq_decide]
    omega
  clear hb
  go_enter Tryd.func42, Tryd.ntmps42
  go_wp2
  go_ret
  exact ⟨by rw [← h1.out]; rfl, rfl⟩
end Go.Proofs.YtjljflaejfbljaaDoor
