/- What the small functions of package real, and of the laws' own answer to it, return: Canon, Bits, Of, Class, Same, Less. -/
import Derived.Test.YtiglfdefeaddmaaGreatBase
import Derived.Test.YtiglfdefeaddmaaGreatFloats
import Derived.Test.YtiglfdefeaddmaaGreatProg
namespace Go.Proofs.YtiglfdefeaddmaaGreat
open Go.RowKit Go.Lib

/-- Of 64 bits. -/
def Wd (b : Nat) : Prop := b < 18446744073709551616
instance (b : Nat) : Decidable (Wd b) := inferInstanceAs (Decidable (b < 18446744073709551616))
theorem Wd.lt {b : Nat} (h : Wd b) : b < 18446744073709551616 := h
theorem Wd.can {b : Nat} (h : Wd b) : Wd (can b) := can_lt h
theorem Wd.rung (b : Nat) : Wd (rung b) := by unfold Wd Proofs.YtiglfdefeaddmaaGreat.rung; omega
theorem fmt : FloatKind.f64.format = DD := rfl
theorem frombits_run (n : Nat) (w : World) : (callFunc 90 #[.int .u64 n]).run Tryz.prog w = .ok (.value (.float .f64 n)) w := by
  rw [run_callFunc_extern Tryz.func90 (by kernel_rfl) (by kernel_rfl) (by kernel_rfl) (e := Extern.MathFloatBits.float64frombits) (by kernel_rfl)]
  rfl
theorem tobits_run (b : Nat) (w : World) : (callFunc 126 #[.float .f64 b]).run Tryz.prog w = .ok (.value (.int .u64 b)) w := by
  rw [run_callFunc_extern Tryz.func126 (by kernel_rfl) (by kernel_rfl) (by kernel_rfl) (e := Extern.MathFloatBits.float64bits) (by kernel_rfl)]
  rfl
theorem nan_order {b : Nat} (hb : b < 18446744073709551616) : (FloatKind.f64.format.order b b != some .eq) = isNan b := nanB_eq b hb

theorem isNaN_any (b : Nat) (w : World) (hb : Wd b) :
    Calls Tryz.prog 118 #[.float .f64 b] w fun e w' => e = .returned (.bool (isNan b)) ∧ w = w' := by
  have hn := hid (nan_order hb.lt)
  clear hb
  go_enter Tryz.func118, Tryz.ntmps118
  go_wp2
  go_ret
  exact ⟨by rw [← hn.out]; rfl, rfl⟩

theorem canon_any (b : Nat) (w : World) (hb : Wd b) :
    Calls Tryz.prog 95 #[.float .f64 b] w fun e w' => e = .returned (.float .f64 (can b)) ∧ w = w' := by
  have C := hid (isNaN_any b w hb)
  have hn : ∀ w : World, (callFunc 90 #[.int .u64 9221120237041090560]).run Tryz.prog w = .ok (.value (.float .f64 9221120237041090560)) w := frombits_run 9221120237041090560
  clear hb
  by_cases h : isNan b = true
  · have hc := hid (can_nan h)
    rw [h] at C
    clear h
    go_enter Tryz.func95, Tryz.ntmps95
    go_wp2_with (go_at_call 118; refine C.out.mono ?_; rintro e w' ⟨rfl, rfl⟩)
    go_ret
    exact ⟨by rw [hc.out]; rfl, rfl⟩
  · have h2 := isNan_false b h
    have hc := hid (can_num h2)
    rw [h2] at C
    clear h h2
    go_enter Tryz.func95, Tryz.ntmps95
    go_wp2_with (go_at_call 118; refine C.out.mono ?_; rintro e w' ⟨rfl, rfl⟩)
    go_ret
    exact ⟨by rw [hc.out]; rfl, rfl⟩
theorem bits_any (b : Nat) (w : World) (hb : Wd b) :
    Calls Tryz.prog 136 #[.float .f64 b] w fun e w' => e = .returned (.int .u64 (can b)) ∧ w = w' := by
  have C := hid (canon_any b w hb)
  have hn := tobits_run (can b)
  clear hb
  go_enter Tryz.func136, Tryz.ntmps136
  go_wp2_with (go_at_call 95; refine C.out.mono ?_; rintro e w' ⟨rfl, rfl⟩)
  go_ret
  exact ⟨rfl, rfl⟩
theorem of_any (b : Nat) (w : World) (hb : Wd b) :
    Calls Tryz.prog 107 #[.int .u64 b] w fun e w' => e = .returned (.float .f64 (can b)) ∧ w = w' := by
  have C := hid (canon_any b w hb)
  have hn := frombits_run b
  clear hb
  go_enter Tryz.func107, Tryz.ntmps107
  go_wp2_with (go_at_call 95; refine C.out.mono ?_; rintro e w' ⟨rfl, rfl⟩)
  go_ret
  exact ⟨rfl, rfl⟩
theorem rank_any (b : Nat) (w : World) (hb : Wd b) :
    Calls Tryz.prog 132 #[.float .f64 b] w fun e w' => e = .returned (.int .u64 (rank b)) ∧ w = w' := by
  have C := hid (bits_any b w hb)
  have hc := can_lt hb.lt
  have h1 : bits .and .u64 (can b : Int) 9223372036854775808 = ((if 9223372036854775808 ≤ can b then 9223372036854775808 else 0 : Nat) : Int) := by rw [← and_top _ hc]; exact bits_and (can b) 9223372036854775808 hc (by decide)
  have h2 : bits .or .u64 (can b : Int) 9223372036854775808 = ((can b ||| 9223372036854775808 : Nat) : Int) := bits_or (can b) 9223372036854775808 hc (by decide)
  have h3 : bits .xor .u64 IntKind.u64.max (can b : Int) = ((18446744073709551615 - can b : Nat) : Int) := bits_not (can b) hc
  clear hb
  by_cases h : 9223372036854775808 ≤ can b
  · rw [if_pos h] at h1
    have h1 : (bits .and .u64 (can b : Int) 9223372036854775808 != 0) = true := by rw [h1]; rfl
    have hr := hid (show rank b = 18446744073709551615 - can b by unfold rank; rw [if_pos h])
    rw [← hr.out] at h3
    clear h hc h2
    go_enter Tryz.func132, Tryz.ntmps132
    go_wp2_with (go_at_call 136; refine C.out.mono ?_; rintro e w' ⟨rfl, rfl⟩)
    go_ret
    exact ⟨by first | rfl | (rw [← h3]; rfl), rfl⟩
  · rw [if_neg h] at h1
    have h1 : (bits .and .u64 (can b : Int) 9223372036854775808 != 0) = false := by rw [h1]; rfl
    have hr := hid (show rank b = can b + 9223372036854775808 by unfold rank; rw [if_neg h])
    rw [or_top _ (by omega), ← hr.out] at h2
    clear h hc h3
    go_enter Tryz.func132, Tryz.ntmps132
    go_wp2_with (go_at_call 136; refine C.out.mono ?_; rintro e w' ⟨rfl, rfl⟩)
    go_ret
    exact ⟨by first | rfl | (rw [← h2]; rfl), rfl⟩
theorem less_any (a b : Nat) (w : World) (ha : Wd a) (hb : Wd b) :
    Calls Tryz.prog 124 #[.float .f64 a, .float .f64 b] w fun e w' => e = .returned (.bool (decide (rank a < rank b))) ∧ w = w' := by
  have hq := hid (show decide ((rank a : Int) < (rank b : Int)) = decide (rank a < rank b) by rw [decide_eq_decide]; omega)
  go_enter Tryz.func124, Tryz.ntmps124
  go_wp2_with (go_at_call 132; refine (rank_any _ _ (by assumption)).mono ?_; rintro e w' ⟨rfl, rfl⟩)
  go_ret
  exact ⟨by rw [← hq.out]; rfl, rfl⟩

/-! ### Class -/
theorem abs_any (b : Nat) (w : World) (hb : Wd b) :
    Calls Tryz.prog 131 #[.float .f64 b] w fun e w' => e = .returned (.float .f64 (rung b)) ∧ w = w' := by
  have h1 := bits_andNot b hb.lt
  have h2 := tobits_run b
  have h3 := frombits_run (rung b)
  have e : ((b % 9223372036854775808 : Nat) : Int) = (rung b : Int) := rfl
  rw [e] at h1
  clear hb e
  go_enter Tryz.func131, Tryz.ntmps131
  go_wp2
  go_ret
  exact ⟨rfl, rfl⟩
theorem signbit_any (b : Nat) (w : World) (hb : Wd b) :
    Calls Tryz.prog 122 #[.float .f64 b] w fun e w' => e = .returned (.bool (neg b)) ∧ w = w' := by
  have h2 := tobits_run b
  have h1 : Hid (decide (wrap64 (b : Int) < 0) = neg b) := by
    have := hb.lt
    unfold Hid neg wrap64
    rw [decide_eq_decide]
    omega
  clear hb
  go_enter Tryz.func122, Tryz.ntmps122
  go_wp2
  go_ret
  exact ⟨by rw [← h1.out]; rfl, rfl⟩
end Go.Proofs.YtiglfdefeaddmaaGreat
