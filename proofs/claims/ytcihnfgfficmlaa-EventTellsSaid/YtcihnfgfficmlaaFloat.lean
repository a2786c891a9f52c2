/- What the functions of chapter 1 that handle a float64's bits return: codec's and the laws' own answer's. -/
import Derived.Test.YtcihnfgfficmlaaFacts
namespace Go.Proofs.Ytcihnfgfficmlaa
set_option maxRecDepth 100000
open Go.RowKit Go.Lib

def nanBits : Nat := 9221120237041090560
/-- Are these the bits of a NaN? -/
def nanB (b : Nat) : Bool := FloatKind.f64.format.order b b != some .eq
/-- The one NaN for each. -/
def canon (b : Nat) : Nat := if nanB b = true then nanBits else b
theorem canon_nan {b : Nat} (h : nanB b = true) : canon b = nanBits := by unfold canon; rw [if_pos h]
theorem canon_num {b : Nat} (h : nanB b = false) : canon b = b := by unfold canon; rw [if_neg (by rw [h]; decide)]
theorem nanB_nan : nanB nanBits = true := by decide +kernel
theorem canon_canon (b : Nat) : canon (canon b) = canon b := by
  by_cases h : nanB b = true
  · rw [canon_nan h, canon_nan nanB_nan]
  · have h2 : nanB b = false := by simpa using h
    rw [canon_num h2, canon_num h2]
theorem canon_zero : canon 0 = 0 := canon_num (by decide +kernel)
theorem canon_lt {b : Nat} (h : b < 18446744073709551616) : canon b < 18446744073709551616 := by
  unfold canon
  split
  · unfold nanBits; omega
  · exact h

theorem frombits_run (n : Nat) (w : World) : (callFunc 61 #[.int .u64 n]).run Try.prog w = .ok (.value (.float .f64 n)) w := by
  rw [run_callFunc_extern Try.func61 (by kernel_rfl) (by kernel_rfl) (by kernel_rfl) (e := Extern.MathFloatBits.float64frombits) (by kernel_rfl)]
  rfl
theorem tobits_run (b : Nat) (w : World) : (callFunc 82 #[.float .f64 b]).run Try.prog w = .ok (.value (.int .u64 b)) w := by
  rw [run_callFunc_extern Try.func82 (by kernel_rfl) (by kernel_rfl) (by kernel_rfl) (e := Extern.MathFloatBits.float64bits) (by kernel_rfl)]
  rfl

theorem isNaN_any (b : Nat) (w : World) :
    Calls Try.prog 96 #[.float .f64 b] w fun e w' => e = .returned (.bool (nanB b)) ∧ w = w' := by
  go_enter Try.func96, Try.ntmps96
  go_wp2
  go_ret
  exact ⟨rfl, rfl⟩

theorem bitsOf_any (b : Nat) (w : World) :
    Calls Try.prog 85 #[.float .f64 b] w fun e w' => e = .returned (.int .u64 (canon b)) ∧ w = w' := by
  have C := hid (isNaN_any b w)
  have hb := tobits_run b
  by_cases h : nanB b = true
  · have hc := hid (canon_nan h)
    rw [h] at C
    clear h
    go_enter Try.func85, Try.ntmps85
    go_wp2_with (go_at_call 96; refine C.out.mono ?_; rintro e w' ⟨rfl, rfl⟩)
    go_ret
    exact ⟨by rw [hc.out]; rfl, rfl⟩
  · have h2 : nanB b = false := by simpa using h
    have hc := hid (canon_num h2)
    rw [h2] at C
    clear h h2
    go_enter Try.func85, Try.ntmps85
    go_wp2_with (go_at_call 96; refine C.out.mono ?_; rintro e w' ⟨rfl, rfl⟩)
    go_ret
    exact ⟨by rw [hc.out]; rfl, rfl⟩

theorem refBits_any (b : Nat) (w : World) :
    Calls Try.prog 65 #[.float .f64 b] w fun e w' => e = .returned (.int .u64 (canon b)) ∧ w = w' := by
  have hb := tobits_run b
  by_cases h : nanB b = true
  · have hc := hid (canon_nan h)
    unfold nanB at h
    go_enter Try.func65, Try.ntmps65
    go_wp2
    go_ret
    exact ⟨by rw [hc.out]; rfl, rfl⟩
  · have h2 : nanB b = false := by simpa using h
    have hc := hid (canon_num h2)
    unfold nanB at h2
    clear h
    go_enter Try.func65, Try.ntmps65
    go_wp2
    go_ret
    exact ⟨by rw [hc.out]; rfl, rfl⟩

theorem refOf_any (b : Nat) (w : World) :
    Calls Try.prog 94 #[.int .u64 b] w fun e w' => e = .returned (.float .f64 (canon b)) ∧ w = w' := by
  have hb := frombits_run b
  have hn : ∀ w : World, (callFunc 61 #[.int .u64 9221120237041090560]).run Try.prog w = .ok (.value (.float .f64 9221120237041090560)) w := frombits_run 9221120237041090560
  by_cases h : nanB b = true
  · have hc := hid (canon_nan h)
    unfold nanB at h
    go_enter Try.func94, Try.ntmps94
    go_wp2
    go_ret
    exact ⟨by rw [hc.out]; rfl, rfl⟩
  · have h2 : nanB b = false := by simpa using h
    have hc := hid (canon_num h2)
    unfold nanB at h2
    clear h
    go_enter Try.func94, Try.ntmps94
    go_wp2
    go_ret
    exact ⟨by rw [hc.out]; rfl, rfl⟩

theorem same_any (a b : Nat) (w : World) :
    Calls Try.prog 37 #[.float .f64 a, .float .f64 b] w fun e w' => e = .returned (.bool ((canon a : Int) == (canon b : Int))) ∧ w = w' := by
  go_enter Try.func37, Try.ntmps37
  go_wp2_with (go_at_call 65; refine (refBits_any _ _).mono ?_; rintro e w' ⟨rfl, rfl⟩)
  go_ret
  exact ⟨rfl, rfl⟩

theorem f64_st (o : Nat) (F : List Nat) (st : List UInt8 × Int) (b : Nat) (w : World) (h : OutIs w o F st) (hb : st.1.length + 8 ≤ 140737488355328) :
    Calls Try.prog 70 #[.pointer (some ⟨o, 0, none⟩), .float .f64 b] w fun e w' => e = .returned (.pointer (some ⟨o, 0, none⟩)) ∧ StPost o F (pPut st (be 8 (canon b))) w w' := by
  have C := hid (number_st o F st 8 (canon b) w h (by omega) (by decide) (by decide))
  clear h
  go_enter Try.func70, Try.ntmps70
  go_wp2_with (first | (go_at_call 85; refine (bitsOf_any _ _).mono ?_; rintro e w' ⟨rfl, rfl⟩) | (go_at_call 67; refine C.out.mono ?_; rintro e w' ⟨rfl, hp⟩))
  go_ret
  exact ⟨rfl, hp⟩
theorem f64_nil (b : Nat) (w : World) :
    Calls Try.prog 70 #[.pointer none, .float .f64 b] w fun e w' => e = .returned (.pointer none) ∧ Touch [] w w' := by
  have C := hid (number_nil 8 (canon b) w (by decide) (by decide))
  go_enter Try.func70, Try.ntmps70
  go_wp2_with (first | (go_at_call 85; refine (bitsOf_any _ _).mono ?_; rintro e w' ⟨rfl, rfl⟩) | (go_at_call 67; refine C.out.mono ?_; rintro e w' ⟨rfl, hp⟩))
  go_ret
  exact ⟨rfl, hp⟩

/-- I64: any int in eight bytes, a negative one as its complement. -/
def wordOf (v : Int) : Nat := (v % 18446744073709551616).toNat
theorem wordOf_eq (v : Int) : IntKind.u64.wrap v = ((wordOf v : Nat) : Int) := by rw [IntKind.wrap_u64]; unfold wordOf; omega
theorem i64_st (o : Nat) (F : List Nat) (st : List UInt8 × Int) (v : Int) (w : World) (h : OutIs w o F st) (hb : st.1.length + 8 ≤ 140737488355328) :
    Calls Try.prog 39 #[.pointer (some ⟨o, 0, none⟩), .int .i64 v] w fun e w' => e = .returned (.pointer (some ⟨o, 0, none⟩)) ∧ StPost o F (pPut st (be 8 (wordOf v))) w w' := by
  have C := hid (number_st o F st 8 (wordOf v) w h (by omega) (by decide) (by decide))
  rw [← wordOf_eq] at C
  clear h
  go_enter Try.func39, Try.ntmps39
  go_wp2_with (go_at_call 67; refine C.out.mono ?_; rintro e w' ⟨rfl, hp⟩)
  go_ret
  exact ⟨rfl, hp⟩
theorem i64_nil (v : Int) (w : World) :
    Calls Try.prog 39 #[.pointer none, .int .i64 v] w fun e w' => e = .returned (.pointer none) ∧ Touch [] w w' := by
  have C := hid (number_nil 8 (wordOf v) w (by decide) (by decide))
  rw [← wordOf_eq] at C
  go_enter Try.func39, Try.ntmps39
  go_wp2_with (go_at_call 67; refine C.out.mono ?_; rintro e w' ⟨rfl, hp⟩)
  go_ret
  exact ⟨rfl, hp⟩

theorem inF64_st (i : Nat) (st : List UInt8 × Int) (w : World) (h : InIs w i st) :
    Calls Try.prog 93 #[.pointer (some ⟨i, 0, none⟩)] w fun e w' => e = .returned (.float .f64 (canon (val (iTake st 8).1))) ∧ InPost i (iTake st 8).2 w w' := by
  have C := hid (inNumber_st i st 8 w h (by decide))
  generalize (iTake st 8) = r at *
  have h1 := frombits_run (val r.1)
  have h2 := frombits_run (canon (val r.1))
  clear h
  go_enter Try.func93, Try.ntmps93
  go_wp2_with (first | (go_at_call 85; refine (bitsOf_any _ _).mono ?_; rintro e w' ⟨rfl, rfl⟩) | (go_at_call 89; refine C.out.mono ?_; rintro e w' ⟨rfl, hp⟩))
  go_ret
  exact ⟨rfl, hp⟩
theorem inF64_nil (w : World) :
    Calls Try.prog 93 #[.pointer none] w fun e w' => e = .returned (.float .f64 0) ∧ Touch [] w w' := by
  have C := hid (inNumber_nil 8 w (by decide))
  have C2 := hid (bitsOf_any 0)
  rw [canon_zero] at C2
  have h1 : ∀ w : World, (callFunc 61 #[.int .u64 0]).run Try.prog w = .ok (.value (.float .f64 0)) w := frombits_run 0
  go_enter Try.func93, Try.ntmps93
  go_wp2_with (first | (go_at_call 85; refine (C2.out _).mono ?_; rintro e w' ⟨rfl, rfl⟩) | (go_at_call 89; refine C.out.mono ?_; rintro e w' ⟨rfl, hp⟩))
  go_ret
  exact ⟨rfl, hp⟩
end Go.Proofs.Ytcihnfgfficmlaa
