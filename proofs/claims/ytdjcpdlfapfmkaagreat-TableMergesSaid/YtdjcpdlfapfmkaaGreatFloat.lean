/- What the functions of chapter 1 that handle a float64's bits return: codec's and the laws' own answer's. -/
import Derived.Test.YtdjcpdlfapfmkaaGreatFacts
namespace Go.Proofs.YtdjcpdlfapfmkaaGreat
set_option maxRecDepth 100000
open Go.RowKit Go.Lib

def nanBits : Nat := 9221120237041090560
/-- Are these the bits of a NaN? -/
def nanB (b : Nat) : Bool := FloatKind.f64.format.order b b != some .eq
/-- The one NaN for each. -/
def canon (b : Nat) : Nat := if nanB b = true then nanBits else b
theorem canon_nan {b : Nat} (h : nanB b = true) : canon b = nanBits := by unfold canon; rw [if_pos h]
theorem canon_num {b : Nat} (h : nanB b = false) : canon b = b := by unfold canon; rw [if_neg (by rw [h]; decide)]
theorem nanB_nan : nanB nanBits = true := by decide +kernel
theorem canon_canon (b : Nat) : canon (canon b) = canon b := by
  by_cases h : nanB b = true
  · rw [canon_nan h, canon_nan nanB_nan]
  · have h2 : nanB b = false := by simpa using h
    rw [canon_num h2, canon_num h2]
theorem canon_zero : canon 0 = 0 := canon_num (by decide +kernel)
theorem canon_lt {b : Nat} (h : b < 18446744073709551616) : canon b < 18446744073709551616 := by
  unfold canon
  split
  · unfold nanBits; omega
  · exact h

theorem tobits_run (b : Nat) (w : World) : (callFunc 125 #[.float .f64 b]).run Tryz.prog w = .ok (.value (.int .u64 b)) w := by
  rw [run_callFunc_extern Tryz.func125 (by kernel_rfl) (by kernel_rfl) (by kernel_rfl) (e := Extern.MathFloatBits.float64bits) (by kernel_rfl)]
  rfl

theorem refBits_any (b : Nat) (w : World) :
    Calls Tryz.prog 124 #[.float .f64 b] w fun e w' => e = .returned (.int .u64 (canon b)) ∧ w = w' := by
  have hb := tobits_run b
  by_cases h : nanB b = true
  · have hc := hid (canon_nan h)
    unfold nanB at h
    go_enter Tryz.func124, Tryz.ntmps124
    go_wp2
    go_ret
    exact ⟨by rw [hc.out]; rfl, rfl⟩
  · have h2 : nanB b = false := by simpa using h
    have hc := hid (canon_num h2)
    unfold nanB at h2
    clear h
    go_enter Tryz.func124, Tryz.ntmps124
    go_wp2
    go_ret
    exact ⟨by rw [hc.out]; rfl, rfl⟩

theorem same_any (a b : Nat) (w : World) :
    Calls Tryz.prog 123 #[.float .f64 a, .float .f64 b] w fun e w' => e = .returned (.bool ((canon a : Int) == (canon b : Int))) ∧ w = w' := by
  go_enter Tryz.func123, Tryz.ntmps123
  go_wp2_with (go_at_call 124; refine (refBits_any _ _).mono ?_; rintro e w' ⟨rfl, rfl⟩)
  go_ret
  exact ⟨rfl, rfl⟩

/-- I64: any int in eight bytes, a negative one as its complement. -/
def wordOf (v : Int) : Nat := (v % 18446744073709551616).toNat
theorem wordOf_eq (v : Int) : IntKind.u64.wrap v = ((wordOf v : Nat) : Int) := by rw [IntKind.wrap_u64]; unfold wordOf; omega
theorem i64_st (o : Nat) (F : List Nat) (st : List UInt8 × Int) (v : Int) (w : World) (h : OutIs w o F st) (hb : st.1.length + 8 ≤ 140737488355328) :
    Calls Tryz.prog 33 #[.pointer (some ⟨o, 0, none⟩), .int .i64 v] w fun e w' => e = .returned (.pointer (some ⟨o, 0, none⟩)) ∧ StPost o F (pPut st (be 8 (wordOf v))) w w' := by
  have C := hid (number_st o F st 8 (wordOf v) w h (by omega) (by decide) (by decide))
  rw [← wordOf_eq] at C
  clear h
  go_enter Tryz.func33, Tryz.ntmps33
  go_wp2_with (go_at_call 82; refine C.out.mono ?_; rintro e w' ⟨rfl, hp⟩)
  go_ret
  exact ⟨rfl, hp⟩
theorem i64_nil (v : Int) (w : World) :
    Calls Tryz.prog 33 #[.pointer none, .int .i64 v] w fun e w' => e = .returned (.pointer none) ∧ Touch [] w w' := by
  have C := hid (number_nil 8 (wordOf v) w (by decide) (by decide))
  rw [← wordOf_eq] at C
  go_enter Tryz.func33, Tryz.ntmps33
  go_wp2_with (go_at_call 82; refine C.out.mono ?_; rintro e w' ⟨rfl, hp⟩)
  go_ret
  exact ⟨rfl, hp⟩

end Go.Proofs.YtdjcpdlfapfmkaaGreat
