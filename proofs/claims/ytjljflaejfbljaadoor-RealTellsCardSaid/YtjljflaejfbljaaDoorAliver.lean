/- 'alive' of the laws of chapter 3: it returns true. -/
import Derived.Test.YtjljflaejfbljaaDoorParse
import Derived.Test.YtjljflaejfbljaaDoorSum
namespace Go.Proofs.YtjljflaejfbljaaDoor
open Go.RowKit Go.Lib

set_option maxRecDepth 100000 in
set_option maxHeartbeats 1000000 in
theorem alive_any (w : World) (htab : Tab w) :
    Calls Tryd.prog 12 #[] w fun e w' => e = .returned (.bool true) ∧ Touch [] w w' := by
  have Ht := hid htab; clear htab
  have C1 := hid (parse_any ⟨#[120, 51, 102, 101, 48, 48, 48, 48, 48, 48, 48, 48, 48, 48, 48, 48, 48]⟩ w (by decide))
  rw [show parseOf (⟨#[120, 51, 102, 101, 48, 48, 48, 48, 48, 48, 48, 48, 48, 48, 48, 48, 48]⟩ : ByteArray).data.toList = (4602678819172646912, 0) by decide +kernel] at C1
  have l1 : decide (rank 9223372036854775808 < rank 0) = true := by decide +kernel
  have l2 : decide (rank 9218868437227405312 < rank 9221120237041090561) = true := by decide +kernel
  have l3 : decide (rank 9221120237041090561 < rank 9221120237041090561) = false := by decide +kernel
  have k1 : cls 9221120237041090561 = 0 := by decide +kernel
  have e1 : (FloatKind.f64.format.order 4602678819172646912 4602678819172646912 == some .eq) = true := by decide +kernel
  have s1 : sumOf [9223372036854775808] = 9223372036854775808 := by decide +kernel
  have s2 : decide (can 9223372036854775808 = can 9223372036854775808) = true := by decide +kernel
  have t1 : textOf 4602678819172646912 = [120, 51, 102, 101, 48, 48, 48, 48, 48, 48, 48, 48, 48, 48, 48, 48, 48] := by
    unfold textOf
    rw [show cls 4602678819172646912 = 5 by decide +kernel, show isW 4602678819172646912 = false by decide +kernel]
    simp only [Int.reduceEq, if_false]
    decide +kernel
  have C2 := hid (fun w1 (ht : Touch [] w w1) => text_any 4602678819172646912 w1 (by decide) (Ht.out.touch ht))
  rw [t1] at C2
  clear t1
  go_enter Tryd.func12, Tryd.ntmps12
  go_wp2_with (first | (go_at_call 31; refine (copysign_any _).mono ?_; rintro e w' ⟨rfl, rfl⟩) | (go_at_call 14; refine C1.out.mono ?_; rintro e w1 ⟨rfl, a1⟩; have A1 := hid a1; clear a1) | (go_at_call 26; refine (less_any _ _ _ (by decide) (by decide)).mono ?_; rintro e w' ⟨rfl, rfl⟩) | (go_at_call 28; refine (infP_any _).mono ?_; rintro e w' ⟨rfl, rfl⟩) | (go_at_call 29; refine (nan_any _).mono ?_; rintro e w' ⟨rfl, rfl⟩) | (go_at_call 24; refine (C2.out _ A1.out).mono ?_; rintro e w2 ⟨rfl, a2⟩; have A2 := hid a2; clear a2))
  have C3 := hid (sum_any (some ⟨w2.heap.size, 0, none⟩) 1 [9223372036854775808] _ (by decide) (by decide) (flts_new w2 24 [9223372036854775808] (by decide)))
  rw [s1] at C3
  refine C3.out.mono ?_
  rintro e w3 ⟨rfl, a3⟩
  have A3 : Hid (Touch [] w w3) := ((A1.out.trans A2.out (by simp)).alloc _).trans a3 (by simp)
  clear a3
  go_wp2_with (first | (go_at_call 27; refine (same_any _ _ _ (by decide) (by decide)).mono ?_; rintro e w' ⟨rfl, rfl⟩) | (go_at_call 29; refine (nan_any _).mono ?_; rintro e w' ⟨rfl, rfl⟩) | (go_at_call 22; refine (class_any _ _ (by decide)).mono ?_; rintro e w' ⟨rfl, rfl⟩))
  go_ret
  exact ⟨rfl, A3.out⟩
end Go.Proofs.YtjljflaejfbljaaDoor
