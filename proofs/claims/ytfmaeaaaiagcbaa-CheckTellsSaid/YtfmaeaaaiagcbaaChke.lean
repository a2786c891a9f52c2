/- The laws' own Open. -/
import Derived.Test.YtfmaeaaaiagcbaaChkd
import Derived.Deep.RegionWith
namespace Go.Proofs.Ytfmaeaaaiagcbaa
open Go.RowKit Go.Lib

theorem refOpen_short (b : ByteArray) (w : World) (h : (b.size : Int) < 4) :
    Calls Try.prog 11 #[.string b] w fun e w' => e = .returned (.tuple #[.string ⟨#[]⟩, .int .i64 5]) ∧ w = w' := by
  go_enter Try.func11, Try.ntmps11
  go_wp2
  go_ret2
  exact ⟨rfl, rfl⟩

set_option maxHeartbeats 2000000 in
theorem refOpen_long (b : ByteArray) (w : World) (h : (4 : Int) ≤ b.size) (hs : b.size ≤ 100000) :
    Calls Try.prog 11 #[.string b] w fun e w' => e = .returned (openOf (b.extract 0 4) (b.extract 4 b.size)) ∧ Touch [] w w' := by
  have hq := extract_le b hs
  have C := hid fun (w1 : World) => refSum_any (b.extract 4 b.size) w1 (by unfold maxLen; omega)
  have D := hid fun (w1 : World) => refFour_any (crc (b.extract 4 b.size).data.toList) (by have := crc_lt (b.extract 4 b.size).data.toList; omega) w1
  have sym : ∀ p q : List UInt8, (p == q) = (q == p) := fun p q => by rw [Bool.eq_iff_iff, beq_iff_eq, beq_iff_eq]; exact ⟨Eq.symm, Eq.symm⟩
  by_cases he : b.extract 0 4 = ⟨(four (crc (b.extract 4 b.size).data.toList)).toArray⟩
  · have hR := hid (show openOf (b.extract 0 4) (b.extract 4 b.size) = .tuple #[.string (b.extract 4 b.size), .int .i64 0] by unfold openOf; rw [if_pos he])
    have t1 : (four (crc (b.extract 4 b.size).data.toList) == (b.extract 0 4).toList) = true := by rw [sym, open_test]; exact decide_eq_true he
    clear he sym
    generalize crc (b.extract 4 b.size).data.toList = n at C D t1
    go_enter Try.func11, Try.ntmps11
    go_upto_region 3 with fail
    go_region_with (first | (go_at_call 13; refine (C.out _).mono ?_; rintro e w1 ⟨rfl, rfl⟩) | (go_at_call 20; refine (D.out _).mono ?_; rintro e w2 ⟨rfl, h2⟩))
    go_wp2
    go_ret2
    exact ⟨by rw [hR.out]; rfl, by first | exact (Touch.refl [] w).drew.trans h2 (by simp) | exact ((Touch.refl [] w).drew.trans h2 (by simp)).drew | exact ((Touch.refl [] w).drew.trans h2 (by simp)).drewN _⟩
  · have hR := hid (show openOf (b.extract 0 4) (b.extract 4 b.size) = .tuple #[.string ⟨#[]⟩, .int .i64 7] by unfold openOf; rw [if_neg he])
    have t1 : (four (crc (b.extract 4 b.size).data.toList) == (b.extract 0 4).toList) = false := by rw [sym, open_test]; exact decide_eq_false he
    clear he sym
    generalize crc (b.extract 4 b.size).data.toList = n at C D t1
    go_enter Try.func11, Try.ntmps11
    go_upto_region 3 with fail
    go_region_with (first | (go_at_call 13; refine (C.out _).mono ?_; rintro e w1 ⟨rfl, rfl⟩) | (go_at_call 20; refine (D.out _).mono ?_; rintro e w2 ⟨rfl, h2⟩))
    go_wp2
    go_ret2
    exact ⟨by rw [hR.out]; rfl, by first | exact (Touch.refl [] w).drew.trans h2 (by simp) | exact ((Touch.refl [] w).drew.trans h2 (by simp)).drew | exact ((Touch.refl [] w).drew.trans h2 (by simp)).drewN _⟩
end Go.Proofs.Ytfmaeaaaiagcbaa
