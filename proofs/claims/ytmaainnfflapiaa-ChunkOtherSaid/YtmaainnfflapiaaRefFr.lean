/- The laws' own Frame, First, Last. -/
import Derived.Test.YtmaainnfflapiaaNum8
import Derived.Test.YtmaainnfflapiaaFr8
namespace Go.Proofs.Ytmaainnfflapiaa
open Go.RowKit Go.Lib
set_option maxRecDepth 100000

/-- What Frame tells. -/
def frB (s : ByteArray) : ByteArray := if 4000 < s.size then ⟨#[]⟩ else ⟨(frL s.data.toList).toArray⟩
def frE (s : ByteArray) : Int := if 4000 < s.size then 2 else 0
def bytesT (l : List UInt8) : ByteArray := ⟨l.toArray⟩

theorem refFrame_any (s : ByteArray) (w : World) (hs : s.size ≤ 1000000000) : Calls Try.prog 24 #[.string s] w fun e w' => e = .returned (.tuple #[.string (frB s), .int .i64 (frE s)]) ∧ Touch [] w w' := by
  unfold frB frE
  by_cases h : 4000 < s.size
  · rw [if_pos h, if_pos h]
    have q : (4000 : Int) < s.size := by omega
    clear h hs
    go_enter Try.func24, Try.ntmps24
    go_wp2
    go_ret2
    exact ⟨rfl, Touch.refl _ _⟩
  · rw [if_neg h, if_neg h]
    have q : (s.size : Int) ≤ 4000 := by omega
    have hl := list_len s
    have C1 := hid (fun w => number_any s.size w (by omega))
    have h4b : (ByteArray.mk (be 4 s.size).toArray).size = 4 := by
      show (be 4 s.size).toArray.size = 4
      simp [be_length]
    have CS := hid (fun w => refSum_any (⟨(be 4 s.size).toArray⟩ ++ s) w (by rw [ByteArray.size_append, h4b]; unfold maxLen; omega))
    have e1 : ((⟨(be 4 s.size).toArray⟩ : ByteArray) ++ s).data.toList = be 4 s.size ++ s.data.toList := by simp
    rw [e1] at CS
    have hcl := crc_lt (be 4 s.size ++ s.data.toList)
    have C2 := hid (fun w => number_any (crc (be 4 s.size ++ s.data.toList)) w hcl)
    have hw : IntKind.i64.wrap (crc (be 4 s.size ++ s.data.toList) : Int) = (crc (be 4 s.size ++ s.data.toList) : Int) := by rw [IntKind.wrap_i64]; omega
    have hR : Hid ((((⟨(be 4 s.size).toArray⟩ : ByteArray) ++ ⟨(be 4 (crc (be 4 s.size ++ s.data.toList))).toArray⟩) ++ s) ++ ⟨(be 4 s.size).toArray⟩ = ⟨(frL s.data.toList).toArray⟩) := by
      have : ((((⟨(be 4 s.size).toArray⟩ : ByteArray) ++ ⟨(be 4 (crc (be 4 s.size ++ s.data.toList))).toArray⟩) ++ s) ++ ⟨(be 4 s.size).toArray⟩).data.toList = frL s.data.toList := by
        unfold frL
        rw [hl]
        simp
      exact hid (str_eq this)
    have h4c : (ByteArray.mk (be 4 (crc (be 4 s.size ++ s.data.toList))).toArray).size = 4 := by
      show (be 4 (crc (be 4 s.size ++ s.data.toList))).toArray.size = 4
      simp [be_length]
    generalize crc (be 4 s.size ++ s.data.toList) = k at *
    generalize (⟨(be 4 k).toArray⟩ : ByteArray) = B2 at *
    generalize (⟨(be 4 s.size).toArray⟩ : ByteArray) = B1 at *
    have c1 : ¬ 9223372036854775807 < B1.size + s.size := by omega
    have c2 : ¬ 9223372036854775807 < B1.size + B2.size := by omega
    have c3 : ¬ 9223372036854775807 < (B1 ++ B2).size + s.size := by rw [ByteArray.size_append]; omega
    have c4 : ¬ 9223372036854775807 < (B1 ++ B2 ++ s).size + B1.size := by rw [ByteArray.size_append, ByteArray.size_append]; omega
    have c5 : ¬ 9223372036854775807 < B1.size + B2.size + s.size := by omega
    have c6 : ¬ 9223372036854775807 < B1.size + B2.size + s.size + B1.size := by omega
    clear h hs hl e1 hcl h4b h4c
    go_enter Try.func24, Try.ntmps24
    go_wp2_with (first
      | (go_at_call 25; with_reducible refine (C1.out _).mono ?_; rintro e w1 ⟨rfl, t1⟩)
      | (go_at_call 60; with_reducible refine (CS.out _).mono ?_; rintro e w2 ⟨rfl, rfl⟩)
      | (go_at_call 25; with_reducible refine (C2.out _).mono ?_; rintro e w3 ⟨rfl, t3⟩))
    go_ret2
    exact ⟨by rw [← hR.out]; rfl, t1.trans t3 (by simp)⟩
end Go.Proofs.Ytmaainnfflapiaa
