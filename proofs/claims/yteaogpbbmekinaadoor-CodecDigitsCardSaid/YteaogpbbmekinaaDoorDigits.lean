/- The walk of CodecDigits. -/
import Derived.Test.YteaogpbbmekinaaDoorAlive
import Derived.Test.YteaogpbbmekinaaDoorRefDig
import Derived.OpenShut
namespace Go.Proofs.YteaogpbbmekinaaDoor
open Go.RowKit Go.Lib Go.ChangeShapes

theorem numSpec_form (l : List UInt8) : ∃ a e : Int, numSpec l = .tuple #[.int .i64 a, .int .i64 e] := by
  unfold numSpec
  split
  · exact ⟨_, _, rfl⟩
  · unfold numRes
    split
    · exact ⟨_, _, rfl⟩
    · exact ⟨_, _, rfl⟩

theorem walk_CodecDigits (v : Int) (wv : (Lit.int .i64 v).wf = true) (s : ByteArray) (_ws : s.size ≤ maxLen) (w : World) (htab : Tab w) :
    Calls Tryd.prog 5 #[.int .i64 v, .string s] w fun e w' => e = .returned (.bool true) ∧ Touch [] w w' := by
  obtain ⟨v0, v1⟩ := bounds_i64 wv
  by_cases h : (300 : Int) < s.size
  · have C0 := hid (alive_true w htab)
    clear htab v0 v1 wv _ws
    go_enter Tryd.func5, Tryd.ntmps5
    go_wp2_with (go_at_call 14; refine C0.out.mono ?_; rintro e w1 ⟨rfl, a1⟩)
    go_ret
    exact ⟨rfl, a1⟩
  · have h2 : (s.size : Int) ≤ 300 := by omega
    obtain ⟨a, er, hN⟩ := numSpec_form s.data.toList
    have C1 := hid (number_any s w (by omega))
    have C2 := hid (fun w => refNumber_any s w)
    rw [hN] at C1 C2
    have C3 := hid (fun w1 (h : Tab w1) => digits_any v w1 v0 v1 h)
    have C4 := hid (fun w1 => refDigits_any v w1 v0 v1)
    have Ht := hid htab
    clear htab hN v0 v1 wv _ws h
    generalize (itoa v).toArray = q at *
    go_enter Tryd.func5, Tryd.ntmps5
    go_wp2_with (go_at_call 44; refine C1.out.mono ?_; rintro e w1 ⟨rfl, a1⟩)
    have A1 := hid a1; clear a1
    have C0 := hid (alive_true w1 (Ht.out.touch A1.out))
    go_wp2_with (first | (go_at_call 45; refine (C2.out _).mono ?_; rintro e w2 ⟨rfl, rfl⟩) | (go_at_call 14; refine C0.out.mono ?_; rintro e w2 ⟨rfl, a1⟩))
    have A2 : Hid (Touch [] w w2) := A1.out.trans a1 (by simp)
    clear a1
    have C5 := hid (C3.out w2 (Ht.out.touch A2.out))
    go_wp2_with (go_at_call 46; refine C5.out.mono ?_; rintro e w3 ⟨rfl, a1⟩)
    have A3 : Hid (Touch [] w w3) := A2.out.trans a1 (by simp)
    clear a1
    go_wp2_with (go_at_call 47; refine (C4.out _).mono ?_; rintro e w4 ⟨rfl, a1⟩)
    go_ret
    exact ⟨rfl, A3.out.trans a1 (by simp)⟩
end Go.Proofs.YteaogpbbmekinaaDoor
