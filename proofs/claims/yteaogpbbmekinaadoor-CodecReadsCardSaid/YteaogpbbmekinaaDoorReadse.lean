/- The ways out of CodecReads ahead of its loop. -/
import Derived.Test.YteaogpbbmekinaaDoorLight
namespace Go.Proofs.YteaogpbbmekinaaDoor
open Go.RowKit Go.Lib

theorem reads_long (en zero : Bool) (b0 : ByteArray) (v : Value) (w : World) (htab : Tab w) (hb : (6000 : Int) < b0.size) :
    Calls Tryd.prog 4 #[.string b0, .bool zero, v, .bool en] w fun e w' => e = .returned (.bool true) ∧ Touch [] w w' := by
  have C0 := hid (alive_true w htab)
  clear htab
  go_enter Tryd.func4, Tryd.ntmps4
  go_wp2_with (go_at_call 14; refine C0.out.mono ?_; rintro e w1 ⟨rfl, a1⟩)
  go_ret
  exact ⟨rfl, a1⟩

theorem reads_heavy (en zero : Bool) (b0 : ByteArray) (v : Value) (w : World) (htab : Tab w) (hb : (b0.size : Int) ≤ 6000)
    (hL : Hid (Calls Tryd.prog 13 #[v] w fun e w' => e = .returned (.bool false) ∧ w = w')) :
    Calls Tryd.prog 4 #[.string b0, .bool zero, v, .bool en] w fun e w' => e = .returned (.bool true) ∧ Touch [] w w' := by
  have C0 := hid (alive_true w htab)
  clear htab
  go_enter Tryd.func4, Tryd.ntmps4
  go_wp2_with (first | (go_at_call 13; refine hL.out.mono ?_; rintro e w1 ⟨rfl, rfl⟩) | (go_at_call 14; refine C0.out.mono ?_; rintro e w1 ⟨rfl, a1⟩))
  go_ret
  exact ⟨rfl, a1⟩

end Go.Proofs.YteaogpbbmekinaaDoor
