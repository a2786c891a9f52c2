/- strings.Clone of a text. -/
import Derived.Test.YtmaainnfflapiaaBase
import Derived.Test.YtmaainnfflapiaaShelf
namespace Go.Proofs.Ytmaainnfflapiaa
set_option maxRecDepth 100000
open Go.RowKit Go.Lib

theorem clone_any (s : ByteArray) (w : World) (h : s.size ≤ 281474976710656) :
    Calls Try.prog 96 #[.string s] w fun e w' => e = .returned (.string s) ∧ Touch [] w w' := by
  have C := hid (Try.stringslite_Clone s w h)
  clear h
  go_enter Try.func96, Try.ntmps96
  go_wp2_with (go_at_call 99; refine C.out.mono ?_; rintro e w1 ⟨rfl, hp⟩)
  have hp2 := hid hp
  go_ret
  exact ⟨rfl, Touch.of_below hp2.out⟩
end Go.Proofs.Ytmaainnfflapiaa
