/- What the laws' own reader returns and leaves, told by the same states as codec's. -/
import Derived.Test.YtfmaeaaaiagcbaaDoorFloat
namespace Go.Proofs.YtfmaeaaaiagcbaaDoor
open Go.RowKit Go.Lib

theorem val_step2 (V c : Nat) (hV : V < 72057594037927936) (hc : c < 256) : IntKind.u64.wrap (IntKind.u64.wrap ((V : Int) * 256) + IntKind.u64.wrap (c : Int)) = ((V * 256 + c : Nat) : Int) := by
  simp only [IntKind.wrap_u64]; omega

theorem iTake_err (st : List UInt8 × Int) (n : Nat) (h : (iTake st n).2.2 ≠ 0) : (iTake st n).1 = [] := by
  unfold iTake at *
  split
  · rfl
  · rename_i h1
    split
    · rfl
    · rename_i h2
      rw [if_neg h1, if_neg h2] at h
      exact absurd rfl h

end Go.Proofs.YtfmaeaaaiagcbaaDoor
