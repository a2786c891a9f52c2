/-
  No cell of these rows narrows 'for every input' (looked for: loops, veiled, ifaces, maps, wideKeys, modest, calm, conditions, laid).
  DERIVED. THE GIVEN ROWS OF THIS SEAT. 6 by the template 'for every input the law returns true; each argument reads behind the call as it read before'; 0 by the template 'total and deterministic' (their statements: YtjakkjjohpkcjaaTotals.lean).
  GIVEN WITH THE SEED: the statements are not yours to turn. If you find one false, say at which input.
  Laid BY PROGRAM, IN A SANDBOX (cutbox-rows.mjs): the forced cells as the released guide's own fill.sh prints them over the translation b229f90132ae808f… (all of the seat's roots in one cut). By AI agents, Wed Nov 11 2026. No macro, syntax, notation, axiom, sorry.
-/
import Derived.Test.YtjakkjjohpkcjaaChecked
import GoSem.Claim
import GoSem.ClaimJoined
import GoSem.ClaimMapViews
import Derived.JoinedTies
import Derived.KernelRfl
namespace Go.Proofs.Ytjakkjjohpkcjaa
/- THE CELL 'sum', in the pinned program and in every row, IS THE sha256 OF THE DUMP (.gsa) THAT YtjakkjjohpkcjaaProg.lean LOADS. Nothing in Lean hashes anything: it is a label: what it is worth is what the hold of that sum in a sandbox is worth. -/
noncomputable def Try.pinned : Pinned := { name := "ytjakkjjohpkcjaa", sum := "b229f90132ae808f89a54fa34dec0ea5b81b585f817d398275125ea9b0fb3684", checked := Try.checked }
namespace Rows
def none {H : Type} : Left H := { results := [], args := [] }

/-- 'chroniclelaw4.GuardTells': WHATEVER THE INPUT: true; the input reads as it did. -/
def guardTellsSpec : ChangeSpec := { name := "guardTells", fn := fun _ => fun
  | [d] => { results := [.lit (.bool true)], args := [d] }
  | _ => none }
def guardTellsRow : OpenClaim := { program := "ytjakkjjohpkcjaa", sum := "b229f90132ae808f89a54fa34dec0ea5b81b585f817d398275125ea9b0fb3684", func := "chronicle/chroniclelaw4.GuardTells", spec := "guardTells", unfollowed := true, recurses := true, apart := false }
def GuardTellsSaid : Prop := guardTellsRow.holds Try.pinned (OpenSpec.ofChange guardTellsSpec)

/-- ITS FALSE NEIGHBOUR: 'it returns false'. Refute it at one input. -/
def guardTellsWrong : ChangeSpec := { name := "guardTells", fn := fun _ => fun
  | [d] => { results := [.lit (.bool false)], args := [d] }
  | _ => none }
def GuardTellsWrongFalsely : Prop := guardTellsRow.holds Try.pinned (OpenSpec.ofChange guardTellsWrong)

/-- 'chroniclelaw4.GuardTries': WHATEVER THE INPUT: true; the input reads as it did. -/
def guardTriesSpec : ChangeSpec := { name := "guardTries", fn := fun _ => fun
  | [d1, d2] => { results := [.lit (.bool true)], args := [d1, d2] }
  | _ => none }
def guardTriesRow : OpenClaim := { program := "ytjakkjjohpkcjaa", sum := "b229f90132ae808f89a54fa34dec0ea5b81b585f817d398275125ea9b0fb3684", func := "chronicle/chroniclelaw4.GuardTries", spec := "guardTries", unfollowed := true, recurses := true, apart := false }
def GuardTriesSaid : Prop := guardTriesRow.holds Try.pinned (OpenSpec.ofChange guardTriesSpec)

/-- ITS FALSE NEIGHBOUR: 'it returns false'. Refute it at one input. -/
def guardTriesWrong : ChangeSpec := { name := "guardTries", fn := fun _ => fun
  | [d1, d2] => { results := [.lit (.bool false)], args := [d1, d2] }
  | _ => none }
def GuardTriesWrongFalsely : Prop := guardTriesRow.holds Try.pinned (OpenSpec.ofChange guardTriesWrong)

/-- 'chroniclelaw4.GuardFirst': WHATEVER THE INPUT: true; the input reads as it did. -/
def guardFirstSpec : ChangeSpec := { name := "guardFirst", fn := fun _ => fun
  | [d] => { results := [.lit (.bool true)], args := [d] }
  | _ => none }
def guardFirstRow : OpenClaim := { program := "ytjakkjjohpkcjaa", sum := "b229f90132ae808f89a54fa34dec0ea5b81b585f817d398275125ea9b0fb3684", func := "chronicle/chroniclelaw4.GuardFirst", spec := "guardFirst", unfollowed := true, recurses := true, apart := false }
def GuardFirstSaid : Prop := guardFirstRow.holds Try.pinned (OpenSpec.ofChange guardFirstSpec)

/-- ITS FALSE NEIGHBOUR: 'it returns false'. Refute it at one input. -/
def guardFirstWrong : ChangeSpec := { name := "guardFirst", fn := fun _ => fun
  | [d] => { results := [.lit (.bool false)], args := [d] }
  | _ => none }
def GuardFirstWrongFalsely : Prop := guardFirstRow.holds Try.pinned (OpenSpec.ofChange guardFirstWrong)

/-- 'chroniclelaw4.GuardMust': WHATEVER THE INPUT: true; the input reads as it did. -/
def guardMustSpec : ChangeSpec := { name := "guardMust", fn := fun _ => fun
  | [d1, d2] => { results := [.lit (.bool true)], args := [d1, d2] }
  | _ => none }
def guardMustRow : OpenClaim := { program := "ytjakkjjohpkcjaa", sum := "b229f90132ae808f89a54fa34dec0ea5b81b585f817d398275125ea9b0fb3684", func := "chronicle/chroniclelaw4.GuardMust", spec := "guardMust", unfollowed := true, recurses := true, apart := false }
def GuardMustSaid : Prop := guardMustRow.holds Try.pinned (OpenSpec.ofChange guardMustSpec)

/-- ITS FALSE NEIGHBOUR: 'it returns false'. Refute it at one input. -/
def guardMustWrong : ChangeSpec := { name := "guardMust", fn := fun _ => fun
  | [d1, d2] => { results := [.lit (.bool false)], args := [d1, d2] }
  | _ => none }
def GuardMustWrongFalsely : Prop := guardMustRow.holds Try.pinned (OpenSpec.ofChange guardMustWrong)

/-- 'chroniclelaw4.GuardDeep': WHATEVER THE INPUT: true; the input reads as it did. -/
def guardDeepSpec : ChangeSpec := { name := "guardDeep", fn := fun _ => fun
  | [d1, d2, d3] => { results := [.lit (.bool true)], args := [d1, d2, d3] }
  | _ => none }
def guardDeepRow : OpenClaim := { program := "ytjakkjjohpkcjaa", sum := "b229f90132ae808f89a54fa34dec0ea5b81b585f817d398275125ea9b0fb3684", func := "chronicle/chroniclelaw4.GuardDeep", spec := "guardDeep", unfollowed := true, recurses := true, apart := false }
def GuardDeepSaid : Prop := guardDeepRow.holds Try.pinned (OpenSpec.ofChange guardDeepSpec)

/-- ITS FALSE NEIGHBOUR: 'it returns false'. Refute it at one input. -/
def guardDeepWrong : ChangeSpec := { name := "guardDeep", fn := fun _ => fun
  | [d1, d2, d3] => { results := [.lit (.bool false)], args := [d1, d2, d3] }
  | _ => none }
def GuardDeepWrongFalsely : Prop := guardDeepRow.holds Try.pinned (OpenSpec.ofChange guardDeepWrong)

/-- 'chroniclelaw4.GuardAgain': WHATEVER THE INPUT: true; the input reads as it did. -/
def guardAgainSpec : ChangeSpec := { name := "guardAgain", fn := fun _ => fun
  | [d] => { results := [.lit (.bool true)], args := [d] }
  | _ => none }
def guardAgainRow : OpenClaim := { program := "ytjakkjjohpkcjaa", sum := "b229f90132ae808f89a54fa34dec0ea5b81b585f817d398275125ea9b0fb3684", func := "chronicle/chroniclelaw4.GuardAgain", spec := "guardAgain", unfollowed := true, recurses := true, apart := false }
def GuardAgainSaid : Prop := guardAgainRow.holds Try.pinned (OpenSpec.ofChange guardAgainSpec)

/-- ITS FALSE NEIGHBOUR: 'it returns false'. Refute it at one input. -/
def guardAgainWrong : ChangeSpec := { name := "guardAgain", fn := fun _ => fun
  | [d] => { results := [.lit (.bool false)], args := [d] }
  | _ => none }
def GuardAgainWrongFalsely : Prop := guardAgainRow.holds Try.pinned (OpenSpec.ofChange guardAgainWrong)

/- THE SECOND FORM. 'bulk': how many values and letters a reading holds, each counted each time it is reached (what is shared counts as often as it is met; a slice's spare places count too). A statement '..UptoSaid' is the law's where the arguments, and the package variables that the reading takes, are together of bulk at most 1048576: NARROWER than '..Said'. Prove '..Said' where nothing that the law and all that it calls make is longer than what came in: it says more and counts as full. Else prove '..UptoSaid'. A law counts once. -/
mutual
def uptoBulk {H : Type} : DataW H → Nat
  | .lit (.string bytes) => bytes.length + 1
  | .lit _ => 1
  | .nil => 1
  | .ptr d => uptoBulk d + 1
  | .slice elems spare => uptoBulkAll elems + uptoBulkAll spare + 1
  | .agg parts => uptoBulkAll parts + 1
  | .iface _ d => uptoBulk d + 1
  | .map entries => uptoBulkEntries entries + 1
  | .held _ => 1
def uptoBulkAll {H : Type} : List (DataW H) → Nat
  | [] => 0
  | d :: r => uptoBulk d + uptoBulkAll r
def uptoBulkEntries {H : Type} : List (Lit × DataW H) → Nat
  | [] => 0
  | x :: r => uptoBulkEntry x + uptoBulkEntries r
def uptoBulkEntry {H : Type} : Lit × DataW H → Nat
  | (.string bytes, d) => bytes.length + uptoBulk d + 1
  | (_, d) => uptoBulk d + 1
 end
def uptoSmall : (H : Type) → List (DataW H) → Bool := fun _ ds => decide (uptoBulkAll ds ≤ 1048576)
def OpenSpec.upto (s : _root_.Go.ChangeSpec) : _root_.Go.OpenSpec := { _root_.Go.OpenSpec.ofChange s with cond := some uptoSmall }

/-- 'chroniclelaw4.GuardTells', WHERE WHAT IT READS IS OF BULK AT MOST 1048576: true; the input reads as it did. -/
def guardTellsUptoRow : OpenClaim := { program := "ytjakkjjohpkcjaa", sum := "b229f90132ae808f89a54fa34dec0ea5b81b585f817d398275125ea9b0fb3684", func := "chronicle/chroniclelaw4.GuardTells", spec := "guardTells", unfollowed := true, recurses := true, apart := false, narrowed := true }
def GuardTellsUptoSaid : Prop := guardTellsUptoRow.holds Try.pinned (OpenSpec.upto guardTellsSpec)

/-- 'chroniclelaw4.GuardTries', WHERE WHAT IT READS IS OF BULK AT MOST 1048576: true; the input reads as it did. -/
def guardTriesUptoRow : OpenClaim := { program := "ytjakkjjohpkcjaa", sum := "b229f90132ae808f89a54fa34dec0ea5b81b585f817d398275125ea9b0fb3684", func := "chronicle/chroniclelaw4.GuardTries", spec := "guardTries", unfollowed := true, recurses := true, apart := false, narrowed := true }
def GuardTriesUptoSaid : Prop := guardTriesUptoRow.holds Try.pinned (OpenSpec.upto guardTriesSpec)

/-- 'chroniclelaw4.GuardFirst', WHERE WHAT IT READS IS OF BULK AT MOST 1048576: true; the input reads as it did. -/
def guardFirstUptoRow : OpenClaim := { program := "ytjakkjjohpkcjaa", sum := "b229f90132ae808f89a54fa34dec0ea5b81b585f817d398275125ea9b0fb3684", func := "chronicle/chroniclelaw4.GuardFirst", spec := "guardFirst", unfollowed := true, recurses := true, apart := false, narrowed := true }
def GuardFirstUptoSaid : Prop := guardFirstUptoRow.holds Try.pinned (OpenSpec.upto guardFirstSpec)

/-- 'chroniclelaw4.GuardMust', WHERE WHAT IT READS IS OF BULK AT MOST 1048576: true; the input reads as it did. -/
def guardMustUptoRow : OpenClaim := { program := "ytjakkjjohpkcjaa", sum := "b229f90132ae808f89a54fa34dec0ea5b81b585f817d398275125ea9b0fb3684", func := "chronicle/chroniclelaw4.GuardMust", spec := "guardMust", unfollowed := true, recurses := true, apart := false, narrowed := true }
def GuardMustUptoSaid : Prop := guardMustUptoRow.holds Try.pinned (OpenSpec.upto guardMustSpec)

/-- 'chroniclelaw4.GuardDeep', WHERE WHAT IT READS IS OF BULK AT MOST 1048576: true; the input reads as it did. -/
def guardDeepUptoRow : OpenClaim := { program := "ytjakkjjohpkcjaa", sum := "b229f90132ae808f89a54fa34dec0ea5b81b585f817d398275125ea9b0fb3684", func := "chronicle/chroniclelaw4.GuardDeep", spec := "guardDeep", unfollowed := true, recurses := true, apart := false, narrowed := true }
def GuardDeepUptoSaid : Prop := guardDeepUptoRow.holds Try.pinned (OpenSpec.upto guardDeepSpec)

/-- 'chroniclelaw4.GuardAgain', WHERE WHAT IT READS IS OF BULK AT MOST 1048576: true; the input reads as it did. -/
def guardAgainUptoRow : OpenClaim := { program := "ytjakkjjohpkcjaa", sum := "b229f90132ae808f89a54fa34dec0ea5b81b585f817d398275125ea9b0fb3684", func := "chronicle/chroniclelaw4.GuardAgain", spec := "guardAgain", unfollowed := true, recurses := true, apart := false, narrowed := true }
def GuardAgainUptoSaid : Prop := guardAgainUptoRow.holds Try.pinned (OpenSpec.upto guardAgainSpec)

end Rows
end Go.Proofs.Ytjakkjjohpkcjaa
