/-
  No cell of these rows narrows 'for every input' (looked for: loops, veiled, ifaces, maps, wideKeys, modest, calm, conditions, laid).
  DERIVED. THE GIVEN ROWS OF THIS SEAT. 5 by the template 'for every input the law returns true; each argument reads behind the call as it read before'; 0 by the template 'total and deterministic' (their statements: YtiglfdefeaddmaaTotals.lean).
  GIVEN WITH THE SEED: the statements are not yours to turn. If you find one false, say at which input.
  Laid BY PROGRAM, IN A SANDBOX (cutbox-rows.mjs): the forced cells as the released guide's own fill.sh prints them over the translation 6206165bb1d1ab1f… (all of the seat's roots in one cut). By AI agents, Wed Nov 11 2026. No macro, syntax, notation, axiom, sorry.
-/
import Derived.Test.YtiglfdefeaddmaaChecked
import GoSem.Claim
import GoSem.ClaimJoined
import GoSem.ClaimMapViews
import Derived.JoinedTies
import Derived.KernelRfl
namespace Go.Proofs.Ytiglfdefeaddmaa
/- THE CELL 'sum', in the pinned program and in every row, IS THE sha256 OF THE DUMP (.gsa) THAT YtiglfdefeaddmaaProg.lean LOADS. Nothing in Lean hashes anything: it is a label: what it is worth is what the hold of that sum in a sandbox is worth. -/
noncomputable def Try.pinned : Pinned := { name := "ytiglfdefeaddmaa", sum := "6206165bb1d1ab1f7932a18a13cfad62502a97417d9d1e1b10ba76c40cf9fd2f", checked := Try.checked }
namespace Rows
def none {H : Type} : Left H := { results := [], args := [] }

/-- 'chroniclelaw5.ProgFolds': WHATEVER THE INPUT: true; the input reads as it did. -/
def progFoldsSpec : ChangeSpec := { name := "progFolds", fn := fun _ => fun
  | [d1, d2, d3, d4] => { results := [.lit (.bool true)], args := [d1, d2, d3, d4] }
  | _ => none }
def progFoldsRow : OpenClaim := { program := "ytiglfdefeaddmaa", sum := "6206165bb1d1ab1f7932a18a13cfad62502a97417d9d1e1b10ba76c40cf9fd2f", func := "chronicle/chroniclelaw5.ProgFolds", spec := "progFolds", inPlace := ["internal/bytealg.IndexByteString", "internal/bytealg.IndexString", "math.Float64frombits", "math.archTrunc", "math.Float64bits"], unfollowed := true, recurses := true, named := ["internal/bytealg.MaxLen"], apart := false }
def ProgFoldsSaid : Prop := progFoldsRow.holds Try.pinned (OpenSpec.ofChange progFoldsSpec)

/-- ITS FALSE NEIGHBOUR: 'it returns false'. Refute it at one input. -/
def progFoldsWrong : ChangeSpec := { name := "progFolds", fn := fun _ => fun
  | [d1, d2, d3, d4] => { results := [.lit (.bool false)], args := [d1, d2, d3, d4] }
  | _ => none }
def ProgFoldsWrongFalsely : Prop := progFoldsRow.holds Try.pinned (OpenSpec.ofChange progFoldsWrong)

/-- 'chroniclelaw5.ProgEdges': WHATEVER THE INPUT: true; the input reads as it did. -/
def progEdgesSpec : ChangeSpec := { name := "progEdges", fn := fun _ => fun
  | [d1, d2] => { results := [.lit (.bool true)], args := [d1, d2] }
  | _ => none }
def progEdgesRow : OpenClaim := { program := "ytiglfdefeaddmaa", sum := "6206165bb1d1ab1f7932a18a13cfad62502a97417d9d1e1b10ba76c40cf9fd2f", func := "chronicle/chroniclelaw5.ProgEdges", spec := "progEdges", inPlace := ["math.Float64frombits", "math.Float64bits", "math.archTrunc", "internal/bytealg.IndexByteString", "internal/bytealg.IndexString"], unfollowed := true, recurses := true, named := ["internal/bytealg.MaxLen"], apart := false }
def ProgEdgesSaid : Prop := progEdgesRow.holds Try.pinned (OpenSpec.ofChange progEdgesSpec)

/-- ITS FALSE NEIGHBOUR: 'it returns false'. Refute it at one input. -/
def progEdgesWrong : ChangeSpec := { name := "progEdges", fn := fun _ => fun
  | [d1, d2] => { results := [.lit (.bool false)], args := [d1, d2] }
  | _ => none }
def ProgEdgesWrongFalsely : Prop := progEdgesRow.holds Try.pinned (OpenSpec.ofChange progEdgesWrong)

/-- 'chroniclelaw5.ProgStack': WHATEVER THE INPUT: true; the input reads as it did. -/
def progStackSpec : ChangeSpec := { name := "progStack", fn := fun _ => fun
  | [d1, d2] => { results := [.lit (.bool true)], args := [d1, d2] }
  | _ => none }
def progStackRow : OpenClaim := { program := "ytiglfdefeaddmaa", sum := "6206165bb1d1ab1f7932a18a13cfad62502a97417d9d1e1b10ba76c40cf9fd2f", func := "chronicle/chroniclelaw5.ProgStack", spec := "progStack", inPlace := ["math.Float64frombits", "math.Float64bits", "math.archTrunc", "internal/bytealg.IndexByteString", "internal/bytealg.IndexString"], unfollowed := true, recurses := true, named := ["internal/bytealg.MaxLen"], apart := false }
def ProgStackSaid : Prop := progStackRow.holds Try.pinned (OpenSpec.ofChange progStackSpec)

/-- ITS FALSE NEIGHBOUR: 'it returns false'. Refute it at one input. -/
def progStackWrong : ChangeSpec := { name := "progStack", fn := fun _ => fun
  | [d1, d2] => { results := [.lit (.bool false)], args := [d1, d2] }
  | _ => none }
def ProgStackWrongFalsely : Prop := progStackRow.holds Try.pinned (OpenSpec.ofChange progStackWrong)

/-- 'chroniclelaw5.ProgPicks': WHATEVER THE INPUT: true; the input reads as it did. -/
def progPicksSpec : ChangeSpec := { name := "progPicks", fn := fun _ => fun
  | [d1, d2, d3] => { results := [.lit (.bool true)], args := [d1, d2, d3] }
  | _ => none }
def progPicksRow : OpenClaim := { program := "ytiglfdefeaddmaa", sum := "6206165bb1d1ab1f7932a18a13cfad62502a97417d9d1e1b10ba76c40cf9fd2f", func := "chronicle/chroniclelaw5.ProgPicks", spec := "progPicks", inPlace := ["math.Float64frombits", "math.Float64bits", "math.archTrunc", "internal/bytealg.IndexByteString", "internal/bytealg.IndexString"], unfollowed := true, recurses := true, named := ["internal/bytealg.MaxLen"], apart := false }
def ProgPicksSaid : Prop := progPicksRow.holds Try.pinned (OpenSpec.ofChange progPicksSpec)

/-- ITS FALSE NEIGHBOUR: 'it returns false'. Refute it at one input. -/
def progPicksWrong : ChangeSpec := { name := "progPicks", fn := fun _ => fun
  | [d1, d2, d3] => { results := [.lit (.bool false)], args := [d1, d2, d3] }
  | _ => none }
def ProgPicksWrongFalsely : Prop := progPicksRow.holds Try.pinned (OpenSpec.ofChange progPicksWrong)

/-- 'chroniclelaw5.ProgFails': WHATEVER THE INPUT: true; the input reads as it did. -/
def progFailsSpec : ChangeSpec := { name := "progFails", fn := fun _ => fun
  | [d1, d2] => { results := [.lit (.bool true)], args := [d1, d2] }
  | _ => none }
def progFailsRow : OpenClaim := { program := "ytiglfdefeaddmaa", sum := "6206165bb1d1ab1f7932a18a13cfad62502a97417d9d1e1b10ba76c40cf9fd2f", func := "chronicle/chroniclelaw5.ProgFails", spec := "progFails", inPlace := ["internal/bytealg.IndexByteString", "internal/bytealg.IndexString", "math.Float64frombits", "math.archTrunc", "math.Float64bits"], unfollowed := true, recurses := true, named := ["internal/bytealg.MaxLen"], apart := false }
def ProgFailsSaid : Prop := progFailsRow.holds Try.pinned (OpenSpec.ofChange progFailsSpec)

/-- ITS FALSE NEIGHBOUR: 'it returns false'. Refute it at one input. -/
def progFailsWrong : ChangeSpec := { name := "progFails", fn := fun _ => fun
  | [d1, d2] => { results := [.lit (.bool false)], args := [d1, d2] }
  | _ => none }
def ProgFailsWrongFalsely : Prop := progFailsRow.holds Try.pinned (OpenSpec.ofChange progFailsWrong)

/- THE SECOND FORM. 'bulk': how many values and letters a reading holds, each counted each time it is reached (what is shared counts as often as it is met; a slice's spare places count too). A statement '..UptoSaid' is the law's where the arguments, and the package variables that the reading takes, are together of bulk at most 1048576: NARROWER than '..Said'. Prove '..Said' where nothing that the law and all that it calls make is longer than what came in: it says more and counts as full. Else prove '..UptoSaid'. A law counts once. -/
mutual
def uptoBulk {H : Type} : DataW H → Nat
  | .lit (.string bytes) => bytes.length + 1
  | .lit _ => 1
  | .nil => 1
  | .ptr d => uptoBulk d + 1
  | .slice elems spare => uptoBulkAll elems + uptoBulkAll spare + 1
  | .agg parts => uptoBulkAll parts + 1
  | .iface _ d => uptoBulk d + 1
  | .map entries => uptoBulkEntries entries + 1
  | .held _ => 1
def uptoBulkAll {H : Type} : List (DataW H) → Nat
  | [] => 0
  | d :: r => uptoBulk d + uptoBulkAll r
def uptoBulkEntries {H : Type} : List (Lit × DataW H) → Nat
  | [] => 0
  | x :: r => uptoBulkEntry x + uptoBulkEntries r
def uptoBulkEntry {H : Type} : Lit × DataW H → Nat
  | (.string bytes, d) => bytes.length + uptoBulk d + 1
  | (_, d) => uptoBulk d + 1
 end
def uptoSmall : (H : Type) → List (DataW H) → Bool := fun _ ds => decide (uptoBulkAll ds ≤ 1048576)
def OpenSpec.upto (s : _root_.Go.ChangeSpec) : _root_.Go.OpenSpec := { _root_.Go.OpenSpec.ofChange s with cond := some uptoSmall }

/-- 'chroniclelaw5.ProgFolds', WHERE WHAT IT READS IS OF BULK AT MOST 1048576: true; the input reads as it did. -/
def progFoldsUptoRow : OpenClaim := { program := "ytiglfdefeaddmaa", sum := "6206165bb1d1ab1f7932a18a13cfad62502a97417d9d1e1b10ba76c40cf9fd2f", func := "chronicle/chroniclelaw5.ProgFolds", spec := "progFolds", inPlace := ["internal/bytealg.IndexByteString", "internal/bytealg.IndexString", "math.Float64frombits", "math.archTrunc", "math.Float64bits"], unfollowed := true, recurses := true, named := ["internal/bytealg.MaxLen"], apart := false, narrowed := true }
def ProgFoldsUptoSaid : Prop := progFoldsUptoRow.holds Try.pinned (OpenSpec.upto progFoldsSpec)

/-- 'chroniclelaw5.ProgEdges', WHERE WHAT IT READS IS OF BULK AT MOST 1048576: true; the input reads as it did. -/
def progEdgesUptoRow : OpenClaim := { program := "ytiglfdefeaddmaa", sum := "6206165bb1d1ab1f7932a18a13cfad62502a97417d9d1e1b10ba76c40cf9fd2f", func := "chronicle/chroniclelaw5.ProgEdges", spec := "progEdges", inPlace := ["math.Float64frombits", "math.Float64bits", "math.archTrunc", "internal/bytealg.IndexByteString", "internal/bytealg.IndexString"], unfollowed := true, recurses := true, named := ["internal/bytealg.MaxLen"], apart := false, narrowed := true }
def ProgEdgesUptoSaid : Prop := progEdgesUptoRow.holds Try.pinned (OpenSpec.upto progEdgesSpec)

/-- 'chroniclelaw5.ProgStack', WHERE WHAT IT READS IS OF BULK AT MOST 1048576: true; the input reads as it did. -/
def progStackUptoRow : OpenClaim := { program := "ytiglfdefeaddmaa", sum := "6206165bb1d1ab1f7932a18a13cfad62502a97417d9d1e1b10ba76c40cf9fd2f", func := "chronicle/chroniclelaw5.ProgStack", spec := "progStack", inPlace := ["math.Float64frombits", "math.Float64bits", "math.archTrunc", "internal/bytealg.IndexByteString", "internal/bytealg.IndexString"], unfollowed := true, recurses := true, named := ["internal/bytealg.MaxLen"], apart := false, narrowed := true }
def ProgStackUptoSaid : Prop := progStackUptoRow.holds Try.pinned (OpenSpec.upto progStackSpec)

/-- 'chroniclelaw5.ProgPicks', WHERE WHAT IT READS IS OF BULK AT MOST 1048576: true; the input reads as it did. -/
def progPicksUptoRow : OpenClaim := { program := "ytiglfdefeaddmaa", sum := "6206165bb1d1ab1f7932a18a13cfad62502a97417d9d1e1b10ba76c40cf9fd2f", func := "chronicle/chroniclelaw5.ProgPicks", spec := "progPicks", inPlace := ["math.Float64frombits", "math.Float64bits", "math.archTrunc", "internal/bytealg.IndexByteString", "internal/bytealg.IndexString"], unfollowed := true, recurses := true, named := ["internal/bytealg.MaxLen"], apart := false, narrowed := true }
def ProgPicksUptoSaid : Prop := progPicksUptoRow.holds Try.pinned (OpenSpec.upto progPicksSpec)

/-- 'chroniclelaw5.ProgFails', WHERE WHAT IT READS IS OF BULK AT MOST 1048576: true; the input reads as it did. -/
def progFailsUptoRow : OpenClaim := { program := "ytiglfdefeaddmaa", sum := "6206165bb1d1ab1f7932a18a13cfad62502a97417d9d1e1b10ba76c40cf9fd2f", func := "chronicle/chroniclelaw5.ProgFails", spec := "progFails", inPlace := ["internal/bytealg.IndexByteString", "internal/bytealg.IndexString", "math.Float64frombits", "math.archTrunc", "math.Float64bits"], unfollowed := true, recurses := true, named := ["internal/bytealg.MaxLen"], apart := false, narrowed := true }
def ProgFailsUptoSaid : Prop := progFailsUptoRow.holds Try.pinned (OpenSpec.upto progFailsSpec)

end Rows
end Go.Proofs.Ytiglfdefeaddmaa
