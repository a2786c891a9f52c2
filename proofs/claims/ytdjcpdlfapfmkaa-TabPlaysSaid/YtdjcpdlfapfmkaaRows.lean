/-
  No cell of these rows narrows 'for every input' (looked for: loops, veiled, ifaces, maps, wideKeys, modest, calm, conditions, laid).
  DERIVED. THE GIVEN ROWS OF THIS SEAT. 4 by the template 'for every input the law returns true; each argument reads behind the call as it read before'; 0 by the template 'total and deterministic' (their statements: YtdjcpdlfapfmkaaTotals.lean).
  GIVEN WITH THE SEED: the statements are not yours to turn. If you find one false, say at which input.
  Laid BY PROGRAM, IN A SANDBOX (cutbox-rows.mjs): the forced cells as the released guide's own fill.sh prints them over the translation d62d1eb908c70241… (all of the seat's roots in one cut). By AI agents, Wed Nov 11 2026. No macro, syntax, notation, axiom, sorry.
-/
import Derived.Test.YtdjcpdlfapfmkaaChecked
import GoSem.Claim
import GoSem.ClaimJoined
import GoSem.ClaimMapViews
import Derived.JoinedTies
import Derived.KernelRfl
namespace Go.Proofs.Ytdjcpdlfapfmkaa
/- THE CELL 'sum', in the pinned program and in every row, IS THE sha256 OF THE DUMP (.gsa) THAT YtdjcpdlfapfmkaaProg.lean LOADS. Nothing in Lean hashes anything: it is a label: what it is worth is what the hold of that sum in a sandbox is worth. -/
noncomputable def Try.pinned : Pinned := { name := "ytdjcpdlfapfmkaa", sum := "d62d1eb908c70241a024098d1afc64e01e914d16aa8b2f86394e0ca3c31e992a", checked := Try.checked }
namespace Rows
def none {H : Type} : Left H := { results := [], args := [] }

/-- 'chroniclelaw12.TabPlays': WHATEVER THE INPUT: true; the input reads as it did. -/
def tabPlaysSpec : ChangeSpec := { name := "tabPlays", fn := fun _ => fun
  | [d1, d2, d3, d4] => { results := [.lit (.bool true)], args := [d1, d2, d3, d4] }
  | _ => none }
def tabPlaysRow : OpenClaim := { program := "ytdjcpdlfapfmkaa", sum := "d62d1eb908c70241a024098d1afc64e01e914d16aa8b2f86394e0ca3c31e992a", func := "chronicle/chroniclelaw12.TabPlays", spec := "tabPlays", inPlace := ["math.Float64bits"], unfollowed := true, recurses := true, apart := false }
def TabPlaysSaid : Prop := tabPlaysRow.holds Try.pinned (OpenSpec.ofChange tabPlaysSpec)

/-- ITS FALSE NEIGHBOUR: 'it returns false'. Refute it at one input. -/
def tabPlaysWrong : ChangeSpec := { name := "tabPlays", fn := fun _ => fun
  | [d1, d2, d3, d4] => { results := [.lit (.bool false)], args := [d1, d2, d3, d4] }
  | _ => none }
def TabPlaysWrongFalsely : Prop := tabPlaysRow.holds Try.pinned (OpenSpec.ofChange tabPlaysWrong)

/-- 'chroniclelaw13.TableChanged': WHATEVER THE INPUT: true; the input reads as it did. -/
def tableChangedSpec : ChangeSpec := { name := "tableChanged", fn := fun _ => fun
  | [d1, d2, d3] => { results := [.lit (.bool true)], args := [d1, d2, d3] }
  | _ => none }
def tableChangedRow : OpenClaim := { program := "ytdjcpdlfapfmkaa", sum := "d62d1eb908c70241a024098d1afc64e01e914d16aa8b2f86394e0ca3c31e992a", func := "chronicle/chroniclelaw13.TableChanged", spec := "tableChanged", unfollowed := true, recurses := true, apart := false }
def TableChangedSaid : Prop := tableChangedRow.holds Try.pinned (OpenSpec.ofChange tableChangedSpec)

/-- ITS FALSE NEIGHBOUR: 'it returns false'. Refute it at one input. -/
def tableChangedWrong : ChangeSpec := { name := "tableChanged", fn := fun _ => fun
  | [d1, d2, d3] => { results := [.lit (.bool false)], args := [d1, d2, d3] }
  | _ => none }
def TableChangedWrongFalsely : Prop := tableChangedRow.holds Try.pinned (OpenSpec.ofChange tableChangedWrong)

/-- 'chroniclelaw13.TableAsTab': WHATEVER THE INPUT: true; the input reads as it did. -/
def tableAsTabSpec : ChangeSpec := { name := "tableAsTab", fn := fun _ => fun
  | [d1, d2, d3, d4] => { results := [.lit (.bool true)], args := [d1, d2, d3, d4] }
  | _ => none }
def tableAsTabRow : OpenClaim := { program := "ytdjcpdlfapfmkaa", sum := "d62d1eb908c70241a024098d1afc64e01e914d16aa8b2f86394e0ca3c31e992a", func := "chronicle/chroniclelaw13.TableAsTab", spec := "tableAsTab", unfollowed := true, recurses := true, apart := false }
def TableAsTabSaid : Prop := tableAsTabRow.holds Try.pinned (OpenSpec.ofChange tableAsTabSpec)

/-- ITS FALSE NEIGHBOUR: 'it returns false'. Refute it at one input. -/
def tableAsTabWrong : ChangeSpec := { name := "tableAsTab", fn := fun _ => fun
  | [d1, d2, d3, d4] => { results := [.lit (.bool false)], args := [d1, d2, d3, d4] }
  | _ => none }
def TableAsTabWrongFalsely : Prop := tableAsTabRow.holds Try.pinned (OpenSpec.ofChange tableAsTabWrong)

/-- 'chroniclelaw13.TableMids': WHATEVER THE INPUT: true; the input reads as it did. -/
def tableMidsSpec : ChangeSpec := { name := "tableMids", fn := fun _ => fun
  | [d] => { results := [.lit (.bool true)], args := [d] }
  | _ => none }
def tableMidsRow : OpenClaim := { program := "ytdjcpdlfapfmkaa", sum := "d62d1eb908c70241a024098d1afc64e01e914d16aa8b2f86394e0ca3c31e992a", func := "chronicle/chroniclelaw13.TableMids", spec := "tableMids", unfollowed := true, recurses := true, apart := false }
def TableMidsSaid : Prop := tableMidsRow.holds Try.pinned (OpenSpec.ofChange tableMidsSpec)

/-- ITS FALSE NEIGHBOUR: 'it returns false'. Refute it at one input. -/
def tableMidsWrong : ChangeSpec := { name := "tableMids", fn := fun _ => fun
  | [d] => { results := [.lit (.bool false)], args := [d] }
  | _ => none }
def TableMidsWrongFalsely : Prop := tableMidsRow.holds Try.pinned (OpenSpec.ofChange tableMidsWrong)

/- THE SECOND FORM. 'bulk': how many values and letters a reading holds, each counted each time it is reached (what is shared counts as often as it is met; a slice's spare places count too). A statement '..UptoSaid' is the law's where the arguments, and the package variables that the reading takes, are together of bulk at most 1048576: NARROWER than '..Said'. Prove '..Said' where nothing that the law and all that it calls make is longer than what came in: it says more and counts as full. Else prove '..UptoSaid'. A law counts once. -/
mutual
def uptoBulk {H : Type} : DataW H → Nat
  | .lit (.string bytes) => bytes.length + 1
  | .lit _ => 1
  | .nil => 1
  | .ptr d => uptoBulk d + 1
  | .slice elems spare => uptoBulkAll elems + uptoBulkAll spare + 1
  | .agg parts => uptoBulkAll parts + 1
  | .iface _ d => uptoBulk d + 1
  | .map entries => uptoBulkEntries entries + 1
  | .held _ => 1
def uptoBulkAll {H : Type} : List (DataW H) → Nat
  | [] => 0
  | d :: r => uptoBulk d + uptoBulkAll r
def uptoBulkEntries {H : Type} : List (Lit × DataW H) → Nat
  | [] => 0
  | x :: r => uptoBulkEntry x + uptoBulkEntries r
def uptoBulkEntry {H : Type} : Lit × DataW H → Nat
  | (.string bytes, d) => bytes.length + uptoBulk d + 1
  | (_, d) => uptoBulk d + 1
 end
def uptoSmall : (H : Type) → List (DataW H) → Bool := fun _ ds => decide (uptoBulkAll ds ≤ 1048576)
def OpenSpec.upto (s : _root_.Go.ChangeSpec) : _root_.Go.OpenSpec := { _root_.Go.OpenSpec.ofChange s with cond := some uptoSmall }

/-- 'chroniclelaw12.TabPlays', WHERE WHAT IT READS IS OF BULK AT MOST 1048576: true; the input reads as it did. -/
def tabPlaysUptoRow : OpenClaim := { program := "ytdjcpdlfapfmkaa", sum := "d62d1eb908c70241a024098d1afc64e01e914d16aa8b2f86394e0ca3c31e992a", func := "chronicle/chroniclelaw12.TabPlays", spec := "tabPlays", inPlace := ["math.Float64bits"], unfollowed := true, recurses := true, apart := false, narrowed := true }
def TabPlaysUptoSaid : Prop := tabPlaysUptoRow.holds Try.pinned (OpenSpec.upto tabPlaysSpec)

/-- 'chroniclelaw13.TableChanged', WHERE WHAT IT READS IS OF BULK AT MOST 1048576: true; the input reads as it did. -/
def tableChangedUptoRow : OpenClaim := { program := "ytdjcpdlfapfmkaa", sum := "d62d1eb908c70241a024098d1afc64e01e914d16aa8b2f86394e0ca3c31e992a", func := "chronicle/chroniclelaw13.TableChanged", spec := "tableChanged", unfollowed := true, recurses := true, apart := false, narrowed := true }
def TableChangedUptoSaid : Prop := tableChangedUptoRow.holds Try.pinned (OpenSpec.upto tableChangedSpec)

/-- 'chroniclelaw13.TableAsTab', WHERE WHAT IT READS IS OF BULK AT MOST 1048576: true; the input reads as it did. -/
def tableAsTabUptoRow : OpenClaim := { program := "ytdjcpdlfapfmkaa", sum := "d62d1eb908c70241a024098d1afc64e01e914d16aa8b2f86394e0ca3c31e992a", func := "chronicle/chroniclelaw13.TableAsTab", spec := "tableAsTab", unfollowed := true, recurses := true, apart := false, narrowed := true }
def TableAsTabUptoSaid : Prop := tableAsTabUptoRow.holds Try.pinned (OpenSpec.upto tableAsTabSpec)

/-- 'chroniclelaw13.TableMids', WHERE WHAT IT READS IS OF BULK AT MOST 1048576: true; the input reads as it did. -/
def tableMidsUptoRow : OpenClaim := { program := "ytdjcpdlfapfmkaa", sum := "d62d1eb908c70241a024098d1afc64e01e914d16aa8b2f86394e0ca3c31e992a", func := "chronicle/chroniclelaw13.TableMids", spec := "tableMids", unfollowed := true, recurses := true, apart := false, narrowed := true }
def TableMidsUptoSaid : Prop := tableMidsUptoRow.holds Try.pinned (OpenSpec.upto tableMidsSpec)

end Rows
end Go.Proofs.Ytdjcpdlfapfmkaa
