/-
  No cell of these rows narrows 'for every input' (looked for: loops, veiled, ifaces, maps, wideKeys, modest, calm, conditions, laid).
  DERIVED. THE GIVEN ROWS OF THIS SEAT. 4 by the template 'for every input the law returns true; each argument reads behind the call as it read before'; 0 by the template 'total and deterministic' (their statements: YtmgglmoiepjebaaTotals.lean).
  GIVEN WITH THE SEED: the statements are not yours to turn. If you find one false, say at which input.
  Laid BY PROGRAM, IN A SANDBOX (cutbox-rows.mjs): the forced cells as the released guide's own fill.sh prints them over the translation 1eb0ce15a1090b6f… (all of the seat's roots in one cut). By AI agents, Wed Nov 11 2026. No macro, syntax, notation, axiom, sorry.
-/
import Derived.Test.YtmgglmoiepjebaaChecked
import GoSem.Claim
import GoSem.ClaimJoined
import GoSem.ClaimMapViews
import Derived.JoinedTies
import Derived.KernelRfl
namespace Go.Proofs.Ytmgglmoiepjebaa
/- THE CELL 'sum', in the pinned program and in every row, IS THE sha256 OF THE DUMP (.gsa) THAT YtmgglmoiepjebaaProg.lean LOADS. Nothing in Lean hashes anything: it is a label: what it is worth is what the hold of that sum in a sandbox is worth. -/
noncomputable def Try.pinned : Pinned := { name := "ytmgglmoiepjebaa", sum := "1eb0ce15a1090b6fcefcaab824dd8c487f496b405c6360b821c556fd66c0c6a0", checked := Try.checked }
namespace Rows
def none {H : Type} : Left H := { results := [], args := [] }

/-- 'chroniclelaw16.ViewLinks': WHATEVER THE INPUT: true; the input reads as it did. -/
def viewLinksSpec : ChangeSpec := { name := "viewLinks", fn := fun _ => fun
  | [d1, d2, d3] => { results := [.lit (.bool true)], args := [d1, d2, d3] }
  | _ => none }
def viewLinksRow : OpenClaim := { program := "ytmgglmoiepjebaa", sum := "1eb0ce15a1090b6fcefcaab824dd8c487f496b405c6360b821c556fd66c0c6a0", func := "chronicle/chroniclelaw16.ViewLinks", spec := "viewLinks", inPlace := ["math.Float64frombits", "internal/bytealg.IndexByteString", "internal/bytealg.IndexString", "math.Float64bits"], unfollowed := true, recurses := true, named := ["internal/bytealg.MaxLen"], apart := false }
def ViewLinksSaid : Prop := viewLinksRow.holds Try.pinned (OpenSpec.ofChange viewLinksSpec)

/-- ITS FALSE NEIGHBOUR: 'it returns false'. Refute it at one input. -/
def viewLinksWrong : ChangeSpec := { name := "viewLinks", fn := fun _ => fun
  | [d1, d2, d3] => { results := [.lit (.bool false)], args := [d1, d2, d3] }
  | _ => none }
def ViewLinksWrongFalsely : Prop := viewLinksRow.holds Try.pinned (OpenSpec.ofChange viewLinksWrong)

/-- 'chroniclelaw16.ViewWalks': WHATEVER THE INPUT: true; the input reads as it did. -/
def viewWalksSpec : ChangeSpec := { name := "viewWalks", fn := fun _ => fun
  | [d1, d2] => { results := [.lit (.bool true)], args := [d1, d2] }
  | _ => none }
def viewWalksRow : OpenClaim := { program := "ytmgglmoiepjebaa", sum := "1eb0ce15a1090b6fcefcaab824dd8c487f496b405c6360b821c556fd66c0c6a0", func := "chronicle/chroniclelaw16.ViewWalks", spec := "viewWalks", inPlace := ["math.Float64frombits", "math.Float64bits"], unfollowed := true, recurses := true, apart := false }
def ViewWalksSaid : Prop := viewWalksRow.holds Try.pinned (OpenSpec.ofChange viewWalksSpec)

/-- ITS FALSE NEIGHBOUR: 'it returns false'. Refute it at one input. -/
def viewWalksWrong : ChangeSpec := { name := "viewWalks", fn := fun _ => fun
  | [d1, d2] => { results := [.lit (.bool false)], args := [d1, d2] }
  | _ => none }
def ViewWalksWrongFalsely : Prop := viewWalksRow.holds Try.pinned (OpenSpec.ofChange viewWalksWrong)

/-- 'chroniclelaw16.ViewPages': WHATEVER THE INPUT: true; the input reads as it did. -/
def viewPagesSpec : ChangeSpec := { name := "viewPages", fn := fun _ => fun
  | [d1, d2, d3] => { results := [.lit (.bool true)], args := [d1, d2, d3] }
  | _ => none }
def viewPagesRow : OpenClaim := { program := "ytmgglmoiepjebaa", sum := "1eb0ce15a1090b6fcefcaab824dd8c487f496b405c6360b821c556fd66c0c6a0", func := "chronicle/chroniclelaw16.ViewPages", spec := "viewPages", inPlace := ["math.Float64frombits"], unfollowed := true, recurses := true, apart := false }
def ViewPagesSaid : Prop := viewPagesRow.holds Try.pinned (OpenSpec.ofChange viewPagesSpec)

/-- ITS FALSE NEIGHBOUR: 'it returns false'. Refute it at one input. -/
def viewPagesWrong : ChangeSpec := { name := "viewPages", fn := fun _ => fun
  | [d1, d2, d3] => { results := [.lit (.bool false)], args := [d1, d2, d3] }
  | _ => none }
def ViewPagesWrongFalsely : Prop := viewPagesRow.holds Try.pinned (OpenSpec.ofChange viewPagesWrong)

/-- 'chroniclelaw16.ViewSame': WHATEVER THE INPUT: true; the input reads as it did. -/
def viewSameSpec : ChangeSpec := { name := "viewSame", fn := fun _ => fun
  | [d1, d2, d3] => { results := [.lit (.bool true)], args := [d1, d2, d3] }
  | _ => none }
def viewSameRow : OpenClaim := { program := "ytmgglmoiepjebaa", sum := "1eb0ce15a1090b6fcefcaab824dd8c487f496b405c6360b821c556fd66c0c6a0", func := "chronicle/chroniclelaw16.ViewSame", spec := "viewSame", inPlace := ["math.Float64frombits", "math.Float64bits"], unfollowed := true, recurses := true, apart := false }
def ViewSameSaid : Prop := viewSameRow.holds Try.pinned (OpenSpec.ofChange viewSameSpec)

/-- ITS FALSE NEIGHBOUR: 'it returns false'. Refute it at one input. -/
def viewSameWrong : ChangeSpec := { name := "viewSame", fn := fun _ => fun
  | [d1, d2, d3] => { results := [.lit (.bool false)], args := [d1, d2, d3] }
  | _ => none }
def ViewSameWrongFalsely : Prop := viewSameRow.holds Try.pinned (OpenSpec.ofChange viewSameWrong)

/- THE SECOND FORM. 'bulk': how many values and letters a reading holds, each counted each time it is reached (what is shared counts as often as it is met; a slice's spare places count too). A statement '..UptoSaid' is the law's where the arguments, and the package variables that the reading takes, are together of bulk at most 1048576: NARROWER than '..Said'. Prove '..Said' where nothing that the law and all that it calls make is longer than what came in: it says more and counts as full. Else prove '..UptoSaid'. A law counts once. -/
mutual
def uptoBulk {H : Type} : DataW H → Nat
  | .lit (.string bytes) => bytes.length + 1
  | .lit _ => 1
  | .nil => 1
  | .ptr d => uptoBulk d + 1
  | .slice elems spare => uptoBulkAll elems + uptoBulkAll spare + 1
  | .agg parts => uptoBulkAll parts + 1
  | .iface _ d => uptoBulk d + 1
  | .map entries => uptoBulkEntries entries + 1
  | .held _ => 1
def uptoBulkAll {H : Type} : List (DataW H) → Nat
  | [] => 0
  | d :: r => uptoBulk d + uptoBulkAll r
def uptoBulkEntries {H : Type} : List (Lit × DataW H) → Nat
  | [] => 0
  | x :: r => uptoBulkEntry x + uptoBulkEntries r
def uptoBulkEntry {H : Type} : Lit × DataW H → Nat
  | (.string bytes, d) => bytes.length + uptoBulk d + 1
  | (_, d) => uptoBulk d + 1
 end
def uptoSmall : (H : Type) → List (DataW H) → Bool := fun _ ds => decide (uptoBulkAll ds ≤ 1048576)
def OpenSpec.upto (s : _root_.Go.ChangeSpec) : _root_.Go.OpenSpec := { _root_.Go.OpenSpec.ofChange s with cond := some uptoSmall }

/-- 'chroniclelaw16.ViewLinks', WHERE WHAT IT READS IS OF BULK AT MOST 1048576: true; the input reads as it did. -/
def viewLinksUptoRow : OpenClaim := { program := "ytmgglmoiepjebaa", sum := "1eb0ce15a1090b6fcefcaab824dd8c487f496b405c6360b821c556fd66c0c6a0", func := "chronicle/chroniclelaw16.ViewLinks", spec := "viewLinks", inPlace := ["math.Float64frombits", "internal/bytealg.IndexByteString", "internal/bytealg.IndexString", "math.Float64bits"], unfollowed := true, recurses := true, named := ["internal/bytealg.MaxLen"], apart := false, narrowed := true }
def ViewLinksUptoSaid : Prop := viewLinksUptoRow.holds Try.pinned (OpenSpec.upto viewLinksSpec)

/-- 'chroniclelaw16.ViewWalks', WHERE WHAT IT READS IS OF BULK AT MOST 1048576: true; the input reads as it did. -/
def viewWalksUptoRow : OpenClaim := { program := "ytmgglmoiepjebaa", sum := "1eb0ce15a1090b6fcefcaab824dd8c487f496b405c6360b821c556fd66c0c6a0", func := "chronicle/chroniclelaw16.ViewWalks", spec := "viewWalks", inPlace := ["math.Float64frombits", "math.Float64bits"], unfollowed := true, recurses := true, apart := false, narrowed := true }
def ViewWalksUptoSaid : Prop := viewWalksUptoRow.holds Try.pinned (OpenSpec.upto viewWalksSpec)

/-- 'chroniclelaw16.ViewPages', WHERE WHAT IT READS IS OF BULK AT MOST 1048576: true; the input reads as it did. -/
def viewPagesUptoRow : OpenClaim := { program := "ytmgglmoiepjebaa", sum := "1eb0ce15a1090b6fcefcaab824dd8c487f496b405c6360b821c556fd66c0c6a0", func := "chronicle/chroniclelaw16.ViewPages", spec := "viewPages", inPlace := ["math.Float64frombits"], unfollowed := true, recurses := true, apart := false, narrowed := true }
def ViewPagesUptoSaid : Prop := viewPagesUptoRow.holds Try.pinned (OpenSpec.upto viewPagesSpec)

/-- 'chroniclelaw16.ViewSame', WHERE WHAT IT READS IS OF BULK AT MOST 1048576: true; the input reads as it did. -/
def viewSameUptoRow : OpenClaim := { program := "ytmgglmoiepjebaa", sum := "1eb0ce15a1090b6fcefcaab824dd8c487f496b405c6360b821c556fd66c0c6a0", func := "chronicle/chroniclelaw16.ViewSame", spec := "viewSame", inPlace := ["math.Float64frombits", "math.Float64bits"], unfollowed := true, recurses := true, apart := false, narrowed := true }
def ViewSameUptoSaid : Prop := viewSameUptoRow.holds Try.pinned (OpenSpec.upto viewSameSpec)

end Rows
end Go.Proofs.Ytmgglmoiepjebaa
