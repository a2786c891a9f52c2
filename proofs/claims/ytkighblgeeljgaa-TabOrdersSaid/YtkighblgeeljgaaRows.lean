/-
  No cell of these rows narrows 'for every input' (looked for: loops, veiled, ifaces, maps, wideKeys, modest, calm, conditions, laid).
  DERIVED. THE GIVEN ROWS OF THIS SEAT. 4 by the template 'for every input the law returns true; each argument reads behind the call as it read before'; 0 by the template 'total and deterministic' (their statements: YtkighblgeeljgaaTotals.lean).
  GIVEN WITH THE SEED: the statements are not yours to turn. If you find one false, say at which input.
  Laid BY PROGRAM, IN A SANDBOX (cutbox-rows.mjs): the forced cells as the released guide's own fill.sh prints them over the translation 1423d69270e6f2c1… (all of the seat's roots in one cut). By AI agents, Wed Nov 11 2026. No macro, syntax, notation, axiom, sorry.
-/
import Derived.Test.YtkighblgeeljgaaChecked
import GoSem.Claim
import GoSem.ClaimJoined
import GoSem.ClaimMapViews
import Derived.JoinedTies
import Derived.KernelRfl
namespace Go.Proofs.Ytkighblgeeljgaa
/- THE CELL 'sum', in the pinned program and in every row, IS THE sha256 OF THE DUMP (.gsa) THAT YtkighblgeeljgaaProg.lean LOADS. Nothing in Lean hashes anything: it is a label: what it is worth is what the hold of that sum in a sandbox is worth. -/
noncomputable def Try.pinned : Pinned := { name := "ytkighblgeeljgaa", sum := "1423d69270e6f2c1b2d38ce88506c66d938c995b22f771417a7836b3e8ee2be0", checked := Try.checked }
namespace Rows
def none {H : Type} : Left H := { results := [], args := [] }

/-- 'chroniclelaw12.TabPlays': WHATEVER THE INPUT: true; the input reads as it did. -/
def tabPlaysSpec : ChangeSpec := { name := "tabPlays", fn := fun _ => fun
  | [d1, d2, d3, d4] => { results := [.lit (.bool true)], args := [d1, d2, d3, d4] }
  | _ => none }
def tabPlaysRow : OpenClaim := { program := "ytkighblgeeljgaa", sum := "1423d69270e6f2c1b2d38ce88506c66d938c995b22f771417a7836b3e8ee2be0", func := "chronicle/chroniclelaw12.TabPlays", spec := "tabPlays", inPlace := ["math.Float64bits"], unfollowed := true, recurses := true, apart := false }
def TabPlaysSaid : Prop := tabPlaysRow.holds Try.pinned (OpenSpec.ofChange tabPlaysSpec)

/-- ITS FALSE NEIGHBOUR: 'it returns false'. Refute it at one input. -/
def tabPlaysWrong : ChangeSpec := { name := "tabPlays", fn := fun _ => fun
  | [d1, d2, d3, d4] => { results := [.lit (.bool false)], args := [d1, d2, d3, d4] }
  | _ => none }
def TabPlaysWrongFalsely : Prop := tabPlaysRow.holds Try.pinned (OpenSpec.ofChange tabPlaysWrong)

/-- 'chroniclelaw12.TabOrders': WHATEVER THE INPUT: true; the input reads as it did. -/
def tabOrdersSpec : ChangeSpec := { name := "tabOrders", fn := fun _ => fun
  | [d1, d2, d3] => { results := [.lit (.bool true)], args := [d1, d2, d3] }
  | _ => none }
def tabOrdersRow : OpenClaim := { program := "ytkighblgeeljgaa", sum := "1423d69270e6f2c1b2d38ce88506c66d938c995b22f771417a7836b3e8ee2be0", func := "chronicle/chroniclelaw12.TabOrders", spec := "tabOrders", unfollowed := true, recurses := true, apart := false }
def TabOrdersSaid : Prop := tabOrdersRow.holds Try.pinned (OpenSpec.ofChange tabOrdersSpec)

/-- ITS FALSE NEIGHBOUR: 'it returns false'. Refute it at one input. -/
def tabOrdersWrong : ChangeSpec := { name := "tabOrders", fn := fun _ => fun
  | [d1, d2, d3] => { results := [.lit (.bool false)], args := [d1, d2, d3] }
  | _ => none }
def TabOrdersWrongFalsely : Prop := tabOrdersRow.holds Try.pinned (OpenSpec.ofChange tabOrdersWrong)

/-- 'chroniclelaw12.TabAdds': WHATEVER THE INPUT: true; the input reads as it did. -/
def tabAddsSpec : ChangeSpec := { name := "tabAdds", fn := fun _ => fun
  | [d1, d2] => { results := [.lit (.bool true)], args := [d1, d2] }
  | _ => none }
def tabAddsRow : OpenClaim := { program := "ytkighblgeeljgaa", sum := "1423d69270e6f2c1b2d38ce88506c66d938c995b22f771417a7836b3e8ee2be0", func := "chronicle/chroniclelaw12.TabAdds", spec := "tabAdds", unfollowed := true, recurses := true, apart := false }
def TabAddsSaid : Prop := tabAddsRow.holds Try.pinned (OpenSpec.ofChange tabAddsSpec)

/-- ITS FALSE NEIGHBOUR: 'it returns false'. Refute it at one input. -/
def tabAddsWrong : ChangeSpec := { name := "tabAdds", fn := fun _ => fun
  | [d1, d2] => { results := [.lit (.bool false)], args := [d1, d2] }
  | _ => none }
def TabAddsWrongFalsely : Prop := tabAddsRow.holds Try.pinned (OpenSpec.ofChange tabAddsWrong)

/-- 'chroniclelaw12.TabFinds': WHATEVER THE INPUT: true; the input reads as it did. -/
def tabFindsSpec : ChangeSpec := { name := "tabFinds", fn := fun _ => fun
  | [d1, d2] => { results := [.lit (.bool true)], args := [d1, d2] }
  | _ => none }
def tabFindsRow : OpenClaim := { program := "ytkighblgeeljgaa", sum := "1423d69270e6f2c1b2d38ce88506c66d938c995b22f771417a7836b3e8ee2be0", func := "chronicle/chroniclelaw12.TabFinds", spec := "tabFinds", unfollowed := true, recurses := true, apart := false }
def TabFindsSaid : Prop := tabFindsRow.holds Try.pinned (OpenSpec.ofChange tabFindsSpec)

/-- ITS FALSE NEIGHBOUR: 'it returns false'. Refute it at one input. -/
def tabFindsWrong : ChangeSpec := { name := "tabFinds", fn := fun _ => fun
  | [d1, d2] => { results := [.lit (.bool false)], args := [d1, d2] }
  | _ => none }
def TabFindsWrongFalsely : Prop := tabFindsRow.holds Try.pinned (OpenSpec.ofChange tabFindsWrong)

/- THE SECOND FORM. 'bulk': how many values and letters a reading holds, each counted each time it is reached (what is shared counts as often as it is met; a slice's spare places count too). A statement '..UptoSaid' is the law's where the arguments, and the package variables that the reading takes, are together of bulk at most 1048576: NARROWER than '..Said'. Prove '..Said' where nothing that the law and all that it calls make is longer than what came in: it says more and counts as full. Else prove '..UptoSaid'. A law counts once. -/
mutual
def uptoBulk {H : Type} : DataW H → Nat
  | .lit (.string bytes) => bytes.length + 1
  | .lit _ => 1
  | .nil => 1
  | .ptr d => uptoBulk d + 1
  | .slice elems spare => uptoBulkAll elems + uptoBulkAll spare + 1
  | .agg parts => uptoBulkAll parts + 1
  | .iface _ d => uptoBulk d + 1
  | .map entries => uptoBulkEntries entries + 1
  | .held _ => 1
def uptoBulkAll {H : Type} : List (DataW H) → Nat
  | [] => 0
  | d :: r => uptoBulk d + uptoBulkAll r
def uptoBulkEntries {H : Type} : List (Lit × DataW H) → Nat
  | [] => 0
  | x :: r => uptoBulkEntry x + uptoBulkEntries r
def uptoBulkEntry {H : Type} : Lit × DataW H → Nat
  | (.string bytes, d) => bytes.length + uptoBulk d + 1
  | (_, d) => uptoBulk d + 1
 end
def uptoSmall : (H : Type) → List (DataW H) → Bool := fun _ ds => decide (uptoBulkAll ds ≤ 1048576)
def OpenSpec.upto (s : _root_.Go.ChangeSpec) : _root_.Go.OpenSpec := { _root_.Go.OpenSpec.ofChange s with cond := some uptoSmall }

/-- 'chroniclelaw12.TabPlays', WHERE WHAT IT READS IS OF BULK AT MOST 1048576: true; the input reads as it did. -/
def tabPlaysUptoRow : OpenClaim := { program := "ytkighblgeeljgaa", sum := "1423d69270e6f2c1b2d38ce88506c66d938c995b22f771417a7836b3e8ee2be0", func := "chronicle/chroniclelaw12.TabPlays", spec := "tabPlays", inPlace := ["math.Float64bits"], unfollowed := true, recurses := true, apart := false, narrowed := true }
def TabPlaysUptoSaid : Prop := tabPlaysUptoRow.holds Try.pinned (OpenSpec.upto tabPlaysSpec)

/-- 'chroniclelaw12.TabOrders', WHERE WHAT IT READS IS OF BULK AT MOST 1048576: true; the input reads as it did. -/
def tabOrdersUptoRow : OpenClaim := { program := "ytkighblgeeljgaa", sum := "1423d69270e6f2c1b2d38ce88506c66d938c995b22f771417a7836b3e8ee2be0", func := "chronicle/chroniclelaw12.TabOrders", spec := "tabOrders", unfollowed := true, recurses := true, apart := false, narrowed := true }
def TabOrdersUptoSaid : Prop := tabOrdersUptoRow.holds Try.pinned (OpenSpec.upto tabOrdersSpec)

/-- 'chroniclelaw12.TabAdds', WHERE WHAT IT READS IS OF BULK AT MOST 1048576: true; the input reads as it did. -/
def tabAddsUptoRow : OpenClaim := { program := "ytkighblgeeljgaa", sum := "1423d69270e6f2c1b2d38ce88506c66d938c995b22f771417a7836b3e8ee2be0", func := "chronicle/chroniclelaw12.TabAdds", spec := "tabAdds", unfollowed := true, recurses := true, apart := false, narrowed := true }
def TabAddsUptoSaid : Prop := tabAddsUptoRow.holds Try.pinned (OpenSpec.upto tabAddsSpec)

/-- 'chroniclelaw12.TabFinds', WHERE WHAT IT READS IS OF BULK AT MOST 1048576: true; the input reads as it did. -/
def tabFindsUptoRow : OpenClaim := { program := "ytkighblgeeljgaa", sum := "1423d69270e6f2c1b2d38ce88506c66d938c995b22f771417a7836b3e8ee2be0", func := "chronicle/chroniclelaw12.TabFinds", spec := "tabFinds", unfollowed := true, recurses := true, apart := false, narrowed := true }
def TabFindsUptoSaid : Prop := tabFindsUptoRow.holds Try.pinned (OpenSpec.upto tabFindsSpec)

end Rows
end Go.Proofs.Ytkighblgeeljgaa
