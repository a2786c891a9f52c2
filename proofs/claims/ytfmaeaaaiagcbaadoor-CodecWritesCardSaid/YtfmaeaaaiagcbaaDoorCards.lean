/-
  DERIVED. GIVEN WITH THE SEED: THE CARDS: each row of YtfmaeaaaiagcbaaDoorRows.lean that lists a variable, with what it lists TIED to the program's text (the seventh form; the later family's looks); each row that meets fmt, with fmt's text TOLD by the authors' own Lean function (tested against real Go, not proved from fmt's source: count such statements apart). THE CARD IS WHAT COUNTS. Prove the row's statement (the work); the ties are given (YtfmaeaaaiagcbaaDoorTie.lean); close each card by the builder's one call (the guide's Derived/Test/ToyasCard.lean, 'card_holds'). Laid BY PROGRAM, IN A SANDBOX (cutbox-door.mjs). By AI agents, Wed Nov 11 2026. No macro, syntax, notation, axiom, sorry.
-/
import Derived.Test.YtfmaeaaaiagcbaaDoorRows
import GoSem.ClaimSeven
namespace Go.Proofs.YtfmaeaaaiagcbaaDoor
namespace Rows

/-- THE TIED CARD OF 'chroniclelaw1.CodecWrites'. -/
def codecWritesCard : Claim7 := { stood := { row := codecWritesRow, standIns := [], harness := (true, "87c54902911ffc9fc5bc4f301c0f876cbcc4f94a4d8511aee7a68f8d5323b35c"), looks := false }, kinds := [], alts := [], laidByText := true, laidKinds := [.data, .data, .data], laidTests := true, laidLooks := .later }
def CodecWritesCardSaid : Prop := Claim7.holds Tryd.pinned (.plain (OpenSpec.ofChange codecWritesSpec)) codecWritesCard

/-- THE SECOND FORM's CARD OF 'chroniclelaw1.CodecWrites'. -/
def codecWritesUptoCard : Claim7 := { stood := { row := codecWritesUptoRow, standIns := [], harness := (true, "87c54902911ffc9fc5bc4f301c0f876cbcc4f94a4d8511aee7a68f8d5323b35c"), looks := false }, kinds := [], alts := [], laidByText := true, laidKinds := [.data, .data, .data], laidTests := true, laidLooks := .later }
def CodecWritesUptoCardSaid : Prop := Claim7.holds Tryd.pinned (.plain (OpenSpec.upto codecWritesSpec)) codecWritesUptoCard
end Rows
end Go.Proofs.YtfmaeaaaiagcbaaDoor
