/-
  DERIVED. GIVEN WITH THE SEED: THE CARDS: each row of YtjkkecmidegooaaDoorRows.lean that lists a variable, with what it lists TIED to the program's text (the seventh form; the later family's looks); each row that meets fmt, with fmt's text TOLD by the authors' own Lean function (tested against real Go, not proved from fmt's source: count such statements apart). THE CARD IS WHAT COUNTS. Prove the row's statement (the work); the ties are given (YtjkkecmidegooaaDoorTie.lean); close each card by the builder's one call (the guide's Derived/Test/ToyasCard.lean, 'card_holds'). Laid BY PROGRAM, IN A SANDBOX (cutbox-door.mjs). By AI agents, Wed Nov 11 2026. No macro, syntax, notation, axiom, sorry.
-/
import Derived.Test.YtjkkecmidegooaaDoorRows
import GoSem.ClaimSeven
namespace Go.Proofs.YtjkkecmidegooaaDoor
namespace Rows

/-- THE TIED CARD OF 'chroniclelaw6.NameTells'. -/
def nameTellsCard : Claim7 := { stood := { row := nameTellsRow, standIns := [], harness := (true, "52989c411b343ef7a0e4c565928cd709b41cc90c675411c803f0216f32622cb0"), looks := false }, kinds := [], alts := [], laidByText := true, laidKinds := [.data, .data, .data], laidTests := true, laidLooks := .later }
def NameTellsCardSaid : Prop := Claim7.holds Tryd.pinned (.plain (OpenSpec.ofChange nameTellsSpec)) nameTellsCard

/-- THE TIED CARD OF 'chroniclelaw6.NameBack'. -/
def nameBackCard : Claim7 := { stood := { row := nameBackRow, standIns := [], harness := (true, "52989c411b343ef7a0e4c565928cd709b41cc90c675411c803f0216f32622cb0"), looks := false }, kinds := [], alts := [], laidByText := true, laidKinds := [.data, .data, .data], laidTests := true, laidLooks := .later }
def NameBackCardSaid : Prop := Claim7.holds Tryd.pinned (.plain (OpenSpec.ofChange nameBackSpec)) nameBackCard

/-- THE TIED CARD OF 'chroniclelaw6.NameHash'. -/
def nameHashCard : Claim7 := { stood := { row := nameHashRow, standIns := [], harness := (true, "52989c411b343ef7a0e4c565928cd709b41cc90c675411c803f0216f32622cb0"), looks := false }, kinds := [], alts := [], laidByText := true, laidKinds := [.data, .data, .data], laidTests := true, laidLooks := .later }
def NameHashCardSaid : Prop := Claim7.holds Tryd.pinned (.plain (OpenSpec.ofChange nameHashSpec)) nameHashCard

/-- THE TIED CARD OF 'chroniclelaw6.NameParts'. -/
def namePartsCard : Claim7 := { stood := { row := namePartsRow, standIns := [], harness := (true, "52989c411b343ef7a0e4c565928cd709b41cc90c675411c803f0216f32622cb0"), looks := false }, kinds := [], alts := [], laidByText := true, laidKinds := [.data, .data, .data], laidTests := true, laidLooks := .later }
def NamePartsCardSaid : Prop := Claim7.holds Tryd.pinned (.plain (OpenSpec.ofChange namePartsSpec)) namePartsCard

/-- THE TIED CARD OF 'chroniclelaw6.NameLinks'. -/
def nameLinksCard : Claim7 := { stood := { row := nameLinksRow, standIns := [], harness := (true, "52989c411b343ef7a0e4c565928cd709b41cc90c675411c803f0216f32622cb0"), looks := false }, kinds := [], alts := [], laidByText := true, laidKinds := [.data, .data, .data], laidTests := true, laidLooks := .later }
def NameLinksCardSaid : Prop := Claim7.holds Tryd.pinned (.plain (OpenSpec.ofChange nameLinksSpec)) nameLinksCard

/-- THE SECOND FORM's CARD OF 'chroniclelaw6.NameTells'. -/
def nameTellsUptoCard : Claim7 := { stood := { row := nameTellsUptoRow, standIns := [], harness := (true, "52989c411b343ef7a0e4c565928cd709b41cc90c675411c803f0216f32622cb0"), looks := false }, kinds := [], alts := [], laidByText := true, laidKinds := [.data, .data, .data], laidTests := true, laidLooks := .later }
def NameTellsUptoCardSaid : Prop := Claim7.holds Tryd.pinned (.plain (OpenSpec.upto nameTellsSpec)) nameTellsUptoCard

/-- THE SECOND FORM's CARD OF 'chroniclelaw6.NameBack'. -/
def nameBackUptoCard : Claim7 := { stood := { row := nameBackUptoRow, standIns := [], harness := (true, "52989c411b343ef7a0e4c565928cd709b41cc90c675411c803f0216f32622cb0"), looks := false }, kinds := [], alts := [], laidByText := true, laidKinds := [.data, .data, .data], laidTests := true, laidLooks := .later }
def NameBackUptoCardSaid : Prop := Claim7.holds Tryd.pinned (.plain (OpenSpec.upto nameBackSpec)) nameBackUptoCard

/-- THE SECOND FORM's CARD OF 'chroniclelaw6.NameHash'. -/
def nameHashUptoCard : Claim7 := { stood := { row := nameHashUptoRow, standIns := [], harness := (true, "52989c411b343ef7a0e4c565928cd709b41cc90c675411c803f0216f32622cb0"), looks := false }, kinds := [], alts := [], laidByText := true, laidKinds := [.data, .data, .data], laidTests := true, laidLooks := .later }
def NameHashUptoCardSaid : Prop := Claim7.holds Tryd.pinned (.plain (OpenSpec.upto nameHashSpec)) nameHashUptoCard

/-- THE SECOND FORM's CARD OF 'chroniclelaw6.NameParts'. -/
def namePartsUptoCard : Claim7 := { stood := { row := namePartsUptoRow, standIns := [], harness := (true, "52989c411b343ef7a0e4c565928cd709b41cc90c675411c803f0216f32622cb0"), looks := false }, kinds := [], alts := [], laidByText := true, laidKinds := [.data, .data, .data], laidTests := true, laidLooks := .later }
def NamePartsUptoCardSaid : Prop := Claim7.holds Tryd.pinned (.plain (OpenSpec.upto namePartsSpec)) namePartsUptoCard

/-- THE SECOND FORM's CARD OF 'chroniclelaw6.NameLinks'. -/
def nameLinksUptoCard : Claim7 := { stood := { row := nameLinksUptoRow, standIns := [], harness := (true, "52989c411b343ef7a0e4c565928cd709b41cc90c675411c803f0216f32622cb0"), looks := false }, kinds := [], alts := [], laidByText := true, laidKinds := [.data, .data, .data], laidTests := true, laidLooks := .later }
def NameLinksUptoCardSaid : Prop := Claim7.holds Tryd.pinned (.plain (OpenSpec.upto nameLinksSpec)) nameLinksUptoCard
end Rows
end Go.Proofs.YtjkkecmidegooaaDoor
