/-
  DERIVED. GIVEN WITH THE SEED: THE CARDS: each row of YtepbflcmghkieaaDoorRows.lean that lists a variable, with what it lists TIED to the program's text (the seventh form; the later family's looks); each row that meets fmt, with fmt's text TOLD by the authors' own Lean function (tested against real Go, not proved from fmt's source: count such statements apart). THE CARD IS WHAT COUNTS. Prove the row's statement (the work); the ties are given (YtepbflcmghkieaaDoorTie.lean); close each card by the builder's one call (the guide's Derived/Test/ToyasCard.lean, 'card_holds'). Laid BY PROGRAM, IN A SANDBOX (cutbox-door.mjs). By AI agents, Wed Nov 11 2026. No macro, syntax, notation, axiom, sorry.
-/
import Derived.Test.YtepbflcmghkieaaDoorRows
import GoSem.ClaimSeven
namespace Go.Proofs.YtepbflcmghkieaaDoor
namespace Rows

/-- THE TIED CARD OF 'chroniclelaw15.MetaTells'. -/
def metaTellsCard : Claim7 := { stood := { row := metaTellsRow, standIns := [], harness := (true, "dd423716008d5342b54247250fb13565a43da929799ee315edc1b6370341efaa"), looks := false }, kinds := [], alts := [], laidByText := true, laidKinds := [.data, .data, .data, .data, .pinned], laidTests := true, laidLooks := .later }
def MetaTellsCardSaid : Prop := Claim7.holds Tryd.pinned (.plain (OpenSpec.ofChange metaTellsSpec)) metaTellsCard

/-- THE TIED CARD OF 'chroniclelaw15.MetaRises'. -/
def metaRisesCard : Claim7 := { stood := { row := metaRisesRow, standIns := [], harness := (true, "dd423716008d5342b54247250fb13565a43da929799ee315edc1b6370341efaa"), looks := false }, kinds := [], alts := [], laidByText := true, laidKinds := [.data, .data, .data, .data, .pinned], laidTests := true, laidLooks := .later }
def MetaRisesCardSaid : Prop := Claim7.holds Tryd.pinned (.plain (OpenSpec.ofChange metaRisesSpec)) metaRisesCard

/-- THE TIED CARD OF 'chroniclelaw15.MetaBounds'. -/
def metaBoundsCard : Claim7 := { stood := { row := metaBoundsRow, standIns := [], harness := (true, "dd423716008d5342b54247250fb13565a43da929799ee315edc1b6370341efaa"), looks := false }, kinds := [], alts := [], laidByText := true, laidKinds := [.data, .data, .data, .data, .pinned], laidTests := true, laidLooks := .later }
def MetaBoundsCardSaid : Prop := Claim7.holds Tryd.pinned (.plain (OpenSpec.ofChange metaBoundsSpec)) metaBoundsCard

/-- THE TIED CARD OF 'chroniclelaw15.MetaTexts'. -/
def metaTextsCard : Claim7 := { stood := { row := metaTextsRow, standIns := [], harness := (true, "dd423716008d5342b54247250fb13565a43da929799ee315edc1b6370341efaa"), looks := false }, kinds := [], alts := [], laidByText := true, laidKinds := [.data, .data, .data, .data, .pinned], laidTests := true, laidLooks := .later }
def MetaTextsCardSaid : Prop := Claim7.holds Tryd.pinned (.plain (OpenSpec.ofChange metaTextsSpec)) metaTextsCard

/-- THE SECOND FORM's CARD OF 'chroniclelaw15.MetaTells'. -/
def metaTellsUptoCard : Claim7 := { stood := { row := metaTellsUptoRow, standIns := [], harness := (true, "dd423716008d5342b54247250fb13565a43da929799ee315edc1b6370341efaa"), looks := false }, kinds := [], alts := [], laidByText := true, laidKinds := [.data, .data, .data, .data, .pinned], laidTests := true, laidLooks := .later }
def MetaTellsUptoCardSaid : Prop := Claim7.holds Tryd.pinned (.plain (OpenSpec.upto metaTellsSpec)) metaTellsUptoCard

/-- THE SECOND FORM's CARD OF 'chroniclelaw15.MetaRises'. -/
def metaRisesUptoCard : Claim7 := { stood := { row := metaRisesUptoRow, standIns := [], harness := (true, "dd423716008d5342b54247250fb13565a43da929799ee315edc1b6370341efaa"), looks := false }, kinds := [], alts := [], laidByText := true, laidKinds := [.data, .data, .data, .data, .pinned], laidTests := true, laidLooks := .later }
def MetaRisesUptoCardSaid : Prop := Claim7.holds Tryd.pinned (.plain (OpenSpec.upto metaRisesSpec)) metaRisesUptoCard

/-- THE SECOND FORM's CARD OF 'chroniclelaw15.MetaBounds'. -/
def metaBoundsUptoCard : Claim7 := { stood := { row := metaBoundsUptoRow, standIns := [], harness := (true, "dd423716008d5342b54247250fb13565a43da929799ee315edc1b6370341efaa"), looks := false }, kinds := [], alts := [], laidByText := true, laidKinds := [.data, .data, .data, .data, .pinned], laidTests := true, laidLooks := .later }
def MetaBoundsUptoCardSaid : Prop := Claim7.holds Tryd.pinned (.plain (OpenSpec.upto metaBoundsSpec)) metaBoundsUptoCard

/-- THE SECOND FORM's CARD OF 'chroniclelaw15.MetaTexts'. -/
def metaTextsUptoCard : Claim7 := { stood := { row := metaTextsUptoRow, standIns := [], harness := (true, "dd423716008d5342b54247250fb13565a43da929799ee315edc1b6370341efaa"), looks := false }, kinds := [], alts := [], laidByText := true, laidKinds := [.data, .data, .data, .data, .pinned], laidTests := true, laidLooks := .later }
def MetaTextsUptoCardSaid : Prop := Claim7.holds Tryd.pinned (.plain (OpenSpec.upto metaTextsSpec)) metaTextsUptoCard
end Rows
end Go.Proofs.YtepbflcmghkieaaDoor
