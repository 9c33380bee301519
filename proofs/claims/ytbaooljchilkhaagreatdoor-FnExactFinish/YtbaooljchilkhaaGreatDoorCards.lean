/-
  DERIVED. GIVEN WITH THE SEED: THE CARDS: each row of YtbaooljchilkhaaGreatDoorRows.lean that lists a variable, with what it lists TIED to the program's text (the seventh form; the later family's looks); each row that meets fmt, with fmt's text TOLD by the authors' own Lean function (tested against real Go, not proved from fmt's source: count such statements apart). THE CARD IS WHAT COUNTS. Prove the row's statement (the work); the ties are given (YtbaooljchilkhaaGreatDoorTie.lean); close each card by the builder's one call (the guide's Derived/Test/ToyasCard.lean, 'card_holds'). Laid BY PROGRAM, IN A SANDBOX (cutbox-door.mjs). By AI agents, Wed Nov 11 2026. No macro, syntax, notation, axiom, sorry.
-/
import Derived.Test.YtbaooljchilkhaaGreatDoorRows
import GoSem.ClaimSeven
namespace Go.Proofs.YtbaooljchilkhaaGreatDoor
namespace Rows

/-- THE TIED CARD OF 'laws.FnRuns'. -/
def fnRunsCard : Claim7 := { stood := { row := fnRunsRow, standIns := [], harness := (true, "fb35ea951cfc0430f25f82f84bb180ce31e99861b0ed8936224de1ced553f053"), looks := true }, kinds := [], alts := [], laidByText := true, laidKinds := [.data, .data, .data, .data, .listed, .data, .data, .pinned], laidTests := true, laidLooks := .later }
def FnRunsCardSaid : Prop := Claim7.holds Tryz.pinned (.plain (OpenSpec.ofChange fnRunsSpec)) fnRunsCard

/-- THE TIED CARD OF 'laws.FnTries'. -/
def fnTriesCard : Claim7 := { stood := { row := fnTriesRow, standIns := [], harness := (true, "fb35ea951cfc0430f25f82f84bb180ce31e99861b0ed8936224de1ced553f053"), looks := true }, kinds := [], alts := [], laidByText := true, laidKinds := [.data, .data, .data, .data, .listed, .data, .data, .pinned], laidTests := true, laidLooks := .later }
def FnTriesCardSaid : Prop := Claim7.holds Tryz.pinned (.plain (OpenSpec.ofChange fnTriesSpec)) fnTriesCard

/-- THE TIED CARD OF 'laws.FnClears'. -/
def fnClearsCard : Claim7 := { stood := { row := fnClearsRow, standIns := [], harness := (true, "fb35ea951cfc0430f25f82f84bb180ce31e99861b0ed8936224de1ced553f053"), looks := true }, kinds := [], alts := [], laidByText := true, laidKinds := [.data, .data, .data, .data, .listed, .data, .data, .pinned], laidTests := true, laidLooks := .later }
def FnClearsCardSaid : Prop := Claim7.holds Tryz.pinned (.plain (OpenSpec.ofChange fnClearsSpec)) fnClearsCard

/-- THE TIED CARD OF 'laws.FnExactRunNew'. -/
def fnExactRunNewCard : Claim7 := { stood := { row := fnExactRunNewRow, standIns := [], harness := (true, "fb35ea951cfc0430f25f82f84bb180ce31e99861b0ed8936224de1ced553f053"), looks := true }, kinds := [], alts := [], laidByText := true, laidKinds := [.data, .data, .data, .data, .listed, .data, .data, .pinned], laidTests := true, laidLooks := .later }
def FnExactRunNewCardSaid : Prop := Claim7.holds Tryz.pinned (.plain (OpenSpec.ofChange fnExactRunNewSpec)) fnExactRunNewCard

/-- THE TIED CARD OF 'laws.FnExactRunOk'. -/
def fnExactRunOkCard : Claim7 := { stood := { row := fnExactRunOkRow, standIns := [], harness := (true, "fb35ea951cfc0430f25f82f84bb180ce31e99861b0ed8936224de1ced553f053"), looks := true }, kinds := [], alts := [], laidByText := true, laidKinds := [.data, .data, .data, .data, .listed, .data, .data, .pinned], laidTests := true, laidLooks := .later }
def FnExactRunOkCardSaid : Prop := Claim7.holds Tryz.pinned (.plain (OpenSpec.ofChange fnExactRunOkSpec)) fnExactRunOkCard

/-- THE TIED CARD OF 'laws.FnExactReady'. -/
def fnExactReadyCard : Claim7 := { stood := { row := fnExactReadyRow, standIns := [], harness := (true, "fb35ea951cfc0430f25f82f84bb180ce31e99861b0ed8936224de1ced553f053"), looks := true }, kinds := [], alts := [], laidByText := true, laidKinds := [.data, .data, .data, .data, .listed, .data, .data, .pinned], laidTests := true, laidLooks := .later }
def FnExactReadyCardSaid : Prop := Claim7.holds Tryz.pinned (.plain (OpenSpec.ofChange fnExactReadySpec)) fnExactReadyCard

/-- THE TIED CARD OF 'laws.FnExactBlockRest'. -/
def fnExactBlockRestCard : Claim7 := { stood := { row := fnExactBlockRestRow, standIns := [], harness := (true, "fb35ea951cfc0430f25f82f84bb180ce31e99861b0ed8936224de1ced553f053"), looks := true }, kinds := [], alts := [], laidByText := true, laidKinds := [.data, .data, .data, .data, .listed, .data, .data, .pinned], laidTests := true, laidLooks := .later }
def FnExactBlockRestCardSaid : Prop := Claim7.holds Tryz.pinned (.plain (OpenSpec.ofChange fnExactBlockRestSpec)) fnExactBlockRestCard

/-- THE TIED CARD OF 'laws.FnExactFinish'. -/
def fnExactFinishCard : Claim7 := { stood := { row := fnExactFinishRow, standIns := [], harness := (true, "fb35ea951cfc0430f25f82f84bb180ce31e99861b0ed8936224de1ced553f053"), looks := true }, kinds := [], alts := [], laidByText := true, laidKinds := [.data, .data, .data, .data, .listed, .data, .data, .pinned], laidTests := true, laidLooks := .later }
def FnExactFinishCardSaid : Prop := Claim7.holds Tryz.pinned (.plain (OpenSpec.ofChange fnExactFinishSpec)) fnExactFinishCard

/-- THE TIED CARD OF 'laws.FnExactClearTask'. -/
def fnExactClearTaskCard : Claim7 := { stood := { row := fnExactClearTaskRow, standIns := [], harness := (true, "fb35ea951cfc0430f25f82f84bb180ce31e99861b0ed8936224de1ced553f053"), looks := true }, kinds := [], alts := [], laidByText := true, laidKinds := [.data, .data, .data, .data, .listed, .data, .data, .pinned], laidTests := true, laidLooks := .later }
def FnExactClearTaskCardSaid : Prop := Claim7.holds Tryz.pinned (.plain (OpenSpec.ofChange fnExactClearTaskSpec)) fnExactClearTaskCard

/-- THE SECOND FORM's CARD OF 'laws.FnRuns'. -/
def fnRunsUptoCard : Claim7 := { stood := { row := fnRunsUptoRow, standIns := [], harness := (true, "fb35ea951cfc0430f25f82f84bb180ce31e99861b0ed8936224de1ced553f053"), looks := true }, kinds := [], alts := [], laidByText := true, laidKinds := [.data, .data, .data, .data, .listed, .data, .data, .pinned], laidTests := true, laidLooks := .later }
def FnRunsUptoCardSaid : Prop := Claim7.holds Tryz.pinned (.plain (OpenSpec.upto fnRunsSpec)) fnRunsUptoCard

/-- THE SECOND FORM's CARD OF 'laws.FnTries'. -/
def fnTriesUptoCard : Claim7 := { stood := { row := fnTriesUptoRow, standIns := [], harness := (true, "fb35ea951cfc0430f25f82f84bb180ce31e99861b0ed8936224de1ced553f053"), looks := true }, kinds := [], alts := [], laidByText := true, laidKinds := [.data, .data, .data, .data, .listed, .data, .data, .pinned], laidTests := true, laidLooks := .later }
def FnTriesUptoCardSaid : Prop := Claim7.holds Tryz.pinned (.plain (OpenSpec.upto fnTriesSpec)) fnTriesUptoCard

/-- THE SECOND FORM's CARD OF 'laws.FnClears'. -/
def fnClearsUptoCard : Claim7 := { stood := { row := fnClearsUptoRow, standIns := [], harness := (true, "fb35ea951cfc0430f25f82f84bb180ce31e99861b0ed8936224de1ced553f053"), looks := true }, kinds := [], alts := [], laidByText := true, laidKinds := [.data, .data, .data, .data, .listed, .data, .data, .pinned], laidTests := true, laidLooks := .later }
def FnClearsUptoCardSaid : Prop := Claim7.holds Tryz.pinned (.plain (OpenSpec.upto fnClearsSpec)) fnClearsUptoCard

/-- THE SECOND FORM's CARD OF 'laws.FnExactRunNew'. -/
def fnExactRunNewUptoCard : Claim7 := { stood := { row := fnExactRunNewUptoRow, standIns := [], harness := (true, "fb35ea951cfc0430f25f82f84bb180ce31e99861b0ed8936224de1ced553f053"), looks := true }, kinds := [], alts := [], laidByText := true, laidKinds := [.data, .data, .data, .data, .listed, .data, .data, .pinned], laidTests := true, laidLooks := .later }
def FnExactRunNewUptoCardSaid : Prop := Claim7.holds Tryz.pinned (.plain (OpenSpec.upto fnExactRunNewSpec)) fnExactRunNewUptoCard

/-- THE SECOND FORM's CARD OF 'laws.FnExactRunOk'. -/
def fnExactRunOkUptoCard : Claim7 := { stood := { row := fnExactRunOkUptoRow, standIns := [], harness := (true, "fb35ea951cfc0430f25f82f84bb180ce31e99861b0ed8936224de1ced553f053"), looks := true }, kinds := [], alts := [], laidByText := true, laidKinds := [.data, .data, .data, .data, .listed, .data, .data, .pinned], laidTests := true, laidLooks := .later }
def FnExactRunOkUptoCardSaid : Prop := Claim7.holds Tryz.pinned (.plain (OpenSpec.upto fnExactRunOkSpec)) fnExactRunOkUptoCard

/-- THE SECOND FORM's CARD OF 'laws.FnExactReady'. -/
def fnExactReadyUptoCard : Claim7 := { stood := { row := fnExactReadyUptoRow, standIns := [], harness := (true, "fb35ea951cfc0430f25f82f84bb180ce31e99861b0ed8936224de1ced553f053"), looks := true }, kinds := [], alts := [], laidByText := true, laidKinds := [.data, .data, .data, .data, .listed, .data, .data, .pinned], laidTests := true, laidLooks := .later }
def FnExactReadyUptoCardSaid : Prop := Claim7.holds Tryz.pinned (.plain (OpenSpec.upto fnExactReadySpec)) fnExactReadyUptoCard

/-- THE SECOND FORM's CARD OF 'laws.FnExactBlockRest'. -/
def fnExactBlockRestUptoCard : Claim7 := { stood := { row := fnExactBlockRestUptoRow, standIns := [], harness := (true, "fb35ea951cfc0430f25f82f84bb180ce31e99861b0ed8936224de1ced553f053"), looks := true }, kinds := [], alts := [], laidByText := true, laidKinds := [.data, .data, .data, .data, .listed, .data, .data, .pinned], laidTests := true, laidLooks := .later }
def FnExactBlockRestUptoCardSaid : Prop := Claim7.holds Tryz.pinned (.plain (OpenSpec.upto fnExactBlockRestSpec)) fnExactBlockRestUptoCard

/-- THE SECOND FORM's CARD OF 'laws.FnExactFinish'. -/
def fnExactFinishUptoCard : Claim7 := { stood := { row := fnExactFinishUptoRow, standIns := [], harness := (true, "fb35ea951cfc0430f25f82f84bb180ce31e99861b0ed8936224de1ced553f053"), looks := true }, kinds := [], alts := [], laidByText := true, laidKinds := [.data, .data, .data, .data, .listed, .data, .data, .pinned], laidTests := true, laidLooks := .later }
def FnExactFinishUptoCardSaid : Prop := Claim7.holds Tryz.pinned (.plain (OpenSpec.upto fnExactFinishSpec)) fnExactFinishUptoCard

/-- THE SECOND FORM's CARD OF 'laws.FnExactClearTask'. -/
def fnExactClearTaskUptoCard : Claim7 := { stood := { row := fnExactClearTaskUptoRow, standIns := [], harness := (true, "fb35ea951cfc0430f25f82f84bb180ce31e99861b0ed8936224de1ced553f053"), looks := true }, kinds := [], alts := [], laidByText := true, laidKinds := [.data, .data, .data, .data, .listed, .data, .data, .pinned], laidTests := true, laidLooks := .later }
def FnExactClearTaskUptoCardSaid : Prop := Claim7.holds Tryz.pinned (.plain (OpenSpec.upto fnExactClearTaskSpec)) fnExactClearTaskUptoCard
end Rows
end Go.Proofs.YtbaooljchilkhaaGreatDoor
