/-
  DERIVED. GIVEN WITH THE SEED: THE CARDS: each row of YtjmclcjhimcehaaGreatDoorRows.lean that lists a variable, with what it lists TIED to the program's text (the seventh form; the later family's looks); each row that meets fmt, with fmt's text TOLD by the authors' own Lean function (tested against real Go, not proved from fmt's source: count such statements apart). THE CARD IS WHAT COUNTS. Prove the row's statement (the work); the ties are given (YtjmclcjhimcehaaGreatDoorTie.lean); close each card by the builder's one call (the guide's Derived/Test/ToyasCard.lean, 'card_holds'). Laid BY PROGRAM, IN A SANDBOX (cutbox-door.mjs). By AI agents, Wed Nov 11 2026. No macro, syntax, notation, axiom, sorry.
-/
import Derived.Test.YtjmclcjhimcehaaGreatDoorRows
import GoSem.ClaimSeven
namespace Go.Proofs.YtjmclcjhimcehaaGreatDoor
namespace Rows

/-- THE TIED CARD OF 'laws.FnExactRunNew'. -/
def fnExactRunNewCard : Claim7 := { stood := { row := fnExactRunNewRow, standIns := [], harness := (true, "4c74e72f54bf35c16c767f5133377c7736a4d2aca9997519fe58e02e68e0a56d"), looks := true }, kinds := [], alts := [], laidByText := true, laidKinds := [.data, .data, .data, .data, .listed, .data, .data, .pinned], laidTests := true, laidLooks := .later }
def FnExactRunNewCardSaid : Prop := Claim7.holds Tryz.pinned (.plain (OpenSpec.ofChange fnExactRunNewSpec)) fnExactRunNewCard

/-- THE TIED CARD OF 'laws.FnExactRunOk'. -/
def fnExactRunOkCard : Claim7 := { stood := { row := fnExactRunOkRow, standIns := [], harness := (true, "4c74e72f54bf35c16c767f5133377c7736a4d2aca9997519fe58e02e68e0a56d"), looks := true }, kinds := [], alts := [], laidByText := true, laidKinds := [.data, .data, .data, .data, .listed, .data, .data, .pinned], laidTests := true, laidLooks := .later }
def FnExactRunOkCardSaid : Prop := Claim7.holds Tryz.pinned (.plain (OpenSpec.ofChange fnExactRunOkSpec)) fnExactRunOkCard

/-- THE TIED CARD OF 'laws.FnExactReady'. -/
def fnExactReadyCard : Claim7 := { stood := { row := fnExactReadyRow, standIns := [], harness := (true, "4c74e72f54bf35c16c767f5133377c7736a4d2aca9997519fe58e02e68e0a56d"), looks := true }, kinds := [], alts := [], laidByText := true, laidKinds := [.data, .data, .data, .data, .listed, .data, .data, .pinned], laidTests := true, laidLooks := .later }
def FnExactReadyCardSaid : Prop := Claim7.holds Tryz.pinned (.plain (OpenSpec.ofChange fnExactReadySpec)) fnExactReadyCard

/-- THE TIED CARD OF 'laws.FnExactFinish'. -/
def fnExactFinishCard : Claim7 := { stood := { row := fnExactFinishRow, standIns := [], harness := (true, "4c74e72f54bf35c16c767f5133377c7736a4d2aca9997519fe58e02e68e0a56d"), looks := true }, kinds := [], alts := [], laidByText := true, laidKinds := [.data, .data, .data, .data, .listed, .data, .data, .pinned], laidTests := true, laidLooks := .later }
def FnExactFinishCardSaid : Prop := Claim7.holds Tryz.pinned (.plain (OpenSpec.ofChange fnExactFinishSpec)) fnExactFinishCard

/-- THE TIED CARD OF 'laws.FnExactClearTask'. -/
def fnExactClearTaskCard : Claim7 := { stood := { row := fnExactClearTaskRow, standIns := [], harness := (true, "4c74e72f54bf35c16c767f5133377c7736a4d2aca9997519fe58e02e68e0a56d"), looks := true }, kinds := [], alts := [], laidByText := true, laidKinds := [.data, .data, .data, .data, .listed, .data, .data, .pinned], laidTests := true, laidLooks := .later }
def FnExactClearTaskCardSaid : Prop := Claim7.holds Tryz.pinned (.plain (OpenSpec.ofChange fnExactClearTaskSpec)) fnExactClearTaskCard

/-- THE TIED CARD OF 'laws.FnExactBoardOk'. -/
def fnExactBoardOkCard : Claim7 := { stood := { row := fnExactBoardOkRow, standIns := [], harness := (true, "4c74e72f54bf35c16c767f5133377c7736a4d2aca9997519fe58e02e68e0a56d"), looks := true }, kinds := [], alts := [], laidByText := true, laidKinds := [.data, .data, .data, .data, .listed, .data, .data, .pinned], laidTests := true, laidLooks := .later }
def FnExactBoardOkCardSaid : Prop := Claim7.holds Tryz.pinned (.plain (OpenSpec.ofChange fnExactBoardOkSpec)) fnExactBoardOkCard

/-- THE SECOND FORM's CARD OF 'laws.FnExactRunNew'. -/
def fnExactRunNewUptoCard : Claim7 := { stood := { row := fnExactRunNewUptoRow, standIns := [], harness := (true, "4c74e72f54bf35c16c767f5133377c7736a4d2aca9997519fe58e02e68e0a56d"), looks := true }, kinds := [], alts := [], laidByText := true, laidKinds := [.data, .data, .data, .data, .listed, .data, .data, .pinned], laidTests := true, laidLooks := .later }
def FnExactRunNewUptoCardSaid : Prop := Claim7.holds Tryz.pinned (.plain (OpenSpec.upto fnExactRunNewSpec)) fnExactRunNewUptoCard

/-- THE SECOND FORM's CARD OF 'laws.FnExactRunOk'. -/
def fnExactRunOkUptoCard : Claim7 := { stood := { row := fnExactRunOkUptoRow, standIns := [], harness := (true, "4c74e72f54bf35c16c767f5133377c7736a4d2aca9997519fe58e02e68e0a56d"), looks := true }, kinds := [], alts := [], laidByText := true, laidKinds := [.data, .data, .data, .data, .listed, .data, .data, .pinned], laidTests := true, laidLooks := .later }
def FnExactRunOkUptoCardSaid : Prop := Claim7.holds Tryz.pinned (.plain (OpenSpec.upto fnExactRunOkSpec)) fnExactRunOkUptoCard

/-- THE SECOND FORM's CARD OF 'laws.FnExactReady'. -/
def fnExactReadyUptoCard : Claim7 := { stood := { row := fnExactReadyUptoRow, standIns := [], harness := (true, "4c74e72f54bf35c16c767f5133377c7736a4d2aca9997519fe58e02e68e0a56d"), looks := true }, kinds := [], alts := [], laidByText := true, laidKinds := [.data, .data, .data, .data, .listed, .data, .data, .pinned], laidTests := true, laidLooks := .later }
def FnExactReadyUptoCardSaid : Prop := Claim7.holds Tryz.pinned (.plain (OpenSpec.upto fnExactReadySpec)) fnExactReadyUptoCard

/-- THE SECOND FORM's CARD OF 'laws.FnExactFinish'. -/
def fnExactFinishUptoCard : Claim7 := { stood := { row := fnExactFinishUptoRow, standIns := [], harness := (true, "4c74e72f54bf35c16c767f5133377c7736a4d2aca9997519fe58e02e68e0a56d"), looks := true }, kinds := [], alts := [], laidByText := true, laidKinds := [.data, .data, .data, .data, .listed, .data, .data, .pinned], laidTests := true, laidLooks := .later }
def FnExactFinishUptoCardSaid : Prop := Claim7.holds Tryz.pinned (.plain (OpenSpec.upto fnExactFinishSpec)) fnExactFinishUptoCard

/-- THE SECOND FORM's CARD OF 'laws.FnExactClearTask'. -/
def fnExactClearTaskUptoCard : Claim7 := { stood := { row := fnExactClearTaskUptoRow, standIns := [], harness := (true, "4c74e72f54bf35c16c767f5133377c7736a4d2aca9997519fe58e02e68e0a56d"), looks := true }, kinds := [], alts := [], laidByText := true, laidKinds := [.data, .data, .data, .data, .listed, .data, .data, .pinned], laidTests := true, laidLooks := .later }
def FnExactClearTaskUptoCardSaid : Prop := Claim7.holds Tryz.pinned (.plain (OpenSpec.upto fnExactClearTaskSpec)) fnExactClearTaskUptoCard

/-- THE SECOND FORM's CARD OF 'laws.FnExactBoardOk'. -/
def fnExactBoardOkUptoCard : Claim7 := { stood := { row := fnExactBoardOkUptoRow, standIns := [], harness := (true, "4c74e72f54bf35c16c767f5133377c7736a4d2aca9997519fe58e02e68e0a56d"), looks := true }, kinds := [], alts := [], laidByText := true, laidKinds := [.data, .data, .data, .data, .listed, .data, .data, .pinned], laidTests := true, laidLooks := .later }
def FnExactBoardOkUptoCardSaid : Prop := Claim7.holds Tryz.pinned (.plain (OpenSpec.upto fnExactBoardOkSpec)) fnExactBoardOkUptoCard
end Rows
end Go.Proofs.YtjmclcjhimcehaaGreatDoor
