/-
  DERIVED. GIVEN WITH THE SEED: THE CARDS: each row of YtkfhmeiiicidaaaDoorRows.lean that lists a variable, with what it lists TIED to the program's text (the seventh form; the later family's looks); each row that meets fmt, with fmt's text TOLD by the authors' own Lean function (tested against real Go, not proved from fmt's source: count such statements apart). THE CARD IS WHAT COUNTS. Prove the row's statement (the work); the ties are given (YtkfhmeiiicidaaaDoorTie.lean); close each card by the builder's one call (the guide's Derived/Test/ToyasCard.lean, 'card_holds'). Laid BY PROGRAM, IN A SANDBOX (cutbox-door.mjs). By AI agents, Wed Nov 11 2026. No macro, syntax, notation, axiom, sorry.
-/
import Derived.Test.YtkfhmeiiicidaaaDoorRows
import GoSem.ClaimSeven
namespace Go.Proofs.YtkfhmeiiicidaaaDoor
namespace Rows

/-- THE TIED CARD OF 'laws.FnExactCommandText'. -/
def fnExactCommandTextCard : Claim7 := { stood := { row := fnExactCommandTextRow, standIns := [], harness := (true, "0e5b77ab04f33fbe0fc9c55d59f38b403f8cbbf0bedd3a0008444cf8f5608a51"), looks := true }, kinds := [], alts := [], laidByText := true, laidKinds := [.sentinel], laidTests := true, laidLooks := .later }
def FnExactCommandTextCardSaid : Prop := Claim7.holds Tryd.pinned (.plain (OpenSpec.ofChange fnExactCommandTextSpec)) fnExactCommandTextCard

/-- THE TIED CARD OF 'laws.FnExactReadCommand'. -/
def fnExactReadCommandCard : Claim7 := { stood := { row := fnExactReadCommandRow, standIns := [], harness := (true, "0e5b77ab04f33fbe0fc9c55d59f38b403f8cbbf0bedd3a0008444cf8f5608a51"), looks := true }, kinds := [], alts := [], laidByText := true, laidKinds := [.sentinel], laidTests := true, laidLooks := .later }
def FnExactReadCommandCardSaid : Prop := Claim7.holds Tryd.pinned (.plain (OpenSpec.ofChange fnExactReadCommandSpec)) fnExactReadCommandCard

/-- THE SECOND FORM's CARD OF 'laws.FnExactCommandText'. -/
def fnExactCommandTextUptoCard : Claim7 := { stood := { row := fnExactCommandTextUptoRow, standIns := [], harness := (true, "0e5b77ab04f33fbe0fc9c55d59f38b403f8cbbf0bedd3a0008444cf8f5608a51"), looks := true }, kinds := [], alts := [], laidByText := true, laidKinds := [.sentinel], laidTests := true, laidLooks := .later }
def FnExactCommandTextUptoCardSaid : Prop := Claim7.holds Tryd.pinned (.plain (OpenSpec.upto fnExactCommandTextSpec)) fnExactCommandTextUptoCard

/-- THE SECOND FORM's CARD OF 'laws.FnExactReadCommand'. -/
def fnExactReadCommandUptoCard : Claim7 := { stood := { row := fnExactReadCommandUptoRow, standIns := [], harness := (true, "0e5b77ab04f33fbe0fc9c55d59f38b403f8cbbf0bedd3a0008444cf8f5608a51"), looks := true }, kinds := [], alts := [], laidByText := true, laidKinds := [.sentinel], laidTests := true, laidLooks := .later }
def FnExactReadCommandUptoCardSaid : Prop := Claim7.holds Tryd.pinned (.plain (OpenSpec.upto fnExactReadCommandSpec)) fnExactReadCommandUptoCard
end Rows
end Go.Proofs.YtkfhmeiiicidaaaDoor
