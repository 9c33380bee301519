/-
  DERIVED. GIVEN WITH THE SEED: THE CARDS: each row of YtingfgbcinlflaaDoorRows.lean that lists a variable, with what it lists TIED to the program's text (the seventh form; the later family's looks); each row that meets fmt, with fmt's text TOLD by the authors' own Lean function (tested against real Go, not proved from fmt's source: count such statements apart). THE CARD IS WHAT COUNTS. Prove the row's statement (the work); the ties are given (YtingfgbcinlflaaDoorTie.lean); close each card by the builder's one call (the guide's Derived/Test/ToyasCard.lean, 'card_holds'). Laid BY PROGRAM, IN A SANDBOX (cutbox-door.mjs). By AI agents, Wed Nov 11 2026. No macro, syntax, notation, axiom, sorry.
-/
import Derived.Test.YtingfgbcinlflaaDoorRows
import GoSem.ClaimSeven
namespace Go.Proofs.YtingfgbcinlflaaDoor
namespace Rows

/-- THE TIED CARD OF 'laws.FnExactReadSnap'. -/
def fnExactReadSnapCard : Claim7 := { stood := { row := fnExactReadSnapRow, standIns := [], harness := (true, "455126c3c9aa2e51c8d8c5d66ca29e12be868c46bfd142fcef5475ef72bde3d0"), looks := true }, kinds := [], alts := [], laidByText := true, laidKinds := [.data], laidTests := true, laidLooks := .later }
def FnExactReadSnapCardSaid : Prop := Claim7.holds Tryd.pinned (.plain (OpenSpec.ofChange fnExactReadSnapSpec)) fnExactReadSnapCard

/-- THE TIED CARD OF 'laws.FnExactNewestSnap'. -/
def fnExactNewestSnapCard : Claim7 := { stood := { row := fnExactNewestSnapRow, standIns := [], harness := (true, "455126c3c9aa2e51c8d8c5d66ca29e12be868c46bfd142fcef5475ef72bde3d0"), looks := true }, kinds := [], alts := [], laidByText := true, laidKinds := [.data, .data, .data, .data], laidTests := true, laidLooks := .later }
def FnExactNewestSnapCardSaid : Prop := Claim7.holds Tryd.pinned (.plain (OpenSpec.ofChange fnExactNewestSnapSpec)) fnExactNewestSnapCard

/-- THE SECOND FORM's CARD OF 'laws.FnExactReadSnap'. -/
def fnExactReadSnapUptoCard : Claim7 := { stood := { row := fnExactReadSnapUptoRow, standIns := [], harness := (true, "455126c3c9aa2e51c8d8c5d66ca29e12be868c46bfd142fcef5475ef72bde3d0"), looks := true }, kinds := [], alts := [], laidByText := true, laidKinds := [.data], laidTests := true, laidLooks := .later }
def FnExactReadSnapUptoCardSaid : Prop := Claim7.holds Tryd.pinned (.plain (OpenSpec.upto fnExactReadSnapSpec)) fnExactReadSnapUptoCard

/-- THE SECOND FORM's CARD OF 'laws.FnExactNewestSnap'. -/
def fnExactNewestSnapUptoCard : Claim7 := { stood := { row := fnExactNewestSnapUptoRow, standIns := [], harness := (true, "455126c3c9aa2e51c8d8c5d66ca29e12be868c46bfd142fcef5475ef72bde3d0"), looks := true }, kinds := [], alts := [], laidByText := true, laidKinds := [.data, .data, .data, .data], laidTests := true, laidLooks := .later }
def FnExactNewestSnapUptoCardSaid : Prop := Claim7.holds Tryd.pinned (.plain (OpenSpec.upto fnExactNewestSnapSpec)) fnExactNewestSnapUptoCard
end Rows
end Go.Proofs.YtingfgbcinlflaaDoor
