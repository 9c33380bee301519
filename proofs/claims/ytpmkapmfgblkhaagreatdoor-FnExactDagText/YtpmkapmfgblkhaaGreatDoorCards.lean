/-
  DERIVED. GIVEN WITH THE SEED: THE CARDS: each row of YtpmkapmfgblkhaaGreatDoorRows.lean that lists a variable, with what it lists TIED to the program's text (the seventh form; the later family's looks); each row that meets fmt, with fmt's text TOLD by the authors' own Lean function (tested against real Go, not proved from fmt's source: count such statements apart). THE CARD IS WHAT COUNTS. Prove the row's statement (the work); the ties are given (YtpmkapmfgblkhaaGreatDoorTie.lean); close each card by the builder's one call (the guide's Derived/Test/ToyasCard.lean, 'card_holds'). Laid BY PROGRAM, IN A SANDBOX (cutbox-door.mjs). By AI agents, Wed Nov 11 2026. No macro, syntax, notation, axiom, sorry.
-/
import Derived.Test.YtpmkapmfgblkhaaGreatDoorRows
import GoSem.ClaimSeven
namespace Go.Proofs.YtpmkapmfgblkhaaGreatDoor
namespace Rows

/-- THE TIED CARD OF 'laws.FnPlans'. -/
def fnPlansCard : Claim7 := { stood := { row := fnPlansRow, standIns := [], harness := (true, "99e0d108a7e3b6d1e1ab0ac3503b5eb700f97a953ec483554d9974099bc94b03"), looks := false }, kinds := [], alts := [], laidByText := true, laidKinds := [.data, .data, .data, .data, .listed, .data, .data, .pinned], laidTests := true, laidLooks := .later }
def FnPlansCardSaid : Prop := Claim7.holds Tryz.pinned (.plain (OpenSpec.ofChange fnPlansSpec)) fnPlansCard

/-- THE TIED CARD OF 'laws.FnNames'. -/
def fnNamesCard : Claim7 := { stood := { row := fnNamesRow, standIns := [], harness := (true, "99e0d108a7e3b6d1e1ab0ac3503b5eb700f97a953ec483554d9974099bc94b03"), looks := false }, kinds := [], alts := [], laidByText := true, laidKinds := [.data, .data, .data, .data, .listed, .data, .data, .pinned], laidTests := true, laidLooks := .later }
def FnNamesCardSaid : Prop := Claim7.holds Tryz.pinned (.plain (OpenSpec.ofChange fnNamesSpec)) fnNamesCard

/-- THE TIED CARD OF 'laws.FnExactDagOk'. -/
def fnExactDagOkCard : Claim7 := { stood := { row := fnExactDagOkRow, standIns := [], harness := (true, "99e0d108a7e3b6d1e1ab0ac3503b5eb700f97a953ec483554d9974099bc94b03"), looks := false }, kinds := [], alts := [], laidByText := true, laidKinds := [.data, .data, .data, .data, .listed, .data, .data, .pinned], laidTests := true, laidLooks := .later }
def FnExactDagOkCardSaid : Prop := Claim7.holds Tryz.pinned (.plain (OpenSpec.ofChange fnExactDagOkSpec)) fnExactDagOkCard

/-- THE TIED CARD OF 'laws.FnExactDagText'. -/
def fnExactDagTextCard : Claim7 := { stood := { row := fnExactDagTextRow, standIns := [], harness := (true, "99e0d108a7e3b6d1e1ab0ac3503b5eb700f97a953ec483554d9974099bc94b03"), looks := false }, kinds := [], alts := [], laidByText := true, laidKinds := [.data, .data, .data, .data, .listed, .data, .data, .pinned], laidTests := true, laidLooks := .later }
def FnExactDagTextCardSaid : Prop := Claim7.holds Tryz.pinned (.plain (OpenSpec.ofChange fnExactDagTextSpec)) fnExactDagTextCard

/-- THE TIED CARD OF 'laws.FnExactParseDag'. -/
def fnExactParseDagCard : Claim7 := { stood := { row := fnExactParseDagRow, standIns := [], harness := (true, "99e0d108a7e3b6d1e1ab0ac3503b5eb700f97a953ec483554d9974099bc94b03"), looks := false }, kinds := [], alts := [], laidByText := true, laidKinds := [.data, .data, .data, .data, .listed, .data, .data, .pinned], laidTests := true, laidLooks := .later }
def FnExactParseDagCardSaid : Prop := Claim7.holds Tryz.pinned (.plain (OpenSpec.ofChange fnExactParseDagSpec)) fnExactParseDagCard

/-- THE SECOND FORM's CARD OF 'laws.FnPlans'. -/
def fnPlansUptoCard : Claim7 := { stood := { row := fnPlansUptoRow, standIns := [], harness := (true, "99e0d108a7e3b6d1e1ab0ac3503b5eb700f97a953ec483554d9974099bc94b03"), looks := false }, kinds := [], alts := [], laidByText := true, laidKinds := [.data, .data, .data, .data, .listed, .data, .data, .pinned], laidTests := true, laidLooks := .later }
def FnPlansUptoCardSaid : Prop := Claim7.holds Tryz.pinned (.plain (OpenSpec.upto fnPlansSpec)) fnPlansUptoCard

/-- THE SECOND FORM's CARD OF 'laws.FnNames'. -/
def fnNamesUptoCard : Claim7 := { stood := { row := fnNamesUptoRow, standIns := [], harness := (true, "99e0d108a7e3b6d1e1ab0ac3503b5eb700f97a953ec483554d9974099bc94b03"), looks := false }, kinds := [], alts := [], laidByText := true, laidKinds := [.data, .data, .data, .data, .listed, .data, .data, .pinned], laidTests := true, laidLooks := .later }
def FnNamesUptoCardSaid : Prop := Claim7.holds Tryz.pinned (.plain (OpenSpec.upto fnNamesSpec)) fnNamesUptoCard

/-- THE SECOND FORM's CARD OF 'laws.FnExactDagOk'. -/
def fnExactDagOkUptoCard : Claim7 := { stood := { row := fnExactDagOkUptoRow, standIns := [], harness := (true, "99e0d108a7e3b6d1e1ab0ac3503b5eb700f97a953ec483554d9974099bc94b03"), looks := false }, kinds := [], alts := [], laidByText := true, laidKinds := [.data, .data, .data, .data, .listed, .data, .data, .pinned], laidTests := true, laidLooks := .later }
def FnExactDagOkUptoCardSaid : Prop := Claim7.holds Tryz.pinned (.plain (OpenSpec.upto fnExactDagOkSpec)) fnExactDagOkUptoCard

/-- THE SECOND FORM's CARD OF 'laws.FnExactDagText'. -/
def fnExactDagTextUptoCard : Claim7 := { stood := { row := fnExactDagTextUptoRow, standIns := [], harness := (true, "99e0d108a7e3b6d1e1ab0ac3503b5eb700f97a953ec483554d9974099bc94b03"), looks := false }, kinds := [], alts := [], laidByText := true, laidKinds := [.data, .data, .data, .data, .listed, .data, .data, .pinned], laidTests := true, laidLooks := .later }
def FnExactDagTextUptoCardSaid : Prop := Claim7.holds Tryz.pinned (.plain (OpenSpec.upto fnExactDagTextSpec)) fnExactDagTextUptoCard

/-- THE SECOND FORM's CARD OF 'laws.FnExactParseDag'. -/
def fnExactParseDagUptoCard : Claim7 := { stood := { row := fnExactParseDagUptoRow, standIns := [], harness := (true, "99e0d108a7e3b6d1e1ab0ac3503b5eb700f97a953ec483554d9974099bc94b03"), looks := false }, kinds := [], alts := [], laidByText := true, laidKinds := [.data, .data, .data, .data, .listed, .data, .data, .pinned], laidTests := true, laidLooks := .later }
def FnExactParseDagUptoCardSaid : Prop := Claim7.holds Tryz.pinned (.plain (OpenSpec.upto fnExactParseDagSpec)) fnExactParseDagUptoCard
end Rows
end Go.Proofs.YtpmkapmfgblkhaaGreatDoor
