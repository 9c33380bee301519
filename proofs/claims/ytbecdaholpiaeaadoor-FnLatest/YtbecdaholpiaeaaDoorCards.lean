/-
  DERIVED. GIVEN WITH THE SEED: THE CARDS: each row of YtbecdaholpiaeaaDoorRows.lean that lists a variable, with what it lists TIED to the program's text (the seventh form; the later family's looks); each row that meets fmt, with fmt's text TOLD by the authors' own Lean function (tested against real Go, not proved from fmt's source: count such statements apart). THE CARD IS WHAT COUNTS. Prove the row's statement (the work); the ties are given (YtbecdaholpiaeaaDoorTie.lean); close each card by the builder's one call (the guide's Derived/Test/ToyasCard.lean, 'card_holds'). Laid BY PROGRAM, IN A SANDBOX (cutbox-door.mjs). By AI agents, Wed Nov 11 2026. No macro, syntax, notation, axiom, sorry.
-/
import Derived.Test.YtbecdaholpiaeaaDoorRows
import GoSem.ClaimSeven
namespace Go.Proofs.YtbecdaholpiaeaaDoor
namespace Rows

/-- THE TIED CARD OF 'laws.FnSpans'. -/
def fnSpansCard : Claim7 := { stood := { row := fnSpansRow, standIns := [], harness := (true, "011afd401950e1489a0afabf49687c9ee510873efdb8a287cbd7a30217450aa2"), looks := false }, kinds := [], alts := [], laidByText := true, laidKinds := [.data], laidTests := true, laidLooks := .later }
def FnSpansCardSaid : Prop := Claim7.holds Tryd.pinned (.plain (OpenSpec.ofChange fnSpansSpec)) fnSpansCard

/-- THE TIED CARD OF 'laws.FnLatest'. -/
def fnLatestCard : Claim7 := { stood := { row := fnLatestRow, standIns := [], harness := (true, "011afd401950e1489a0afabf49687c9ee510873efdb8a287cbd7a30217450aa2"), looks := false }, kinds := [], alts := [], laidByText := true, laidKinds := [.data], laidTests := true, laidLooks := .later }
def FnLatestCardSaid : Prop := Claim7.holds Tryd.pinned (.plain (OpenSpec.ofChange fnLatestSpec)) fnLatestCard

/-- THE TIED CARD OF 'laws.FnExactSpans'. -/
def fnExactSpansCard : Claim7 := { stood := { row := fnExactSpansRow, standIns := [], harness := (true, "011afd401950e1489a0afabf49687c9ee510873efdb8a287cbd7a30217450aa2"), looks := false }, kinds := [], alts := [], laidByText := true, laidKinds := [.data], laidTests := true, laidLooks := .later }
def FnExactSpansCardSaid : Prop := Claim7.holds Tryd.pinned (.plain (OpenSpec.ofChange fnExactSpansSpec)) fnExactSpansCard

/-- THE TIED CARD OF 'laws.FnExactLatest'. -/
def fnExactLatestCard : Claim7 := { stood := { row := fnExactLatestRow, standIns := [], harness := (true, "011afd401950e1489a0afabf49687c9ee510873efdb8a287cbd7a30217450aa2"), looks := false }, kinds := [], alts := [], laidByText := true, laidKinds := [.data], laidTests := true, laidLooks := .later }
def FnExactLatestCardSaid : Prop := Claim7.holds Tryd.pinned (.plain (OpenSpec.ofChange fnExactLatestSpec)) fnExactLatestCard

/-- THE SECOND FORM's CARD OF 'laws.FnSpans'. -/
def fnSpansUptoCard : Claim7 := { stood := { row := fnSpansUptoRow, standIns := [], harness := (true, "011afd401950e1489a0afabf49687c9ee510873efdb8a287cbd7a30217450aa2"), looks := false }, kinds := [], alts := [], laidByText := true, laidKinds := [.data], laidTests := true, laidLooks := .later }
def FnSpansUptoCardSaid : Prop := Claim7.holds Tryd.pinned (.plain (OpenSpec.upto fnSpansSpec)) fnSpansUptoCard

/-- THE SECOND FORM's CARD OF 'laws.FnLatest'. -/
def fnLatestUptoCard : Claim7 := { stood := { row := fnLatestUptoRow, standIns := [], harness := (true, "011afd401950e1489a0afabf49687c9ee510873efdb8a287cbd7a30217450aa2"), looks := false }, kinds := [], alts := [], laidByText := true, laidKinds := [.data], laidTests := true, laidLooks := .later }
def FnLatestUptoCardSaid : Prop := Claim7.holds Tryd.pinned (.plain (OpenSpec.upto fnLatestSpec)) fnLatestUptoCard

/-- THE SECOND FORM's CARD OF 'laws.FnExactSpans'. -/
def fnExactSpansUptoCard : Claim7 := { stood := { row := fnExactSpansUptoRow, standIns := [], harness := (true, "011afd401950e1489a0afabf49687c9ee510873efdb8a287cbd7a30217450aa2"), looks := false }, kinds := [], alts := [], laidByText := true, laidKinds := [.data], laidTests := true, laidLooks := .later }
def FnExactSpansUptoCardSaid : Prop := Claim7.holds Tryd.pinned (.plain (OpenSpec.upto fnExactSpansSpec)) fnExactSpansUptoCard

/-- THE SECOND FORM's CARD OF 'laws.FnExactLatest'. -/
def fnExactLatestUptoCard : Claim7 := { stood := { row := fnExactLatestUptoRow, standIns := [], harness := (true, "011afd401950e1489a0afabf49687c9ee510873efdb8a287cbd7a30217450aa2"), looks := false }, kinds := [], alts := [], laidByText := true, laidKinds := [.data], laidTests := true, laidLooks := .later }
def FnExactLatestUptoCardSaid : Prop := Claim7.holds Tryd.pinned (.plain (OpenSpec.upto fnExactLatestSpec)) fnExactLatestUptoCard
end Rows
end Go.Proofs.YtbecdaholpiaeaaDoor
