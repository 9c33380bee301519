/-
  DERIVED. GIVEN WITH THE SEED: THE CARDS: each row of YtgeimliibddhmaaDoorRows.lean that lists a variable, with what it lists TIED to the program's text (the seventh form; the later family's looks); each row that meets fmt, with fmt's text TOLD by the authors' own Lean function (tested against real Go, not proved from fmt's source: count such statements apart). THE CARD IS WHAT COUNTS. Prove the row's statement (the work); the ties are given (YtgeimliibddhmaaDoorTie.lean); close each card by the builder's one call (the guide's Derived/Test/ToyasCard.lean, 'card_holds'). Laid BY PROGRAM, IN A SANDBOX (cutbox-door.mjs). By AI agents, Wed Nov 11 2026. No macro, syntax, notation, axiom, sorry.
-/
import Derived.Test.YtgeimliibddhmaaDoorRows
import GoSem.ClaimSeven
namespace Go.Proofs.YtgeimliibddhmaaDoor
namespace Rows

/-- THE TIED CARD OF 'laws.FnRules'. -/
def fnRulesCard : Claim7 := { stood := { row := fnRulesRow, standIns := [], harness := (true, "60d4930339c731101babb02d06012632efa08211e7f07e777d0b068f594e1bd9"), looks := false }, kinds := [], alts := [], laidByText := true, laidKinds := [.data, .data, .data, .data, .listed, .data, .data, .pinned], laidTests := true, laidLooks := .later }
def FnRulesCardSaid : Prop := Claim7.holds Tryd.pinned (.plain (OpenSpec.ofChange fnRulesSpec)) fnRulesCard

/-- THE TIED CARD OF 'laws.FnFires'. -/
def fnFiresCard : Claim7 := { stood := { row := fnFiresRow, standIns := [], harness := (true, "60d4930339c731101babb02d06012632efa08211e7f07e777d0b068f594e1bd9"), looks := false }, kinds := [], alts := [], laidByText := true, laidKinds := [.data], laidTests := true, laidLooks := .later }
def FnFiresCardSaid : Prop := Claim7.holds Tryd.pinned (.plain (OpenSpec.ofChange fnFiresSpec)) fnFiresCard

/-- THE TIED CARD OF 'laws.FnCounts'. -/
def fnCountsCard : Claim7 := { stood := { row := fnCountsRow, standIns := [], harness := (true, "60d4930339c731101babb02d06012632efa08211e7f07e777d0b068f594e1bd9"), looks := false }, kinds := [], alts := [], laidByText := true, laidKinds := [.data], laidTests := true, laidLooks := .later }
def FnCountsCardSaid : Prop := Claim7.holds Tryd.pinned (.plain (OpenSpec.ofChange fnCountsSpec)) fnCountsCard

/-- THE TIED CARD OF 'laws.FnExactCronOk'. -/
def fnExactCronOkCard : Claim7 := { stood := { row := fnExactCronOkRow, standIns := [], harness := (true, "60d4930339c731101babb02d06012632efa08211e7f07e777d0b068f594e1bd9"), looks := false }, kinds := [], alts := [], laidByText := true, laidKinds := [.data], laidTests := true, laidLooks := .later }
def FnExactCronOkCardSaid : Prop := Claim7.holds Tryd.pinned (.plain (OpenSpec.ofChange fnExactCronOkSpec)) fnExactCronOkCard

/-- THE TIED CARD OF 'laws.FnExactParseCron'. -/
def fnExactParseCronCard : Claim7 := { stood := { row := fnExactParseCronRow, standIns := [], harness := (true, "60d4930339c731101babb02d06012632efa08211e7f07e777d0b068f594e1bd9"), looks := false }, kinds := [], alts := [], laidByText := true, laidKinds := [.data, .listed, .data, .data, .pinned], laidTests := true, laidLooks := .later }
def FnExactParseCronCardSaid : Prop := Claim7.holds Tryd.pinned (.plain (OpenSpec.ofChange fnExactParseCronSpec)) fnExactParseCronCard

/-- THE TIED CARD OF 'laws.FnExactCronText'. -/
def fnExactCronTextCard : Claim7 := { stood := { row := fnExactCronTextRow, standIns := [], harness := (true, "60d4930339c731101babb02d06012632efa08211e7f07e777d0b068f594e1bd9"), looks := false }, kinds := [], alts := [], laidByText := true, laidKinds := [.data, .data, .data, .data], laidTests := true, laidLooks := .later }
def FnExactCronTextCardSaid : Prop := Claim7.holds Tryd.pinned (.plain (OpenSpec.ofChange fnExactCronTextSpec)) fnExactCronTextCard

/-- THE TIED CARD OF 'laws.FnExactFires'. -/
def fnExactFiresCard : Claim7 := { stood := { row := fnExactFiresRow, standIns := [], harness := (true, "60d4930339c731101babb02d06012632efa08211e7f07e777d0b068f594e1bd9"), looks := false }, kinds := [], alts := [], laidByText := true, laidKinds := [.data], laidTests := true, laidLooks := .later }
def FnExactFiresCardSaid : Prop := Claim7.holds Tryd.pinned (.plain (OpenSpec.ofChange fnExactFiresSpec)) fnExactFiresCard

/-- THE TIED CARD OF 'laws.FnExactNextFire'. -/
def fnExactNextFireCard : Claim7 := { stood := { row := fnExactNextFireRow, standIns := [], harness := (true, "60d4930339c731101babb02d06012632efa08211e7f07e777d0b068f594e1bd9"), looks := false }, kinds := [], alts := [], laidByText := true, laidKinds := [.data], laidTests := true, laidLooks := .later }
def FnExactNextFireCardSaid : Prop := Claim7.holds Tryd.pinned (.plain (OpenSpec.ofChange fnExactNextFireSpec)) fnExactNextFireCard

/-- THE TIED CARD OF 'laws.FnExactCountFires'. -/
def fnExactCountFiresCard : Claim7 := { stood := { row := fnExactCountFiresRow, standIns := [], harness := (true, "60d4930339c731101babb02d06012632efa08211e7f07e777d0b068f594e1bd9"), looks := false }, kinds := [], alts := [], laidByText := true, laidKinds := [.data], laidTests := true, laidLooks := .later }
def FnExactCountFiresCardSaid : Prop := Claim7.holds Tryd.pinned (.plain (OpenSpec.ofChange fnExactCountFiresSpec)) fnExactCountFiresCard

/-- THE SECOND FORM's CARD OF 'laws.FnRules'. -/
def fnRulesUptoCard : Claim7 := { stood := { row := fnRulesUptoRow, standIns := [], harness := (true, "60d4930339c731101babb02d06012632efa08211e7f07e777d0b068f594e1bd9"), looks := false }, kinds := [], alts := [], laidByText := true, laidKinds := [.data, .data, .data, .data, .listed, .data, .data, .pinned], laidTests := true, laidLooks := .later }
def FnRulesUptoCardSaid : Prop := Claim7.holds Tryd.pinned (.plain (OpenSpec.upto fnRulesSpec)) fnRulesUptoCard

/-- THE SECOND FORM's CARD OF 'laws.FnFires'. -/
def fnFiresUptoCard : Claim7 := { stood := { row := fnFiresUptoRow, standIns := [], harness := (true, "60d4930339c731101babb02d06012632efa08211e7f07e777d0b068f594e1bd9"), looks := false }, kinds := [], alts := [], laidByText := true, laidKinds := [.data], laidTests := true, laidLooks := .later }
def FnFiresUptoCardSaid : Prop := Claim7.holds Tryd.pinned (.plain (OpenSpec.upto fnFiresSpec)) fnFiresUptoCard

/-- THE SECOND FORM's CARD OF 'laws.FnCounts'. -/
def fnCountsUptoCard : Claim7 := { stood := { row := fnCountsUptoRow, standIns := [], harness := (true, "60d4930339c731101babb02d06012632efa08211e7f07e777d0b068f594e1bd9"), looks := false }, kinds := [], alts := [], laidByText := true, laidKinds := [.data], laidTests := true, laidLooks := .later }
def FnCountsUptoCardSaid : Prop := Claim7.holds Tryd.pinned (.plain (OpenSpec.upto fnCountsSpec)) fnCountsUptoCard

/-- THE SECOND FORM's CARD OF 'laws.FnExactCronOk'. -/
def fnExactCronOkUptoCard : Claim7 := { stood := { row := fnExactCronOkUptoRow, standIns := [], harness := (true, "60d4930339c731101babb02d06012632efa08211e7f07e777d0b068f594e1bd9"), looks := false }, kinds := [], alts := [], laidByText := true, laidKinds := [.data], laidTests := true, laidLooks := .later }
def FnExactCronOkUptoCardSaid : Prop := Claim7.holds Tryd.pinned (.plain (OpenSpec.upto fnExactCronOkSpec)) fnExactCronOkUptoCard

/-- THE SECOND FORM's CARD OF 'laws.FnExactParseCron'. -/
def fnExactParseCronUptoCard : Claim7 := { stood := { row := fnExactParseCronUptoRow, standIns := [], harness := (true, "60d4930339c731101babb02d06012632efa08211e7f07e777d0b068f594e1bd9"), looks := false }, kinds := [], alts := [], laidByText := true, laidKinds := [.data, .listed, .data, .data, .pinned], laidTests := true, laidLooks := .later }
def FnExactParseCronUptoCardSaid : Prop := Claim7.holds Tryd.pinned (.plain (OpenSpec.upto fnExactParseCronSpec)) fnExactParseCronUptoCard

/-- THE SECOND FORM's CARD OF 'laws.FnExactCronText'. -/
def fnExactCronTextUptoCard : Claim7 := { stood := { row := fnExactCronTextUptoRow, standIns := [], harness := (true, "60d4930339c731101babb02d06012632efa08211e7f07e777d0b068f594e1bd9"), looks := false }, kinds := [], alts := [], laidByText := true, laidKinds := [.data, .data, .data, .data], laidTests := true, laidLooks := .later }
def FnExactCronTextUptoCardSaid : Prop := Claim7.holds Tryd.pinned (.plain (OpenSpec.upto fnExactCronTextSpec)) fnExactCronTextUptoCard

/-- THE SECOND FORM's CARD OF 'laws.FnExactFires'. -/
def fnExactFiresUptoCard : Claim7 := { stood := { row := fnExactFiresUptoRow, standIns := [], harness := (true, "60d4930339c731101babb02d06012632efa08211e7f07e777d0b068f594e1bd9"), looks := false }, kinds := [], alts := [], laidByText := true, laidKinds := [.data], laidTests := true, laidLooks := .later }
def FnExactFiresUptoCardSaid : Prop := Claim7.holds Tryd.pinned (.plain (OpenSpec.upto fnExactFiresSpec)) fnExactFiresUptoCard

/-- THE SECOND FORM's CARD OF 'laws.FnExactNextFire'. -/
def fnExactNextFireUptoCard : Claim7 := { stood := { row := fnExactNextFireUptoRow, standIns := [], harness := (true, "60d4930339c731101babb02d06012632efa08211e7f07e777d0b068f594e1bd9"), looks := false }, kinds := [], alts := [], laidByText := true, laidKinds := [.data], laidTests := true, laidLooks := .later }
def FnExactNextFireUptoCardSaid : Prop := Claim7.holds Tryd.pinned (.plain (OpenSpec.upto fnExactNextFireSpec)) fnExactNextFireUptoCard

/-- THE SECOND FORM's CARD OF 'laws.FnExactCountFires'. -/
def fnExactCountFiresUptoCard : Claim7 := { stood := { row := fnExactCountFiresUptoRow, standIns := [], harness := (true, "60d4930339c731101babb02d06012632efa08211e7f07e777d0b068f594e1bd9"), looks := false }, kinds := [], alts := [], laidByText := true, laidKinds := [.data], laidTests := true, laidLooks := .later }
def FnExactCountFiresUptoCardSaid : Prop := Claim7.holds Tryd.pinned (.plain (OpenSpec.upto fnExactCountFiresSpec)) fnExactCountFiresUptoCard
end Rows
end Go.Proofs.YtgeimliibddhmaaDoor
