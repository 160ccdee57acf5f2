/-
  DERIVED. GIVEN WITH THE SEED: THE CARDS: each row of YtmbfahpljgdeaaaDoorRows.lean that lists a variable, with what it lists TIED to the program's text (the seventh form; the later family's looks); each row that meets fmt, with fmt's text TOLD by the authors' own Lean function (tested against real Go, not proved from fmt's source: count such statements apart). THE CARD IS WHAT COUNTS. Prove the row's statement (the work); the ties are given (YtmbfahpljgdeaaaDoorTie.lean); close each card by the builder's one call (the guide's Derived/Test/ToyasCard.lean, 'card_holds'). Laid BY PROGRAM, IN A SANDBOX (cutbox-door.mjs). By AI agents, Wed Nov 11 2026. No macro, syntax, notation, axiom, sorry.
-/
import Derived.Test.YtmbfahpljgdeaaaDoorRows
import GoSem.ClaimSeven
namespace Go.Proofs.YtmbfahpljgdeaaaDoor
namespace Rows

/-- THE TIED CARD OF 'laws.FnExactWorldValid'. -/
def fnExactWorldValidCard : Claim7 := { stood := { row := fnExactWorldValidRow, standIns := [], harness := (true, "2d22f8fe34dcc3ed9b82c6b68a908a0cbf84e11aeca046b00671825c1fc05223"), looks := true }, kinds := [], alts := [], laidByText := true, laidKinds := [.sentinel, .sentinel, .sentinel, .sentinel, .sentinel, .sentinel, .sentinel], laidTests := true, laidLooks := .later }
def FnExactWorldValidCardSaid : Prop := Claim7.holds Tryd.pinned (.plain (OpenSpec.ofChange fnExactWorldValidSpec)) fnExactWorldValidCard

/-- THE TIED CARD OF 'laws.FnExactInstanceValid'. -/
def fnExactInstanceValidCard : Claim7 := { stood := { row := fnExactInstanceValidRow, standIns := [], harness := (true, "2d22f8fe34dcc3ed9b82c6b68a908a0cbf84e11aeca046b00671825c1fc05223"), looks := true }, kinds := [], alts := [], laidByText := true, laidKinds := [.sentinel, .sentinel, .sentinel, .sentinel, .sentinel, .sentinel, .sentinel], laidTests := true, laidLooks := .later }
def FnExactInstanceValidCardSaid : Prop := Claim7.holds Tryd.pinned (.plain (OpenSpec.ofChange fnExactInstanceValidSpec)) fnExactInstanceValidCard

/-- THE TIED CARD OF 'laws.FnExactParseNeed'. -/
def fnExactParseNeedCard : Claim7 := { stood := { row := fnExactParseNeedRow, standIns := [], harness := (true, "2d22f8fe34dcc3ed9b82c6b68a908a0cbf84e11aeca046b00671825c1fc05223"), looks := true }, kinds := [], alts := [], laidByText := true, laidKinds := [.sentinel, .sentinel, .sentinel], laidTests := true, laidLooks := .later }
def FnExactParseNeedCardSaid : Prop := Claim7.holds Tryd.pinned (.plain (OpenSpec.ofChange fnExactParseNeedSpec)) fnExactParseNeedCard

/-- THE TIED CARD OF 'laws.FnExactParseInstance'. -/
def fnExactParseInstanceCard : Claim7 := { stood := { row := fnExactParseInstanceRow, standIns := [], harness := (true, "2d22f8fe34dcc3ed9b82c6b68a908a0cbf84e11aeca046b00671825c1fc05223"), looks := true }, kinds := [], alts := [], laidByText := true, laidKinds := [.sentinel, .sentinel, .sentinel], laidTests := true, laidLooks := .later }
def FnExactParseInstanceCardSaid : Prop := Claim7.holds Tryd.pinned (.plain (OpenSpec.ofChange fnExactParseInstanceSpec)) fnExactParseInstanceCard

/-- THE TIED CARD OF 'laws.FnExactFormatWorld'. -/
def fnExactFormatWorldCard : Claim7 := { stood := { row := fnExactFormatWorldRow, standIns := [], harness := (true, "2d22f8fe34dcc3ed9b82c6b68a908a0cbf84e11aeca046b00671825c1fc05223"), looks := true }, kinds := [], alts := [], laidByText := true, laidKinds := [.sentinel, .sentinel, .sentinel, .sentinel, .sentinel, .sentinel, .sentinel], laidTests := true, laidLooks := .later }
def FnExactFormatWorldCardSaid : Prop := Claim7.holds Tryd.pinned (.plain (OpenSpec.ofChange fnExactFormatWorldSpec)) fnExactFormatWorldCard

/-- THE TIED CARD OF 'laws.FnExactHasClass'. -/
def fnExactHasClassCard : Claim7 := { stood := { row := fnExactHasClassRow, standIns := [], harness := (true, "2d22f8fe34dcc3ed9b82c6b68a908a0cbf84e11aeca046b00671825c1fc05223"), looks := true }, kinds := [], alts := [], laidByText := true, laidKinds := [.sentinel, .sentinel, .sentinel, .sentinel, .sentinel, .sentinel, .sentinel], laidTests := true, laidLooks := .later }
def FnExactHasClassCardSaid : Prop := Claim7.holds Tryd.pinned (.plain (OpenSpec.ofChange fnExactHasClassSpec)) fnExactHasClassCard

/-- THE TIED CARD OF 'laws.FnExactParseNeeds'. -/
def fnExactParseNeedsCard : Claim7 := { stood := { row := fnExactParseNeedsRow, standIns := [], harness := (true, "2d22f8fe34dcc3ed9b82c6b68a908a0cbf84e11aeca046b00671825c1fc05223"), looks := true }, kinds := [], alts := [], laidByText := true, laidKinds := [.sentinel, .sentinel, .sentinel], laidTests := true, laidLooks := .later }
def FnExactParseNeedsCardSaid : Prop := Claim7.holds Tryd.pinned (.plain (OpenSpec.ofChange fnExactParseNeedsSpec)) fnExactParseNeedsCard

/-- THE SECOND FORM's CARD OF 'laws.FnExactWorldValid'. -/
def fnExactWorldValidUptoCard : Claim7 := { stood := { row := fnExactWorldValidUptoRow, standIns := [], harness := (true, "2d22f8fe34dcc3ed9b82c6b68a908a0cbf84e11aeca046b00671825c1fc05223"), looks := true }, kinds := [], alts := [], laidByText := true, laidKinds := [.sentinel, .sentinel, .sentinel, .sentinel, .sentinel, .sentinel, .sentinel], laidTests := true, laidLooks := .later }
def FnExactWorldValidUptoCardSaid : Prop := Claim7.holds Tryd.pinned (.plain (OpenSpec.upto fnExactWorldValidSpec)) fnExactWorldValidUptoCard

/-- THE SECOND FORM's CARD OF 'laws.FnExactInstanceValid'. -/
def fnExactInstanceValidUptoCard : Claim7 := { stood := { row := fnExactInstanceValidUptoRow, standIns := [], harness := (true, "2d22f8fe34dcc3ed9b82c6b68a908a0cbf84e11aeca046b00671825c1fc05223"), looks := true }, kinds := [], alts := [], laidByText := true, laidKinds := [.sentinel, .sentinel, .sentinel, .sentinel, .sentinel, .sentinel, .sentinel], laidTests := true, laidLooks := .later }
def FnExactInstanceValidUptoCardSaid : Prop := Claim7.holds Tryd.pinned (.plain (OpenSpec.upto fnExactInstanceValidSpec)) fnExactInstanceValidUptoCard

/-- THE SECOND FORM's CARD OF 'laws.FnExactParseNeed'. -/
def fnExactParseNeedUptoCard : Claim7 := { stood := { row := fnExactParseNeedUptoRow, standIns := [], harness := (true, "2d22f8fe34dcc3ed9b82c6b68a908a0cbf84e11aeca046b00671825c1fc05223"), looks := true }, kinds := [], alts := [], laidByText := true, laidKinds := [.sentinel, .sentinel, .sentinel], laidTests := true, laidLooks := .later }
def FnExactParseNeedUptoCardSaid : Prop := Claim7.holds Tryd.pinned (.plain (OpenSpec.upto fnExactParseNeedSpec)) fnExactParseNeedUptoCard

/-- THE SECOND FORM's CARD OF 'laws.FnExactParseInstance'. -/
def fnExactParseInstanceUptoCard : Claim7 := { stood := { row := fnExactParseInstanceUptoRow, standIns := [], harness := (true, "2d22f8fe34dcc3ed9b82c6b68a908a0cbf84e11aeca046b00671825c1fc05223"), looks := true }, kinds := [], alts := [], laidByText := true, laidKinds := [.sentinel, .sentinel, .sentinel], laidTests := true, laidLooks := .later }
def FnExactParseInstanceUptoCardSaid : Prop := Claim7.holds Tryd.pinned (.plain (OpenSpec.upto fnExactParseInstanceSpec)) fnExactParseInstanceUptoCard

/-- THE SECOND FORM's CARD OF 'laws.FnExactFormatWorld'. -/
def fnExactFormatWorldUptoCard : Claim7 := { stood := { row := fnExactFormatWorldUptoRow, standIns := [], harness := (true, "2d22f8fe34dcc3ed9b82c6b68a908a0cbf84e11aeca046b00671825c1fc05223"), looks := true }, kinds := [], alts := [], laidByText := true, laidKinds := [.sentinel, .sentinel, .sentinel, .sentinel, .sentinel, .sentinel, .sentinel], laidTests := true, laidLooks := .later }
def FnExactFormatWorldUptoCardSaid : Prop := Claim7.holds Tryd.pinned (.plain (OpenSpec.upto fnExactFormatWorldSpec)) fnExactFormatWorldUptoCard

/-- THE SECOND FORM's CARD OF 'laws.FnExactHasClass'. -/
def fnExactHasClassUptoCard : Claim7 := { stood := { row := fnExactHasClassUptoRow, standIns := [], harness := (true, "2d22f8fe34dcc3ed9b82c6b68a908a0cbf84e11aeca046b00671825c1fc05223"), looks := true }, kinds := [], alts := [], laidByText := true, laidKinds := [.sentinel, .sentinel, .sentinel, .sentinel, .sentinel, .sentinel, .sentinel], laidTests := true, laidLooks := .later }
def FnExactHasClassUptoCardSaid : Prop := Claim7.holds Tryd.pinned (.plain (OpenSpec.upto fnExactHasClassSpec)) fnExactHasClassUptoCard

/-- THE SECOND FORM's CARD OF 'laws.FnExactParseNeeds'. -/
def fnExactParseNeedsUptoCard : Claim7 := { stood := { row := fnExactParseNeedsUptoRow, standIns := [], harness := (true, "2d22f8fe34dcc3ed9b82c6b68a908a0cbf84e11aeca046b00671825c1fc05223"), looks := true }, kinds := [], alts := [], laidByText := true, laidKinds := [.sentinel, .sentinel, .sentinel], laidTests := true, laidLooks := .later }
def FnExactParseNeedsUptoCardSaid : Prop := Claim7.holds Tryd.pinned (.plain (OpenSpec.upto fnExactParseNeedsSpec)) fnExactParseNeedsUptoCard
end Rows
end Go.Proofs.YtmbfahpljgdeaaaDoor
