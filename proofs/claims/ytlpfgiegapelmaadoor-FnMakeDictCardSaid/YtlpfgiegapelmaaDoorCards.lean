/-
  DERIVED. GIVEN WITH THE SEED: THE CARDS: each row of YtlpfgiegapelmaaDoorRows.lean that lists a variable, with what it lists TIED to the program's text (the seventh form; the later family's looks); each row that meets fmt, with fmt's text TOLD by the authors' own Lean function (tested against real Go, not proved from fmt's source: count such statements apart). THE CARD IS WHAT COUNTS. Prove the row's statement (the work); the ties are given (YtlpfgiegapelmaaDoorTie.lean); close each card by the builder's one call (the guide's Derived/Test/ToyasCard.lean, 'card_holds'). Laid BY PROGRAM, IN A SANDBOX (cutbox-door.mjs). By AI agents, Wed Nov 11 2026. No macro, syntax, notation, axiom, sorry.
-/
import Derived.Test.YtlpfgiegapelmaaDoorRows
import GoSem.ClaimSeven
namespace Go.Proofs.YtlpfgiegapelmaaDoor
namespace Rows

/-- THE TIED CARD OF 'laws.FnMakeDict'. -/
def fnMakeDictCard : Claim7 := { stood := { row := fnMakeDictRow, standIns := [], harness := (true, "1eecd0baafe8efdce5d897dd2580227be5f1f4839d18001e5493ea12470fb2e1"), looks := false }, kinds := [], alts := [], laidByText := true, laidKinds := [.data, .data, .data], laidTests := true, laidLooks := .later }
def FnMakeDictCardSaid : Prop := Claim7.holds Tryd.pinned (.plain (OpenSpec.ofChange fnMakeDictSpec)) fnMakeDictCard

/-- THE TIED CARD OF 'laws.FnTexts'. -/
def fnTextsCard : Claim7 := { stood := { row := fnTextsRow, standIns := [], harness := (true, "1eecd0baafe8efdce5d897dd2580227be5f1f4839d18001e5493ea12470fb2e1"), looks := false }, kinds := [], alts := [], laidByText := true, laidKinds := [.data, .data, .data], laidTests := true, laidLooks := .later }
def FnTextsCardSaid : Prop := Claim7.holds Tryd.pinned (.plain (OpenSpec.ofChange fnTextsSpec)) fnTextsCard

/-- THE TIED CARD OF 'laws.FnExactFormatGaps'. -/
def fnExactFormatGapsCard : Claim7 := { stood := { row := fnExactFormatGapsRow, standIns := [], harness := (true, "1eecd0baafe8efdce5d897dd2580227be5f1f4839d18001e5493ea12470fb2e1"), looks := false }, kinds := [], alts := [], laidByText := true, laidKinds := [.data, .data, .data], laidTests := true, laidLooks := .later }
def FnExactFormatGapsCardSaid : Prop := Claim7.holds Tryd.pinned (.plain (OpenSpec.ofChange fnExactFormatGapsSpec)) fnExactFormatGapsCard

/-- THE TIED CARD OF 'laws.FnExactDictValid'. -/
def fnExactDictValidCard : Claim7 := { stood := { row := fnExactDictValidRow, standIns := [], harness := (true, "1eecd0baafe8efdce5d897dd2580227be5f1f4839d18001e5493ea12470fb2e1"), looks := false }, kinds := [], alts := [], laidByText := true, laidKinds := [.data, .data, .data], laidTests := true, laidLooks := .later }
def FnExactDictValidCardSaid : Prop := Claim7.holds Tryd.pinned (.plain (OpenSpec.ofChange fnExactDictValidSpec)) fnExactDictValidCard

/-- THE TIED CARD OF 'laws.FnExactInstanceOf'. -/
def fnExactInstanceOfCard : Claim7 := { stood := { row := fnExactInstanceOfRow, standIns := [], harness := (true, "1eecd0baafe8efdce5d897dd2580227be5f1f4839d18001e5493ea12470fb2e1"), looks := false }, kinds := [], alts := [], laidByText := true, laidKinds := [.data, .data, .data], laidTests := true, laidLooks := .later }
def FnExactInstanceOfCardSaid : Prop := Claim7.holds Tryd.pinned (.plain (OpenSpec.ofChange fnExactInstanceOfSpec)) fnExactInstanceOfCard

/-- THE TIED CARD OF 'laws.FnExactPartsOfDict'. -/
def fnExactPartsOfDictCard : Claim7 := { stood := { row := fnExactPartsOfDictRow, standIns := [], harness := (true, "1eecd0baafe8efdce5d897dd2580227be5f1f4839d18001e5493ea12470fb2e1"), looks := false }, kinds := [], alts := [], laidByText := true, laidKinds := [.data, .data, .data], laidTests := true, laidLooks := .later }
def FnExactPartsOfDictCardSaid : Prop := Claim7.holds Tryd.pinned (.plain (OpenSpec.ofChange fnExactPartsOfDictSpec)) fnExactPartsOfDictCard

/-- THE TIED CARD OF 'laws.FnExactMakeDict'. -/
def fnExactMakeDictCard : Claim7 := { stood := { row := fnExactMakeDictRow, standIns := [], harness := (true, "1eecd0baafe8efdce5d897dd2580227be5f1f4839d18001e5493ea12470fb2e1"), looks := false }, kinds := [], alts := [], laidByText := true, laidKinds := [.data, .data, .data], laidTests := true, laidLooks := .later }
def FnExactMakeDictCardSaid : Prop := Claim7.holds Tryd.pinned (.plain (OpenSpec.ofChange fnExactMakeDictSpec)) fnExactMakeDictCard

/-- THE TIED CARD OF 'laws.FnExactSizeOfDict'. -/
def fnExactSizeOfDictCard : Claim7 := { stood := { row := fnExactSizeOfDictRow, standIns := [], harness := (true, "1eecd0baafe8efdce5d897dd2580227be5f1f4839d18001e5493ea12470fb2e1"), looks := false }, kinds := [], alts := [], laidByText := true, laidKinds := [.data, .data, .data], laidTests := true, laidLooks := .later }
def FnExactSizeOfDictCardSaid : Prop := Claim7.holds Tryd.pinned (.plain (OpenSpec.ofChange fnExactSizeOfDictSpec)) fnExactSizeOfDictCard

/-- THE TIED CARD OF 'laws.FnExactDepthOfDict'. -/
def fnExactDepthOfDictCard : Claim7 := { stood := { row := fnExactDepthOfDictRow, standIns := [], harness := (true, "1eecd0baafe8efdce5d897dd2580227be5f1f4839d18001e5493ea12470fb2e1"), looks := false }, kinds := [], alts := [], laidByText := true, laidKinds := [.data, .data, .data], laidTests := true, laidLooks := .later }
def FnExactDepthOfDictCardSaid : Prop := Claim7.holds Tryd.pinned (.plain (OpenSpec.ofChange fnExactDepthOfDictSpec)) fnExactDepthOfDictCard

/-- THE TIED CARD OF 'laws.FnExactInstancesIn'. -/
def fnExactInstancesInCard : Claim7 := { stood := { row := fnExactInstancesInRow, standIns := [], harness := (true, "1eecd0baafe8efdce5d897dd2580227be5f1f4839d18001e5493ea12470fb2e1"), looks := false }, kinds := [], alts := [], laidByText := true, laidKinds := [.data, .data, .data], laidTests := true, laidLooks := .later }
def FnExactInstancesInCardSaid : Prop := Claim7.holds Tryd.pinned (.plain (OpenSpec.ofChange fnExactInstancesInSpec)) fnExactInstancesInCard

/-- THE SECOND FORM's CARD OF 'laws.FnMakeDict'. -/
def fnMakeDictUptoCard : Claim7 := { stood := { row := fnMakeDictUptoRow, standIns := [], harness := (true, "1eecd0baafe8efdce5d897dd2580227be5f1f4839d18001e5493ea12470fb2e1"), looks := false }, kinds := [], alts := [], laidByText := true, laidKinds := [.data, .data, .data], laidTests := true, laidLooks := .later }
def FnMakeDictUptoCardSaid : Prop := Claim7.holds Tryd.pinned (.plain (OpenSpec.upto fnMakeDictSpec)) fnMakeDictUptoCard

/-- THE SECOND FORM's CARD OF 'laws.FnTexts'. -/
def fnTextsUptoCard : Claim7 := { stood := { row := fnTextsUptoRow, standIns := [], harness := (true, "1eecd0baafe8efdce5d897dd2580227be5f1f4839d18001e5493ea12470fb2e1"), looks := false }, kinds := [], alts := [], laidByText := true, laidKinds := [.data, .data, .data], laidTests := true, laidLooks := .later }
def FnTextsUptoCardSaid : Prop := Claim7.holds Tryd.pinned (.plain (OpenSpec.upto fnTextsSpec)) fnTextsUptoCard

/-- THE SECOND FORM's CARD OF 'laws.FnExactFormatGaps'. -/
def fnExactFormatGapsUptoCard : Claim7 := { stood := { row := fnExactFormatGapsUptoRow, standIns := [], harness := (true, "1eecd0baafe8efdce5d897dd2580227be5f1f4839d18001e5493ea12470fb2e1"), looks := false }, kinds := [], alts := [], laidByText := true, laidKinds := [.data, .data, .data], laidTests := true, laidLooks := .later }
def FnExactFormatGapsUptoCardSaid : Prop := Claim7.holds Tryd.pinned (.plain (OpenSpec.upto fnExactFormatGapsSpec)) fnExactFormatGapsUptoCard

/-- THE SECOND FORM's CARD OF 'laws.FnExactDictValid'. -/
def fnExactDictValidUptoCard : Claim7 := { stood := { row := fnExactDictValidUptoRow, standIns := [], harness := (true, "1eecd0baafe8efdce5d897dd2580227be5f1f4839d18001e5493ea12470fb2e1"), looks := false }, kinds := [], alts := [], laidByText := true, laidKinds := [.data, .data, .data], laidTests := true, laidLooks := .later }
def FnExactDictValidUptoCardSaid : Prop := Claim7.holds Tryd.pinned (.plain (OpenSpec.upto fnExactDictValidSpec)) fnExactDictValidUptoCard

/-- THE SECOND FORM's CARD OF 'laws.FnExactInstanceOf'. -/
def fnExactInstanceOfUptoCard : Claim7 := { stood := { row := fnExactInstanceOfUptoRow, standIns := [], harness := (true, "1eecd0baafe8efdce5d897dd2580227be5f1f4839d18001e5493ea12470fb2e1"), looks := false }, kinds := [], alts := [], laidByText := true, laidKinds := [.data, .data, .data], laidTests := true, laidLooks := .later }
def FnExactInstanceOfUptoCardSaid : Prop := Claim7.holds Tryd.pinned (.plain (OpenSpec.upto fnExactInstanceOfSpec)) fnExactInstanceOfUptoCard

/-- THE SECOND FORM's CARD OF 'laws.FnExactPartsOfDict'. -/
def fnExactPartsOfDictUptoCard : Claim7 := { stood := { row := fnExactPartsOfDictUptoRow, standIns := [], harness := (true, "1eecd0baafe8efdce5d897dd2580227be5f1f4839d18001e5493ea12470fb2e1"), looks := false }, kinds := [], alts := [], laidByText := true, laidKinds := [.data, .data, .data], laidTests := true, laidLooks := .later }
def FnExactPartsOfDictUptoCardSaid : Prop := Claim7.holds Tryd.pinned (.plain (OpenSpec.upto fnExactPartsOfDictSpec)) fnExactPartsOfDictUptoCard

/-- THE SECOND FORM's CARD OF 'laws.FnExactMakeDict'. -/
def fnExactMakeDictUptoCard : Claim7 := { stood := { row := fnExactMakeDictUptoRow, standIns := [], harness := (true, "1eecd0baafe8efdce5d897dd2580227be5f1f4839d18001e5493ea12470fb2e1"), looks := false }, kinds := [], alts := [], laidByText := true, laidKinds := [.data, .data, .data], laidTests := true, laidLooks := .later }
def FnExactMakeDictUptoCardSaid : Prop := Claim7.holds Tryd.pinned (.plain (OpenSpec.upto fnExactMakeDictSpec)) fnExactMakeDictUptoCard

/-- THE SECOND FORM's CARD OF 'laws.FnExactSizeOfDict'. -/
def fnExactSizeOfDictUptoCard : Claim7 := { stood := { row := fnExactSizeOfDictUptoRow, standIns := [], harness := (true, "1eecd0baafe8efdce5d897dd2580227be5f1f4839d18001e5493ea12470fb2e1"), looks := false }, kinds := [], alts := [], laidByText := true, laidKinds := [.data, .data, .data], laidTests := true, laidLooks := .later }
def FnExactSizeOfDictUptoCardSaid : Prop := Claim7.holds Tryd.pinned (.plain (OpenSpec.upto fnExactSizeOfDictSpec)) fnExactSizeOfDictUptoCard

/-- THE SECOND FORM's CARD OF 'laws.FnExactDepthOfDict'. -/
def fnExactDepthOfDictUptoCard : Claim7 := { stood := { row := fnExactDepthOfDictUptoRow, standIns := [], harness := (true, "1eecd0baafe8efdce5d897dd2580227be5f1f4839d18001e5493ea12470fb2e1"), looks := false }, kinds := [], alts := [], laidByText := true, laidKinds := [.data, .data, .data], laidTests := true, laidLooks := .later }
def FnExactDepthOfDictUptoCardSaid : Prop := Claim7.holds Tryd.pinned (.plain (OpenSpec.upto fnExactDepthOfDictSpec)) fnExactDepthOfDictUptoCard

/-- THE SECOND FORM's CARD OF 'laws.FnExactInstancesIn'. -/
def fnExactInstancesInUptoCard : Claim7 := { stood := { row := fnExactInstancesInUptoRow, standIns := [], harness := (true, "1eecd0baafe8efdce5d897dd2580227be5f1f4839d18001e5493ea12470fb2e1"), looks := false }, kinds := [], alts := [], laidByText := true, laidKinds := [.data, .data, .data], laidTests := true, laidLooks := .later }
def FnExactInstancesInUptoCardSaid : Prop := Claim7.holds Tryd.pinned (.plain (OpenSpec.upto fnExactInstancesInSpec)) fnExactInstancesInUptoCard
end Rows
end Go.Proofs.YtlpfgiegapelmaaDoor
