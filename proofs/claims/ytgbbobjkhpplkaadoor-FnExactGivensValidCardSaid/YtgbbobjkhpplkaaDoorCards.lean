/-
  DERIVED. GIVEN WITH THE SEED: THE CARDS: each row of YtgbbobjkhpplkaaDoorRows.lean that lists a variable, with what it lists TIED to the program's text (the seventh form; the later family's looks); each row that meets fmt, with fmt's text TOLD by the authors' own Lean function (tested against real Go, not proved from fmt's source: count such statements apart). THE CARD IS WHAT COUNTS. Prove the row's statement (the work); the ties are given (YtgbbobjkhpplkaaDoorTie.lean); close each card by the builder's one call (the guide's Derived/Test/ToyasCard.lean, 'card_holds'). Laid BY PROGRAM, IN A SANDBOX (cutbox-door.mjs). By AI agents, Wed Nov 11 2026. No macro, syntax, notation, axiom, sorry.
-/
import Derived.Test.YtgbbobjkhpplkaaDoorRows
import GoSem.ClaimSeven
namespace Go.Proofs.YtgbbobjkhpplkaaDoor
namespace Rows

/-- THE TIED CARD OF 'laws.FnExactGivensValid'. -/
def fnExactGivensValidCard : Claim7 := { stood := { row := fnExactGivensValidRow, standIns := [], harness := (true, "7d6cd6af69192dd7f12591c02173814900dcb23cd470eb78f3c5409ac622dc68"), looks := true }, kinds := [], alts := [], laidByText := true, laidKinds := [.sentinel, .sentinel, .sentinel, .sentinel, .sentinel, .sentinel, .sentinel], laidTests := true, laidLooks := .later }
def FnExactGivensValidCardSaid : Prop := Claim7.holds Tryd.pinned (.plain (OpenSpec.ofChange fnExactGivensValidSpec)) fnExactGivensValidCard

/-- THE SECOND FORM's CARD OF 'laws.FnExactGivensValid'. -/
def fnExactGivensValidUptoCard : Claim7 := { stood := { row := fnExactGivensValidUptoRow, standIns := [], harness := (true, "7d6cd6af69192dd7f12591c02173814900dcb23cd470eb78f3c5409ac622dc68"), looks := true }, kinds := [], alts := [], laidByText := true, laidKinds := [.sentinel, .sentinel, .sentinel, .sentinel, .sentinel, .sentinel, .sentinel], laidTests := true, laidLooks := .later }
def FnExactGivensValidUptoCardSaid : Prop := Claim7.holds Tryd.pinned (.plain (OpenSpec.upto fnExactGivensValidSpec)) fnExactGivensValidUptoCard
end Rows
end Go.Proofs.YtgbbobjkhpplkaaDoor
