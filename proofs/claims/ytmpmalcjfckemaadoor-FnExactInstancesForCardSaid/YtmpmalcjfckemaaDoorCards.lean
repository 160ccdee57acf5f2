/-
  DERIVED. GIVEN WITH THE SEED: THE CARDS: each row of YtmpmalcjfckemaaDoorRows.lean that lists a variable, with what it lists TIED to the program's text (the seventh form; the later family's looks); each row that meets fmt, with fmt's text TOLD by the authors' own Lean function (tested against real Go, not proved from fmt's source: count such statements apart). THE CARD IS WHAT COUNTS. Prove the row's statement (the work); the ties are given (YtmpmalcjfckemaaDoorTie.lean); close each card by the builder's one call (the guide's Derived/Test/ToyasCard.lean, 'card_holds'). Laid BY PROGRAM, IN A SANDBOX (cutbox-door.mjs). By AI agents, Wed Nov 11 2026. No macro, syntax, notation, axiom, sorry.
-/
import Derived.Test.YtmpmalcjfckemaaDoorRows
import GoSem.ClaimSeven
namespace Go.Proofs.YtmpmalcjfckemaaDoor
namespace Rows

/-- THE TIED CARD OF 'laws.FnExactNeedValid'. -/
def fnExactNeedValidCard : Claim7 := { stood := { row := fnExactNeedValidRow, standIns := [], harness := (true, "ddc674d4ec3a615c4577b231fc8d06c8222de018483e4fcefd90bc10bd141b4f"), looks := true }, kinds := [], alts := [], laidByText := true, laidKinds := [.sentinel, .sentinel, .sentinel, .sentinel, .sentinel, .sentinel, .sentinel], laidTests := true, laidLooks := .later }
def FnExactNeedValidCardSaid : Prop := Claim7.holds Tryd.pinned (.plain (OpenSpec.ofChange fnExactNeedValidSpec)) fnExactNeedValidCard

/-- THE TIED CARD OF 'laws.FnExactInstancesFor'. -/
def fnExactInstancesForCard : Claim7 := { stood := { row := fnExactInstancesForRow, standIns := [], harness := (true, "ddc674d4ec3a615c4577b231fc8d06c8222de018483e4fcefd90bc10bd141b4f"), looks := true }, kinds := [], alts := [], laidByText := true, laidKinds := [.sentinel, .sentinel, .sentinel, .sentinel, .sentinel, .sentinel, .sentinel], laidTests := true, laidLooks := .later }
def FnExactInstancesForCardSaid : Prop := Claim7.holds Tryd.pinned (.plain (OpenSpec.ofChange fnExactInstancesForSpec)) fnExactInstancesForCard

/-- THE SECOND FORM's CARD OF 'laws.FnExactNeedValid'. -/
def fnExactNeedValidUptoCard : Claim7 := { stood := { row := fnExactNeedValidUptoRow, standIns := [], harness := (true, "ddc674d4ec3a615c4577b231fc8d06c8222de018483e4fcefd90bc10bd141b4f"), looks := true }, kinds := [], alts := [], laidByText := true, laidKinds := [.sentinel, .sentinel, .sentinel, .sentinel, .sentinel, .sentinel, .sentinel], laidTests := true, laidLooks := .later }
def FnExactNeedValidUptoCardSaid : Prop := Claim7.holds Tryd.pinned (.plain (OpenSpec.upto fnExactNeedValidSpec)) fnExactNeedValidUptoCard

/-- THE SECOND FORM's CARD OF 'laws.FnExactInstancesFor'. -/
def fnExactInstancesForUptoCard : Claim7 := { stood := { row := fnExactInstancesForUptoRow, standIns := [], harness := (true, "ddc674d4ec3a615c4577b231fc8d06c8222de018483e4fcefd90bc10bd141b4f"), looks := true }, kinds := [], alts := [], laidByText := true, laidKinds := [.sentinel, .sentinel, .sentinel, .sentinel, .sentinel, .sentinel, .sentinel], laidTests := true, laidLooks := .later }
def FnExactInstancesForUptoCardSaid : Prop := Claim7.holds Tryd.pinned (.plain (OpenSpec.upto fnExactInstancesForSpec)) fnExactInstancesForUptoCard
end Rows
end Go.Proofs.YtmpmalcjfckemaaDoor
