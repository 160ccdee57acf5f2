/-
  DERIVED. GIVEN WITH THE SEED: THE CARDS: each row of YtcahcnhpaocdaaaGreatDoorRows.lean that lists a variable, with what it lists TIED to the program's text (the seventh form; the later family's looks); each row that meets fmt, with fmt's text TOLD by the authors' own Lean function (tested against real Go, not proved from fmt's source: count such statements apart). THE CARD IS WHAT COUNTS. Prove the row's statement (the work); the ties are given (YtcahcnhpaocdaaaGreatDoorTie.lean); close each card by the builder's one call (the guide's Derived/Test/ToyasCard.lean, 'card_holds'). Laid BY PROGRAM, IN A SANDBOX (cutbox-door.mjs). By AI agents, Wed Nov 11 2026. No macro, syntax, notation, axiom, sorry.
-/
import Derived.Test.YtcahcnhpaocdaaaGreatDoorRows
import GoSem.ClaimSeven
namespace Go.Proofs.YtcahcnhpaocdaaaGreatDoor
namespace Rows

/-- THE TIED CARD OF 'laws.FnExactSupersOf'. -/
def fnExactSupersOfCard : Claim7 := { stood := { row := fnExactSupersOfRow, standIns := [], harness := (true, "f22e53e80f6b94d30488eeb5d5789a78bd696b88be5d2f66261de9d7f0784790"), looks := true }, kinds := [], alts := [], laidByText := true, laidKinds := [.sentinel, .sentinel, .sentinel, .sentinel, .sentinel, .sentinel, .sentinel], laidTests := true, laidLooks := .later }
def FnExactSupersOfCardSaid : Prop := Claim7.holds Tryz.pinned (.plain (OpenSpec.ofChange fnExactSupersOfSpec)) fnExactSupersOfCard

/-- THE TIED CARD OF 'laws.FnExactCandidatesOf'. -/
def fnExactCandidatesOfCard : Claim7 := { stood := { row := fnExactCandidatesOfRow, standIns := [], harness := (true, "f22e53e80f6b94d30488eeb5d5789a78bd696b88be5d2f66261de9d7f0784790"), looks := true }, kinds := [], alts := [], laidByText := true, laidKinds := [.sentinel, .sentinel, .sentinel, .sentinel, .sentinel, .sentinel, .sentinel], laidTests := true, laidLooks := .later }
def FnExactCandidatesOfCardSaid : Prop := Claim7.holds Tryz.pinned (.plain (OpenSpec.ofChange fnExactCandidatesOfSpec)) fnExactCandidatesOfCard

/-- THE TIED CARD OF 'laws.FnExactMayMatch'. -/
def fnExactMayMatchCard : Claim7 := { stood := { row := fnExactMayMatchRow, standIns := [], harness := (true, "f22e53e80f6b94d30488eeb5d5789a78bd696b88be5d2f66261de9d7f0784790"), looks := true }, kinds := [], alts := [], laidByText := true, laidKinds := [.sentinel, .sentinel, .sentinel, .sentinel, .sentinel, .sentinel, .sentinel], laidTests := true, laidLooks := .later }
def FnExactMayMatchCardSaid : Prop := Claim7.holds Tryz.pinned (.plain (OpenSpec.ofChange fnExactMayMatchSpec)) fnExactMayMatchCard

/-- THE TIED CARD OF 'laws.FnExactNeedsOf'. -/
def fnExactNeedsOfCard : Claim7 := { stood := { row := fnExactNeedsOfRow, standIns := [], harness := (true, "f22e53e80f6b94d30488eeb5d5789a78bd696b88be5d2f66261de9d7f0784790"), looks := true }, kinds := [], alts := [], laidByText := true, laidKinds := [.sentinel, .sentinel, .sentinel, .sentinel, .sentinel, .sentinel, .sentinel], laidTests := true, laidLooks := .later }
def FnExactNeedsOfCardSaid : Prop := Claim7.holds Tryz.pinned (.plain (OpenSpec.ofChange fnExactNeedsOfSpec)) fnExactNeedsOfCard

/-- THE TIED CARD OF 'laws.FnExactMostSpecial'. -/
def fnExactMostSpecialCard : Claim7 := { stood := { row := fnExactMostSpecialRow, standIns := [], harness := (true, "f22e53e80f6b94d30488eeb5d5789a78bd696b88be5d2f66261de9d7f0784790"), looks := true }, kinds := [], alts := [], laidByText := true, laidKinds := [.sentinel, .sentinel, .sentinel, .sentinel, .sentinel, .sentinel, .sentinel], laidTests := true, laidLooks := .later }
def FnExactMostSpecialCardSaid : Prop := Claim7.holds Tryz.pinned (.plain (OpenSpec.ofChange fnExactMostSpecialSpec)) fnExactMostSpecialCard

/-- THE SECOND FORM's CARD OF 'laws.FnExactSupersOf'. -/
def fnExactSupersOfUptoCard : Claim7 := { stood := { row := fnExactSupersOfUptoRow, standIns := [], harness := (true, "f22e53e80f6b94d30488eeb5d5789a78bd696b88be5d2f66261de9d7f0784790"), looks := true }, kinds := [], alts := [], laidByText := true, laidKinds := [.sentinel, .sentinel, .sentinel, .sentinel, .sentinel, .sentinel, .sentinel], laidTests := true, laidLooks := .later }
def FnExactSupersOfUptoCardSaid : Prop := Claim7.holds Tryz.pinned (.plain (OpenSpec.upto fnExactSupersOfSpec)) fnExactSupersOfUptoCard

/-- THE SECOND FORM's CARD OF 'laws.FnExactCandidatesOf'. -/
def fnExactCandidatesOfUptoCard : Claim7 := { stood := { row := fnExactCandidatesOfUptoRow, standIns := [], harness := (true, "f22e53e80f6b94d30488eeb5d5789a78bd696b88be5d2f66261de9d7f0784790"), looks := true }, kinds := [], alts := [], laidByText := true, laidKinds := [.sentinel, .sentinel, .sentinel, .sentinel, .sentinel, .sentinel, .sentinel], laidTests := true, laidLooks := .later }
def FnExactCandidatesOfUptoCardSaid : Prop := Claim7.holds Tryz.pinned (.plain (OpenSpec.upto fnExactCandidatesOfSpec)) fnExactCandidatesOfUptoCard

/-- THE SECOND FORM's CARD OF 'laws.FnExactMayMatch'. -/
def fnExactMayMatchUptoCard : Claim7 := { stood := { row := fnExactMayMatchUptoRow, standIns := [], harness := (true, "f22e53e80f6b94d30488eeb5d5789a78bd696b88be5d2f66261de9d7f0784790"), looks := true }, kinds := [], alts := [], laidByText := true, laidKinds := [.sentinel, .sentinel, .sentinel, .sentinel, .sentinel, .sentinel, .sentinel], laidTests := true, laidLooks := .later }
def FnExactMayMatchUptoCardSaid : Prop := Claim7.holds Tryz.pinned (.plain (OpenSpec.upto fnExactMayMatchSpec)) fnExactMayMatchUptoCard

/-- THE SECOND FORM's CARD OF 'laws.FnExactNeedsOf'. -/
def fnExactNeedsOfUptoCard : Claim7 := { stood := { row := fnExactNeedsOfUptoRow, standIns := [], harness := (true, "f22e53e80f6b94d30488eeb5d5789a78bd696b88be5d2f66261de9d7f0784790"), looks := true }, kinds := [], alts := [], laidByText := true, laidKinds := [.sentinel, .sentinel, .sentinel, .sentinel, .sentinel, .sentinel, .sentinel], laidTests := true, laidLooks := .later }
def FnExactNeedsOfUptoCardSaid : Prop := Claim7.holds Tryz.pinned (.plain (OpenSpec.upto fnExactNeedsOfSpec)) fnExactNeedsOfUptoCard

/-- THE SECOND FORM's CARD OF 'laws.FnExactMostSpecial'. -/
def fnExactMostSpecialUptoCard : Claim7 := { stood := { row := fnExactMostSpecialUptoRow, standIns := [], harness := (true, "f22e53e80f6b94d30488eeb5d5789a78bd696b88be5d2f66261de9d7f0784790"), looks := true }, kinds := [], alts := [], laidByText := true, laidKinds := [.sentinel, .sentinel, .sentinel, .sentinel, .sentinel, .sentinel, .sentinel], laidTests := true, laidLooks := .later }
def FnExactMostSpecialUptoCardSaid : Prop := Claim7.holds Tryz.pinned (.plain (OpenSpec.upto fnExactMostSpecialSpec)) fnExactMostSpecialUptoCard
end Rows
end Go.Proofs.YtcahcnhpaocdaaaGreatDoor
