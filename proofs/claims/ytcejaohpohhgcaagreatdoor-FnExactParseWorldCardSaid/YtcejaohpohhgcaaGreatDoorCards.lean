/-
  DERIVED. GIVEN WITH THE SEED: THE CARDS: each row of YtcejaohpohhgcaaGreatDoorRows.lean that lists a variable, with what it lists TIED to the program's text (the seventh form; the later family's looks); each row that meets fmt, with fmt's text TOLD by the authors' own Lean function (tested against real Go, not proved from fmt's source: count such statements apart). THE CARD IS WHAT COUNTS. Prove the row's statement (the work); the ties are given (YtcejaohpohhgcaaGreatDoorTie.lean); close each card by the builder's one call (the guide's Derived/Test/ToyasCard.lean, 'card_holds'). Laid BY PROGRAM, IN A SANDBOX (cutbox-door.mjs). By AI agents, Wed Nov 11 2026. No macro, syntax, notation, axiom, sorry.
-/
import Derived.Test.YtcejaohpohhgcaaGreatDoorRows
import GoSem.ClaimSeven
namespace Go.Proofs.YtcejaohpohhgcaaGreatDoor
namespace Rows

/-- THE TIED CARD OF 'laws.FnWorldText'. -/
def fnWorldTextCard : Claim7 := { stood := { row := fnWorldTextRow, standIns := [], harness := (true, "0e4c80856979bbdd4aa554fbf09e0ac3cc61cc009b2169a6097698b6dbd0d1c4"), looks := true }, kinds := [], alts := [], laidByText := true, laidKinds := [.sentinel, .sentinel, .sentinel, .sentinel, .sentinel, .sentinel, .sentinel, .sentinel], laidTests := true, laidLooks := .later }
def FnWorldTextCardSaid : Prop := Claim7.holds Tryz.pinned (.plain (OpenSpec.ofChange fnWorldTextSpec)) fnWorldTextCard

/-- THE TIED CARD OF 'laws.FnInstanceText'. -/
def fnInstanceTextCard : Claim7 := { stood := { row := fnInstanceTextRow, standIns := [], harness := (true, "0e4c80856979bbdd4aa554fbf09e0ac3cc61cc009b2169a6097698b6dbd0d1c4"), looks := true }, kinds := [], alts := [], laidByText := true, laidKinds := [.sentinel, .sentinel, .sentinel], laidTests := true, laidLooks := .later }
def FnInstanceTextCardSaid : Prop := Claim7.holds Tryz.pinned (.plain (OpenSpec.ofChange fnInstanceTextSpec)) fnInstanceTextCard

/-- THE TIED CARD OF 'laws.FnSupersOf'. -/
def fnSupersOfCard : Claim7 := { stood := { row := fnSupersOfRow, standIns := [], harness := (true, "0e4c80856979bbdd4aa554fbf09e0ac3cc61cc009b2169a6097698b6dbd0d1c4"), looks := true }, kinds := [], alts := [], laidByText := true, laidKinds := [.sentinel, .sentinel, .sentinel, .sentinel, .sentinel, .sentinel, .sentinel], laidTests := true, laidLooks := .later }
def FnSupersOfCardSaid : Prop := Claim7.holds Tryz.pinned (.plain (OpenSpec.ofChange fnSupersOfSpec)) fnSupersOfCard

/-- THE TIED CARD OF 'laws.FnExactParseWorld'. -/
def fnExactParseWorldCard : Claim7 := { stood := { row := fnExactParseWorldRow, standIns := [], harness := (true, "0e4c80856979bbdd4aa554fbf09e0ac3cc61cc009b2169a6097698b6dbd0d1c4"), looks := true }, kinds := [], alts := [], laidByText := true, laidKinds := [.sentinel, .sentinel, .sentinel, .sentinel, .sentinel, .sentinel, .sentinel, .sentinel], laidTests := true, laidLooks := .later }
def FnExactParseWorldCardSaid : Prop := Claim7.holds Tryz.pinned (.plain (OpenSpec.ofChange fnExactParseWorldSpec)) fnExactParseWorldCard

/-- THE TIED CARD OF 'laws.FnExactSupersOf'. -/
def fnExactSupersOfCard : Claim7 := { stood := { row := fnExactSupersOfRow, standIns := [], harness := (true, "0e4c80856979bbdd4aa554fbf09e0ac3cc61cc009b2169a6097698b6dbd0d1c4"), looks := true }, kinds := [], alts := [], laidByText := true, laidKinds := [.sentinel, .sentinel, .sentinel, .sentinel, .sentinel, .sentinel, .sentinel], laidTests := true, laidLooks := .later }
def FnExactSupersOfCardSaid : Prop := Claim7.holds Tryz.pinned (.plain (OpenSpec.ofChange fnExactSupersOfSpec)) fnExactSupersOfCard

/-- THE SECOND FORM's CARD OF 'laws.FnWorldText'. -/
def fnWorldTextUptoCard : Claim7 := { stood := { row := fnWorldTextUptoRow, standIns := [], harness := (true, "0e4c80856979bbdd4aa554fbf09e0ac3cc61cc009b2169a6097698b6dbd0d1c4"), looks := true }, kinds := [], alts := [], laidByText := true, laidKinds := [.sentinel, .sentinel, .sentinel, .sentinel, .sentinel, .sentinel, .sentinel, .sentinel], laidTests := true, laidLooks := .later }
def FnWorldTextUptoCardSaid : Prop := Claim7.holds Tryz.pinned (.plain (OpenSpec.upto fnWorldTextSpec)) fnWorldTextUptoCard

/-- THE SECOND FORM's CARD OF 'laws.FnInstanceText'. -/
def fnInstanceTextUptoCard : Claim7 := { stood := { row := fnInstanceTextUptoRow, standIns := [], harness := (true, "0e4c80856979bbdd4aa554fbf09e0ac3cc61cc009b2169a6097698b6dbd0d1c4"), looks := true }, kinds := [], alts := [], laidByText := true, laidKinds := [.sentinel, .sentinel, .sentinel], laidTests := true, laidLooks := .later }
def FnInstanceTextUptoCardSaid : Prop := Claim7.holds Tryz.pinned (.plain (OpenSpec.upto fnInstanceTextSpec)) fnInstanceTextUptoCard

/-- THE SECOND FORM's CARD OF 'laws.FnSupersOf'. -/
def fnSupersOfUptoCard : Claim7 := { stood := { row := fnSupersOfUptoRow, standIns := [], harness := (true, "0e4c80856979bbdd4aa554fbf09e0ac3cc61cc009b2169a6097698b6dbd0d1c4"), looks := true }, kinds := [], alts := [], laidByText := true, laidKinds := [.sentinel, .sentinel, .sentinel, .sentinel, .sentinel, .sentinel, .sentinel], laidTests := true, laidLooks := .later }
def FnSupersOfUptoCardSaid : Prop := Claim7.holds Tryz.pinned (.plain (OpenSpec.upto fnSupersOfSpec)) fnSupersOfUptoCard

/-- THE SECOND FORM's CARD OF 'laws.FnExactParseWorld'. -/
def fnExactParseWorldUptoCard : Claim7 := { stood := { row := fnExactParseWorldUptoRow, standIns := [], harness := (true, "0e4c80856979bbdd4aa554fbf09e0ac3cc61cc009b2169a6097698b6dbd0d1c4"), looks := true }, kinds := [], alts := [], laidByText := true, laidKinds := [.sentinel, .sentinel, .sentinel, .sentinel, .sentinel, .sentinel, .sentinel, .sentinel], laidTests := true, laidLooks := .later }
def FnExactParseWorldUptoCardSaid : Prop := Claim7.holds Tryz.pinned (.plain (OpenSpec.upto fnExactParseWorldSpec)) fnExactParseWorldUptoCard

/-- THE SECOND FORM's CARD OF 'laws.FnExactSupersOf'. -/
def fnExactSupersOfUptoCard : Claim7 := { stood := { row := fnExactSupersOfUptoRow, standIns := [], harness := (true, "0e4c80856979bbdd4aa554fbf09e0ac3cc61cc009b2169a6097698b6dbd0d1c4"), looks := true }, kinds := [], alts := [], laidByText := true, laidKinds := [.sentinel, .sentinel, .sentinel, .sentinel, .sentinel, .sentinel, .sentinel], laidTests := true, laidLooks := .later }
def FnExactSupersOfUptoCardSaid : Prop := Claim7.holds Tryz.pinned (.plain (OpenSpec.upto fnExactSupersOfSpec)) fnExactSupersOfUptoCard
end Rows
end Go.Proofs.YtcejaohpohhgcaaGreatDoor
