/-
  No cell of these rows narrows 'for every input' (looked for: loops, veiled, ifaces, maps, wideKeys, modest, calm, conditions, laid).
  DERIVED. THE GIVEN ROWS OF THIS SEAT. 21 by the template 'for every input the law returns true; each argument reads behind the call as it read before'; 0 by the template 'total and deterministic' (their statements: YtaccndloddcboaaTotals.lean).
  GIVEN WITH THE SEED: the statements are not yours to turn. If you find one false, say at which input.
  Laid BY PROGRAM, IN A SANDBOX (cutbox-rows.mjs): the forced cells as the released guide's own fill.sh prints them over the translation 72e979b7a56001ca… (all of the seat's roots in one cut). By AI agents, Wed Nov 11 2026. No macro, syntax, notation, axiom, sorry.
-/
import Derived.Test.YtaccndloddcboaaChecked
import GoSem.Claim
import GoSem.ClaimJoined
import GoSem.ClaimMapViews
import Derived.JoinedTies
import Derived.KernelRfl
namespace Go.Proofs.Ytaccndloddcboaa
/- THE CELL 'sum', in the pinned program and in every row, IS THE sha256 OF THE DUMP (.gsa) THAT YtaccndloddcboaaProg.lean LOADS. Nothing in Lean hashes anything: it is a label: what it is worth is what the hold of that sum in a sandbox is worth. -/
noncomputable def Try.pinned : Pinned := { name := "ytaccndloddcboaa", sum := "72e979b7a56001cafa9430abb91bd3c5e234f66dfb4a53f33f3f9fd9f6036bc2", checked := Try.checked }
namespace Rows
def none {H : Type} : Left H := { results := [], args := [] }

/-- 'laws.FnMakeType': WHATEVER THE INPUT: true; the input reads as it did. -/
def fnMakeTypeSpec : ChangeSpec := { name := "fnMakeType", fn := fun _ => fun
  | [d1, d2] => { results := [.lit (.bool true)], args := [d1, d2] }
  | _ => none }
def fnMakeTypeRow : OpenClaim := { program := "ytaccndloddcboaa", sum := "72e979b7a56001cafa9430abb91bd3c5e234f66dfb4a53f33f3f9fd9f6036bc2", func := "loop.example/instancesearch/laws.FnMakeType", spec := "fnMakeType", inPlace := ["internal/bytealg.IndexByteString", "internal/abi.NoEscape", "internal/bytealg.MakeNoZero"], unfollowed := true, recurses := true, apart := false }
def FnMakeTypeSaid : Prop := fnMakeTypeRow.holds Try.pinned (OpenSpec.ofChange fnMakeTypeSpec)

/-- ITS FALSE NEIGHBOUR: 'it returns false'. Refute it at one input. -/
def fnMakeTypeWrong : ChangeSpec := { name := "fnMakeType", fn := fun _ => fun
  | [d1, d2] => { results := [.lit (.bool false)], args := [d1, d2] }
  | _ => none }
def FnMakeTypeWrongFalsely : Prop := fnMakeTypeRow.holds Try.pinned (OpenSpec.ofChange fnMakeTypeWrong)

/-- 'laws.FnVarsOf': WHATEVER THE INPUT: true; the input reads as it did. -/
def fnVarsOfSpec : ChangeSpec := { name := "fnVarsOf", fn := fun _ => fun
  | [d1, d2] => { results := [.lit (.bool true)], args := [d1, d2] }
  | _ => none }
def fnVarsOfRow : OpenClaim := { program := "ytaccndloddcboaa", sum := "72e979b7a56001cafa9430abb91bd3c5e234f66dfb4a53f33f3f9fd9f6036bc2", func := "loop.example/instancesearch/laws.FnVarsOf", spec := "fnVarsOf", inPlace := ["internal/bytealg.IndexByteString"], unfollowed := true, recurses := true, apart := false }
def FnVarsOfSaid : Prop := fnVarsOfRow.holds Try.pinned (OpenSpec.ofChange fnVarsOfSpec)

/-- ITS FALSE NEIGHBOUR: 'it returns false'. Refute it at one input. -/
def fnVarsOfWrong : ChangeSpec := { name := "fnVarsOf", fn := fun _ => fun
  | [d1, d2] => { results := [.lit (.bool false)], args := [d1, d2] }
  | _ => none }
def FnVarsOfWrongFalsely : Prop := fnVarsOfRow.holds Try.pinned (OpenSpec.ofChange fnVarsOfWrong)

/-- 'laws.FnRename': WHATEVER THE INPUT: true; the input reads as it did. -/
def fnRenameSpec : ChangeSpec := { name := "fnRename", fn := fun _ => fun
  | [d] => { results := [.lit (.bool true)], args := [d] }
  | _ => none }
def fnRenameRow : OpenClaim := { program := "ytaccndloddcboaa", sum := "72e979b7a56001cafa9430abb91bd3c5e234f66dfb4a53f33f3f9fd9f6036bc2", func := "loop.example/instancesearch/laws.FnRename", spec := "fnRename", inPlace := ["internal/bytealg.IndexByteString"], unfollowed := true, recurses := true, apart := false }
def FnRenameSaid : Prop := fnRenameRow.holds Try.pinned (OpenSpec.ofChange fnRenameSpec)

/-- ITS FALSE NEIGHBOUR: 'it returns false'. Refute it at one input. -/
def fnRenameWrong : ChangeSpec := { name := "fnRename", fn := fun _ => fun
  | [d] => { results := [.lit (.bool false)], args := [d] }
  | _ => none }
def FnRenameWrongFalsely : Prop := fnRenameRow.holds Try.pinned (OpenSpec.ofChange fnRenameWrong)

/-- 'laws.FnApply': WHATEVER THE INPUT: true; the input reads as it did. -/
def fnApplySpec : ChangeSpec := { name := "fnApply", fn := fun _ => fun
  | [d1, d2] => { results := [.lit (.bool true)], args := [d1, d2] }
  | _ => none }
def fnApplyRow : OpenClaim := { program := "ytaccndloddcboaa", sum := "72e979b7a56001cafa9430abb91bd3c5e234f66dfb4a53f33f3f9fd9f6036bc2", func := "loop.example/instancesearch/laws.FnApply", spec := "fnApply", inPlace := ["internal/bytealg.IndexByteString", "internal/abi.NoEscape", "internal/bytealg.MakeNoZero"], unfollowed := true, recurses := true, apart := false }
def FnApplySaid : Prop := fnApplyRow.holds Try.pinned (OpenSpec.ofChange fnApplySpec)

/-- ITS FALSE NEIGHBOUR: 'it returns false'. Refute it at one input. -/
def fnApplyWrong : ChangeSpec := { name := "fnApply", fn := fun _ => fun
  | [d1, d2] => { results := [.lit (.bool false)], args := [d1, d2] }
  | _ => none }
def FnApplyWrongFalsely : Prop := fnApplyRow.holds Try.pinned (OpenSpec.ofChange fnApplyWrong)

/-- 'laws.FnExactTypeValid': WHATEVER THE INPUT: true; the input reads as it did. -/
def fnExactTypeValidSpec : ChangeSpec := { name := "fnExactTypeValid", fn := fun _ => fun
  | [d] => { results := [.lit (.bool true)], args := [d] }
  | _ => none }
def fnExactTypeValidRow : OpenClaim := { program := "ytaccndloddcboaa", sum := "72e979b7a56001cafa9430abb91bd3c5e234f66dfb4a53f33f3f9fd9f6036bc2", func := "loop.example/instancesearch/laws.FnExactTypeValid", spec := "fnExactTypeValid", inPlace := ["internal/bytealg.IndexByteString"], unfollowed := true, recurses := true, apart := false }
def FnExactTypeValidSaid : Prop := fnExactTypeValidRow.holds Try.pinned (OpenSpec.ofChange fnExactTypeValidSpec)

/-- ITS FALSE NEIGHBOUR: 'it returns false'. Refute it at one input. -/
def fnExactTypeValidWrong : ChangeSpec := { name := "fnExactTypeValid", fn := fun _ => fun
  | [d] => { results := [.lit (.bool false)], args := [d] }
  | _ => none }
def FnExactTypeValidWrongFalsely : Prop := fnExactTypeValidRow.holds Try.pinned (OpenSpec.ofChange fnExactTypeValidWrong)

/-- 'laws.FnExactHeadOf': WHATEVER THE INPUT: true; the input reads as it did. -/
def fnExactHeadOfSpec : ChangeSpec := { name := "fnExactHeadOf", fn := fun _ => fun
  | [d] => { results := [.lit (.bool true)], args := [d] }
  | _ => none }
def fnExactHeadOfRow : OpenClaim := { program := "ytaccndloddcboaa", sum := "72e979b7a56001cafa9430abb91bd3c5e234f66dfb4a53f33f3f9fd9f6036bc2", func := "loop.example/instancesearch/laws.FnExactHeadOf", spec := "fnExactHeadOf", inPlace := ["internal/bytealg.IndexByteString"], unfollowed := true, recurses := true, apart := false }
def FnExactHeadOfSaid : Prop := fnExactHeadOfRow.holds Try.pinned (OpenSpec.ofChange fnExactHeadOfSpec)

/-- ITS FALSE NEIGHBOUR: 'it returns false'. Refute it at one input. -/
def fnExactHeadOfWrong : ChangeSpec := { name := "fnExactHeadOf", fn := fun _ => fun
  | [d] => { results := [.lit (.bool false)], args := [d] }
  | _ => none }
def FnExactHeadOfWrongFalsely : Prop := fnExactHeadOfRow.holds Try.pinned (OpenSpec.ofChange fnExactHeadOfWrong)

/-- 'laws.FnExactPartsOf': WHATEVER THE INPUT: true; the input reads as it did. -/
def fnExactPartsOfSpec : ChangeSpec := { name := "fnExactPartsOf", fn := fun _ => fun
  | [d] => { results := [.lit (.bool true)], args := [d] }
  | _ => none }
def fnExactPartsOfRow : OpenClaim := { program := "ytaccndloddcboaa", sum := "72e979b7a56001cafa9430abb91bd3c5e234f66dfb4a53f33f3f9fd9f6036bc2", func := "loop.example/instancesearch/laws.FnExactPartsOf", spec := "fnExactPartsOf", inPlace := ["internal/bytealg.IndexByteString"], unfollowed := true, recurses := true, apart := false }
def FnExactPartsOfSaid : Prop := fnExactPartsOfRow.holds Try.pinned (OpenSpec.ofChange fnExactPartsOfSpec)

/-- ITS FALSE NEIGHBOUR: 'it returns false'. Refute it at one input. -/
def fnExactPartsOfWrong : ChangeSpec := { name := "fnExactPartsOf", fn := fun _ => fun
  | [d] => { results := [.lit (.bool false)], args := [d] }
  | _ => none }
def FnExactPartsOfWrongFalsely : Prop := fnExactPartsOfRow.holds Try.pinned (OpenSpec.ofChange fnExactPartsOfWrong)

/-- 'laws.FnExactMakeType': WHATEVER THE INPUT: true; the input reads as it did. -/
def fnExactMakeTypeSpec : ChangeSpec := { name := "fnExactMakeType", fn := fun _ => fun
  | [d1, d2] => { results := [.lit (.bool true)], args := [d1, d2] }
  | _ => none }
def fnExactMakeTypeRow : OpenClaim := { program := "ytaccndloddcboaa", sum := "72e979b7a56001cafa9430abb91bd3c5e234f66dfb4a53f33f3f9fd9f6036bc2", func := "loop.example/instancesearch/laws.FnExactMakeType", spec := "fnExactMakeType", inPlace := ["internal/bytealg.IndexByteString", "internal/abi.NoEscape", "internal/bytealg.MakeNoZero"], unfollowed := true, recurses := true, apart := false }
def FnExactMakeTypeSaid : Prop := fnExactMakeTypeRow.holds Try.pinned (OpenSpec.ofChange fnExactMakeTypeSpec)

/-- ITS FALSE NEIGHBOUR: 'it returns false'. Refute it at one input. -/
def fnExactMakeTypeWrong : ChangeSpec := { name := "fnExactMakeType", fn := fun _ => fun
  | [d1, d2] => { results := [.lit (.bool false)], args := [d1, d2] }
  | _ => none }
def FnExactMakeTypeWrongFalsely : Prop := fnExactMakeTypeRow.holds Try.pinned (OpenSpec.ofChange fnExactMakeTypeWrong)

/-- 'laws.FnExactVarsOf': WHATEVER THE INPUT: true; the input reads as it did. -/
def fnExactVarsOfSpec : ChangeSpec := { name := "fnExactVarsOf", fn := fun _ => fun
  | [d] => { results := [.lit (.bool true)], args := [d] }
  | _ => none }
def fnExactVarsOfRow : OpenClaim := { program := "ytaccndloddcboaa", sum := "72e979b7a56001cafa9430abb91bd3c5e234f66dfb4a53f33f3f9fd9f6036bc2", func := "loop.example/instancesearch/laws.FnExactVarsOf", spec := "fnExactVarsOf", inPlace := ["internal/bytealg.IndexByteString"], unfollowed := true, recurses := true, apart := false }
def FnExactVarsOfSaid : Prop := fnExactVarsOfRow.holds Try.pinned (OpenSpec.ofChange fnExactVarsOfSpec)

/-- ITS FALSE NEIGHBOUR: 'it returns false'. Refute it at one input. -/
def fnExactVarsOfWrong : ChangeSpec := { name := "fnExactVarsOf", fn := fun _ => fun
  | [d] => { results := [.lit (.bool false)], args := [d] }
  | _ => none }
def FnExactVarsOfWrongFalsely : Prop := fnExactVarsOfRow.holds Try.pinned (OpenSpec.ofChange fnExactVarsOfWrong)

/-- 'laws.FnExactIsGround': WHATEVER THE INPUT: true; the input reads as it did. -/
def fnExactIsGroundSpec : ChangeSpec := { name := "fnExactIsGround", fn := fun _ => fun
  | [d] => { results := [.lit (.bool true)], args := [d] }
  | _ => none }
def fnExactIsGroundRow : OpenClaim := { program := "ytaccndloddcboaa", sum := "72e979b7a56001cafa9430abb91bd3c5e234f66dfb4a53f33f3f9fd9f6036bc2", func := "loop.example/instancesearch/laws.FnExactIsGround", spec := "fnExactIsGround", inPlace := ["internal/bytealg.IndexByteString"], unfollowed := true, recurses := true, apart := false }
def FnExactIsGroundSaid : Prop := fnExactIsGroundRow.holds Try.pinned (OpenSpec.ofChange fnExactIsGroundSpec)

/-- ITS FALSE NEIGHBOUR: 'it returns false'. Refute it at one input. -/
def fnExactIsGroundWrong : ChangeSpec := { name := "fnExactIsGround", fn := fun _ => fun
  | [d] => { results := [.lit (.bool false)], args := [d] }
  | _ => none }
def FnExactIsGroundWrongFalsely : Prop := fnExactIsGroundRow.holds Try.pinned (OpenSpec.ofChange fnExactIsGroundWrong)

/-- 'laws.FnExactSizeOf': WHATEVER THE INPUT: true; the input reads as it did. -/
def fnExactSizeOfSpec : ChangeSpec := { name := "fnExactSizeOf", fn := fun _ => fun
  | [d] => { results := [.lit (.bool true)], args := [d] }
  | _ => none }
def fnExactSizeOfRow : OpenClaim := { program := "ytaccndloddcboaa", sum := "72e979b7a56001cafa9430abb91bd3c5e234f66dfb4a53f33f3f9fd9f6036bc2", func := "loop.example/instancesearch/laws.FnExactSizeOf", spec := "fnExactSizeOf", inPlace := ["internal/bytealg.IndexByteString"], unfollowed := true, recurses := true, apart := false }
def FnExactSizeOfSaid : Prop := fnExactSizeOfRow.holds Try.pinned (OpenSpec.ofChange fnExactSizeOfSpec)

/-- ITS FALSE NEIGHBOUR: 'it returns false'. Refute it at one input. -/
def fnExactSizeOfWrong : ChangeSpec := { name := "fnExactSizeOf", fn := fun _ => fun
  | [d] => { results := [.lit (.bool false)], args := [d] }
  | _ => none }
def FnExactSizeOfWrongFalsely : Prop := fnExactSizeOfRow.holds Try.pinned (OpenSpec.ofChange fnExactSizeOfWrong)

/-- 'laws.FnExactDepthOf': WHATEVER THE INPUT: true; the input reads as it did. -/
def fnExactDepthOfSpec : ChangeSpec := { name := "fnExactDepthOf", fn := fun _ => fun
  | [d] => { results := [.lit (.bool true)], args := [d] }
  | _ => none }
def fnExactDepthOfRow : OpenClaim := { program := "ytaccndloddcboaa", sum := "72e979b7a56001cafa9430abb91bd3c5e234f66dfb4a53f33f3f9fd9f6036bc2", func := "loop.example/instancesearch/laws.FnExactDepthOf", spec := "fnExactDepthOf", inPlace := ["internal/bytealg.IndexByteString"], unfollowed := true, recurses := true, apart := false }
def FnExactDepthOfSaid : Prop := fnExactDepthOfRow.holds Try.pinned (OpenSpec.ofChange fnExactDepthOfSpec)

/-- ITS FALSE NEIGHBOUR: 'it returns false'. Refute it at one input. -/
def fnExactDepthOfWrong : ChangeSpec := { name := "fnExactDepthOf", fn := fun _ => fun
  | [d] => { results := [.lit (.bool false)], args := [d] }
  | _ => none }
def FnExactDepthOfWrongFalsely : Prop := fnExactDepthOfRow.holds Try.pinned (OpenSpec.ofChange fnExactDepthOfWrong)

/-- 'laws.FnExactCountVar': WHATEVER THE INPUT: true; the input reads as it did. -/
def fnExactCountVarSpec : ChangeSpec := { name := "fnExactCountVar", fn := fun _ => fun
  | [d1, d2] => { results := [.lit (.bool true)], args := [d1, d2] }
  | _ => none }
def fnExactCountVarRow : OpenClaim := { program := "ytaccndloddcboaa", sum := "72e979b7a56001cafa9430abb91bd3c5e234f66dfb4a53f33f3f9fd9f6036bc2", func := "loop.example/instancesearch/laws.FnExactCountVar", spec := "fnExactCountVar", inPlace := ["internal/bytealg.IndexByteString"], unfollowed := true, recurses := true, apart := false }
def FnExactCountVarSaid : Prop := fnExactCountVarRow.holds Try.pinned (OpenSpec.ofChange fnExactCountVarSpec)

/-- ITS FALSE NEIGHBOUR: 'it returns false'. Refute it at one input. -/
def fnExactCountVarWrong : ChangeSpec := { name := "fnExactCountVar", fn := fun _ => fun
  | [d1, d2] => { results := [.lit (.bool false)], args := [d1, d2] }
  | _ => none }
def FnExactCountVarWrongFalsely : Prop := fnExactCountVarRow.holds Try.pinned (OpenSpec.ofChange fnExactCountVarWrong)

/-- 'laws.FnExactRenameType': WHATEVER THE INPUT: true; the input reads as it did. -/
def fnExactRenameTypeSpec : ChangeSpec := { name := "fnExactRenameType", fn := fun _ => fun
  | [d] => { results := [.lit (.bool true)], args := [d] }
  | _ => none }
def fnExactRenameTypeRow : OpenClaim := { program := "ytaccndloddcboaa", sum := "72e979b7a56001cafa9430abb91bd3c5e234f66dfb4a53f33f3f9fd9f6036bc2", func := "loop.example/instancesearch/laws.FnExactRenameType", spec := "fnExactRenameType", inPlace := ["internal/bytealg.IndexByteString"], unfollowed := true, recurses := true, apart := false }
def FnExactRenameTypeSaid : Prop := fnExactRenameTypeRow.holds Try.pinned (OpenSpec.ofChange fnExactRenameTypeSpec)

/-- ITS FALSE NEIGHBOUR: 'it returns false'. Refute it at one input. -/
def fnExactRenameTypeWrong : ChangeSpec := { name := "fnExactRenameType", fn := fun _ => fun
  | [d] => { results := [.lit (.bool false)], args := [d] }
  | _ => none }
def FnExactRenameTypeWrongFalsely : Prop := fnExactRenameTypeRow.holds Try.pinned (OpenSpec.ofChange fnExactRenameTypeWrong)

/-- 'laws.FnExactBindingsValid': WHATEVER THE INPUT: true; the input reads as it did. -/
def fnExactBindingsValidSpec : ChangeSpec := { name := "fnExactBindingsValid", fn := fun _ => fun
  | [d] => { results := [.lit (.bool true)], args := [d] }
  | _ => none }
def fnExactBindingsValidRow : OpenClaim := { program := "ytaccndloddcboaa", sum := "72e979b7a56001cafa9430abb91bd3c5e234f66dfb4a53f33f3f9fd9f6036bc2", func := "loop.example/instancesearch/laws.FnExactBindingsValid", spec := "fnExactBindingsValid", inPlace := ["internal/bytealg.IndexByteString"], unfollowed := true, recurses := true, apart := false }
def FnExactBindingsValidSaid : Prop := fnExactBindingsValidRow.holds Try.pinned (OpenSpec.ofChange fnExactBindingsValidSpec)

/-- ITS FALSE NEIGHBOUR: 'it returns false'. Refute it at one input. -/
def fnExactBindingsValidWrong : ChangeSpec := { name := "fnExactBindingsValid", fn := fun _ => fun
  | [d] => { results := [.lit (.bool false)], args := [d] }
  | _ => none }
def FnExactBindingsValidWrongFalsely : Prop := fnExactBindingsValidRow.holds Try.pinned (OpenSpec.ofChange fnExactBindingsValidWrong)

/-- 'laws.FnExactApplyBindings': WHATEVER THE INPUT: true; the input reads as it did. -/
def fnExactApplyBindingsSpec : ChangeSpec := { name := "fnExactApplyBindings", fn := fun _ => fun
  | [d1, d2] => { results := [.lit (.bool true)], args := [d1, d2] }
  | _ => none }
def fnExactApplyBindingsRow : OpenClaim := { program := "ytaccndloddcboaa", sum := "72e979b7a56001cafa9430abb91bd3c5e234f66dfb4a53f33f3f9fd9f6036bc2", func := "loop.example/instancesearch/laws.FnExactApplyBindings", spec := "fnExactApplyBindings", inPlace := ["internal/bytealg.IndexByteString"], unfollowed := true, recurses := true, apart := false }
def FnExactApplyBindingsSaid : Prop := fnExactApplyBindingsRow.holds Try.pinned (OpenSpec.ofChange fnExactApplyBindingsSpec)

/-- ITS FALSE NEIGHBOUR: 'it returns false'. Refute it at one input. -/
def fnExactApplyBindingsWrong : ChangeSpec := { name := "fnExactApplyBindings", fn := fun _ => fun
  | [d1, d2] => { results := [.lit (.bool false)], args := [d1, d2] }
  | _ => none }
def FnExactApplyBindingsWrongFalsely : Prop := fnExactApplyBindingsRow.holds Try.pinned (OpenSpec.ofChange fnExactApplyBindingsWrong)

/-- 'laws.FnExactMatchType': WHATEVER THE INPUT: true; the input reads as it did. -/
def fnExactMatchTypeSpec : ChangeSpec := { name := "fnExactMatchType", fn := fun _ => fun
  | [d1, d2] => { results := [.lit (.bool true)], args := [d1, d2] }
  | _ => none }
def fnExactMatchTypeRow : OpenClaim := { program := "ytaccndloddcboaa", sum := "72e979b7a56001cafa9430abb91bd3c5e234f66dfb4a53f33f3f9fd9f6036bc2", func := "loop.example/instancesearch/laws.FnExactMatchType", spec := "fnExactMatchType", inPlace := ["internal/bytealg.IndexByteString", "internal/bytealg.abigen_runtime_cmpstring"], unfollowed := true, recurses := true, apart := false }
def FnExactMatchTypeSaid : Prop := fnExactMatchTypeRow.holds Try.pinned (OpenSpec.ofChange fnExactMatchTypeSpec)

/-- ITS FALSE NEIGHBOUR: 'it returns false'. Refute it at one input. -/
def fnExactMatchTypeWrong : ChangeSpec := { name := "fnExactMatchType", fn := fun _ => fun
  | [d1, d2] => { results := [.lit (.bool false)], args := [d1, d2] }
  | _ => none }
def FnExactMatchTypeWrongFalsely : Prop := fnExactMatchTypeRow.holds Try.pinned (OpenSpec.ofChange fnExactMatchTypeWrong)

/-- 'laws.FnExactUnifyTypes': WHATEVER THE INPUT: true; the input reads as it did. -/
def fnExactUnifyTypesSpec : ChangeSpec := { name := "fnExactUnifyTypes", fn := fun _ => fun
  | [d1, d2] => { results := [.lit (.bool true)], args := [d1, d2] }
  | _ => none }
def fnExactUnifyTypesRow : OpenClaim := { program := "ytaccndloddcboaa", sum := "72e979b7a56001cafa9430abb91bd3c5e234f66dfb4a53f33f3f9fd9f6036bc2", func := "loop.example/instancesearch/laws.FnExactUnifyTypes", spec := "fnExactUnifyTypes", inPlace := ["internal/bytealg.IndexByteString", "internal/bytealg.abigen_runtime_cmpstring"], unfollowed := true, recurses := true, apart := false }
def FnExactUnifyTypesSaid : Prop := fnExactUnifyTypesRow.holds Try.pinned (OpenSpec.ofChange fnExactUnifyTypesSpec)

/-- ITS FALSE NEIGHBOUR: 'it returns false'. Refute it at one input. -/
def fnExactUnifyTypesWrong : ChangeSpec := { name := "fnExactUnifyTypes", fn := fun _ => fun
  | [d1, d2] => { results := [.lit (.bool false)], args := [d1, d2] }
  | _ => none }
def FnExactUnifyTypesWrongFalsely : Prop := fnExactUnifyTypesRow.holds Try.pinned (OpenSpec.ofChange fnExactUnifyTypesWrong)

/-- 'laws.FnExactAreApart': WHATEVER THE INPUT: true; the input reads as it did. -/
def fnExactAreApartSpec : ChangeSpec := { name := "fnExactAreApart", fn := fun _ => fun
  | [d1, d2] => { results := [.lit (.bool true)], args := [d1, d2] }
  | _ => none }
def fnExactAreApartRow : OpenClaim := { program := "ytaccndloddcboaa", sum := "72e979b7a56001cafa9430abb91bd3c5e234f66dfb4a53f33f3f9fd9f6036bc2", func := "loop.example/instancesearch/laws.FnExactAreApart", spec := "fnExactAreApart", inPlace := ["internal/bytealg.IndexByteString"], unfollowed := true, recurses := true, apart := false }
def FnExactAreApartSaid : Prop := fnExactAreApartRow.holds Try.pinned (OpenSpec.ofChange fnExactAreApartSpec)

/-- ITS FALSE NEIGHBOUR: 'it returns false'. Refute it at one input. -/
def fnExactAreApartWrong : ChangeSpec := { name := "fnExactAreApart", fn := fun _ => fun
  | [d1, d2] => { results := [.lit (.bool false)], args := [d1, d2] }
  | _ => none }
def FnExactAreApartWrongFalsely : Prop := fnExactAreApartRow.holds Try.pinned (OpenSpec.ofChange fnExactAreApartWrong)

/-- 'laws.FnExactIsInstance': WHATEVER THE INPUT: true; the input reads as it did. -/
def fnExactIsInstanceSpec : ChangeSpec := { name := "fnExactIsInstance", fn := fun _ => fun
  | [d1, d2] => { results := [.lit (.bool true)], args := [d1, d2] }
  | _ => none }
def fnExactIsInstanceRow : OpenClaim := { program := "ytaccndloddcboaa", sum := "72e979b7a56001cafa9430abb91bd3c5e234f66dfb4a53f33f3f9fd9f6036bc2", func := "loop.example/instancesearch/laws.FnExactIsInstance", spec := "fnExactIsInstance", inPlace := ["internal/bytealg.IndexByteString", "internal/bytealg.abigen_runtime_cmpstring"], unfollowed := true, recurses := true, apart := false }
def FnExactIsInstanceSaid : Prop := fnExactIsInstanceRow.holds Try.pinned (OpenSpec.ofChange fnExactIsInstanceSpec)

/-- ITS FALSE NEIGHBOUR: 'it returns false'. Refute it at one input. -/
def fnExactIsInstanceWrong : ChangeSpec := { name := "fnExactIsInstance", fn := fun _ => fun
  | [d1, d2] => { results := [.lit (.bool false)], args := [d1, d2] }
  | _ => none }
def FnExactIsInstanceWrongFalsely : Prop := fnExactIsInstanceRow.holds Try.pinned (OpenSpec.ofChange fnExactIsInstanceWrong)

/-- 'laws.FnExactFormatBindings': WHATEVER THE INPUT: true; the input reads as it did. -/
def fnExactFormatBindingsSpec : ChangeSpec := { name := "fnExactFormatBindings", fn := fun _ => fun
  | [d] => { results := [.lit (.bool true)], args := [d] }
  | _ => none }
def fnExactFormatBindingsRow : OpenClaim := { program := "ytaccndloddcboaa", sum := "72e979b7a56001cafa9430abb91bd3c5e234f66dfb4a53f33f3f9fd9f6036bc2", func := "loop.example/instancesearch/laws.FnExactFormatBindings", spec := "fnExactFormatBindings", inPlace := ["internal/abi.NoEscape", "internal/bytealg.MakeNoZero"], apart := false }
def FnExactFormatBindingsSaid : Prop := fnExactFormatBindingsRow.holds Try.pinned (OpenSpec.ofChange fnExactFormatBindingsSpec)

/-- ITS FALSE NEIGHBOUR: 'it returns false'. Refute it at one input. -/
def fnExactFormatBindingsWrong : ChangeSpec := { name := "fnExactFormatBindings", fn := fun _ => fun
  | [d] => { results := [.lit (.bool false)], args := [d] }
  | _ => none }
def FnExactFormatBindingsWrongFalsely : Prop := fnExactFormatBindingsRow.holds Try.pinned (OpenSpec.ofChange fnExactFormatBindingsWrong)

/- THE SECOND FORM. 'bulk': how many values and letters a reading holds, each counted each time it is reached (what is shared counts as often as it is met; a slice's spare places count too). A statement '..UptoSaid' is the law's where the arguments, and the package variables that the reading takes, are together of bulk at most 1048576: NARROWER than '..Said'. Prove '..Said' where nothing that the law and all that it calls make is longer than what came in: it says more and counts as full. Else prove '..UptoSaid'. A law counts once. -/
mutual
def uptoBulk {H : Type} : DataW H → Nat
  | .lit (.string bytes) => bytes.length + 1
  | .lit _ => 1
  | .nil => 1
  | .ptr d => uptoBulk d + 1
  | .slice elems spare => uptoBulkAll elems + uptoBulkAll spare + 1
  | .agg parts => uptoBulkAll parts + 1
  | .iface _ d => uptoBulk d + 1
  | .map entries => uptoBulkEntries entries + 1
  | .held _ => 1
def uptoBulkAll {H : Type} : List (DataW H) → Nat
  | [] => 0
  | d :: r => uptoBulk d + uptoBulkAll r
def uptoBulkEntries {H : Type} : List (Lit × DataW H) → Nat
  | [] => 0
  | x :: r => uptoBulkEntry x + uptoBulkEntries r
def uptoBulkEntry {H : Type} : Lit × DataW H → Nat
  | (.string bytes, d) => bytes.length + uptoBulk d + 1
  | (_, d) => uptoBulk d + 1
 end
def uptoSmall : (H : Type) → List (DataW H) → Bool := fun _ ds => decide (uptoBulkAll ds ≤ 1048576)
def OpenSpec.upto (s : _root_.Go.ChangeSpec) : _root_.Go.OpenSpec := { _root_.Go.OpenSpec.ofChange s with cond := some uptoSmall }

/-- 'laws.FnMakeType', WHERE WHAT IT READS IS OF BULK AT MOST 1048576: true; the input reads as it did. -/
def fnMakeTypeUptoRow : OpenClaim := { program := "ytaccndloddcboaa", sum := "72e979b7a56001cafa9430abb91bd3c5e234f66dfb4a53f33f3f9fd9f6036bc2", func := "loop.example/instancesearch/laws.FnMakeType", spec := "fnMakeType", inPlace := ["internal/bytealg.IndexByteString", "internal/abi.NoEscape", "internal/bytealg.MakeNoZero"], unfollowed := true, recurses := true, apart := false, narrowed := true }
def FnMakeTypeUptoSaid : Prop := fnMakeTypeUptoRow.holds Try.pinned (OpenSpec.upto fnMakeTypeSpec)

/-- 'laws.FnVarsOf', WHERE WHAT IT READS IS OF BULK AT MOST 1048576: true; the input reads as it did. -/
def fnVarsOfUptoRow : OpenClaim := { program := "ytaccndloddcboaa", sum := "72e979b7a56001cafa9430abb91bd3c5e234f66dfb4a53f33f3f9fd9f6036bc2", func := "loop.example/instancesearch/laws.FnVarsOf", spec := "fnVarsOf", inPlace := ["internal/bytealg.IndexByteString"], unfollowed := true, recurses := true, apart := false, narrowed := true }
def FnVarsOfUptoSaid : Prop := fnVarsOfUptoRow.holds Try.pinned (OpenSpec.upto fnVarsOfSpec)

/-- 'laws.FnRename', WHERE WHAT IT READS IS OF BULK AT MOST 1048576: true; the input reads as it did. -/
def fnRenameUptoRow : OpenClaim := { program := "ytaccndloddcboaa", sum := "72e979b7a56001cafa9430abb91bd3c5e234f66dfb4a53f33f3f9fd9f6036bc2", func := "loop.example/instancesearch/laws.FnRename", spec := "fnRename", inPlace := ["internal/bytealg.IndexByteString"], unfollowed := true, recurses := true, apart := false, narrowed := true }
def FnRenameUptoSaid : Prop := fnRenameUptoRow.holds Try.pinned (OpenSpec.upto fnRenameSpec)

/-- 'laws.FnApply', WHERE WHAT IT READS IS OF BULK AT MOST 1048576: true; the input reads as it did. -/
def fnApplyUptoRow : OpenClaim := { program := "ytaccndloddcboaa", sum := "72e979b7a56001cafa9430abb91bd3c5e234f66dfb4a53f33f3f9fd9f6036bc2", func := "loop.example/instancesearch/laws.FnApply", spec := "fnApply", inPlace := ["internal/bytealg.IndexByteString", "internal/abi.NoEscape", "internal/bytealg.MakeNoZero"], unfollowed := true, recurses := true, apart := false, narrowed := true }
def FnApplyUptoSaid : Prop := fnApplyUptoRow.holds Try.pinned (OpenSpec.upto fnApplySpec)

/-- 'laws.FnExactTypeValid', WHERE WHAT IT READS IS OF BULK AT MOST 1048576: true; the input reads as it did. -/
def fnExactTypeValidUptoRow : OpenClaim := { program := "ytaccndloddcboaa", sum := "72e979b7a56001cafa9430abb91bd3c5e234f66dfb4a53f33f3f9fd9f6036bc2", func := "loop.example/instancesearch/laws.FnExactTypeValid", spec := "fnExactTypeValid", inPlace := ["internal/bytealg.IndexByteString"], unfollowed := true, recurses := true, apart := false, narrowed := true }
def FnExactTypeValidUptoSaid : Prop := fnExactTypeValidUptoRow.holds Try.pinned (OpenSpec.upto fnExactTypeValidSpec)

/-- 'laws.FnExactHeadOf', WHERE WHAT IT READS IS OF BULK AT MOST 1048576: true; the input reads as it did. -/
def fnExactHeadOfUptoRow : OpenClaim := { program := "ytaccndloddcboaa", sum := "72e979b7a56001cafa9430abb91bd3c5e234f66dfb4a53f33f3f9fd9f6036bc2", func := "loop.example/instancesearch/laws.FnExactHeadOf", spec := "fnExactHeadOf", inPlace := ["internal/bytealg.IndexByteString"], unfollowed := true, recurses := true, apart := false, narrowed := true }
def FnExactHeadOfUptoSaid : Prop := fnExactHeadOfUptoRow.holds Try.pinned (OpenSpec.upto fnExactHeadOfSpec)

/-- 'laws.FnExactPartsOf', WHERE WHAT IT READS IS OF BULK AT MOST 1048576: true; the input reads as it did. -/
def fnExactPartsOfUptoRow : OpenClaim := { program := "ytaccndloddcboaa", sum := "72e979b7a56001cafa9430abb91bd3c5e234f66dfb4a53f33f3f9fd9f6036bc2", func := "loop.example/instancesearch/laws.FnExactPartsOf", spec := "fnExactPartsOf", inPlace := ["internal/bytealg.IndexByteString"], unfollowed := true, recurses := true, apart := false, narrowed := true }
def FnExactPartsOfUptoSaid : Prop := fnExactPartsOfUptoRow.holds Try.pinned (OpenSpec.upto fnExactPartsOfSpec)

/-- 'laws.FnExactMakeType', WHERE WHAT IT READS IS OF BULK AT MOST 1048576: true; the input reads as it did. -/
def fnExactMakeTypeUptoRow : OpenClaim := { program := "ytaccndloddcboaa", sum := "72e979b7a56001cafa9430abb91bd3c5e234f66dfb4a53f33f3f9fd9f6036bc2", func := "loop.example/instancesearch/laws.FnExactMakeType", spec := "fnExactMakeType", inPlace := ["internal/bytealg.IndexByteString", "internal/abi.NoEscape", "internal/bytealg.MakeNoZero"], unfollowed := true, recurses := true, apart := false, narrowed := true }
def FnExactMakeTypeUptoSaid : Prop := fnExactMakeTypeUptoRow.holds Try.pinned (OpenSpec.upto fnExactMakeTypeSpec)

/-- 'laws.FnExactVarsOf', WHERE WHAT IT READS IS OF BULK AT MOST 1048576: true; the input reads as it did. -/
def fnExactVarsOfUptoRow : OpenClaim := { program := "ytaccndloddcboaa", sum := "72e979b7a56001cafa9430abb91bd3c5e234f66dfb4a53f33f3f9fd9f6036bc2", func := "loop.example/instancesearch/laws.FnExactVarsOf", spec := "fnExactVarsOf", inPlace := ["internal/bytealg.IndexByteString"], unfollowed := true, recurses := true, apart := false, narrowed := true }
def FnExactVarsOfUptoSaid : Prop := fnExactVarsOfUptoRow.holds Try.pinned (OpenSpec.upto fnExactVarsOfSpec)

/-- 'laws.FnExactIsGround', WHERE WHAT IT READS IS OF BULK AT MOST 1048576: true; the input reads as it did. -/
def fnExactIsGroundUptoRow : OpenClaim := { program := "ytaccndloddcboaa", sum := "72e979b7a56001cafa9430abb91bd3c5e234f66dfb4a53f33f3f9fd9f6036bc2", func := "loop.example/instancesearch/laws.FnExactIsGround", spec := "fnExactIsGround", inPlace := ["internal/bytealg.IndexByteString"], unfollowed := true, recurses := true, apart := false, narrowed := true }
def FnExactIsGroundUptoSaid : Prop := fnExactIsGroundUptoRow.holds Try.pinned (OpenSpec.upto fnExactIsGroundSpec)

/-- 'laws.FnExactSizeOf', WHERE WHAT IT READS IS OF BULK AT MOST 1048576: true; the input reads as it did. -/
def fnExactSizeOfUptoRow : OpenClaim := { program := "ytaccndloddcboaa", sum := "72e979b7a56001cafa9430abb91bd3c5e234f66dfb4a53f33f3f9fd9f6036bc2", func := "loop.example/instancesearch/laws.FnExactSizeOf", spec := "fnExactSizeOf", inPlace := ["internal/bytealg.IndexByteString"], unfollowed := true, recurses := true, apart := false, narrowed := true }
def FnExactSizeOfUptoSaid : Prop := fnExactSizeOfUptoRow.holds Try.pinned (OpenSpec.upto fnExactSizeOfSpec)

/-- 'laws.FnExactDepthOf', WHERE WHAT IT READS IS OF BULK AT MOST 1048576: true; the input reads as it did. -/
def fnExactDepthOfUptoRow : OpenClaim := { program := "ytaccndloddcboaa", sum := "72e979b7a56001cafa9430abb91bd3c5e234f66dfb4a53f33f3f9fd9f6036bc2", func := "loop.example/instancesearch/laws.FnExactDepthOf", spec := "fnExactDepthOf", inPlace := ["internal/bytealg.IndexByteString"], unfollowed := true, recurses := true, apart := false, narrowed := true }
def FnExactDepthOfUptoSaid : Prop := fnExactDepthOfUptoRow.holds Try.pinned (OpenSpec.upto fnExactDepthOfSpec)

/-- 'laws.FnExactCountVar', WHERE WHAT IT READS IS OF BULK AT MOST 1048576: true; the input reads as it did. -/
def fnExactCountVarUptoRow : OpenClaim := { program := "ytaccndloddcboaa", sum := "72e979b7a56001cafa9430abb91bd3c5e234f66dfb4a53f33f3f9fd9f6036bc2", func := "loop.example/instancesearch/laws.FnExactCountVar", spec := "fnExactCountVar", inPlace := ["internal/bytealg.IndexByteString"], unfollowed := true, recurses := true, apart := false, narrowed := true }
def FnExactCountVarUptoSaid : Prop := fnExactCountVarUptoRow.holds Try.pinned (OpenSpec.upto fnExactCountVarSpec)

/-- 'laws.FnExactRenameType', WHERE WHAT IT READS IS OF BULK AT MOST 1048576: true; the input reads as it did. -/
def fnExactRenameTypeUptoRow : OpenClaim := { program := "ytaccndloddcboaa", sum := "72e979b7a56001cafa9430abb91bd3c5e234f66dfb4a53f33f3f9fd9f6036bc2", func := "loop.example/instancesearch/laws.FnExactRenameType", spec := "fnExactRenameType", inPlace := ["internal/bytealg.IndexByteString"], unfollowed := true, recurses := true, apart := false, narrowed := true }
def FnExactRenameTypeUptoSaid : Prop := fnExactRenameTypeUptoRow.holds Try.pinned (OpenSpec.upto fnExactRenameTypeSpec)

/-- 'laws.FnExactBindingsValid', WHERE WHAT IT READS IS OF BULK AT MOST 1048576: true; the input reads as it did. -/
def fnExactBindingsValidUptoRow : OpenClaim := { program := "ytaccndloddcboaa", sum := "72e979b7a56001cafa9430abb91bd3c5e234f66dfb4a53f33f3f9fd9f6036bc2", func := "loop.example/instancesearch/laws.FnExactBindingsValid", spec := "fnExactBindingsValid", inPlace := ["internal/bytealg.IndexByteString"], unfollowed := true, recurses := true, apart := false, narrowed := true }
def FnExactBindingsValidUptoSaid : Prop := fnExactBindingsValidUptoRow.holds Try.pinned (OpenSpec.upto fnExactBindingsValidSpec)

/-- 'laws.FnExactApplyBindings', WHERE WHAT IT READS IS OF BULK AT MOST 1048576: true; the input reads as it did. -/
def fnExactApplyBindingsUptoRow : OpenClaim := { program := "ytaccndloddcboaa", sum := "72e979b7a56001cafa9430abb91bd3c5e234f66dfb4a53f33f3f9fd9f6036bc2", func := "loop.example/instancesearch/laws.FnExactApplyBindings", spec := "fnExactApplyBindings", inPlace := ["internal/bytealg.IndexByteString"], unfollowed := true, recurses := true, apart := false, narrowed := true }
def FnExactApplyBindingsUptoSaid : Prop := fnExactApplyBindingsUptoRow.holds Try.pinned (OpenSpec.upto fnExactApplyBindingsSpec)

/-- 'laws.FnExactMatchType', WHERE WHAT IT READS IS OF BULK AT MOST 1048576: true; the input reads as it did. -/
def fnExactMatchTypeUptoRow : OpenClaim := { program := "ytaccndloddcboaa", sum := "72e979b7a56001cafa9430abb91bd3c5e234f66dfb4a53f33f3f9fd9f6036bc2", func := "loop.example/instancesearch/laws.FnExactMatchType", spec := "fnExactMatchType", inPlace := ["internal/bytealg.IndexByteString", "internal/bytealg.abigen_runtime_cmpstring"], unfollowed := true, recurses := true, apart := false, narrowed := true }
def FnExactMatchTypeUptoSaid : Prop := fnExactMatchTypeUptoRow.holds Try.pinned (OpenSpec.upto fnExactMatchTypeSpec)

/-- 'laws.FnExactUnifyTypes', WHERE WHAT IT READS IS OF BULK AT MOST 1048576: true; the input reads as it did. -/
def fnExactUnifyTypesUptoRow : OpenClaim := { program := "ytaccndloddcboaa", sum := "72e979b7a56001cafa9430abb91bd3c5e234f66dfb4a53f33f3f9fd9f6036bc2", func := "loop.example/instancesearch/laws.FnExactUnifyTypes", spec := "fnExactUnifyTypes", inPlace := ["internal/bytealg.IndexByteString", "internal/bytealg.abigen_runtime_cmpstring"], unfollowed := true, recurses := true, apart := false, narrowed := true }
def FnExactUnifyTypesUptoSaid : Prop := fnExactUnifyTypesUptoRow.holds Try.pinned (OpenSpec.upto fnExactUnifyTypesSpec)

/-- 'laws.FnExactAreApart', WHERE WHAT IT READS IS OF BULK AT MOST 1048576: true; the input reads as it did. -/
def fnExactAreApartUptoRow : OpenClaim := { program := "ytaccndloddcboaa", sum := "72e979b7a56001cafa9430abb91bd3c5e234f66dfb4a53f33f3f9fd9f6036bc2", func := "loop.example/instancesearch/laws.FnExactAreApart", spec := "fnExactAreApart", inPlace := ["internal/bytealg.IndexByteString"], unfollowed := true, recurses := true, apart := false, narrowed := true }
def FnExactAreApartUptoSaid : Prop := fnExactAreApartUptoRow.holds Try.pinned (OpenSpec.upto fnExactAreApartSpec)

/-- 'laws.FnExactIsInstance', WHERE WHAT IT READS IS OF BULK AT MOST 1048576: true; the input reads as it did. -/
def fnExactIsInstanceUptoRow : OpenClaim := { program := "ytaccndloddcboaa", sum := "72e979b7a56001cafa9430abb91bd3c5e234f66dfb4a53f33f3f9fd9f6036bc2", func := "loop.example/instancesearch/laws.FnExactIsInstance", spec := "fnExactIsInstance", inPlace := ["internal/bytealg.IndexByteString", "internal/bytealg.abigen_runtime_cmpstring"], unfollowed := true, recurses := true, apart := false, narrowed := true }
def FnExactIsInstanceUptoSaid : Prop := fnExactIsInstanceUptoRow.holds Try.pinned (OpenSpec.upto fnExactIsInstanceSpec)

/-- 'laws.FnExactFormatBindings', WHERE WHAT IT READS IS OF BULK AT MOST 1048576: true; the input reads as it did. -/
def fnExactFormatBindingsUptoRow : OpenClaim := { program := "ytaccndloddcboaa", sum := "72e979b7a56001cafa9430abb91bd3c5e234f66dfb4a53f33f3f9fd9f6036bc2", func := "loop.example/instancesearch/laws.FnExactFormatBindings", spec := "fnExactFormatBindings", inPlace := ["internal/abi.NoEscape", "internal/bytealg.MakeNoZero"], apart := false, narrowed := true }
def FnExactFormatBindingsUptoSaid : Prop := fnExactFormatBindingsUptoRow.holds Try.pinned (OpenSpec.upto fnExactFormatBindingsSpec)

end Rows
end Go.Proofs.Ytaccndloddcboaa
