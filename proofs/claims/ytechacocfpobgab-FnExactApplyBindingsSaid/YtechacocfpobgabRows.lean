/-
  No cell of these rows narrows 'for every input' (looked for: loops, veiled, ifaces, maps, wideKeys, modest, calm, conditions, laid).
  DERIVED. THE GIVEN ROWS OF THIS SEAT. 12 by the template 'for every input the law returns true; each argument reads behind the call as it read before'; 0 by the template 'total and deterministic' (their statements: YtechacocfpobgabTotals.lean).
  GIVEN WITH THE SEED: the statements are not yours to turn. If you find one false, say at which input.
  Laid BY PROGRAM, IN A SANDBOX (cutbox-rows.mjs): the forced cells as the released guide's own fill.sh prints them over the translation 07ce1960afe3012a… (all of the seat's roots in one cut). By AI agents, Wed Nov 11 2026. No macro, syntax, notation, axiom, sorry.
-/
import Derived.Test.YtechacocfpobgabChecked
import GoSem.Claim
import GoSem.ClaimJoined
import GoSem.ClaimMapViews
import Derived.JoinedTies
import Derived.KernelRfl
namespace Go.Proofs.Ytechacocfpobgab
/- THE CELL 'sum', in the pinned program and in every row, IS THE sha256 OF THE DUMP (.gsa) THAT YtechacocfpobgabProg.lean LOADS. Nothing in Lean hashes anything: it is a label: what it is worth is what the hold of that sum in a sandbox is worth. -/
noncomputable def Try.pinned : Pinned := { name := "ytechacocfpobgab", sum := "07ce1960afe3012a00a5b6ed9e1db2397968190df6559a5512f8f43cbac1063c", checked := Try.checked }
namespace Rows
def none {H : Type} : Left H := { results := [], args := [] }

/-- 'laws.FnExactHeadOf': WHATEVER THE INPUT: true; the input reads as it did. -/
def fnExactHeadOfSpec : ChangeSpec := { name := "fnExactHeadOf", fn := fun _ => fun
  | [d] => { results := [.lit (.bool true)], args := [d] }
  | _ => none }
def fnExactHeadOfRow : OpenClaim := { program := "ytechacocfpobgab", sum := "07ce1960afe3012a00a5b6ed9e1db2397968190df6559a5512f8f43cbac1063c", func := "loop.example/instancesearch/laws.FnExactHeadOf", spec := "fnExactHeadOf", inPlace := ["internal/bytealg.IndexByteString"], unfollowed := true, recurses := true, apart := false }
def FnExactHeadOfSaid : Prop := fnExactHeadOfRow.holds Try.pinned (OpenSpec.ofChange fnExactHeadOfSpec)

/-- ITS FALSE NEIGHBOUR: 'it returns false'. Refute it at one input. -/
def fnExactHeadOfWrong : ChangeSpec := { name := "fnExactHeadOf", fn := fun _ => fun
  | [d] => { results := [.lit (.bool false)], args := [d] }
  | _ => none }
def FnExactHeadOfWrongFalsely : Prop := fnExactHeadOfRow.holds Try.pinned (OpenSpec.ofChange fnExactHeadOfWrong)

/-- 'laws.FnExactPartsOf': WHATEVER THE INPUT: true; the input reads as it did. -/
def fnExactPartsOfSpec : ChangeSpec := { name := "fnExactPartsOf", fn := fun _ => fun
  | [d] => { results := [.lit (.bool true)], args := [d] }
  | _ => none }
def fnExactPartsOfRow : OpenClaim := { program := "ytechacocfpobgab", sum := "07ce1960afe3012a00a5b6ed9e1db2397968190df6559a5512f8f43cbac1063c", func := "loop.example/instancesearch/laws.FnExactPartsOf", spec := "fnExactPartsOf", inPlace := ["internal/bytealg.IndexByteString"], unfollowed := true, recurses := true, apart := false }
def FnExactPartsOfSaid : Prop := fnExactPartsOfRow.holds Try.pinned (OpenSpec.ofChange fnExactPartsOfSpec)

/-- ITS FALSE NEIGHBOUR: 'it returns false'. Refute it at one input. -/
def fnExactPartsOfWrong : ChangeSpec := { name := "fnExactPartsOf", fn := fun _ => fun
  | [d] => { results := [.lit (.bool false)], args := [d] }
  | _ => none }
def FnExactPartsOfWrongFalsely : Prop := fnExactPartsOfRow.holds Try.pinned (OpenSpec.ofChange fnExactPartsOfWrong)

/-- 'laws.FnExactMakeType': WHATEVER THE INPUT: true; the input reads as it did. -/
def fnExactMakeTypeSpec : ChangeSpec := { name := "fnExactMakeType", fn := fun _ => fun
  | [d1, d2] => { results := [.lit (.bool true)], args := [d1, d2] }
  | _ => none }
def fnExactMakeTypeRow : OpenClaim := { program := "ytechacocfpobgab", sum := "07ce1960afe3012a00a5b6ed9e1db2397968190df6559a5512f8f43cbac1063c", func := "loop.example/instancesearch/laws.FnExactMakeType", spec := "fnExactMakeType", inPlace := ["internal/bytealg.IndexByteString", "internal/abi.NoEscape", "internal/bytealg.MakeNoZero"], unfollowed := true, recurses := true, apart := false }
def FnExactMakeTypeSaid : Prop := fnExactMakeTypeRow.holds Try.pinned (OpenSpec.ofChange fnExactMakeTypeSpec)

/-- ITS FALSE NEIGHBOUR: 'it returns false'. Refute it at one input. -/
def fnExactMakeTypeWrong : ChangeSpec := { name := "fnExactMakeType", fn := fun _ => fun
  | [d1, d2] => { results := [.lit (.bool false)], args := [d1, d2] }
  | _ => none }
def FnExactMakeTypeWrongFalsely : Prop := fnExactMakeTypeRow.holds Try.pinned (OpenSpec.ofChange fnExactMakeTypeWrong)

/-- 'laws.FnExactVarsOf': WHATEVER THE INPUT: true; the input reads as it did. -/
def fnExactVarsOfSpec : ChangeSpec := { name := "fnExactVarsOf", fn := fun _ => fun
  | [d] => { results := [.lit (.bool true)], args := [d] }
  | _ => none }
def fnExactVarsOfRow : OpenClaim := { program := "ytechacocfpobgab", sum := "07ce1960afe3012a00a5b6ed9e1db2397968190df6559a5512f8f43cbac1063c", func := "loop.example/instancesearch/laws.FnExactVarsOf", spec := "fnExactVarsOf", inPlace := ["internal/bytealg.IndexByteString"], unfollowed := true, recurses := true, apart := false }
def FnExactVarsOfSaid : Prop := fnExactVarsOfRow.holds Try.pinned (OpenSpec.ofChange fnExactVarsOfSpec)

/-- ITS FALSE NEIGHBOUR: 'it returns false'. Refute it at one input. -/
def fnExactVarsOfWrong : ChangeSpec := { name := "fnExactVarsOf", fn := fun _ => fun
  | [d] => { results := [.lit (.bool false)], args := [d] }
  | _ => none }
def FnExactVarsOfWrongFalsely : Prop := fnExactVarsOfRow.holds Try.pinned (OpenSpec.ofChange fnExactVarsOfWrong)

/-- 'laws.FnExactIsGround': WHATEVER THE INPUT: true; the input reads as it did. -/
def fnExactIsGroundSpec : ChangeSpec := { name := "fnExactIsGround", fn := fun _ => fun
  | [d] => { results := [.lit (.bool true)], args := [d] }
  | _ => none }
def fnExactIsGroundRow : OpenClaim := { program := "ytechacocfpobgab", sum := "07ce1960afe3012a00a5b6ed9e1db2397968190df6559a5512f8f43cbac1063c", func := "loop.example/instancesearch/laws.FnExactIsGround", spec := "fnExactIsGround", inPlace := ["internal/bytealg.IndexByteString"], unfollowed := true, recurses := true, apart := false }
def FnExactIsGroundSaid : Prop := fnExactIsGroundRow.holds Try.pinned (OpenSpec.ofChange fnExactIsGroundSpec)

/-- ITS FALSE NEIGHBOUR: 'it returns false'. Refute it at one input. -/
def fnExactIsGroundWrong : ChangeSpec := { name := "fnExactIsGround", fn := fun _ => fun
  | [d] => { results := [.lit (.bool false)], args := [d] }
  | _ => none }
def FnExactIsGroundWrongFalsely : Prop := fnExactIsGroundRow.holds Try.pinned (OpenSpec.ofChange fnExactIsGroundWrong)

/-- 'laws.FnExactSizeOf': WHATEVER THE INPUT: true; the input reads as it did. -/
def fnExactSizeOfSpec : ChangeSpec := { name := "fnExactSizeOf", fn := fun _ => fun
  | [d] => { results := [.lit (.bool true)], args := [d] }
  | _ => none }
def fnExactSizeOfRow : OpenClaim := { program := "ytechacocfpobgab", sum := "07ce1960afe3012a00a5b6ed9e1db2397968190df6559a5512f8f43cbac1063c", func := "loop.example/instancesearch/laws.FnExactSizeOf", spec := "fnExactSizeOf", inPlace := ["internal/bytealg.IndexByteString"], unfollowed := true, recurses := true, apart := false }
def FnExactSizeOfSaid : Prop := fnExactSizeOfRow.holds Try.pinned (OpenSpec.ofChange fnExactSizeOfSpec)

/-- ITS FALSE NEIGHBOUR: 'it returns false'. Refute it at one input. -/
def fnExactSizeOfWrong : ChangeSpec := { name := "fnExactSizeOf", fn := fun _ => fun
  | [d] => { results := [.lit (.bool false)], args := [d] }
  | _ => none }
def FnExactSizeOfWrongFalsely : Prop := fnExactSizeOfRow.holds Try.pinned (OpenSpec.ofChange fnExactSizeOfWrong)

/-- 'laws.FnExactDepthOf': WHATEVER THE INPUT: true; the input reads as it did. -/
def fnExactDepthOfSpec : ChangeSpec := { name := "fnExactDepthOf", fn := fun _ => fun
  | [d] => { results := [.lit (.bool true)], args := [d] }
  | _ => none }
def fnExactDepthOfRow : OpenClaim := { program := "ytechacocfpobgab", sum := "07ce1960afe3012a00a5b6ed9e1db2397968190df6559a5512f8f43cbac1063c", func := "loop.example/instancesearch/laws.FnExactDepthOf", spec := "fnExactDepthOf", inPlace := ["internal/bytealg.IndexByteString"], unfollowed := true, recurses := true, apart := false }
def FnExactDepthOfSaid : Prop := fnExactDepthOfRow.holds Try.pinned (OpenSpec.ofChange fnExactDepthOfSpec)

/-- ITS FALSE NEIGHBOUR: 'it returns false'. Refute it at one input. -/
def fnExactDepthOfWrong : ChangeSpec := { name := "fnExactDepthOf", fn := fun _ => fun
  | [d] => { results := [.lit (.bool false)], args := [d] }
  | _ => none }
def FnExactDepthOfWrongFalsely : Prop := fnExactDepthOfRow.holds Try.pinned (OpenSpec.ofChange fnExactDepthOfWrong)

/-- 'laws.FnExactCountVar': WHATEVER THE INPUT: true; the input reads as it did. -/
def fnExactCountVarSpec : ChangeSpec := { name := "fnExactCountVar", fn := fun _ => fun
  | [d1, d2] => { results := [.lit (.bool true)], args := [d1, d2] }
  | _ => none }
def fnExactCountVarRow : OpenClaim := { program := "ytechacocfpobgab", sum := "07ce1960afe3012a00a5b6ed9e1db2397968190df6559a5512f8f43cbac1063c", func := "loop.example/instancesearch/laws.FnExactCountVar", spec := "fnExactCountVar", inPlace := ["internal/bytealg.IndexByteString"], unfollowed := true, recurses := true, apart := false }
def FnExactCountVarSaid : Prop := fnExactCountVarRow.holds Try.pinned (OpenSpec.ofChange fnExactCountVarSpec)

/-- ITS FALSE NEIGHBOUR: 'it returns false'. Refute it at one input. -/
def fnExactCountVarWrong : ChangeSpec := { name := "fnExactCountVar", fn := fun _ => fun
  | [d1, d2] => { results := [.lit (.bool false)], args := [d1, d2] }
  | _ => none }
def FnExactCountVarWrongFalsely : Prop := fnExactCountVarRow.holds Try.pinned (OpenSpec.ofChange fnExactCountVarWrong)

/-- 'laws.FnExactRenameType': WHATEVER THE INPUT: true; the input reads as it did. -/
def fnExactRenameTypeSpec : ChangeSpec := { name := "fnExactRenameType", fn := fun _ => fun
  | [d] => { results := [.lit (.bool true)], args := [d] }
  | _ => none }
def fnExactRenameTypeRow : OpenClaim := { program := "ytechacocfpobgab", sum := "07ce1960afe3012a00a5b6ed9e1db2397968190df6559a5512f8f43cbac1063c", func := "loop.example/instancesearch/laws.FnExactRenameType", spec := "fnExactRenameType", inPlace := ["internal/bytealg.IndexByteString"], unfollowed := true, recurses := true, apart := false }
def FnExactRenameTypeSaid : Prop := fnExactRenameTypeRow.holds Try.pinned (OpenSpec.ofChange fnExactRenameTypeSpec)

/-- ITS FALSE NEIGHBOUR: 'it returns false'. Refute it at one input. -/
def fnExactRenameTypeWrong : ChangeSpec := { name := "fnExactRenameType", fn := fun _ => fun
  | [d] => { results := [.lit (.bool false)], args := [d] }
  | _ => none }
def FnExactRenameTypeWrongFalsely : Prop := fnExactRenameTypeRow.holds Try.pinned (OpenSpec.ofChange fnExactRenameTypeWrong)

/-- 'laws.FnExactBindingsValid': WHATEVER THE INPUT: true; the input reads as it did. -/
def fnExactBindingsValidSpec : ChangeSpec := { name := "fnExactBindingsValid", fn := fun _ => fun
  | [d] => { results := [.lit (.bool true)], args := [d] }
  | _ => none }
def fnExactBindingsValidRow : OpenClaim := { program := "ytechacocfpobgab", sum := "07ce1960afe3012a00a5b6ed9e1db2397968190df6559a5512f8f43cbac1063c", func := "loop.example/instancesearch/laws.FnExactBindingsValid", spec := "fnExactBindingsValid", inPlace := ["internal/bytealg.IndexByteString"], unfollowed := true, recurses := true, apart := false }
def FnExactBindingsValidSaid : Prop := fnExactBindingsValidRow.holds Try.pinned (OpenSpec.ofChange fnExactBindingsValidSpec)

/-- ITS FALSE NEIGHBOUR: 'it returns false'. Refute it at one input. -/
def fnExactBindingsValidWrong : ChangeSpec := { name := "fnExactBindingsValid", fn := fun _ => fun
  | [d] => { results := [.lit (.bool false)], args := [d] }
  | _ => none }
def FnExactBindingsValidWrongFalsely : Prop := fnExactBindingsValidRow.holds Try.pinned (OpenSpec.ofChange fnExactBindingsValidWrong)

/-- 'laws.FnExactApplyBindings': WHATEVER THE INPUT: true; the input reads as it did. -/
def fnExactApplyBindingsSpec : ChangeSpec := { name := "fnExactApplyBindings", fn := fun _ => fun
  | [d1, d2] => { results := [.lit (.bool true)], args := [d1, d2] }
  | _ => none }
def fnExactApplyBindingsRow : OpenClaim := { program := "ytechacocfpobgab", sum := "07ce1960afe3012a00a5b6ed9e1db2397968190df6559a5512f8f43cbac1063c", func := "loop.example/instancesearch/laws.FnExactApplyBindings", spec := "fnExactApplyBindings", inPlace := ["internal/bytealg.IndexByteString"], unfollowed := true, recurses := true, apart := false }
def FnExactApplyBindingsSaid : Prop := fnExactApplyBindingsRow.holds Try.pinned (OpenSpec.ofChange fnExactApplyBindingsSpec)

/-- ITS FALSE NEIGHBOUR: 'it returns false'. Refute it at one input. -/
def fnExactApplyBindingsWrong : ChangeSpec := { name := "fnExactApplyBindings", fn := fun _ => fun
  | [d1, d2] => { results := [.lit (.bool false)], args := [d1, d2] }
  | _ => none }
def FnExactApplyBindingsWrongFalsely : Prop := fnExactApplyBindingsRow.holds Try.pinned (OpenSpec.ofChange fnExactApplyBindingsWrong)

/-- 'laws.FnExactMatchType': WHATEVER THE INPUT: true; the input reads as it did. -/
def fnExactMatchTypeSpec : ChangeSpec := { name := "fnExactMatchType", fn := fun _ => fun
  | [d1, d2] => { results := [.lit (.bool true)], args := [d1, d2] }
  | _ => none }
def fnExactMatchTypeRow : OpenClaim := { program := "ytechacocfpobgab", sum := "07ce1960afe3012a00a5b6ed9e1db2397968190df6559a5512f8f43cbac1063c", func := "loop.example/instancesearch/laws.FnExactMatchType", spec := "fnExactMatchType", inPlace := ["internal/bytealg.IndexByteString", "internal/bytealg.abigen_runtime_cmpstring"], unfollowed := true, recurses := true, apart := false }
def FnExactMatchTypeSaid : Prop := fnExactMatchTypeRow.holds Try.pinned (OpenSpec.ofChange fnExactMatchTypeSpec)

/-- ITS FALSE NEIGHBOUR: 'it returns false'. Refute it at one input. -/
def fnExactMatchTypeWrong : ChangeSpec := { name := "fnExactMatchType", fn := fun _ => fun
  | [d1, d2] => { results := [.lit (.bool false)], args := [d1, d2] }
  | _ => none }
def FnExactMatchTypeWrongFalsely : Prop := fnExactMatchTypeRow.holds Try.pinned (OpenSpec.ofChange fnExactMatchTypeWrong)

/- THE SECOND FORM. 'bulk': how many values and letters a reading holds, each counted each time it is reached (what is shared counts as often as it is met; a slice's spare places count too). A statement '..UptoSaid' is the law's where the arguments, and the package variables that the reading takes, are together of bulk at most 1048576: NARROWER than '..Said'. Prove '..Said' where nothing that the law and all that it calls make is longer than what came in: it says more and counts as full. Else prove '..UptoSaid'. A law counts once. -/
mutual
def uptoBulk {H : Type} : DataW H → Nat
  | .lit (.string bytes) => bytes.length + 1
  | .lit _ => 1
  | .nil => 1
  | .ptr d => uptoBulk d + 1
  | .slice elems spare => uptoBulkAll elems + uptoBulkAll spare + 1
  | .agg parts => uptoBulkAll parts + 1
  | .iface _ d => uptoBulk d + 1
  | .map entries => uptoBulkEntries entries + 1
  | .held _ => 1
def uptoBulkAll {H : Type} : List (DataW H) → Nat
  | [] => 0
  | d :: r => uptoBulk d + uptoBulkAll r
def uptoBulkEntries {H : Type} : List (Lit × DataW H) → Nat
  | [] => 0
  | x :: r => uptoBulkEntry x + uptoBulkEntries r
def uptoBulkEntry {H : Type} : Lit × DataW H → Nat
  | (.string bytes, d) => bytes.length + uptoBulk d + 1
  | (_, d) => uptoBulk d + 1
 end
def uptoSmall : (H : Type) → List (DataW H) → Bool := fun _ ds => decide (uptoBulkAll ds ≤ 1048576)
def OpenSpec.upto (s : _root_.Go.ChangeSpec) : _root_.Go.OpenSpec := { _root_.Go.OpenSpec.ofChange s with cond := some uptoSmall }

/-- 'laws.FnExactHeadOf', WHERE WHAT IT READS IS OF BULK AT MOST 1048576: true; the input reads as it did. -/
def fnExactHeadOfUptoRow : OpenClaim := { program := "ytechacocfpobgab", sum := "07ce1960afe3012a00a5b6ed9e1db2397968190df6559a5512f8f43cbac1063c", func := "loop.example/instancesearch/laws.FnExactHeadOf", spec := "fnExactHeadOf", inPlace := ["internal/bytealg.IndexByteString"], unfollowed := true, recurses := true, apart := false, narrowed := true }
def FnExactHeadOfUptoSaid : Prop := fnExactHeadOfUptoRow.holds Try.pinned (OpenSpec.upto fnExactHeadOfSpec)

/-- 'laws.FnExactPartsOf', WHERE WHAT IT READS IS OF BULK AT MOST 1048576: true; the input reads as it did. -/
def fnExactPartsOfUptoRow : OpenClaim := { program := "ytechacocfpobgab", sum := "07ce1960afe3012a00a5b6ed9e1db2397968190df6559a5512f8f43cbac1063c", func := "loop.example/instancesearch/laws.FnExactPartsOf", spec := "fnExactPartsOf", inPlace := ["internal/bytealg.IndexByteString"], unfollowed := true, recurses := true, apart := false, narrowed := true }
def FnExactPartsOfUptoSaid : Prop := fnExactPartsOfUptoRow.holds Try.pinned (OpenSpec.upto fnExactPartsOfSpec)

/-- 'laws.FnExactMakeType', WHERE WHAT IT READS IS OF BULK AT MOST 1048576: true; the input reads as it did. -/
def fnExactMakeTypeUptoRow : OpenClaim := { program := "ytechacocfpobgab", sum := "07ce1960afe3012a00a5b6ed9e1db2397968190df6559a5512f8f43cbac1063c", func := "loop.example/instancesearch/laws.FnExactMakeType", spec := "fnExactMakeType", inPlace := ["internal/bytealg.IndexByteString", "internal/abi.NoEscape", "internal/bytealg.MakeNoZero"], unfollowed := true, recurses := true, apart := false, narrowed := true }
def FnExactMakeTypeUptoSaid : Prop := fnExactMakeTypeUptoRow.holds Try.pinned (OpenSpec.upto fnExactMakeTypeSpec)

/-- 'laws.FnExactVarsOf', WHERE WHAT IT READS IS OF BULK AT MOST 1048576: true; the input reads as it did. -/
def fnExactVarsOfUptoRow : OpenClaim := { program := "ytechacocfpobgab", sum := "07ce1960afe3012a00a5b6ed9e1db2397968190df6559a5512f8f43cbac1063c", func := "loop.example/instancesearch/laws.FnExactVarsOf", spec := "fnExactVarsOf", inPlace := ["internal/bytealg.IndexByteString"], unfollowed := true, recurses := true, apart := false, narrowed := true }
def FnExactVarsOfUptoSaid : Prop := fnExactVarsOfUptoRow.holds Try.pinned (OpenSpec.upto fnExactVarsOfSpec)

/-- 'laws.FnExactIsGround', WHERE WHAT IT READS IS OF BULK AT MOST 1048576: true; the input reads as it did. -/
def fnExactIsGroundUptoRow : OpenClaim := { program := "ytechacocfpobgab", sum := "07ce1960afe3012a00a5b6ed9e1db2397968190df6559a5512f8f43cbac1063c", func := "loop.example/instancesearch/laws.FnExactIsGround", spec := "fnExactIsGround", inPlace := ["internal/bytealg.IndexByteString"], unfollowed := true, recurses := true, apart := false, narrowed := true }
def FnExactIsGroundUptoSaid : Prop := fnExactIsGroundUptoRow.holds Try.pinned (OpenSpec.upto fnExactIsGroundSpec)

/-- 'laws.FnExactSizeOf', WHERE WHAT IT READS IS OF BULK AT MOST 1048576: true; the input reads as it did. -/
def fnExactSizeOfUptoRow : OpenClaim := { program := "ytechacocfpobgab", sum := "07ce1960afe3012a00a5b6ed9e1db2397968190df6559a5512f8f43cbac1063c", func := "loop.example/instancesearch/laws.FnExactSizeOf", spec := "fnExactSizeOf", inPlace := ["internal/bytealg.IndexByteString"], unfollowed := true, recurses := true, apart := false, narrowed := true }
def FnExactSizeOfUptoSaid : Prop := fnExactSizeOfUptoRow.holds Try.pinned (OpenSpec.upto fnExactSizeOfSpec)

/-- 'laws.FnExactDepthOf', WHERE WHAT IT READS IS OF BULK AT MOST 1048576: true; the input reads as it did. -/
def fnExactDepthOfUptoRow : OpenClaim := { program := "ytechacocfpobgab", sum := "07ce1960afe3012a00a5b6ed9e1db2397968190df6559a5512f8f43cbac1063c", func := "loop.example/instancesearch/laws.FnExactDepthOf", spec := "fnExactDepthOf", inPlace := ["internal/bytealg.IndexByteString"], unfollowed := true, recurses := true, apart := false, narrowed := true }
def FnExactDepthOfUptoSaid : Prop := fnExactDepthOfUptoRow.holds Try.pinned (OpenSpec.upto fnExactDepthOfSpec)

/-- 'laws.FnExactCountVar', WHERE WHAT IT READS IS OF BULK AT MOST 1048576: true; the input reads as it did. -/
def fnExactCountVarUptoRow : OpenClaim := { program := "ytechacocfpobgab", sum := "07ce1960afe3012a00a5b6ed9e1db2397968190df6559a5512f8f43cbac1063c", func := "loop.example/instancesearch/laws.FnExactCountVar", spec := "fnExactCountVar", inPlace := ["internal/bytealg.IndexByteString"], unfollowed := true, recurses := true, apart := false, narrowed := true }
def FnExactCountVarUptoSaid : Prop := fnExactCountVarUptoRow.holds Try.pinned (OpenSpec.upto fnExactCountVarSpec)

/-- 'laws.FnExactRenameType', WHERE WHAT IT READS IS OF BULK AT MOST 1048576: true; the input reads as it did. -/
def fnExactRenameTypeUptoRow : OpenClaim := { program := "ytechacocfpobgab", sum := "07ce1960afe3012a00a5b6ed9e1db2397968190df6559a5512f8f43cbac1063c", func := "loop.example/instancesearch/laws.FnExactRenameType", spec := "fnExactRenameType", inPlace := ["internal/bytealg.IndexByteString"], unfollowed := true, recurses := true, apart := false, narrowed := true }
def FnExactRenameTypeUptoSaid : Prop := fnExactRenameTypeUptoRow.holds Try.pinned (OpenSpec.upto fnExactRenameTypeSpec)

/-- 'laws.FnExactBindingsValid', WHERE WHAT IT READS IS OF BULK AT MOST 1048576: true; the input reads as it did. -/
def fnExactBindingsValidUptoRow : OpenClaim := { program := "ytechacocfpobgab", sum := "07ce1960afe3012a00a5b6ed9e1db2397968190df6559a5512f8f43cbac1063c", func := "loop.example/instancesearch/laws.FnExactBindingsValid", spec := "fnExactBindingsValid", inPlace := ["internal/bytealg.IndexByteString"], unfollowed := true, recurses := true, apart := false, narrowed := true }
def FnExactBindingsValidUptoSaid : Prop := fnExactBindingsValidUptoRow.holds Try.pinned (OpenSpec.upto fnExactBindingsValidSpec)

/-- 'laws.FnExactApplyBindings', WHERE WHAT IT READS IS OF BULK AT MOST 1048576: true; the input reads as it did. -/
def fnExactApplyBindingsUptoRow : OpenClaim := { program := "ytechacocfpobgab", sum := "07ce1960afe3012a00a5b6ed9e1db2397968190df6559a5512f8f43cbac1063c", func := "loop.example/instancesearch/laws.FnExactApplyBindings", spec := "fnExactApplyBindings", inPlace := ["internal/bytealg.IndexByteString"], unfollowed := true, recurses := true, apart := false, narrowed := true }
def FnExactApplyBindingsUptoSaid : Prop := fnExactApplyBindingsUptoRow.holds Try.pinned (OpenSpec.upto fnExactApplyBindingsSpec)

/-- 'laws.FnExactMatchType', WHERE WHAT IT READS IS OF BULK AT MOST 1048576: true; the input reads as it did. -/
def fnExactMatchTypeUptoRow : OpenClaim := { program := "ytechacocfpobgab", sum := "07ce1960afe3012a00a5b6ed9e1db2397968190df6559a5512f8f43cbac1063c", func := "loop.example/instancesearch/laws.FnExactMatchType", spec := "fnExactMatchType", inPlace := ["internal/bytealg.IndexByteString", "internal/bytealg.abigen_runtime_cmpstring"], unfollowed := true, recurses := true, apart := false, narrowed := true }
def FnExactMatchTypeUptoSaid : Prop := fnExactMatchTypeUptoRow.holds Try.pinned (OpenSpec.upto fnExactMatchTypeSpec)

end Rows
end Go.Proofs.Ytechacocfpobgab
