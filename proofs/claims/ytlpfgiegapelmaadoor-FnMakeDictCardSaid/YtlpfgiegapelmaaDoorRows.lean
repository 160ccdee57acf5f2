/-
  NARROWER THAN 'FOR EVERY INPUT', by the rows' own cells (each row's printed sentence says how): FnMakeDict: laid · FnTexts: laid · FnExactFormatGaps: laid · FnExactDictValid: laid · FnExactInstanceOf: laid · FnExactPartsOfDict: laid · FnExactMakeDict: laid · FnExactSizeOfDict: laid · FnExactDepthOfDict: laid · FnExactInstancesIn: laid.
  DERIVED. THE GIVEN ROWS OF THIS SEAT. 10 by the template 'for every input the law returns true; each argument reads behind the call as it read before'; 0 by the template 'total and deterministic' (their statements: YtlpfgiegapelmaaDoorTotals.lean).
  GIVEN WITH THE SEED: the statements are not yours to turn. If you find one false, say at which input.
  Laid BY PROGRAM, IN A SANDBOX (cutbox-rows.mjs): the forced cells as the released guide's own fill.sh prints them over the translation 58c6e31453b3375e… (all of the seat's roots in one cut). By AI agents, Wed Nov 11 2026. No macro, syntax, notation, axiom, sorry.
-/
import Derived.Test.YtlpfgiegapelmaaDoorChecked
import GoSem.Claim
import GoSem.ClaimJoined
import GoSem.ClaimMapViews
import Derived.JoinedTies
import Derived.KernelRfl
namespace Go.Proofs.YtlpfgiegapelmaaDoor
/- THE CELL 'sum', in the pinned program and in every row, IS THE sha256 OF THE DUMP (.gsa) THAT YtlpfgiegapelmaaDoorProg.lean LOADS. Nothing in Lean hashes anything: it is a label: what it is worth is what the hold of that sum in a sandbox is worth. -/
noncomputable def Tryd.pinned : Pinned := { name := "ytlpfgiegapelmaadoor", sum := "58c6e31453b3375e9619693d89c22ad95c1675684f1e57ee70b252605bc63765", checked := Tryd.checked }
namespace Rows
def none {H : Type} : Left H := { results := [], args := [] }

/- WHAT THE LISTED PACKAGE-LEVEL VARIABLES READ AS WHEN THE CALL BEGINS. Each datum BY PROGRAM (the guide's laid-datum.mjs) off the statement by which the dump's own 'gosem.cut.vars' lays the variable. In a bare row this is a premise. The card (YtlpfgiegapelmaaDoorCards.lean) ties it to the program's text. -/
def laid_math_bits_deBruijn32tab {H : Type} : DataW H := .agg [.lit (.int .u8 0), .lit (.int .u8 1), .lit (.int .u8 28), .lit (.int .u8 2), .lit (.int .u8 29), .lit (.int .u8 14), .lit (.int .u8 24), .lit (.int .u8 3), .lit (.int .u8 30), .lit (.int .u8 22), .lit (.int .u8 20), .lit (.int .u8 15), .lit (.int .u8 25), .lit (.int .u8 17), .lit (.int .u8 4), .lit (.int .u8 8), .lit (.int .u8 31), .lit (.int .u8 27), .lit (.int .u8 13), .lit (.int .u8 23), .lit (.int .u8 21), .lit (.int .u8 19), .lit (.int .u8 16), .lit (.int .u8 7), .lit (.int .u8 26), .lit (.int .u8 12), .lit (.int .u8 18), .lit (.int .u8 6), .lit (.int .u8 11), .lit (.int .u8 5), .lit (.int .u8 10), .lit (.int .u8 9)]
def laid_math_bits_deBruijn64tab {H : Type} : DataW H := .agg [.lit (.int .u8 0), .lit (.int .u8 1), .lit (.int .u8 56), .lit (.int .u8 2), .lit (.int .u8 57), .lit (.int .u8 49), .lit (.int .u8 28), .lit (.int .u8 3), .lit (.int .u8 61), .lit (.int .u8 58), .lit (.int .u8 42), .lit (.int .u8 50), .lit (.int .u8 38), .lit (.int .u8 29), .lit (.int .u8 17), .lit (.int .u8 4), .lit (.int .u8 62), .lit (.int .u8 47), .lit (.int .u8 59), .lit (.int .u8 36), .lit (.int .u8 45), .lit (.int .u8 43), .lit (.int .u8 51), .lit (.int .u8 22), .lit (.int .u8 53), .lit (.int .u8 39), .lit (.int .u8 33), .lit (.int .u8 30), .lit (.int .u8 24), .lit (.int .u8 18), .lit (.int .u8 12), .lit (.int .u8 5), .lit (.int .u8 63), .lit (.int .u8 55), .lit (.int .u8 48), .lit (.int .u8 27), .lit (.int .u8 60), .lit (.int .u8 41), .lit (.int .u8 37), .lit (.int .u8 16), .lit (.int .u8 46), .lit (.int .u8 35), .lit (.int .u8 44), .lit (.int .u8 21), .lit (.int .u8 52), .lit (.int .u8 32), .lit (.int .u8 23), .lit (.int .u8 11), .lit (.int .u8 54), .lit (.int .u8 26), .lit (.int .u8 40), .lit (.int .u8 15), .lit (.int .u8 34), .lit (.int .u8 20), .lit (.int .u8 31), .lit (.int .u8 10), .lit (.int .u8 25), .lit (.int .u8 14), .lit (.int .u8 19), .lit (.int .u8 9), .lit (.int .u8 13), .lit (.int .u8 8), .lit (.int .u8 7), .lit (.int .u8 6)]
def laid_internal_strconv_uint64pow10 {H : Type} : DataW H := .agg [.lit (.int .u64 1), .lit (.int .u64 10), .lit (.int .u64 100), .lit (.int .u64 1000), .lit (.int .u64 10000), .lit (.int .u64 100000), .lit (.int .u64 1000000), .lit (.int .u64 10000000), .lit (.int .u64 100000000), .lit (.int .u64 1000000000), .lit (.int .u64 10000000000), .lit (.int .u64 100000000000), .lit (.int .u64 1000000000000), .lit (.int .u64 10000000000000), .lit (.int .u64 100000000000000), .lit (.int .u64 1000000000000000), .lit (.int .u64 10000000000000000), .lit (.int .u64 100000000000000000), .lit (.int .u64 1000000000000000000), .lit (.int .u64 10000000000000000000)]

/-- 'laws.FnMakeDict': WHATEVER THE INPUT: true; the input reads as it did. -/
def fnMakeDictSpec : ChangeSpec := { name := "fnMakeDict", fn := fun _ => fun
  | [d1, d2] => { results := [.lit (.bool true)], args := [d1, d2] }
  | _ => none }
def fnMakeDictRow : OpenClaim := { program := "ytlpfgiegapelmaadoor", sum := "58c6e31453b3375e9619693d89c22ad95c1675684f1e57ee70b252605bc63765", func := "loop.example/instancesearch/laws.FnMakeDict", spec := "fnMakeDict", inPlace := ["internal/bytealg.IndexByteString", "internal/abi.NoEscape", "internal/bytealg.MakeNoZero"], unfollowed := true, recurses := true, named := ["internal/strconv.uint64pow10", "math/bits.deBruijn32tab", "math/bits.deBruijn64tab"], apart := false, laid := [("math/bits.deBruijn32tab", laid_math_bits_deBruijn32tab), ("math/bits.deBruijn64tab", laid_math_bits_deBruijn64tab), ("internal/strconv.uint64pow10", laid_internal_strconv_uint64pow10)] }
def FnMakeDictSaid : Prop := fnMakeDictRow.holds Tryd.pinned (OpenSpec.ofChange fnMakeDictSpec)

/-- ITS FALSE NEIGHBOUR: 'it returns false'. Refute it at one input. -/
def fnMakeDictWrong : ChangeSpec := { name := "fnMakeDict", fn := fun _ => fun
  | [d1, d2] => { results := [.lit (.bool false)], args := [d1, d2] }
  | _ => none }
def FnMakeDictWrongFalsely : Prop := fnMakeDictRow.holds Tryd.pinned (OpenSpec.ofChange fnMakeDictWrong)

/-- 'laws.FnTexts': WHATEVER THE INPUT: true; the input reads as it did. -/
def fnTextsSpec : ChangeSpec := { name := "fnTexts", fn := fun _ => fun
  | [d1, d2] => { results := [.lit (.bool true)], args := [d1, d2] }
  | _ => none }
def fnTextsRow : OpenClaim := { program := "ytlpfgiegapelmaadoor", sum := "58c6e31453b3375e9619693d89c22ad95c1675684f1e57ee70b252605bc63765", func := "loop.example/instancesearch/laws.FnTexts", spec := "fnTexts", inPlace := ["internal/abi.NoEscape", "internal/bytealg.MakeNoZero"], recurses := true, named := ["internal/strconv.uint64pow10", "math/bits.deBruijn32tab", "math/bits.deBruijn64tab"], apart := false, laid := [("math/bits.deBruijn32tab", laid_math_bits_deBruijn32tab), ("math/bits.deBruijn64tab", laid_math_bits_deBruijn64tab), ("internal/strconv.uint64pow10", laid_internal_strconv_uint64pow10)] }
def FnTextsSaid : Prop := fnTextsRow.holds Tryd.pinned (OpenSpec.ofChange fnTextsSpec)

/-- ITS FALSE NEIGHBOUR: 'it returns false'. Refute it at one input. -/
def fnTextsWrong : ChangeSpec := { name := "fnTexts", fn := fun _ => fun
  | [d1, d2] => { results := [.lit (.bool false)], args := [d1, d2] }
  | _ => none }
def FnTextsWrongFalsely : Prop := fnTextsRow.holds Tryd.pinned (OpenSpec.ofChange fnTextsWrong)

/-- 'laws.FnExactFormatGaps': WHATEVER THE INPUT: true; the input reads as it did. -/
def fnExactFormatGapsSpec : ChangeSpec := { name := "fnExactFormatGaps", fn := fun _ => fun
  | [d] => { results := [.lit (.bool true)], args := [d] }
  | _ => none }
def fnExactFormatGapsRow : OpenClaim := { program := "ytlpfgiegapelmaadoor", sum := "58c6e31453b3375e9619693d89c22ad95c1675684f1e57ee70b252605bc63765", func := "loop.example/instancesearch/laws.FnExactFormatGaps", spec := "fnExactFormatGaps", inPlace := ["internal/abi.NoEscape", "internal/bytealg.MakeNoZero"], recurses := true, named := ["internal/strconv.uint64pow10", "math/bits.deBruijn32tab", "math/bits.deBruijn64tab"], apart := false, laid := [("math/bits.deBruijn32tab", laid_math_bits_deBruijn32tab), ("math/bits.deBruijn64tab", laid_math_bits_deBruijn64tab), ("internal/strconv.uint64pow10", laid_internal_strconv_uint64pow10)] }
def FnExactFormatGapsSaid : Prop := fnExactFormatGapsRow.holds Tryd.pinned (OpenSpec.ofChange fnExactFormatGapsSpec)

/-- ITS FALSE NEIGHBOUR: 'it returns false'. Refute it at one input. -/
def fnExactFormatGapsWrong : ChangeSpec := { name := "fnExactFormatGaps", fn := fun _ => fun
  | [d] => { results := [.lit (.bool false)], args := [d] }
  | _ => none }
def FnExactFormatGapsWrongFalsely : Prop := fnExactFormatGapsRow.holds Tryd.pinned (OpenSpec.ofChange fnExactFormatGapsWrong)

/-- 'laws.FnExactDictValid': WHATEVER THE INPUT: true; the input reads as it did. -/
def fnExactDictValidSpec : ChangeSpec := { name := "fnExactDictValid", fn := fun _ => fun
  | [d] => { results := [.lit (.bool true)], args := [d] }
  | _ => none }
def fnExactDictValidRow : OpenClaim := { program := "ytlpfgiegapelmaadoor", sum := "58c6e31453b3375e9619693d89c22ad95c1675684f1e57ee70b252605bc63765", func := "loop.example/instancesearch/laws.FnExactDictValid", spec := "fnExactDictValid", inPlace := ["internal/bytealg.IndexByteString", "internal/abi.NoEscape", "internal/bytealg.MakeNoZero"], unfollowed := true, recurses := true, named := ["internal/strconv.uint64pow10", "math/bits.deBruijn32tab", "math/bits.deBruijn64tab"], apart := false, laid := [("math/bits.deBruijn32tab", laid_math_bits_deBruijn32tab), ("math/bits.deBruijn64tab", laid_math_bits_deBruijn64tab), ("internal/strconv.uint64pow10", laid_internal_strconv_uint64pow10)] }
def FnExactDictValidSaid : Prop := fnExactDictValidRow.holds Tryd.pinned (OpenSpec.ofChange fnExactDictValidSpec)

/-- ITS FALSE NEIGHBOUR: 'it returns false'. Refute it at one input. -/
def fnExactDictValidWrong : ChangeSpec := { name := "fnExactDictValid", fn := fun _ => fun
  | [d] => { results := [.lit (.bool false)], args := [d] }
  | _ => none }
def FnExactDictValidWrongFalsely : Prop := fnExactDictValidRow.holds Tryd.pinned (OpenSpec.ofChange fnExactDictValidWrong)

/-- 'laws.FnExactInstanceOf': WHATEVER THE INPUT: true; the input reads as it did. -/
def fnExactInstanceOfSpec : ChangeSpec := { name := "fnExactInstanceOf", fn := fun _ => fun
  | [d] => { results := [.lit (.bool true)], args := [d] }
  | _ => none }
def fnExactInstanceOfRow : OpenClaim := { program := "ytlpfgiegapelmaadoor", sum := "58c6e31453b3375e9619693d89c22ad95c1675684f1e57ee70b252605bc63765", func := "loop.example/instancesearch/laws.FnExactInstanceOf", spec := "fnExactInstanceOf", inPlace := ["internal/bytealg.IndexByteString", "internal/abi.NoEscape", "internal/bytealg.MakeNoZero"], unfollowed := true, recurses := true, named := ["internal/strconv.uint64pow10", "math/bits.deBruijn32tab", "math/bits.deBruijn64tab"], apart := false, laid := [("math/bits.deBruijn32tab", laid_math_bits_deBruijn32tab), ("math/bits.deBruijn64tab", laid_math_bits_deBruijn64tab), ("internal/strconv.uint64pow10", laid_internal_strconv_uint64pow10)] }
def FnExactInstanceOfSaid : Prop := fnExactInstanceOfRow.holds Tryd.pinned (OpenSpec.ofChange fnExactInstanceOfSpec)

/-- ITS FALSE NEIGHBOUR: 'it returns false'. Refute it at one input. -/
def fnExactInstanceOfWrong : ChangeSpec := { name := "fnExactInstanceOf", fn := fun _ => fun
  | [d] => { results := [.lit (.bool false)], args := [d] }
  | _ => none }
def FnExactInstanceOfWrongFalsely : Prop := fnExactInstanceOfRow.holds Tryd.pinned (OpenSpec.ofChange fnExactInstanceOfWrong)

/-- 'laws.FnExactPartsOfDict': WHATEVER THE INPUT: true; the input reads as it did. -/
def fnExactPartsOfDictSpec : ChangeSpec := { name := "fnExactPartsOfDict", fn := fun _ => fun
  | [d] => { results := [.lit (.bool true)], args := [d] }
  | _ => none }
def fnExactPartsOfDictRow : OpenClaim := { program := "ytlpfgiegapelmaadoor", sum := "58c6e31453b3375e9619693d89c22ad95c1675684f1e57ee70b252605bc63765", func := "loop.example/instancesearch/laws.FnExactPartsOfDict", spec := "fnExactPartsOfDict", inPlace := ["internal/bytealg.IndexByteString", "internal/abi.NoEscape", "internal/bytealg.MakeNoZero"], unfollowed := true, recurses := true, named := ["internal/strconv.uint64pow10", "math/bits.deBruijn32tab", "math/bits.deBruijn64tab"], apart := false, laid := [("math/bits.deBruijn32tab", laid_math_bits_deBruijn32tab), ("math/bits.deBruijn64tab", laid_math_bits_deBruijn64tab), ("internal/strconv.uint64pow10", laid_internal_strconv_uint64pow10)] }
def FnExactPartsOfDictSaid : Prop := fnExactPartsOfDictRow.holds Tryd.pinned (OpenSpec.ofChange fnExactPartsOfDictSpec)

/-- ITS FALSE NEIGHBOUR: 'it returns false'. Refute it at one input. -/
def fnExactPartsOfDictWrong : ChangeSpec := { name := "fnExactPartsOfDict", fn := fun _ => fun
  | [d] => { results := [.lit (.bool false)], args := [d] }
  | _ => none }
def FnExactPartsOfDictWrongFalsely : Prop := fnExactPartsOfDictRow.holds Tryd.pinned (OpenSpec.ofChange fnExactPartsOfDictWrong)

/-- 'laws.FnExactMakeDict': WHATEVER THE INPUT: true; the input reads as it did. -/
def fnExactMakeDictSpec : ChangeSpec := { name := "fnExactMakeDict", fn := fun _ => fun
  | [d1, d2] => { results := [.lit (.bool true)], args := [d1, d2] }
  | _ => none }
def fnExactMakeDictRow : OpenClaim := { program := "ytlpfgiegapelmaadoor", sum := "58c6e31453b3375e9619693d89c22ad95c1675684f1e57ee70b252605bc63765", func := "loop.example/instancesearch/laws.FnExactMakeDict", spec := "fnExactMakeDict", inPlace := ["internal/bytealg.IndexByteString", "internal/abi.NoEscape", "internal/bytealg.MakeNoZero"], unfollowed := true, recurses := true, named := ["internal/strconv.uint64pow10", "math/bits.deBruijn32tab", "math/bits.deBruijn64tab"], apart := false, laid := [("math/bits.deBruijn32tab", laid_math_bits_deBruijn32tab), ("math/bits.deBruijn64tab", laid_math_bits_deBruijn64tab), ("internal/strconv.uint64pow10", laid_internal_strconv_uint64pow10)] }
def FnExactMakeDictSaid : Prop := fnExactMakeDictRow.holds Tryd.pinned (OpenSpec.ofChange fnExactMakeDictSpec)

/-- ITS FALSE NEIGHBOUR: 'it returns false'. Refute it at one input. -/
def fnExactMakeDictWrong : ChangeSpec := { name := "fnExactMakeDict", fn := fun _ => fun
  | [d1, d2] => { results := [.lit (.bool false)], args := [d1, d2] }
  | _ => none }
def FnExactMakeDictWrongFalsely : Prop := fnExactMakeDictRow.holds Tryd.pinned (OpenSpec.ofChange fnExactMakeDictWrong)

/-- 'laws.FnExactSizeOfDict': WHATEVER THE INPUT: true; the input reads as it did. -/
def fnExactSizeOfDictSpec : ChangeSpec := { name := "fnExactSizeOfDict", fn := fun _ => fun
  | [d] => { results := [.lit (.bool true)], args := [d] }
  | _ => none }
def fnExactSizeOfDictRow : OpenClaim := { program := "ytlpfgiegapelmaadoor", sum := "58c6e31453b3375e9619693d89c22ad95c1675684f1e57ee70b252605bc63765", func := "loop.example/instancesearch/laws.FnExactSizeOfDict", spec := "fnExactSizeOfDict", inPlace := ["internal/bytealg.IndexByteString", "internal/abi.NoEscape", "internal/bytealg.MakeNoZero"], unfollowed := true, recurses := true, named := ["internal/strconv.uint64pow10", "math/bits.deBruijn32tab", "math/bits.deBruijn64tab"], apart := false, laid := [("math/bits.deBruijn32tab", laid_math_bits_deBruijn32tab), ("math/bits.deBruijn64tab", laid_math_bits_deBruijn64tab), ("internal/strconv.uint64pow10", laid_internal_strconv_uint64pow10)] }
def FnExactSizeOfDictSaid : Prop := fnExactSizeOfDictRow.holds Tryd.pinned (OpenSpec.ofChange fnExactSizeOfDictSpec)

/-- ITS FALSE NEIGHBOUR: 'it returns false'. Refute it at one input. -/
def fnExactSizeOfDictWrong : ChangeSpec := { name := "fnExactSizeOfDict", fn := fun _ => fun
  | [d] => { results := [.lit (.bool false)], args := [d] }
  | _ => none }
def FnExactSizeOfDictWrongFalsely : Prop := fnExactSizeOfDictRow.holds Tryd.pinned (OpenSpec.ofChange fnExactSizeOfDictWrong)

/-- 'laws.FnExactDepthOfDict': WHATEVER THE INPUT: true; the input reads as it did. -/
def fnExactDepthOfDictSpec : ChangeSpec := { name := "fnExactDepthOfDict", fn := fun _ => fun
  | [d] => { results := [.lit (.bool true)], args := [d] }
  | _ => none }
def fnExactDepthOfDictRow : OpenClaim := { program := "ytlpfgiegapelmaadoor", sum := "58c6e31453b3375e9619693d89c22ad95c1675684f1e57ee70b252605bc63765", func := "loop.example/instancesearch/laws.FnExactDepthOfDict", spec := "fnExactDepthOfDict", inPlace := ["internal/bytealg.IndexByteString", "internal/abi.NoEscape", "internal/bytealg.MakeNoZero"], unfollowed := true, recurses := true, named := ["internal/strconv.uint64pow10", "math/bits.deBruijn32tab", "math/bits.deBruijn64tab"], apart := false, laid := [("math/bits.deBruijn32tab", laid_math_bits_deBruijn32tab), ("math/bits.deBruijn64tab", laid_math_bits_deBruijn64tab), ("internal/strconv.uint64pow10", laid_internal_strconv_uint64pow10)] }
def FnExactDepthOfDictSaid : Prop := fnExactDepthOfDictRow.holds Tryd.pinned (OpenSpec.ofChange fnExactDepthOfDictSpec)

/-- ITS FALSE NEIGHBOUR: 'it returns false'. Refute it at one input. -/
def fnExactDepthOfDictWrong : ChangeSpec := { name := "fnExactDepthOfDict", fn := fun _ => fun
  | [d] => { results := [.lit (.bool false)], args := [d] }
  | _ => none }
def FnExactDepthOfDictWrongFalsely : Prop := fnExactDepthOfDictRow.holds Tryd.pinned (OpenSpec.ofChange fnExactDepthOfDictWrong)

/-- 'laws.FnExactInstancesIn': WHATEVER THE INPUT: true; the input reads as it did. -/
def fnExactInstancesInSpec : ChangeSpec := { name := "fnExactInstancesIn", fn := fun _ => fun
  | [d] => { results := [.lit (.bool true)], args := [d] }
  | _ => none }
def fnExactInstancesInRow : OpenClaim := { program := "ytlpfgiegapelmaadoor", sum := "58c6e31453b3375e9619693d89c22ad95c1675684f1e57ee70b252605bc63765", func := "loop.example/instancesearch/laws.FnExactInstancesIn", spec := "fnExactInstancesIn", inPlace := ["internal/bytealg.IndexByteString", "internal/abi.NoEscape", "internal/bytealg.MakeNoZero"], unfollowed := true, recurses := true, named := ["internal/strconv.uint64pow10", "math/bits.deBruijn32tab", "math/bits.deBruijn64tab"], apart := false, laid := [("math/bits.deBruijn32tab", laid_math_bits_deBruijn32tab), ("math/bits.deBruijn64tab", laid_math_bits_deBruijn64tab), ("internal/strconv.uint64pow10", laid_internal_strconv_uint64pow10)] }
def FnExactInstancesInSaid : Prop := fnExactInstancesInRow.holds Tryd.pinned (OpenSpec.ofChange fnExactInstancesInSpec)

/-- ITS FALSE NEIGHBOUR: 'it returns false'. Refute it at one input. -/
def fnExactInstancesInWrong : ChangeSpec := { name := "fnExactInstancesIn", fn := fun _ => fun
  | [d] => { results := [.lit (.bool false)], args := [d] }
  | _ => none }
def FnExactInstancesInWrongFalsely : Prop := fnExactInstancesInRow.holds Tryd.pinned (OpenSpec.ofChange fnExactInstancesInWrong)

/- THE SECOND FORM. 'bulk': how many values and letters a reading holds, each counted each time it is reached (what is shared counts as often as it is met; a slice's spare places count too). A statement '..UptoSaid' is the law's where the arguments, and the package variables that the reading takes, are together of bulk at most 1048576: NARROWER than '..Said'. Prove '..Said' where nothing that the law and all that it calls make is longer than what came in: it says more and counts as full. Else prove '..UptoSaid'. A law counts once. -/
mutual
def uptoBulk {H : Type} : DataW H → Nat
  | .lit (.string bytes) => bytes.length + 1
  | .lit _ => 1
  | .nil => 1
  | .ptr d => uptoBulk d + 1
  | .slice elems spare => uptoBulkAll elems + uptoBulkAll spare + 1
  | .agg parts => uptoBulkAll parts + 1
  | .iface _ d => uptoBulk d + 1
  | .map entries => uptoBulkEntries entries + 1
  | .held _ => 1
def uptoBulkAll {H : Type} : List (DataW H) → Nat
  | [] => 0
  | d :: r => uptoBulk d + uptoBulkAll r
def uptoBulkEntries {H : Type} : List (Lit × DataW H) → Nat
  | [] => 0
  | x :: r => uptoBulkEntry x + uptoBulkEntries r
def uptoBulkEntry {H : Type} : Lit × DataW H → Nat
  | (.string bytes, d) => bytes.length + uptoBulk d + 1
  | (_, d) => uptoBulk d + 1
 end
def uptoSmall : (H : Type) → List (DataW H) → Bool := fun _ ds => decide (uptoBulkAll ds ≤ 1048576)
def OpenSpec.upto (s : _root_.Go.ChangeSpec) : _root_.Go.OpenSpec := { _root_.Go.OpenSpec.ofChange s with cond := some uptoSmall }

/-- 'laws.FnMakeDict', WHERE WHAT IT READS IS OF BULK AT MOST 1048576: true; the input reads as it did. -/
def fnMakeDictUptoRow : OpenClaim := { program := "ytlpfgiegapelmaadoor", sum := "58c6e31453b3375e9619693d89c22ad95c1675684f1e57ee70b252605bc63765", func := "loop.example/instancesearch/laws.FnMakeDict", spec := "fnMakeDict", inPlace := ["internal/bytealg.IndexByteString", "internal/abi.NoEscape", "internal/bytealg.MakeNoZero"], unfollowed := true, recurses := true, named := ["internal/strconv.uint64pow10", "math/bits.deBruijn32tab", "math/bits.deBruijn64tab"], apart := false, laid := [("math/bits.deBruijn32tab", laid_math_bits_deBruijn32tab), ("math/bits.deBruijn64tab", laid_math_bits_deBruijn64tab), ("internal/strconv.uint64pow10", laid_internal_strconv_uint64pow10)], narrowed := true }
def FnMakeDictUptoSaid : Prop := fnMakeDictUptoRow.holds Tryd.pinned (OpenSpec.upto fnMakeDictSpec)

/-- 'laws.FnTexts', WHERE WHAT IT READS IS OF BULK AT MOST 1048576: true; the input reads as it did. -/
def fnTextsUptoRow : OpenClaim := { program := "ytlpfgiegapelmaadoor", sum := "58c6e31453b3375e9619693d89c22ad95c1675684f1e57ee70b252605bc63765", func := "loop.example/instancesearch/laws.FnTexts", spec := "fnTexts", inPlace := ["internal/abi.NoEscape", "internal/bytealg.MakeNoZero"], recurses := true, named := ["internal/strconv.uint64pow10", "math/bits.deBruijn32tab", "math/bits.deBruijn64tab"], apart := false, laid := [("math/bits.deBruijn32tab", laid_math_bits_deBruijn32tab), ("math/bits.deBruijn64tab", laid_math_bits_deBruijn64tab), ("internal/strconv.uint64pow10", laid_internal_strconv_uint64pow10)], narrowed := true }
def FnTextsUptoSaid : Prop := fnTextsUptoRow.holds Tryd.pinned (OpenSpec.upto fnTextsSpec)

/-- 'laws.FnExactFormatGaps', WHERE WHAT IT READS IS OF BULK AT MOST 1048576: true; the input reads as it did. -/
def fnExactFormatGapsUptoRow : OpenClaim := { program := "ytlpfgiegapelmaadoor", sum := "58c6e31453b3375e9619693d89c22ad95c1675684f1e57ee70b252605bc63765", func := "loop.example/instancesearch/laws.FnExactFormatGaps", spec := "fnExactFormatGaps", inPlace := ["internal/abi.NoEscape", "internal/bytealg.MakeNoZero"], recurses := true, named := ["internal/strconv.uint64pow10", "math/bits.deBruijn32tab", "math/bits.deBruijn64tab"], apart := false, laid := [("math/bits.deBruijn32tab", laid_math_bits_deBruijn32tab), ("math/bits.deBruijn64tab", laid_math_bits_deBruijn64tab), ("internal/strconv.uint64pow10", laid_internal_strconv_uint64pow10)], narrowed := true }
def FnExactFormatGapsUptoSaid : Prop := fnExactFormatGapsUptoRow.holds Tryd.pinned (OpenSpec.upto fnExactFormatGapsSpec)

/-- 'laws.FnExactDictValid', WHERE WHAT IT READS IS OF BULK AT MOST 1048576: true; the input reads as it did. -/
def fnExactDictValidUptoRow : OpenClaim := { program := "ytlpfgiegapelmaadoor", sum := "58c6e31453b3375e9619693d89c22ad95c1675684f1e57ee70b252605bc63765", func := "loop.example/instancesearch/laws.FnExactDictValid", spec := "fnExactDictValid", inPlace := ["internal/bytealg.IndexByteString", "internal/abi.NoEscape", "internal/bytealg.MakeNoZero"], unfollowed := true, recurses := true, named := ["internal/strconv.uint64pow10", "math/bits.deBruijn32tab", "math/bits.deBruijn64tab"], apart := false, laid := [("math/bits.deBruijn32tab", laid_math_bits_deBruijn32tab), ("math/bits.deBruijn64tab", laid_math_bits_deBruijn64tab), ("internal/strconv.uint64pow10", laid_internal_strconv_uint64pow10)], narrowed := true }
def FnExactDictValidUptoSaid : Prop := fnExactDictValidUptoRow.holds Tryd.pinned (OpenSpec.upto fnExactDictValidSpec)

/-- 'laws.FnExactInstanceOf', WHERE WHAT IT READS IS OF BULK AT MOST 1048576: true; the input reads as it did. -/
def fnExactInstanceOfUptoRow : OpenClaim := { program := "ytlpfgiegapelmaadoor", sum := "58c6e31453b3375e9619693d89c22ad95c1675684f1e57ee70b252605bc63765", func := "loop.example/instancesearch/laws.FnExactInstanceOf", spec := "fnExactInstanceOf", inPlace := ["internal/bytealg.IndexByteString", "internal/abi.NoEscape", "internal/bytealg.MakeNoZero"], unfollowed := true, recurses := true, named := ["internal/strconv.uint64pow10", "math/bits.deBruijn32tab", "math/bits.deBruijn64tab"], apart := false, laid := [("math/bits.deBruijn32tab", laid_math_bits_deBruijn32tab), ("math/bits.deBruijn64tab", laid_math_bits_deBruijn64tab), ("internal/strconv.uint64pow10", laid_internal_strconv_uint64pow10)], narrowed := true }
def FnExactInstanceOfUptoSaid : Prop := fnExactInstanceOfUptoRow.holds Tryd.pinned (OpenSpec.upto fnExactInstanceOfSpec)

/-- 'laws.FnExactPartsOfDict', WHERE WHAT IT READS IS OF BULK AT MOST 1048576: true; the input reads as it did. -/
def fnExactPartsOfDictUptoRow : OpenClaim := { program := "ytlpfgiegapelmaadoor", sum := "58c6e31453b3375e9619693d89c22ad95c1675684f1e57ee70b252605bc63765", func := "loop.example/instancesearch/laws.FnExactPartsOfDict", spec := "fnExactPartsOfDict", inPlace := ["internal/bytealg.IndexByteString", "internal/abi.NoEscape", "internal/bytealg.MakeNoZero"], unfollowed := true, recurses := true, named := ["internal/strconv.uint64pow10", "math/bits.deBruijn32tab", "math/bits.deBruijn64tab"], apart := false, laid := [("math/bits.deBruijn32tab", laid_math_bits_deBruijn32tab), ("math/bits.deBruijn64tab", laid_math_bits_deBruijn64tab), ("internal/strconv.uint64pow10", laid_internal_strconv_uint64pow10)], narrowed := true }
def FnExactPartsOfDictUptoSaid : Prop := fnExactPartsOfDictUptoRow.holds Tryd.pinned (OpenSpec.upto fnExactPartsOfDictSpec)

/-- 'laws.FnExactMakeDict', WHERE WHAT IT READS IS OF BULK AT MOST 1048576: true; the input reads as it did. -/
def fnExactMakeDictUptoRow : OpenClaim := { program := "ytlpfgiegapelmaadoor", sum := "58c6e31453b3375e9619693d89c22ad95c1675684f1e57ee70b252605bc63765", func := "loop.example/instancesearch/laws.FnExactMakeDict", spec := "fnExactMakeDict", inPlace := ["internal/bytealg.IndexByteString", "internal/abi.NoEscape", "internal/bytealg.MakeNoZero"], unfollowed := true, recurses := true, named := ["internal/strconv.uint64pow10", "math/bits.deBruijn32tab", "math/bits.deBruijn64tab"], apart := false, laid := [("math/bits.deBruijn32tab", laid_math_bits_deBruijn32tab), ("math/bits.deBruijn64tab", laid_math_bits_deBruijn64tab), ("internal/strconv.uint64pow10", laid_internal_strconv_uint64pow10)], narrowed := true }
def FnExactMakeDictUptoSaid : Prop := fnExactMakeDictUptoRow.holds Tryd.pinned (OpenSpec.upto fnExactMakeDictSpec)

/-- 'laws.FnExactSizeOfDict', WHERE WHAT IT READS IS OF BULK AT MOST 1048576: true; the input reads as it did. -/
def fnExactSizeOfDictUptoRow : OpenClaim := { program := "ytlpfgiegapelmaadoor", sum := "58c6e31453b3375e9619693d89c22ad95c1675684f1e57ee70b252605bc63765", func := "loop.example/instancesearch/laws.FnExactSizeOfDict", spec := "fnExactSizeOfDict", inPlace := ["internal/bytealg.IndexByteString", "internal/abi.NoEscape", "internal/bytealg.MakeNoZero"], unfollowed := true, recurses := true, named := ["internal/strconv.uint64pow10", "math/bits.deBruijn32tab", "math/bits.deBruijn64tab"], apart := false, laid := [("math/bits.deBruijn32tab", laid_math_bits_deBruijn32tab), ("math/bits.deBruijn64tab", laid_math_bits_deBruijn64tab), ("internal/strconv.uint64pow10", laid_internal_strconv_uint64pow10)], narrowed := true }
def FnExactSizeOfDictUptoSaid : Prop := fnExactSizeOfDictUptoRow.holds Tryd.pinned (OpenSpec.upto fnExactSizeOfDictSpec)

/-- 'laws.FnExactDepthOfDict', WHERE WHAT IT READS IS OF BULK AT MOST 1048576: true; the input reads as it did. -/
def fnExactDepthOfDictUptoRow : OpenClaim := { program := "ytlpfgiegapelmaadoor", sum := "58c6e31453b3375e9619693d89c22ad95c1675684f1e57ee70b252605bc63765", func := "loop.example/instancesearch/laws.FnExactDepthOfDict", spec := "fnExactDepthOfDict", inPlace := ["internal/bytealg.IndexByteString", "internal/abi.NoEscape", "internal/bytealg.MakeNoZero"], unfollowed := true, recurses := true, named := ["internal/strconv.uint64pow10", "math/bits.deBruijn32tab", "math/bits.deBruijn64tab"], apart := false, laid := [("math/bits.deBruijn32tab", laid_math_bits_deBruijn32tab), ("math/bits.deBruijn64tab", laid_math_bits_deBruijn64tab), ("internal/strconv.uint64pow10", laid_internal_strconv_uint64pow10)], narrowed := true }
def FnExactDepthOfDictUptoSaid : Prop := fnExactDepthOfDictUptoRow.holds Tryd.pinned (OpenSpec.upto fnExactDepthOfDictSpec)

/-- 'laws.FnExactInstancesIn', WHERE WHAT IT READS IS OF BULK AT MOST 1048576: true; the input reads as it did. -/
def fnExactInstancesInUptoRow : OpenClaim := { program := "ytlpfgiegapelmaadoor", sum := "58c6e31453b3375e9619693d89c22ad95c1675684f1e57ee70b252605bc63765", func := "loop.example/instancesearch/laws.FnExactInstancesIn", spec := "fnExactInstancesIn", inPlace := ["internal/bytealg.IndexByteString", "internal/abi.NoEscape", "internal/bytealg.MakeNoZero"], unfollowed := true, recurses := true, named := ["internal/strconv.uint64pow10", "math/bits.deBruijn32tab", "math/bits.deBruijn64tab"], apart := false, laid := [("math/bits.deBruijn32tab", laid_math_bits_deBruijn32tab), ("math/bits.deBruijn64tab", laid_math_bits_deBruijn64tab), ("internal/strconv.uint64pow10", laid_internal_strconv_uint64pow10)], narrowed := true }
def FnExactInstancesInUptoSaid : Prop := fnExactInstancesInUptoRow.holds Tryd.pinned (OpenSpec.upto fnExactInstancesInSpec)

end Rows
end Go.Proofs.YtlpfgiegapelmaaDoor
