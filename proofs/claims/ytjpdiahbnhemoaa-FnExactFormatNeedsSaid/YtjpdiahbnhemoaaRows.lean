/-
  No cell of these rows narrows 'for every input' (looked for: loops, veiled, ifaces, maps, wideKeys, modest, calm, conditions, laid).
  DERIVED. THE GIVEN ROWS OF THIS SEAT. 7 by the template 'for every input the law returns true; each argument reads behind the call as it read before'; 0 by the template 'total and deterministic' (their statements: YtjpdiahbnhemoaaTotals.lean).
  GIVEN WITH THE SEED: the statements are not yours to turn. If you find one false, say at which input.
  Laid BY PROGRAM, IN A SANDBOX (cutbox-rows.mjs): the forced cells as the released guide's own fill.sh prints them over the translation edde36c4fb5a6351… (all of the seat's roots in one cut). By AI agents, Wed Nov 11 2026. No macro, syntax, notation, axiom, sorry.
-/
import Derived.Test.YtjpdiahbnhemoaaChecked
import GoSem.Claim
import GoSem.ClaimJoined
import GoSem.ClaimMapViews
import Derived.JoinedTies
import Derived.KernelRfl
namespace Go.Proofs.Ytjpdiahbnhemoaa
/- THE CELL 'sum', in the pinned program and in every row, IS THE sha256 OF THE DUMP (.gsa) THAT YtjpdiahbnhemoaaProg.lean LOADS. Nothing in Lean hashes anything: it is a label: what it is worth is what the hold of that sum in a sandbox is worth. -/
noncomputable def Try.pinned : Pinned := { name := "ytjpdiahbnhemoaa", sum := "edde36c4fb5a635186706a909ad67f52e9c366b45a919e4bb8e3cb535bd4e014", checked := Try.checked }
namespace Rows
def none {H : Type} : Left H := { results := [], args := [] }

/-- 'laws.FnExactUnifyTypes': WHATEVER THE INPUT: true; the input reads as it did. -/
def fnExactUnifyTypesSpec : ChangeSpec := { name := "fnExactUnifyTypes", fn := fun _ => fun
  | [d1, d2] => { results := [.lit (.bool true)], args := [d1, d2] }
  | _ => none }
def fnExactUnifyTypesRow : OpenClaim := { program := "ytjpdiahbnhemoaa", sum := "edde36c4fb5a635186706a909ad67f52e9c366b45a919e4bb8e3cb535bd4e014", func := "loop.example/instancesearch/laws.FnExactUnifyTypes", spec := "fnExactUnifyTypes", inPlace := ["internal/bytealg.IndexByteString", "internal/bytealg.abigen_runtime_cmpstring"], unfollowed := true, recurses := true, apart := false }
def FnExactUnifyTypesSaid : Prop := fnExactUnifyTypesRow.holds Try.pinned (OpenSpec.ofChange fnExactUnifyTypesSpec)

/-- ITS FALSE NEIGHBOUR: 'it returns false'. Refute it at one input. -/
def fnExactUnifyTypesWrong : ChangeSpec := { name := "fnExactUnifyTypes", fn := fun _ => fun
  | [d1, d2] => { results := [.lit (.bool false)], args := [d1, d2] }
  | _ => none }
def FnExactUnifyTypesWrongFalsely : Prop := fnExactUnifyTypesRow.holds Try.pinned (OpenSpec.ofChange fnExactUnifyTypesWrong)

/-- 'laws.FnExactAreApart': WHATEVER THE INPUT: true; the input reads as it did. -/
def fnExactAreApartSpec : ChangeSpec := { name := "fnExactAreApart", fn := fun _ => fun
  | [d1, d2] => { results := [.lit (.bool true)], args := [d1, d2] }
  | _ => none }
def fnExactAreApartRow : OpenClaim := { program := "ytjpdiahbnhemoaa", sum := "edde36c4fb5a635186706a909ad67f52e9c366b45a919e4bb8e3cb535bd4e014", func := "loop.example/instancesearch/laws.FnExactAreApart", spec := "fnExactAreApart", inPlace := ["internal/bytealg.IndexByteString"], unfollowed := true, recurses := true, apart := false }
def FnExactAreApartSaid : Prop := fnExactAreApartRow.holds Try.pinned (OpenSpec.ofChange fnExactAreApartSpec)

/-- ITS FALSE NEIGHBOUR: 'it returns false'. Refute it at one input. -/
def fnExactAreApartWrong : ChangeSpec := { name := "fnExactAreApart", fn := fun _ => fun
  | [d1, d2] => { results := [.lit (.bool false)], args := [d1, d2] }
  | _ => none }
def FnExactAreApartWrongFalsely : Prop := fnExactAreApartRow.holds Try.pinned (OpenSpec.ofChange fnExactAreApartWrong)

/-- 'laws.FnExactIsInstance': WHATEVER THE INPUT: true; the input reads as it did. -/
def fnExactIsInstanceSpec : ChangeSpec := { name := "fnExactIsInstance", fn := fun _ => fun
  | [d1, d2] => { results := [.lit (.bool true)], args := [d1, d2] }
  | _ => none }
def fnExactIsInstanceRow : OpenClaim := { program := "ytjpdiahbnhemoaa", sum := "edde36c4fb5a635186706a909ad67f52e9c366b45a919e4bb8e3cb535bd4e014", func := "loop.example/instancesearch/laws.FnExactIsInstance", spec := "fnExactIsInstance", inPlace := ["internal/bytealg.IndexByteString", "internal/bytealg.abigen_runtime_cmpstring"], unfollowed := true, recurses := true, apart := false }
def FnExactIsInstanceSaid : Prop := fnExactIsInstanceRow.holds Try.pinned (OpenSpec.ofChange fnExactIsInstanceSpec)

/-- ITS FALSE NEIGHBOUR: 'it returns false'. Refute it at one input. -/
def fnExactIsInstanceWrong : ChangeSpec := { name := "fnExactIsInstance", fn := fun _ => fun
  | [d1, d2] => { results := [.lit (.bool false)], args := [d1, d2] }
  | _ => none }
def FnExactIsInstanceWrongFalsely : Prop := fnExactIsInstanceRow.holds Try.pinned (OpenSpec.ofChange fnExactIsInstanceWrong)

/-- 'laws.FnExactFormatBindings': WHATEVER THE INPUT: true; the input reads as it did. -/
def fnExactFormatBindingsSpec : ChangeSpec := { name := "fnExactFormatBindings", fn := fun _ => fun
  | [d] => { results := [.lit (.bool true)], args := [d] }
  | _ => none }
def fnExactFormatBindingsRow : OpenClaim := { program := "ytjpdiahbnhemoaa", sum := "edde36c4fb5a635186706a909ad67f52e9c366b45a919e4bb8e3cb535bd4e014", func := "loop.example/instancesearch/laws.FnExactFormatBindings", spec := "fnExactFormatBindings", inPlace := ["internal/abi.NoEscape", "internal/bytealg.MakeNoZero"], apart := false }
def FnExactFormatBindingsSaid : Prop := fnExactFormatBindingsRow.holds Try.pinned (OpenSpec.ofChange fnExactFormatBindingsSpec)

/-- ITS FALSE NEIGHBOUR: 'it returns false'. Refute it at one input. -/
def fnExactFormatBindingsWrong : ChangeSpec := { name := "fnExactFormatBindings", fn := fun _ => fun
  | [d] => { results := [.lit (.bool false)], args := [d] }
  | _ => none }
def FnExactFormatBindingsWrongFalsely : Prop := fnExactFormatBindingsRow.holds Try.pinned (OpenSpec.ofChange fnExactFormatBindingsWrong)

/-- 'laws.FnExactFormatNeed': WHATEVER THE INPUT: true; the input reads as it did. -/
def fnExactFormatNeedSpec : ChangeSpec := { name := "fnExactFormatNeed", fn := fun _ => fun
  | [d] => { results := [.lit (.bool true)], args := [d] }
  | _ => none }
def fnExactFormatNeedRow : OpenClaim := { program := "ytjpdiahbnhemoaa", sum := "edde36c4fb5a635186706a909ad67f52e9c366b45a919e4bb8e3cb535bd4e014", func := "loop.example/instancesearch/laws.FnExactFormatNeed", spec := "fnExactFormatNeed", apart := false }
def FnExactFormatNeedSaid : Prop := fnExactFormatNeedRow.holds Try.pinned (OpenSpec.ofChange fnExactFormatNeedSpec)

/-- ITS FALSE NEIGHBOUR: 'it returns false'. Refute it at one input. -/
def fnExactFormatNeedWrong : ChangeSpec := { name := "fnExactFormatNeed", fn := fun _ => fun
  | [d] => { results := [.lit (.bool false)], args := [d] }
  | _ => none }
def FnExactFormatNeedWrongFalsely : Prop := fnExactFormatNeedRow.holds Try.pinned (OpenSpec.ofChange fnExactFormatNeedWrong)

/-- 'laws.FnExactFormatInstance': WHATEVER THE INPUT: true; the input reads as it did. -/
def fnExactFormatInstanceSpec : ChangeSpec := { name := "fnExactFormatInstance", fn := fun _ => fun
  | [d] => { results := [.lit (.bool true)], args := [d] }
  | _ => none }
def fnExactFormatInstanceRow : OpenClaim := { program := "ytjpdiahbnhemoaa", sum := "edde36c4fb5a635186706a909ad67f52e9c366b45a919e4bb8e3cb535bd4e014", func := "loop.example/instancesearch/laws.FnExactFormatInstance", spec := "fnExactFormatInstance", inPlace := ["internal/abi.NoEscape", "internal/bytealg.MakeNoZero"], apart := false }
def FnExactFormatInstanceSaid : Prop := fnExactFormatInstanceRow.holds Try.pinned (OpenSpec.ofChange fnExactFormatInstanceSpec)

/-- ITS FALSE NEIGHBOUR: 'it returns false'. Refute it at one input. -/
def fnExactFormatInstanceWrong : ChangeSpec := { name := "fnExactFormatInstance", fn := fun _ => fun
  | [d] => { results := [.lit (.bool false)], args := [d] }
  | _ => none }
def FnExactFormatInstanceWrongFalsely : Prop := fnExactFormatInstanceRow.holds Try.pinned (OpenSpec.ofChange fnExactFormatInstanceWrong)

/-- 'laws.FnExactFormatNeeds': WHATEVER THE INPUT: true; the input reads as it did. -/
def fnExactFormatNeedsSpec : ChangeSpec := { name := "fnExactFormatNeeds", fn := fun _ => fun
  | [d] => { results := [.lit (.bool true)], args := [d] }
  | _ => none }
def fnExactFormatNeedsRow : OpenClaim := { program := "ytjpdiahbnhemoaa", sum := "edde36c4fb5a635186706a909ad67f52e9c366b45a919e4bb8e3cb535bd4e014", func := "loop.example/instancesearch/laws.FnExactFormatNeeds", spec := "fnExactFormatNeeds", inPlace := ["internal/abi.NoEscape", "internal/bytealg.MakeNoZero"], apart := false }
def FnExactFormatNeedsSaid : Prop := fnExactFormatNeedsRow.holds Try.pinned (OpenSpec.ofChange fnExactFormatNeedsSpec)

/-- ITS FALSE NEIGHBOUR: 'it returns false'. Refute it at one input. -/
def fnExactFormatNeedsWrong : ChangeSpec := { name := "fnExactFormatNeeds", fn := fun _ => fun
  | [d] => { results := [.lit (.bool false)], args := [d] }
  | _ => none }
def FnExactFormatNeedsWrongFalsely : Prop := fnExactFormatNeedsRow.holds Try.pinned (OpenSpec.ofChange fnExactFormatNeedsWrong)

/- THE SECOND FORM. 'bulk': how many values and letters a reading holds, each counted each time it is reached (what is shared counts as often as it is met; a slice's spare places count too). A statement '..UptoSaid' is the law's where the arguments, and the package variables that the reading takes, are together of bulk at most 1048576: NARROWER than '..Said'. Prove '..Said' where nothing that the law and all that it calls make is longer than what came in: it says more and counts as full. Else prove '..UptoSaid'. A law counts once. -/
mutual
def uptoBulk {H : Type} : DataW H → Nat
  | .lit (.string bytes) => bytes.length + 1
  | .lit _ => 1
  | .nil => 1
  | .ptr d => uptoBulk d + 1
  | .slice elems spare => uptoBulkAll elems + uptoBulkAll spare + 1
  | .agg parts => uptoBulkAll parts + 1
  | .iface _ d => uptoBulk d + 1
  | .map entries => uptoBulkEntries entries + 1
  | .held _ => 1
def uptoBulkAll {H : Type} : List (DataW H) → Nat
  | [] => 0
  | d :: r => uptoBulk d + uptoBulkAll r
def uptoBulkEntries {H : Type} : List (Lit × DataW H) → Nat
  | [] => 0
  | x :: r => uptoBulkEntry x + uptoBulkEntries r
def uptoBulkEntry {H : Type} : Lit × DataW H → Nat
  | (.string bytes, d) => bytes.length + uptoBulk d + 1
  | (_, d) => uptoBulk d + 1
 end
def uptoSmall : (H : Type) → List (DataW H) → Bool := fun _ ds => decide (uptoBulkAll ds ≤ 1048576)
def OpenSpec.upto (s : _root_.Go.ChangeSpec) : _root_.Go.OpenSpec := { _root_.Go.OpenSpec.ofChange s with cond := some uptoSmall }

/-- 'laws.FnExactUnifyTypes', WHERE WHAT IT READS IS OF BULK AT MOST 1048576: true; the input reads as it did. -/
def fnExactUnifyTypesUptoRow : OpenClaim := { program := "ytjpdiahbnhemoaa", sum := "edde36c4fb5a635186706a909ad67f52e9c366b45a919e4bb8e3cb535bd4e014", func := "loop.example/instancesearch/laws.FnExactUnifyTypes", spec := "fnExactUnifyTypes", inPlace := ["internal/bytealg.IndexByteString", "internal/bytealg.abigen_runtime_cmpstring"], unfollowed := true, recurses := true, apart := false, narrowed := true }
def FnExactUnifyTypesUptoSaid : Prop := fnExactUnifyTypesUptoRow.holds Try.pinned (OpenSpec.upto fnExactUnifyTypesSpec)

/-- 'laws.FnExactAreApart', WHERE WHAT IT READS IS OF BULK AT MOST 1048576: true; the input reads as it did. -/
def fnExactAreApartUptoRow : OpenClaim := { program := "ytjpdiahbnhemoaa", sum := "edde36c4fb5a635186706a909ad67f52e9c366b45a919e4bb8e3cb535bd4e014", func := "loop.example/instancesearch/laws.FnExactAreApart", spec := "fnExactAreApart", inPlace := ["internal/bytealg.IndexByteString"], unfollowed := true, recurses := true, apart := false, narrowed := true }
def FnExactAreApartUptoSaid : Prop := fnExactAreApartUptoRow.holds Try.pinned (OpenSpec.upto fnExactAreApartSpec)

/-- 'laws.FnExactIsInstance', WHERE WHAT IT READS IS OF BULK AT MOST 1048576: true; the input reads as it did. -/
def fnExactIsInstanceUptoRow : OpenClaim := { program := "ytjpdiahbnhemoaa", sum := "edde36c4fb5a635186706a909ad67f52e9c366b45a919e4bb8e3cb535bd4e014", func := "loop.example/instancesearch/laws.FnExactIsInstance", spec := "fnExactIsInstance", inPlace := ["internal/bytealg.IndexByteString", "internal/bytealg.abigen_runtime_cmpstring"], unfollowed := true, recurses := true, apart := false, narrowed := true }
def FnExactIsInstanceUptoSaid : Prop := fnExactIsInstanceUptoRow.holds Try.pinned (OpenSpec.upto fnExactIsInstanceSpec)

/-- 'laws.FnExactFormatBindings', WHERE WHAT IT READS IS OF BULK AT MOST 1048576: true; the input reads as it did. -/
def fnExactFormatBindingsUptoRow : OpenClaim := { program := "ytjpdiahbnhemoaa", sum := "edde36c4fb5a635186706a909ad67f52e9c366b45a919e4bb8e3cb535bd4e014", func := "loop.example/instancesearch/laws.FnExactFormatBindings", spec := "fnExactFormatBindings", inPlace := ["internal/abi.NoEscape", "internal/bytealg.MakeNoZero"], apart := false, narrowed := true }
def FnExactFormatBindingsUptoSaid : Prop := fnExactFormatBindingsUptoRow.holds Try.pinned (OpenSpec.upto fnExactFormatBindingsSpec)

/-- 'laws.FnExactFormatNeed', WHERE WHAT IT READS IS OF BULK AT MOST 1048576: true; the input reads as it did. -/
def fnExactFormatNeedUptoRow : OpenClaim := { program := "ytjpdiahbnhemoaa", sum := "edde36c4fb5a635186706a909ad67f52e9c366b45a919e4bb8e3cb535bd4e014", func := "loop.example/instancesearch/laws.FnExactFormatNeed", spec := "fnExactFormatNeed", apart := false, narrowed := true }
def FnExactFormatNeedUptoSaid : Prop := fnExactFormatNeedUptoRow.holds Try.pinned (OpenSpec.upto fnExactFormatNeedSpec)

/-- 'laws.FnExactFormatInstance', WHERE WHAT IT READS IS OF BULK AT MOST 1048576: true; the input reads as it did. -/
def fnExactFormatInstanceUptoRow : OpenClaim := { program := "ytjpdiahbnhemoaa", sum := "edde36c4fb5a635186706a909ad67f52e9c366b45a919e4bb8e3cb535bd4e014", func := "loop.example/instancesearch/laws.FnExactFormatInstance", spec := "fnExactFormatInstance", inPlace := ["internal/abi.NoEscape", "internal/bytealg.MakeNoZero"], apart := false, narrowed := true }
def FnExactFormatInstanceUptoSaid : Prop := fnExactFormatInstanceUptoRow.holds Try.pinned (OpenSpec.upto fnExactFormatInstanceSpec)

/-- 'laws.FnExactFormatNeeds', WHERE WHAT IT READS IS OF BULK AT MOST 1048576: true; the input reads as it did. -/
def fnExactFormatNeedsUptoRow : OpenClaim := { program := "ytjpdiahbnhemoaa", sum := "edde36c4fb5a635186706a909ad67f52e9c366b45a919e4bb8e3cb535bd4e014", func := "loop.example/instancesearch/laws.FnExactFormatNeeds", spec := "fnExactFormatNeeds", inPlace := ["internal/abi.NoEscape", "internal/bytealg.MakeNoZero"], apart := false, narrowed := true }
def FnExactFormatNeedsUptoSaid : Prop := fnExactFormatNeedsUptoRow.holds Try.pinned (OpenSpec.upto fnExactFormatNeedsSpec)

end Rows
end Go.Proofs.Ytjpdiahbnhemoaa
