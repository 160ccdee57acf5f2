/-
  NARROWER THAN 'FOR EVERY INPUT', by the rows' own cells (each row's printed sentence says how): FnExactParseWorld: ifaces, laid.
  DERIVED. THE GIVEN ROWS OF THIS SEAT. 1 by the template 'for every input the law returns true; each argument reads behind the call as it read before'; 0 by the template 'total and deterministic' (their statements: YtjpdiahbnhemoaaGreatDoorTotals.lean).
  GIVEN WITH THE SEED: the statements are not yours to turn. If you find one false, say at which input.
  Laid BY PROGRAM, IN A SANDBOX (cutbox-rows.mjs): the forced cells as the released guide's own fill.sh prints them over the translation 94acabe6d3bfab8c… (all of the seat's roots in one cut). By AI agents, Wed Nov 11 2026. No macro, syntax, notation, axiom, sorry.
-/
import Derived.Test.YtjpdiahbnhemoaaGreatDoorChecked
import GoSem.Claim
import GoSem.ClaimJoined
import GoSem.ClaimMapViews
import Derived.JoinedTies
import Derived.KernelRfl
namespace Go.Proofs.YtjpdiahbnhemoaaGreatDoor
/- THE CELL 'sum', in the pinned program and in every row, IS THE sha256 OF THE DUMP (.gsa) THAT YtjpdiahbnhemoaaGreatDoorProg.lean LOADS. Nothing in Lean hashes anything: it is a label: what it is worth is what the hold of that sum in a sandbox is worth. -/
noncomputable def Tryz.pinned : Pinned := { name := "ytjpdiahbnhemoaagreatdoor", sum := "94acabe6d3bfab8c779b2260c1405fb70d86c7b6279d031289a861bd1203943a", checked := Tryz.checked }
namespace Rows
def none {H : Type} : Left H := { results := [], args := [] }

/- WHAT THE LISTED PACKAGE-LEVEL VARIABLES READ AS WHEN THE CALL BEGINS. Each datum BY PROGRAM (the guide's laid-datum.mjs) off the statement by which the dump's own 'gosem.cut.vars' lays the variable. In a bare row this is a premise. The card (YtjpdiahbnhemoaaGreatDoorCards.lean) ties it to the program's text. -/
def laid_loop_example_instancesearch_impl_errCount {H : Type} : DataW H := .iface "*errors.errorString" (.ptr (.agg [.lit (.string [116, 111, 111, 32, 109, 97, 110, 121, 32, 111, 114, 32, 116, 111, 111, 32, 102, 101, 119])]))
def laid_loop_example_instancesearch_impl_errName {H : Type} : DataW H := .iface "*errors.errorString" (.ptr (.agg [.lit (.string [110, 111, 32, 110, 97, 109, 101, 32, 111, 102, 32, 97, 32, 99, 108, 97, 115, 115, 32, 97, 116, 32, 116, 104, 105, 115, 32, 112, 108, 97, 99, 101])]))
def laid_loop_example_instancesearch_impl_errSupers {H : Type} : DataW H := .iface "*errors.errorString" (.ptr (.agg [.lit (.string [110, 111, 32, 99, 108, 97, 115, 115, 101, 115, 32, 97, 98, 111, 118, 101, 32, 97, 116, 32, 116, 104, 105, 115, 32, 112, 108, 97, 99, 101])]))
def laid_loop_example_instancesearch_impl_errClass {H : Type} : DataW H := .iface "*errors.errorString" (.ptr (.agg [.lit (.string [110, 111, 32, 99, 108, 97, 115, 115, 32, 111, 102, 32, 116, 104, 101, 32, 119, 111, 114, 108, 100])]))
def laid_loop_example_instancesearch_impl_errType {H : Type} : DataW H := .iface "*errors.errorString" (.ptr (.agg [.lit (.string [110, 111, 32, 116, 121, 112, 101, 44, 32, 111, 114, 32, 97, 32, 108, 111, 110, 103, 32, 111, 110, 101])]))
def laid_loop_example_instancesearch_impl_errHead {H : Type} : DataW H := .iface "*errors.errorString" (.ptr (.agg [.lit (.string [97, 32, 118, 97, 114, 105, 97, 98, 108, 101, 32, 104, 97, 115, 32, 110, 111, 32, 105, 110, 115, 116, 97, 110, 99, 101, 115])]))
def laid_loop_example_instancesearch_impl_errVars {H : Type} : DataW H := .iface "*errors.errorString" (.ptr (.agg [.lit (.string [97, 32, 118, 97, 114, 105, 97, 98, 108, 101, 32, 116, 104, 97, 116, 32, 116, 104, 101, 32, 105, 110, 115, 116, 97, 110, 99, 101, 32, 100, 111, 101, 115, 32, 110, 111, 116, 32, 104, 97, 118, 101])]))
def laid_loop_example_instancesearch_impl_errText {H : Type} : DataW H := .iface "*errors.errorString" (.ptr (.agg [.lit (.string [116, 104, 101, 32, 116, 101, 120, 116, 32, 100, 111, 101, 115, 32, 110, 111, 116, 32, 103, 111, 32, 111, 110, 32, 115, 111])]))

/-- 'laws.FnExactParseWorld': WHATEVER THE INPUT: true; the input reads as it did. -/
def fnExactParseWorldSpec : ChangeSpec := { name := "fnExactParseWorld", vars := ["loop.example/instancesearch/impl.errSupers", "loop.example/instancesearch/impl.errName", "loop.example/instancesearch/impl.errText", "loop.example/instancesearch/impl.errType", "loop.example/instancesearch/impl.errCount", "loop.example/instancesearch/impl.errHead", "loop.example/instancesearch/impl.errClass", "loop.example/instancesearch/impl.errVars"], fn := fun _ => fun
  | [d, g1, g2, g3, g4, g5, g6, g7, g8] => { results := [.lit (.bool true)], args := [d], vars := [g1, g2, g3, g4, g5, g6, g7, g8] }
  | _ => none }
def fnExactParseWorldRow : OpenClaim := { program := "ytjpdiahbnhemoaagreatdoor", sum := "94acabe6d3bfab8c779b2260c1405fb70d86c7b6279d031289a861bd1203943a", func := "loop.example/instancesearch/laws.FnExactParseWorld", spec := "fnExactParseWorld", inPlace := ["internal/bytealg.IndexByteString", "internal/bytealg.IndexString"], unfollowed := true, recurses := true, named := ["loop.example/instancesearch/impl.errSupers", "loop.example/instancesearch/impl.errName", "loop.example/instancesearch/impl.errText", "loop.example/instancesearch/impl.errType", "loop.example/instancesearch/impl.errCount", "loop.example/instancesearch/impl.errHead", "loop.example/instancesearch/impl.errClass", "loop.example/instancesearch/impl.errVars", "internal/bytealg.MaxLen"], ifaces := true, apart := false, laid := [("loop.example/instancesearch/impl.errCount", laid_loop_example_instancesearch_impl_errCount), ("loop.example/instancesearch/impl.errName", laid_loop_example_instancesearch_impl_errName), ("loop.example/instancesearch/impl.errSupers", laid_loop_example_instancesearch_impl_errSupers), ("loop.example/instancesearch/impl.errClass", laid_loop_example_instancesearch_impl_errClass), ("loop.example/instancesearch/impl.errType", laid_loop_example_instancesearch_impl_errType), ("loop.example/instancesearch/impl.errHead", laid_loop_example_instancesearch_impl_errHead), ("loop.example/instancesearch/impl.errVars", laid_loop_example_instancesearch_impl_errVars), ("loop.example/instancesearch/impl.errText", laid_loop_example_instancesearch_impl_errText)] }
def FnExactParseWorldSaid : Prop := fnExactParseWorldRow.holds Tryz.pinned (OpenSpec.ofChange fnExactParseWorldSpec)

/-- ITS FALSE NEIGHBOUR: 'it returns false'. Refute it at one input. -/
def fnExactParseWorldWrong : ChangeSpec := { name := "fnExactParseWorld", vars := ["loop.example/instancesearch/impl.errSupers", "loop.example/instancesearch/impl.errName", "loop.example/instancesearch/impl.errText", "loop.example/instancesearch/impl.errType", "loop.example/instancesearch/impl.errCount", "loop.example/instancesearch/impl.errHead", "loop.example/instancesearch/impl.errClass", "loop.example/instancesearch/impl.errVars"], fn := fun _ => fun
  | [d, g1, g2, g3, g4, g5, g6, g7, g8] => { results := [.lit (.bool false)], args := [d], vars := [g1, g2, g3, g4, g5, g6, g7, g8] }
  | _ => none }
def FnExactParseWorldWrongFalsely : Prop := fnExactParseWorldRow.holds Tryz.pinned (OpenSpec.ofChange fnExactParseWorldWrong)

/- THE SECOND FORM. 'bulk': how many values and letters a reading holds, each counted each time it is reached (what is shared counts as often as it is met; a slice's spare places count too). A statement '..UptoSaid' is the law's where the arguments, and the package variables that the reading takes, are together of bulk at most 1048576: NARROWER than '..Said'. Prove '..Said' where nothing that the law and all that it calls make is longer than what came in: it says more and counts as full. Else prove '..UptoSaid'. A law counts once. -/
mutual
def uptoBulk {H : Type} : DataW H → Nat
  | .lit (.string bytes) => bytes.length + 1
  | .lit _ => 1
  | .nil => 1
  | .ptr d => uptoBulk d + 1
  | .slice elems spare => uptoBulkAll elems + uptoBulkAll spare + 1
  | .agg parts => uptoBulkAll parts + 1
  | .iface _ d => uptoBulk d + 1
  | .map entries => uptoBulkEntries entries + 1
  | .held _ => 1
def uptoBulkAll {H : Type} : List (DataW H) → Nat
  | [] => 0
  | d :: r => uptoBulk d + uptoBulkAll r
def uptoBulkEntries {H : Type} : List (Lit × DataW H) → Nat
  | [] => 0
  | x :: r => uptoBulkEntry x + uptoBulkEntries r
def uptoBulkEntry {H : Type} : Lit × DataW H → Nat
  | (.string bytes, d) => bytes.length + uptoBulk d + 1
  | (_, d) => uptoBulk d + 1
 end
def uptoSmall : (H : Type) → List (DataW H) → Bool := fun _ ds => decide (uptoBulkAll ds ≤ 1048576)
def OpenSpec.upto (s : _root_.Go.ChangeSpec) : _root_.Go.OpenSpec := { _root_.Go.OpenSpec.ofChange s with cond := some uptoSmall }

/-- 'laws.FnExactParseWorld', WHERE WHAT IT READS IS OF BULK AT MOST 1048576: true; the input reads as it did. -/
def fnExactParseWorldUptoRow : OpenClaim := { program := "ytjpdiahbnhemoaagreatdoor", sum := "94acabe6d3bfab8c779b2260c1405fb70d86c7b6279d031289a861bd1203943a", func := "loop.example/instancesearch/laws.FnExactParseWorld", spec := "fnExactParseWorld", inPlace := ["internal/bytealg.IndexByteString", "internal/bytealg.IndexString"], unfollowed := true, recurses := true, named := ["loop.example/instancesearch/impl.errSupers", "loop.example/instancesearch/impl.errName", "loop.example/instancesearch/impl.errText", "loop.example/instancesearch/impl.errType", "loop.example/instancesearch/impl.errCount", "loop.example/instancesearch/impl.errHead", "loop.example/instancesearch/impl.errClass", "loop.example/instancesearch/impl.errVars", "internal/bytealg.MaxLen"], ifaces := true, apart := false, laid := [("loop.example/instancesearch/impl.errCount", laid_loop_example_instancesearch_impl_errCount), ("loop.example/instancesearch/impl.errName", laid_loop_example_instancesearch_impl_errName), ("loop.example/instancesearch/impl.errSupers", laid_loop_example_instancesearch_impl_errSupers), ("loop.example/instancesearch/impl.errClass", laid_loop_example_instancesearch_impl_errClass), ("loop.example/instancesearch/impl.errType", laid_loop_example_instancesearch_impl_errType), ("loop.example/instancesearch/impl.errHead", laid_loop_example_instancesearch_impl_errHead), ("loop.example/instancesearch/impl.errVars", laid_loop_example_instancesearch_impl_errVars), ("loop.example/instancesearch/impl.errText", laid_loop_example_instancesearch_impl_errText)], narrowed := true }
def FnExactParseWorldUptoSaid : Prop := fnExactParseWorldUptoRow.holds Tryz.pinned (OpenSpec.upto fnExactParseWorldSpec)

end Rows
end Go.Proofs.YtjpdiahbnhemoaaGreatDoor
