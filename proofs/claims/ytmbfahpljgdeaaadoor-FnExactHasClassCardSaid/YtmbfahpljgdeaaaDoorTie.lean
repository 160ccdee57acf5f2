/-
  DERIVED. GIVEN WITH THE SEED: THE PROGRAM's TIES (one call each: nine closed facts by the kernel) AND EACH ROW's TIE, after the 31st guide's Derived/Test/Toyas{Tie, Card}.lean. No idea stands in it: it is a product of the set-up. Laid BY PROGRAM, IN A SANDBOX (cutbox-door.mjs). By AI agents, Wed Nov 11 2026. No macro, syntax, notation, axiom, sorry.
-/
import Derived.Test.YtmbfahpljgdeaaaDoorRows
import Derived.LaidByTextLater
import Derived.SevenTiedAt
import Derived.LaidSub
import Derived.LaidOnce
namespace Go.Proofs.YtmbfahpljgdeaaaDoor
open Go
set_option maxRecDepth 100000
theorem seatTie1 : Tryd.prog.laidByTextLater [("loop.example/instancesearch/impl.errCount", Rows.laid_loop_example_instancesearch_impl_errCount), ("loop.example/instancesearch/impl.errName", Rows.laid_loop_example_instancesearch_impl_errName), ("loop.example/instancesearch/impl.errSupers", Rows.laid_loop_example_instancesearch_impl_errSupers), ("loop.example/instancesearch/impl.errClass", Rows.laid_loop_example_instancesearch_impl_errClass), ("loop.example/instancesearch/impl.errType", Rows.laid_loop_example_instancesearch_impl_errType), ("loop.example/instancesearch/impl.errHead", Rows.laid_loop_example_instancesearch_impl_errHead), ("loop.example/instancesearch/impl.errVars", Rows.laid_loop_example_instancesearch_impl_errVars), ("loop.example/instancesearch/impl.errText", Rows.laid_loop_example_instancesearch_impl_errText)] [.sentinel, .sentinel, .sentinel, .sentinel, .sentinel, .sentinel, .sentinel, .sentinel] true :=
  Program.laidByTextLater_by_one 161 8 2 (by kernel_rfl) (by kernel_rfl) (by kernel_rfl) (by kernel_rfl) (by kernel_rfl) (by kernel_rfl) (fun _ _ => by kernel_rfl)
theorem noOwnUnsafe : Tryd.pinned.checked.prog.headLifts.contains "ownunsafe" = false := by kernel_rfl
theorem tie : Tryd.prog.laidByTextLater [("loop.example/instancesearch/impl.errCount", Rows.laid_loop_example_instancesearch_impl_errCount), ("loop.example/instancesearch/impl.errName", Rows.laid_loop_example_instancesearch_impl_errName), ("loop.example/instancesearch/impl.errSupers", Rows.laid_loop_example_instancesearch_impl_errSupers), ("loop.example/instancesearch/impl.errClass", Rows.laid_loop_example_instancesearch_impl_errClass), ("loop.example/instancesearch/impl.errType", Rows.laid_loop_example_instancesearch_impl_errType), ("loop.example/instancesearch/impl.errHead", Rows.laid_loop_example_instancesearch_impl_errHead), ("loop.example/instancesearch/impl.errVars", Rows.laid_loop_example_instancesearch_impl_errVars)] [.sentinel, .sentinel, .sentinel, .sentinel, .sentinel, .sentinel, .sentinel] true :=
  Program.laidByTextLater.sub seatTie1 ["loop.example/instancesearch/impl.errCount", "loop.example/instancesearch/impl.errName", "loop.example/instancesearch/impl.errSupers", "loop.example/instancesearch/impl.errClass", "loop.example/instancesearch/impl.errType", "loop.example/instancesearch/impl.errHead", "loop.example/instancesearch/impl.errVars"] (by kernel_rfl) (by kernel_rfl)
theorem fnExactWorldValid_row_tie : Rows.fnExactWorldValidRow.laidByTextAt .later Tryd.pinned [.sentinel, .sentinel, .sentinel, .sentinel, .sentinel, .sentinel, .sentinel] true :=
  OpenClaim.laidByTextAt_later rfl rfl tie noOwnUnsafe
theorem fnExactInstanceValid_row_tie : Rows.fnExactInstanceValidRow.laidByTextAt .later Tryd.pinned [.sentinel, .sentinel, .sentinel, .sentinel, .sentinel, .sentinel, .sentinel] true :=
  OpenClaim.laidByTextAt_later rfl rfl tie noOwnUnsafe
theorem fnExactFormatWorld_row_tie : Rows.fnExactFormatWorldRow.laidByTextAt .later Tryd.pinned [.sentinel, .sentinel, .sentinel, .sentinel, .sentinel, .sentinel, .sentinel] true :=
  OpenClaim.laidByTextAt_later rfl rfl tie noOwnUnsafe
theorem fnExactHasClass_row_tie : Rows.fnExactHasClassRow.laidByTextAt .later Tryd.pinned [.sentinel, .sentinel, .sentinel, .sentinel, .sentinel, .sentinel, .sentinel] true :=
  OpenClaim.laidByTextAt_later rfl rfl tie noOwnUnsafe
theorem tie2 : Tryd.prog.laidByTextLater [("loop.example/instancesearch/impl.errName", Rows.laid_loop_example_instancesearch_impl_errName), ("loop.example/instancesearch/impl.errType", Rows.laid_loop_example_instancesearch_impl_errType), ("loop.example/instancesearch/impl.errText", Rows.laid_loop_example_instancesearch_impl_errText)] [.sentinel, .sentinel, .sentinel] true :=
  Program.laidByTextLater.sub seatTie1 ["loop.example/instancesearch/impl.errName", "loop.example/instancesearch/impl.errType", "loop.example/instancesearch/impl.errText"] (by kernel_rfl) (by kernel_rfl)
theorem fnExactParseNeed_row_tie : Rows.fnExactParseNeedRow.laidByTextAt .later Tryd.pinned [.sentinel, .sentinel, .sentinel] true :=
  OpenClaim.laidByTextAt_later rfl rfl tie2 noOwnUnsafe
theorem fnExactParseInstance_row_tie : Rows.fnExactParseInstanceRow.laidByTextAt .later Tryd.pinned [.sentinel, .sentinel, .sentinel] true :=
  OpenClaim.laidByTextAt_later rfl rfl tie2 noOwnUnsafe
theorem fnExactParseNeeds_row_tie : Rows.fnExactParseNeedsRow.laidByTextAt .later Tryd.pinned [.sentinel, .sentinel, .sentinel] true :=
  OpenClaim.laidByTextAt_later rfl rfl tie2 noOwnUnsafe
theorem fnExactWorldValidUpto_row_tie : Rows.fnExactWorldValidUptoRow.laidByTextAt .later Tryd.pinned [.sentinel, .sentinel, .sentinel, .sentinel, .sentinel, .sentinel, .sentinel] true :=
  OpenClaim.laidByTextAt_later rfl rfl tie noOwnUnsafe
theorem fnExactInstanceValidUpto_row_tie : Rows.fnExactInstanceValidUptoRow.laidByTextAt .later Tryd.pinned [.sentinel, .sentinel, .sentinel, .sentinel, .sentinel, .sentinel, .sentinel] true :=
  OpenClaim.laidByTextAt_later rfl rfl tie noOwnUnsafe
theorem fnExactParseNeedUpto_row_tie : Rows.fnExactParseNeedUptoRow.laidByTextAt .later Tryd.pinned [.sentinel, .sentinel, .sentinel] true :=
  OpenClaim.laidByTextAt_later rfl rfl tie2 noOwnUnsafe
theorem fnExactParseInstanceUpto_row_tie : Rows.fnExactParseInstanceUptoRow.laidByTextAt .later Tryd.pinned [.sentinel, .sentinel, .sentinel] true :=
  OpenClaim.laidByTextAt_later rfl rfl tie2 noOwnUnsafe
theorem fnExactFormatWorldUpto_row_tie : Rows.fnExactFormatWorldUptoRow.laidByTextAt .later Tryd.pinned [.sentinel, .sentinel, .sentinel, .sentinel, .sentinel, .sentinel, .sentinel] true :=
  OpenClaim.laidByTextAt_later rfl rfl tie noOwnUnsafe
theorem fnExactHasClassUpto_row_tie : Rows.fnExactHasClassUptoRow.laidByTextAt .later Tryd.pinned [.sentinel, .sentinel, .sentinel, .sentinel, .sentinel, .sentinel, .sentinel] true :=
  OpenClaim.laidByTextAt_later rfl rfl tie noOwnUnsafe
theorem fnExactParseNeedsUpto_row_tie : Rows.fnExactParseNeedsUptoRow.laidByTextAt .later Tryd.pinned [.sentinel, .sentinel, .sentinel] true :=
  OpenClaim.laidByTextAt_later rfl rfl tie2 noOwnUnsafe
end Go.Proofs.YtmbfahpljgdeaaaDoor
