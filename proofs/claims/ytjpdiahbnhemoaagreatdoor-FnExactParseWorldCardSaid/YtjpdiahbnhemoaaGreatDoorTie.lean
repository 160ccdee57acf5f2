/-
  DERIVED. GIVEN WITH THE SEED: THE PROGRAM's TIES (one call each: nine closed facts by the kernel) AND EACH ROW's TIE, after the 31st guide's Derived/Test/Toyas{Tie, Card}.lean. No idea stands in it: it is a product of the set-up. Laid BY PROGRAM, IN A SANDBOX (cutbox-door.mjs). By AI agents, Wed Nov 11 2026. No macro, syntax, notation, axiom, sorry.
-/
import Derived.Test.YtjpdiahbnhemoaaGreatDoorRows
import Derived.LaidByTextLater
import Derived.SevenTiedAt
import Derived.LaidSub
import Derived.LaidOnce
namespace Go.Proofs.YtjpdiahbnhemoaaGreatDoor
open Go
set_option maxRecDepth 100000
theorem seatTie1 : Tryz.prog.laidByTextLater [("loop.example/instancesearch/impl.errCount", Rows.laid_loop_example_instancesearch_impl_errCount), ("loop.example/instancesearch/impl.errName", Rows.laid_loop_example_instancesearch_impl_errName), ("loop.example/instancesearch/impl.errSupers", Rows.laid_loop_example_instancesearch_impl_errSupers), ("loop.example/instancesearch/impl.errClass", Rows.laid_loop_example_instancesearch_impl_errClass), ("loop.example/instancesearch/impl.errType", Rows.laid_loop_example_instancesearch_impl_errType), ("loop.example/instancesearch/impl.errHead", Rows.laid_loop_example_instancesearch_impl_errHead), ("loop.example/instancesearch/impl.errVars", Rows.laid_loop_example_instancesearch_impl_errVars), ("loop.example/instancesearch/impl.errText", Rows.laid_loop_example_instancesearch_impl_errText)] [.sentinel, .sentinel, .sentinel, .sentinel, .sentinel, .sentinel, .sentinel, .sentinel] true :=
  Program.laidByTextLater_by_one 161 8 2 (by kernel_rfl) (by kernel_rfl) (by kernel_rfl) (by kernel_rfl) (by kernel_rfl) (by kernel_rfl) (fun _ _ => by kernel_rfl)
theorem noOwnUnsafe : Tryz.pinned.checked.prog.headLifts.contains "ownunsafe" = false := by kernel_rfl
theorem tie : Tryz.prog.laidByTextLater [("loop.example/instancesearch/impl.errCount", Rows.laid_loop_example_instancesearch_impl_errCount), ("loop.example/instancesearch/impl.errName", Rows.laid_loop_example_instancesearch_impl_errName), ("loop.example/instancesearch/impl.errSupers", Rows.laid_loop_example_instancesearch_impl_errSupers), ("loop.example/instancesearch/impl.errClass", Rows.laid_loop_example_instancesearch_impl_errClass), ("loop.example/instancesearch/impl.errType", Rows.laid_loop_example_instancesearch_impl_errType), ("loop.example/instancesearch/impl.errHead", Rows.laid_loop_example_instancesearch_impl_errHead), ("loop.example/instancesearch/impl.errVars", Rows.laid_loop_example_instancesearch_impl_errVars), ("loop.example/instancesearch/impl.errText", Rows.laid_loop_example_instancesearch_impl_errText)] [.sentinel, .sentinel, .sentinel, .sentinel, .sentinel, .sentinel, .sentinel, .sentinel] true :=
  Program.laidByTextLater.sub seatTie1 ["loop.example/instancesearch/impl.errCount", "loop.example/instancesearch/impl.errName", "loop.example/instancesearch/impl.errSupers", "loop.example/instancesearch/impl.errClass", "loop.example/instancesearch/impl.errType", "loop.example/instancesearch/impl.errHead", "loop.example/instancesearch/impl.errVars", "loop.example/instancesearch/impl.errText"] (by kernel_rfl) (by kernel_rfl)
theorem fnExactParseWorld_row_tie : Rows.fnExactParseWorldRow.laidByTextAt .later Tryz.pinned [.sentinel, .sentinel, .sentinel, .sentinel, .sentinel, .sentinel, .sentinel, .sentinel] true :=
  OpenClaim.laidByTextAt_later rfl rfl tie noOwnUnsafe
theorem fnExactParseWorldUpto_row_tie : Rows.fnExactParseWorldUptoRow.laidByTextAt .later Tryz.pinned [.sentinel, .sentinel, .sentinel, .sentinel, .sentinel, .sentinel, .sentinel, .sentinel] true :=
  OpenClaim.laidByTextAt_later rfl rfl tie noOwnUnsafe
end Go.Proofs.YtjpdiahbnhemoaaGreatDoor
