/- What the door lays, for what reads: the program's errors of reading are errors. -/
import Derived.Test.YtmbfahpljgdeaaaDoorRdW
import Derived.Test.YtmbfahpljgdeaaaDoorDoor
namespace Go.Proofs.YtmbfahpljgdeaaaDoor
open Go Go.RowKit Go.ChangeShapes

theorem errs_TErrs {W : World} (h : laidMetH Tryd.prog [("loop.example/instancesearch/impl.errName", Rows.laid_loop_example_instancesearch_impl_errName), ("loop.example/instancesearch/impl.errType", Rows.laid_loop_example_instancesearch_impl_errType), ("loop.example/instancesearch/impl.errText", Rows.laid_loop_example_instancesearch_impl_errText)] W) : TErrs W := by
  rw [MakeChecks.laidMetH_plain _ _ _ (by kernel_rfl)] at h
  obtain ⟨h1, h⟩ := err_of_laid (g := 2) h (by kernel_rfl) (by kernel_rfl)
  obtain ⟨h2, h⟩ := err_of_laid (g := 4) h (by kernel_rfl) (by kernel_rfl)
  obtain ⟨h3, h⟩ := err_of_laid (g := 3) h (by kernel_rfl) (by kernel_rfl)
  exact ⟨h1, h2, h3⟩

end Go.Proofs.YtmbfahpljgdeaaaDoor
