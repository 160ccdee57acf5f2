/- What the door lays, for what reads and checks worlds: the program's errors are errors. -/
import Derived.Test.YtjpdiahbnhemoaaGreatDoorPwK
import Derived.Test.YtjpdiahbnhemoaaGreatDoorDoor
namespace Go.Proofs.YtjpdiahbnhemoaaGreatDoor
open Go Go.RowKit Go.ChangeShapes

theorem errs_PErrs {W : World} (h : laidMetH Tryz.prog [("loop.example/instancesearch/impl.errCount", Rows.laid_loop_example_instancesearch_impl_errCount), ("loop.example/instancesearch/impl.errName", Rows.laid_loop_example_instancesearch_impl_errName), ("loop.example/instancesearch/impl.errSupers", Rows.laid_loop_example_instancesearch_impl_errSupers), ("loop.example/instancesearch/impl.errClass", Rows.laid_loop_example_instancesearch_impl_errClass), ("loop.example/instancesearch/impl.errType", Rows.laid_loop_example_instancesearch_impl_errType), ("loop.example/instancesearch/impl.errHead", Rows.laid_loop_example_instancesearch_impl_errHead), ("loop.example/instancesearch/impl.errVars", Rows.laid_loop_example_instancesearch_impl_errVars), ("loop.example/instancesearch/impl.errText", Rows.laid_loop_example_instancesearch_impl_errText)] W) : PErrs W := by
  rw [MakeChecks.laidMetH_plain _ _ _ (by kernel_rfl)] at h
  obtain ⟨h1, h⟩ := err_of_laid (g := 1) h (by kernel_rfl) (by kernel_rfl)
  obtain ⟨h2, h⟩ := err_of_laid (g := 4) h (by kernel_rfl) (by kernel_rfl)
  obtain ⟨h3, h⟩ := err_of_laid (g := 2) h (by kernel_rfl) (by kernel_rfl)
  obtain ⟨h4, h⟩ := err_of_laid (g := 6) h (by kernel_rfl) (by kernel_rfl)
  obtain ⟨h5, h⟩ := err_of_laid (g := 5) h (by kernel_rfl) (by kernel_rfl)
  obtain ⟨h6, h⟩ := err_of_laid (g := 3) h (by kernel_rfl) (by kernel_rfl)
  obtain ⟨h7, h⟩ := err_of_laid (g := 7) h (by kernel_rfl) (by kernel_rfl)
  obtain ⟨h8, h⟩ := err_of_laid (g := 0) h (by kernel_rfl) (by kernel_rfl)
  exact ⟨⟨h1, h2, h3, h4, h5, h6, h7⟩, h8⟩

end Go.Proofs.YtjpdiahbnhemoaaGreatDoor
