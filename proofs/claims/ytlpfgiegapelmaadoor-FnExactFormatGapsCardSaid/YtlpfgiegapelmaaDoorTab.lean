/- What the door lays for texts of numbers: the library's table of powers of ten. -/
import Derived.Test.YtlpfgiegapelmaaDoorFnu
import Derived.Test.YtlpfgiegapelmaaDoorRows
import Derived.Test.YtlpfgiegapelmaaDoorDoor
import Derived.Lib.LaidTab
import Derived.MakeChecks
namespace Go.Proofs.YtlpfgiegapelmaaDoor
open Go Go.RowKit Go.ChangeShapes

theorem errs_PTab {W : World} (h : laidMetH Tryd.prog [("math/bits.deBruijn32tab", Rows.laid_math_bits_deBruijn32tab), ("math/bits.deBruijn64tab", Rows.laid_math_bits_deBruijn64tab), ("internal/strconv.uint64pow10", Rows.laid_internal_strconv_uint64pow10)] W) : PTab W := by
  rw [MakeChecks.laidMetH_plain _ _ _ (by kernel_rfl)] at h
  exact Lib.tabIs_of_head (n := 20) gPow (by kernel_rfl) Tryd.underlying122 Tryd.underlying113 (by kernel_rfl) (by kernel_rfl) h.tail.tail
theorem i64_of_wf {x : Int} (h : (Lit.int .i64 x).wf = true) : -9223372036854775808 ≤ x ∧ x ≤ 9223372036854775807 := by
  simp [Lit.wf, IntKind.min, IntKind.max, IntKind.bits, IntKind.signed] at h
  omega

end Go.Proofs.YtlpfgiegapelmaaDoor
