/- RenameType, in the program and in the model. -/
import Derived.Test.YtmpmalcjfckemaaDoorRenI
import Derived.Test.YtmpmalcjfckemaaDoorVars
import Derived.Laws.IdiomStrings
namespace Go.Proofs.YtmpmalcjfckemaaDoor
open Go.RowKit

/-- A renamed type's text. -/
def renOf (l : List UInt8) : List UInt8 := if (tyOf l).isSome = true then l.map capB else []

theorem conv_one (w : World) (c : UInt8) : (convert 107 9 (.slice (some ⟨w.heap.size, 0, none⟩) 1 1)).run Tryd.prog (w.alloc (.cells #[.int .u8 c.toNat] 5)) = .ok (.string (strOf [c])) (w.alloc (.cells #[.int .u8 c.toNat] 5)) := by
  refine run_convert_bytes_back _ _ _ 5 ⟨w.heap.size, 0, none⟩ 1 [c] Tryd.underlying107 Tryd.underlying5 Tryd.underlying9 (fun j hj => ?_)
  have e : j = 0 := by simp at hj; omega
  subst e
  exact cell_new1 _ _ _

end Go.Proofs.YtmpmalcjfckemaaDoor
