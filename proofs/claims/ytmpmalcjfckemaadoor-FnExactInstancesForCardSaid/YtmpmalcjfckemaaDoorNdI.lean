/- FormatNeed and FormatInstance in the program. -/
import Derived.Test.YtmpmalcjfckemaaDoorNdW
import Derived.Test.YtmpmalcjfckemaaDoorJoin
import Derived.Test.YtmpmalcjfckemaaDoorFmtI
import Derived.OwnWalk
namespace Go.Proofs.YtmpmalcjfckemaaDoor
open Go.RowKit

theorem own_keep {w w' : World} {base : Nat} {e : TypeId} {size : Nat} {v : Value} {n : Nat} {xs : List Value} (h : w.ownsRow base e size v n xs) (hk : ∀ g, v.ownBlock = some g → w'.heap[g]? = w.heap[g]?) : w'.ownsRow base e size v n xs := by
  refine ⟨h.1, ?_⟩
  rcases h.2 with h' | ⟨g, cap, cur, rfl, hb, hg, r⟩
  · exact .inl h'
  · exact .inr ⟨g, cap, cur, rfl, hb, (hk g rfl).trans hg, r⟩
theorem ndt_cat (x y : ByteArray) : x ++ ({ data := #[32] } : ByteArray) ++ y = strOf (ndt (x, y)) := strOf_eq (by simp [ByteArray.data_append, ndt])

end Go.Proofs.YtmpmalcjfckemaaDoor
