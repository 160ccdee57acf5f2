/- DepthOf, in the program and in the model. -/
import Derived.Test.YteimmgajohimlaaGreatPartsI
namespace Go.Proofs.YteimmgajohimlaaGreat
open Go.RowKit

/-- A type's depth; -1 for what is none. -/
def depthOf' (l : List UInt8) : Int := match tyOf l with | some t => (t.depth : Nat) | none => -1
theorem tyOf_depth {l : List UInt8} {t : Ty} (h : tyOf l = some t) : t.depth ≤ 60 := Nat.le_trans (depth_size t) (tyOf_size h)

end Go.Proofs.YteimmgajohimlaaGreat
