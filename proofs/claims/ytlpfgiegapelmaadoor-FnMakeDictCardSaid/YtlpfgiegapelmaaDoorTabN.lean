/- The door's tables are not looked at. -/
import Derived.Test.YtlpfgiegapelmaaDoorRows
import Derived.Test.YtlpfgiegapelmaaDoorArgsB
namespace Go.Proofs.YtlpfgiegapelmaaDoor
open Go Go.RowKit

def NoneW (_ : World) : Prop := True
theorem errs_NoneW {W : World} {P : Program} {l : List (String × DataW Unit)} (_ : laidMetH P l W) : NoneW W := trivial

end Go.Proofs.YtlpfgiegapelmaaDoor
