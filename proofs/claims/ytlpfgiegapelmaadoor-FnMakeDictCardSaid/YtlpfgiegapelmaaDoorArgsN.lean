/- The exact laws' own helpers over an argument of []Need: szNeedS, toNeedS, eqNeedS. -/
import Derived.Test.YtlpfgiegapelmaaDoorArgsB
import Derived.Deep.OwnRows
import Derived.Deep.SlicePairs
import Derived.Deep.RegionWith
namespace Go.Proofs.YtlpfgiegapelmaaDoor
open Go.RowKit

end Go.Proofs.YtlpfgiegapelmaaDoor
