/- The program's reader of worlds: needs, instance. -/
import Derived.Test.YtmpmalcjfckemaaDoorRdW
import Derived.Test.YtmpmalcjfckemaaDoorPrI
import Derived.Test.YtmpmalcjfckemaaDoorArgsN
import Derived.Test.YtmpmalcjfckemaaDoorArgsB
import Derived.Deep.AppendLies
import Derived.OwnWalk
namespace Go.Proofs.YtmpmalcjfckemaaDoor
open Go.RowKit
set_option linter.unusedVariables false

/-- How much is left to read. -/
def restLen (w : World) (rb : Nat) : Nat := match w.cell? ⟨rb, 0, none⟩ with
  | some (.string s) => s.size
  | _ => 0
theorem But.own {w w' : World} {rb base n : Nat} {T : TypeId} {k : Nat} {v : Value} {xs : List Value} (hb : But w.heap.size rb w w') (h : w.ownsRow base T k v n xs) (hlt : rb < base) : w'.ownsRow base T k v n xs := by
  refine h.kept (row := some rb) ⟨hb.os, hb.tape, hb.output, hb.size, fun k hk hn => hb.block k hk (fun e => hn (by rw [e]))⟩ ?_
  rcases hv : v.ownBlock with _ | g
  · exact .inl rfl
  · refine .inr fun e => ?_
    have := h.lt g hv
    simp only [Option.some.injEq] at e
    omega
theorem list_size {s : ByteArray} {l : List UInt8} (h : s.data.toList = l) : s.size = l.length := by rw [← h]; simp

end Go.Proofs.YtmpmalcjfckemaaDoor
