/- What the door lays: the program's errors are errors; named variables read again. -/
import Derived.Test.YtlpfgiegapelmaaDoorCh5
import Derived.Test.YtlpfgiegapelmaaDoorRows
import Derived.Stop.LaidErr
import Derived.MakeChecks
import Derived.OpenVars
namespace Go.Proofs.YtlpfgiegapelmaaDoor
open Go Go.RowKit Go.ChangeShapes

theorem trodVars_len {H : Type} {enc : TypeId × Value → H} {P : Program} {w : World} {sp : Nat → Bool} : ∀ {ns : List String} {gs : List (DataW H)} {ps : List MemPlace}, DataW.TrodVars enc P w sp ns gs ps → gs.length = ns.length
  | [], [], _, _ => rfl
  | [], _ :: _, _, h => h.elim
  | _ :: _, [], _, h => h.elim
  | _ :: ns, _ :: gs, _, h => by
    obtain ⟨_, _, _, _, _, _, _, _, _, _, h', _⟩ := h
    rw [List.length_cons, List.length_cons, trodVars_len h']

end Go.Proofs.YtlpfgiegapelmaaDoor
