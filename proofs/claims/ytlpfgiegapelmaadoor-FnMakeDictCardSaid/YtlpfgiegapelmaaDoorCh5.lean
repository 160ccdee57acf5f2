/- Whether classes, needs, instances, worlds are valid, in the program. Whether needs and instances are valid, in the program. Whether the needs of an instance are valid, in the program. Whether instances and classes are valid, in the program. Whether worlds are valid, in the program: World.check, WorldValid, InstanceValid, HasClass. -/
import Derived.Test.YtlpfgiegapelmaaDoorJn
import Derived.Test.YtlpfgiegapelmaaDoorLoose
namespace Go.Proofs.YtlpfgiegapelmaaDoor
open Go.RowKit

/-- A variable of the program holds an error. -/
def ErrAt (w : World) (k : Nat) : Prop := ∃ t a, w.cell? ⟨k, 0, none⟩ = some (.iface t (.pointer (some a))) ∧ k < w.heap.size
theorem ErrAt.below {w w' : World} {k : Nat} (h : ErrAt w k) (hb : Below w.heap.size w w') : ErrAt w' k := by
  obtain ⟨t, a, hc, hk⟩ := h
  exact ⟨t, a, cell_below hc hk hb, Nat.lt_of_lt_of_le hk hb.size⟩
theorem bel_und {w w' : World} (h : Below w.drew.heap.size w.drew w') : Below w.heap.size w w' := ⟨h.os, h.tape, h.output, h.size, h.block⟩
/-- An error unless all is well. -/
def errIf (b : Bool) (v : Value) : Value := match b with | true => .nilIface | false => v
theorem errIf_is {v : Value} (h : IsErr v true) (b : Bool) : IsErr (errIf b v) (!b) := by
  cases b
  · exact h
  · exact IsErr.nil
end Go.Proofs.YtlpfgiegapelmaaDoor

namespace Go.Proofs.YtlpfgiegapelmaaDoor
open Go.RowKit

end Go.Proofs.YtlpfgiegapelmaaDoor

namespace Go.Proofs.YtlpfgiegapelmaaDoor
open Go.RowKit

theorem IsErr.form {v : Value} {b : Bool} (h : IsErr v b) : v = .nilIface ∨ ∃ t a, v = .iface t (.pointer (Option.some a)) := by
  rcases h with ⟨_, h⟩ | ⟨_, h⟩
  · exact .inl h
  · exact .inr h
/-- What holds for each need of an instance of a type. -/
def needOk (zs : List (ByteArray × ByteArray)) (t : ByteArray) (n : ByteArray × ByteArray) : Bool := ndOk zs n && inB (varsOf n.2.data.toList) (varsOf t.data.toList)
theorem all_snoc {α : Type} {l : List α} {k : Nat} {z : α} {p : α → Bool} (h : l[k]? = some z) : (l.take (k + 1)).all p = ((l.take k).all p && p z) := by
  rw [List.take_add_one, h, List.all_append]
  simp

end Go.Proofs.YtlpfgiegapelmaaDoor

namespace Go.Proofs.YtlpfgiegapelmaaDoor
open Go.RowKit

theorem insOk_needs (zs : List (ByteArray × ByteArray)) (x t : ByteArray) (ns : List (ByteArray × ByteArray)) : insOk zs ⟨x, t, ns⟩ = (ndOk zs (x, t) && (!bareB t && (decide (ns.length ≤ 3) && ns.all (needOk zs t)))) := rfl
theorem bareB_var {t : ByteArray} {c : UInt8} (h : t.data.toList = [c]) : bareB t = isVarB c := by unfold bareB; rw [h]
theorem bareB_not {t : ByteArray} (h : ∀ c, t.data.toList = [c] → isVarB c = true → False) : bareB t = false := by
  unfold bareB
  split
  · rename_i c e
    exact Bool.eq_false_iff.2 fun hv => h c e hv
  · rfl

end Go.Proofs.YtlpfgiegapelmaaDoor

namespace Go.Proofs.YtlpfgiegapelmaaDoor
open Go.RowKit

theorem IsErr.false {v : Value} (h : IsErr v Bool.false) : v = .nilIface := by
  rcases h with ⟨_, h⟩ | ⟨h, _⟩
  · exact h
  · cases h
theorem IsErr.true {v : Value} (h : IsErr v Bool.true) : ∃ t a, v = .iface t (.pointer (Option.some a)) := by
  rcases h with ⟨h, _⟩ | ⟨_, h⟩
  · cases h
  · exact h

end Go.Proofs.YtlpfgiegapelmaaDoor
