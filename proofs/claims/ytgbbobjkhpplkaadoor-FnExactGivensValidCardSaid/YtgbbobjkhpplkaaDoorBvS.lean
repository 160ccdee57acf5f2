/- Whether bindings are valid, in the model. -/
import Derived.Test.YtgbbobjkhpplkaaDoorBvI
import Derived.Test.YtgbbobjkhpplkaaDoorRen
import Derived.Deep.RegionWith
import Derived.Deep.RegionHeld3
import Derived.BigQuiet
import Derived.Laws.Cover1
namespace Go.Proofs.YtgbbobjkhpplkaaDoor
open Go.RowKit

theorem blk_cells2 {w : World} {b : Nat} {h p : Value} {T : TypeId} (e : w.heap[b]? = some (.cells #[h, p] T (0, 0))) : w.cell? ⟨b, 0, none⟩ = some h ∧ w.cell? ⟨b, 1, none⟩ = some p := by
  constructor
  · unfold World.cell?; rw [show w.heap[(⟨b, 0, none⟩ : Addr).block]? = _ from e]; rfl
  · unfold World.cell?; rw [show w.heap[(⟨b, 1, none⟩ : Addr).block]? = _ from e]; rfl
/-- A quiet walk behind a letter: Lean must not unfold what is left of the region. -/
theorem quiet_by {P : Program} {ops : Array Oper} {C : World → Prop} {Q : Act → Prop} {l : List Oper} {a : Act}
    (h : ∀ W : List Oper → Act → Prop, (∀ a, Q a → W [] a) →
      (∀ o rest a, Region.wanted o (yielded ops a.tmps) = true → (∃ v, (∀ w, C w → o.quietAt P a C w v) ∧ W rest (a.put o.dst v)) → W (o :: rest) a) →
      (∀ o rest a, Region.wanted o (yielded ops a.tmps) = false → W rest (a.put o.dst undef) → W (o :: rest) a) → W l a) : wpQuiet P ops C Q l a :=
  h (wpQuiet P ops C Q) (fun _ h => wpQuiet_nil h) (fun _ _ _ hw ⟨v, h1, h2⟩ => BigFrame.wpQuiet_want hw fun _ hK => ⟨v, h1, hK _ h2⟩) (fun _ _ _ hw h => BigFrame.wpQuiet_skip hw h)
theorem less_one (a b : UInt8) : Op.bytesLess [a] [b] = decide (a < b) := by
  simp [Op.bytesLess]
theorem var_pos (d : UInt8) (h : isVarB d = true) : (0 : UInt8) < d := by
  revert h
  refine u8_all (p := fun d => isVarB d = true → (0 : UInt8) < d) ?_ d
  decide +kernel
theorem one_list {x : ByteArray} (h : x.size = 1) : ∃ d, x.data.toList = [d] ∧ ∀ (hz : 0 < x.size), x[0] = d := by
  have hl : x.data.toList.length = 1 := by simpa using h
  match hx : x.data.toList, hl with
  | [d], _ =>
    refine ⟨d, rfl, fun hz => ?_⟩
    have e : x.data.toList[0]? = some d := by rw [hx]; rfl
    have e2 : x.data.toList[0]? = some x[0] := by
      rw [List.getElem?_eq_getElem (by simpa using hz)]
      rfl
    rw [e2] at e
    injection e

end Go.Proofs.YtgbbobjkhpplkaaDoor
