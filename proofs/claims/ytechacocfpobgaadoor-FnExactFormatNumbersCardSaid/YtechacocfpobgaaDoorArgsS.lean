/- The exact laws' own helpers over an argument of strings: szStringS, toStringS. -/
import Derived.Test.YtechacocfpobgaaDoorPartsS
import Derived.Deep.OwnRows
import Derived.SliceStrings
namespace Go.Proofs.YtechacocfpobgaaDoor
open Go.RowKit

/-- An argument of strings, opened. -/
theorem strs_of {w : World} {a : Addr} {len : Nat} {ss : List ByteArray} (hl : len ≤ ss.length) (hcell : ∀ i, i < ss.length → w.cell? (a.add i) = some (.string (ss.getD i ByteArray.empty))) : Strs w (some a) len (ss.take len) := by
  refine ⟨by simp [hl], fun hn => ?_⟩
  have h0 := hcell 0 (by omega)
  have e0 : a.add 0 = a := by simp [Addr.add]
  rw [e0] at h0
  obtain ⟨b, o, sp⟩ := a
  have hsp : sp = none := by
    unfold World.cell? at h0
    split at h0
    · cases sp with
      | none => rfl
      | some k => simp at h0
    · cases h0
  subst hsp
  have hb : b < w.heap.size := by
    unfold World.cell? at h0
    split at h0
    · rename_i c _ _ hh
      exact (Array.getElem?_eq_some_iff.1 hh).1
    · cases h0
  refine ⟨b, o, rfl, hb, fun j x hj => ?_⟩
  have hjl : j < len := by
    have := (List.getElem?_eq_some_iff.1 hj).1
    simp at this
    omega
  have hc := hcell j (by omega)
  have ea : (⟨b, o, none⟩ : Addr).add j = ⟨b, o + j, none⟩ := by
    unfold Addr.add
    split
    · rename_i h
      subst h
      rfl
    · rfl
  rw [ea] at hc
  rw [hc]
  rw [List.getElem?_take_of_lt hjl] at hj
  simp [List.getD, hj]

end Go.Proofs.YtechacocfpobgaaDoor
