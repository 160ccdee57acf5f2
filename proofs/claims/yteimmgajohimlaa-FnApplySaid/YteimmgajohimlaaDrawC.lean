/- More draws: the arguments of CountVar and MakeType. -/
import Derived.Test.YteimmgajohimlaaDrawB
import Derived.Test.YteimmgajohimlaaParts
import Derived.Test.YteimmgajohimlaaFmtI
import Derived.OwnWalk
namespace Go.Proofs.Yteimmgajohimlaa
open Go.RowKit

theorem own_made {w : World} {base n : Nat} {v : Value} {xs : List ByteArray} (h : w.ownsRow base 9 1 v n (xs.map Value.string)) : ∃ B c, v = .slice B n c ∧ n ≤ c ∧ Strs w B n xs := by
  have hl : xs.length = n := by simpa using h.1
  by_cases h0 : n = 0
  · subst h0
    obtain ⟨_, ⟨rfl, _⟩ | ⟨g, cap, cur, rfl, _⟩⟩ := h
    · exact ⟨none, 0, rfl, Nat.le_refl _, hl, fun h => absurd h (Nat.lt_irrefl 0)⟩
    · exact ⟨_, cap, rfl, Nat.zero_le _, hl, fun h => absurd h (Nat.lt_irrefl 0)⟩
  · obtain ⟨g, cap, rfl, _, hg, hc, hcell⟩ := own_row h (by omega)
    refine ⟨_, cap, rfl, hc, hl, fun _ => ⟨g, 0, rfl, hg, fun j x hj => ?_⟩⟩
    rw [Nat.zero_add]
    exact hcell j _ (by rw [List.getElem?_map, hj]; rfl)

end Go.Proofs.Yteimmgajohimlaa
