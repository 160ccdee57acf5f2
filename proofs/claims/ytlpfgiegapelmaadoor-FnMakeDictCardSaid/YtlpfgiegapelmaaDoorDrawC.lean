/- More draws: the arguments of CountVar and MakeType. -/
import Derived.Test.YtlpfgiegapelmaaDoorDrawB
import Derived.Test.YtlpfgiegapelmaaDoorParts
import Derived.Test.YtlpfgiegapelmaaDoorNdI
import Derived.OwnWalk
namespace Go.Proofs.YtlpfgiegapelmaaDoor
open Go.RowKit

set_option maxHeartbeats 400000 in
set_option maxRecDepth 100000 in
/-- A number of a list. -/
theorem num_any (rb P g o n cap : Nat) (xs : List Int) (w : World) (hr : Rdr w rb P) (hP : P ≤ 1099511627776) (hx : ∀ (j : Nat) x, xs[j]? = some x → w.cell? ⟨g, o + j, none⟩ = some (.int .i64 x)) (hn1 : n = xs.length) (hn : 0 < n) (hn2 : n ≤ 1000) (hg : g < w.heap.size) (hg2 : g ≠ rb) :
    Calls Tryd.prog 58 #[.pointer (some ⟨rb, 0, none⟩), .slice (some ⟨g, o, none⟩) n cap] w fun e w' => ∃ x, x ∈ xs ∧ e = .returned (.int .i64 x) ∧ Gave rb P 1 w w' := by
  have HX := hid hx
  have HN := hid hn1
  clear hx hn1
  go_enter Tryd.func58, Tryd.ntmps58
  go_wp2_with fail
  refine (pick_any rb P n w hr hP (by omega) (by omega)).mono ?_
  rintro e w1 ⟨k, rfl, hk0, hk1, hG⟩
  obtain ⟨j, rfl⟩ : ∃ j : Nat, k = (j : Int) := ⟨k.toNat, by omega⟩
  have hjx : j < xs.length := by have := HN.out; omega
  have hcell : w1.cell? ⟨g, o + j, none⟩ = some (.int .i64 (xs[j]'hjx)) := by
    rw [World.cell?_of_block (w := w) (hG.2.block g hg hg2)]
    exact HX.out j _ (List.getElem?_eq_getElem hjx)
  have hmem := List.getElem_mem hjx
  obtain ⟨x, hx⟩ : ∃ x, xs[j]'hjx = x := ⟨_, rfl⟩
  rw [hx] at hcell hmem
  have HM := hid hmem
  have HG := hid hG
  clear hx hmem hG
  go_wp2_with fail
  go_ret
  exact ⟨x, HM.out, rfl, HG.out⟩

theorem own_made {w : World} {base n : Nat} {v : Value} {xs : List ByteArray} (h : w.ownsRow base 9 1 v n (xs.map Value.string)) : ∃ B c, v = .slice B n c ∧ n ≤ c ∧ Strs w B n xs := by
  have hl : xs.length = n := by simpa using h.1
  by_cases h0 : n = 0
  · subst h0
    obtain ⟨_, ⟨rfl, _⟩ | ⟨g, cap, cur, rfl, _⟩⟩ := h
    · exact ⟨none, 0, rfl, Nat.le_refl _, hl, fun h => absurd h (Nat.lt_irrefl 0)⟩
    · exact ⟨_, cap, rfl, Nat.zero_le _, hl, fun h => absurd h (Nat.lt_irrefl 0)⟩
  · obtain ⟨g, cap, rfl, _, hg, hc, hcell⟩ := own_row h (by omega)
    refine ⟨_, cap, rfl, hc, hl, fun _ => ⟨g, 0, rfl, hg, fun j x hj => ?_⟩⟩
    rw [Nat.zero_add]
    exact hcell j _ (by rw [List.getElem?_map, hj]; rfl)

end Go.Proofs.YtlpfgiegapelmaaDoor
