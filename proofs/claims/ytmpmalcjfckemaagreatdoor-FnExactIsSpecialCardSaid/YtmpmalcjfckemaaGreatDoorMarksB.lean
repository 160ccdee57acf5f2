/- Marks laid into a row of bindings that the program handed back, and read again. -/
import Derived.Test.YtmpmalcjfckemaaGreatDoorMarks
import Derived.Test.YtmpmalcjfckemaaGreatDoorArgsB
namespace Go.Proofs.YtmpmalcjfckemaaGreatDoor
open Go.RowKit

/-- The marks k, k+1, .. as pairs. -/
def marks2 (k n : Nat) : List (ByteArray × ByteArray) := (List.range n).map fun j => (strOf (mark (k + 2 * j)), strOf (mark (k + 2 * j + 1)))
theorem marks2_at (k n j : Nat) (h : j < n) : (marks2 k n)[j]? = some (strOf (mark (k + 2 * j)), strOf (mark (k + 2 * j + 1))) := by
  simp [marks2, h]

/-- Block g is a row of bindings of which the first n are zs; none of it frozen. -/
def RowPrs (w : World) (g n : Nat) (zs : List (ByteArray × ByteArray)) : Prop :=
  ∃ cur : Array Value, w.heap[g]? = some (.cells cur 176 (0, 0)) ∧ n * 2 ≤ cur.size ∧ zs.length = n ∧ ∀ (j : Nat) z, zs[j]? = some z → cur[j * 2]? = some (.string z.1) ∧ cur[j * 2 + 1]? = some (.string z.2)
theorem RowPrs.prs {w : World} {g n : Nat} {zs : List (ByteArray × ByteArray)} (h : RowPrs w g n zs) : Prs w (some ⟨g, 0, none⟩) n zs := by
  obtain ⟨cur, h1, h2, h3, h4⟩ := h
  refine ⟨h3, fun _ => ⟨g, 0, rfl, (Array.getElem?_eq_some_iff.1 h1).1, fun j z hj => ?_⟩⟩
  obtain ⟨e1, e2⟩ := h4 j z hj
  constructor
  · unfold World.cell?
    rw [show w.heap[(⟨g, 0 + j * 2, none⟩ : Addr).block]? = _ from h1]
    simpa using e1
  · unfold World.cell?
    rw [show w.heap[(⟨g, 0 + j * 2 + 1, none⟩ : Addr).block]? = _ from h1]
    simpa using e2

end Go.Proofs.YtmpmalcjfckemaaGreatDoor
