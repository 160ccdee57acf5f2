/- The exact laws' own helpers over lists of strings: eqStringS, markText, markStringS, heldStringS. Marks laid into a row of bindings that the program handed back, and read again. -/
import Derived.Test.YtgbbobjkhpplkaaDoorRen
import Derived.Deep.RegionWith
import Derived.Test.YtgbbobjkhpplkaaDoorArgsB
namespace Go.Proofs.YtgbbobjkhpplkaaDoor
open Go.RowKit

/-- The slice (A, n) reads as the strings xs. -/
def Strs (w : World) (A : Option Addr) (n : Nat) (xs : List ByteArray) : Prop :=
  xs.length = n ∧ (0 < n → ∃ g o, A = some ⟨g, o, none⟩ ∧ g < w.heap.size ∧ ∀ j x, xs[j]? = some x → w.cell? ⟨g, o + j, none⟩ = some (.string x))
theorem Strs.below {w w' : World} {A : Option Addr} {n : Nat} {xs : List ByteArray} (h : Strs w A n xs) (hb : Below w.heap.size w w') : Strs w' A n xs := by
  refine ⟨h.1, fun hn => ?_⟩
  obtain ⟨g, o, e, hg, hc⟩ := h.2 hn
  exact ⟨g, o, e, Nat.lt_of_lt_of_le hg hb.size, fun j x hj => cell_below (hc j x hj) hg hb⟩

/-- The digits of a number ahead of acc. -/
def dg : Nat → Nat → List UInt8 → List UInt8
  | 0, _, acc => acc
  | f + 1, k, acc => if k = 0 then acc else dg f (k / 10) (UInt8.ofNat (48 + k % 10) :: acc)
theorem dg_zero (f : Nat) (acc : List UInt8) : dg f 0 acc = acc := by cases f <;> simp [dg]
def mark (k : Nat) : List UInt8 := 109 :: dg k k []

/-- The marks k, k+1, .. -/
def marks (k n : Nat) : List ByteArray := (List.range n).map fun j => strOf (mark (k + j))
theorem marks_at (k n j : Nat) (h : j < n) : (marks k n)[j]? = some (strOf (mark (k + j))) := by
  simp [marks, h]

/-- Block g is a row of strings of which the first n are xs; none of it frozen. -/
def OwnStrs (w : World) (g n : Nat) (xs : List ByteArray) : Prop :=
  ∃ cur : Array Value, w.heap[g]? = some (.cells cur 9 (0, 0)) ∧ n ≤ cur.size ∧ xs.length = n ∧ ∀ (j : Nat) x, xs[j]? = some x → cur[j]? = some (.string x)
theorem OwnStrs.strs {w : World} {g n : Nat} {xs : List ByteArray} (h : OwnStrs w g n xs) : Strs w (some ⟨g, 0, none⟩) n xs := by
  obtain ⟨cur, hg, hn, hl, hx⟩ := h
  refine ⟨hl, fun _ => ⟨g, 0, rfl, (Array.getElem?_eq_some_iff.1 hg).1, fun j x hj => ?_⟩⟩
  unfold World.cell?
  rw [show w.heap[(⟨g, 0 + j, none⟩ : Addr).block]? = _ from hg]
  simpa using hx j x hj

end Go.Proofs.YtgbbobjkhpplkaaDoor

namespace Go.Proofs.YtgbbobjkhpplkaaDoor
open Go.RowKit

/-- The marks k, k+1, .. as pairs. -/
def marks2 (k n : Nat) : List (ByteArray × ByteArray) := (List.range n).map fun j => (strOf (mark (k + 2 * j)), strOf (mark (k + 2 * j + 1)))
theorem marks2_at (k n j : Nat) (h : j < n) : (marks2 k n)[j]? = some (strOf (mark (k + 2 * j)), strOf (mark (k + 2 * j + 1))) := by
  simp [marks2, h]

end Go.Proofs.YtgbbobjkhpplkaaDoor
