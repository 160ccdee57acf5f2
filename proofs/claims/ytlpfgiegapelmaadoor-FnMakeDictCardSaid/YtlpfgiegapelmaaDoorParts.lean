/- PartsOf, in the program and in the model. MakeType in the program. -/
import Derived.Test.YtlpfgiegapelmaaDoorPartsI
import Derived.Test.YtlpfgiegapelmaaDoorMarksB
namespace Go.Proofs.YtlpfgiegapelmaaDoor
open Go.RowKit

def Ty.kids : Ty → List Ty
  | .lf _ => []
  | .un _ a => [a]
  | .bi _ a b => [a, b]
/-- The texts of a type's parts. -/
def partsL (l : List UInt8) : List ByteArray := match tyOf l with | some t => t.kids.map fun a => strOf a.text | none => []
theorem partsL_len (l : List UInt8) : (partsL l).length ≤ 2 := by
  unfold partsL
  split
  · rename_i t _
    cases t <;> simp [Ty.kids]
  · simp

/-- A slice of strings that a call has made: nil, or a row of its own. -/
def MadeStrs (w : World) (lo : Nat) (A : Option Addr) (n : Nat) (xs : List ByteArray) : Prop :=
  (A = none ∧ n = 0 ∧ xs = []) ∨ ∃ g, A = some ⟨g, 0, none⟩ ∧ lo ≤ g ∧ OwnStrs w g n xs
theorem MadeStrs.strs {w : World} {lo : Nat} {A : Option Addr} {n : Nat} {xs : List ByteArray} (h : MadeStrs w lo A n xs) : Strs w A n xs := by
  rcases h with ⟨rfl, rfl, rfl⟩ | ⟨g, rfl, _, h⟩
  · exact ⟨rfl, fun h => absurd h (Nat.lt_irrefl 0)⟩
  · exact h.strs
theorem own_strs {w : World} {base g n cap : Nat} {xs : List ByteArray} (h : w.ownsRow base 9 1 (.slice (some ⟨g, 0, none⟩) n cap) n (xs.map Value.string)) : OwnStrs w g n xs := by
  obtain ⟨h1, h2 | ⟨g', cap', cur, hv, hb, hg, hn, _, hz, ht⟩⟩ := h
  · cases h2.1
  · simp only [Value.slice.injEq, Option.some.injEq, Addr.mk.injEq, true_and, and_true] at hv
    obtain ⟨rfl, rfl⟩ := hv
    refine ⟨cur, hg, by omega, by simpa using h1, fun j x hj => ?_⟩
    have hl := (List.getElem?_eq_some_iff.1 hj).1
    have h3 := congrArg (·[j]?) ht
    simp only [List.getElem?_take, List.getElem?_map, hj, Option.map_some] at h3
    split at h3
    · simpa using h3
    · cases h3

def PartsEnd (w : World) (xs : List ByteArray) (e : Ending) (w' : World) : Prop :=
  ∃ A cap, e = .returned (.slice A xs.length cap) ∧ MadeStrs w' w.heap.size A xs.length xs ∧ Below w.heap.size w w'

end Go.Proofs.YtlpfgiegapelmaaDoor

namespace Go.Proofs.YtlpfgiegapelmaaDoor
open Go.RowKit

/-- The text of a letter and parts. -/
def joinL (l : List UInt8) (xs : List ByteArray) : List UInt8 :=
  match xs with
  | [] => l
  | [a] => l ++ 40 :: (a.data.toList ++ [41])
  | a :: b :: _ => l ++ 40 :: (a.data.toList ++ 44 :: (b.data.toList ++ [41]))
/-- What MakeType comes to. -/
def mkOf (h : ByteArray) (xs : List ByteArray) : Option (List UInt8) :=
  if h.size = 1 ∧ ar (h.data.toList.headD 0) = xs.length ∧ (∀ x ∈ xs, (tyOf x.data.toList).isSome = true) ∧ (joinL h.data.toList xs).length ≤ 60 then some (joinL h.data.toList xs) else none
def mkS (o : Option (List UInt8)) : ByteArray := match o with
  | some l => strOf l
  | none => ⟨#[]⟩

theorem ar_le (c : UInt8) : ar c ≤ 2 := by rcases ar_cases c with h | h | h | h <;> omega
theorem mkOf_no {h : ByteArray} {xs : List ByteArray} (hno : h.size ≠ 1 ∨ ar (h.data.toList.headD 0) ≠ xs.length) : mkOf h xs = none := by
  unfold mkOf
  rw [if_neg]
  rintro ⟨h1, h2, _⟩
  rcases hno with e | e
  · exact e h1
  · exact e h2
theorem mkOf_bad {h : ByteArray} {xs : List ByteArray} {x : ByteArray} (hx : x ∈ xs) (hb : (tyOf x.data.toList).isSome = false) : mkOf h xs = none := by
  unfold mkOf
  rw [if_neg]
  rintro ⟨_, _, h3, _⟩
  rw [h3 x hx] at hb
  cases hb
theorem mkOf_long {h : ByteArray} {xs : List ByteArray} (hl : 60 < (joinL h.data.toList xs).length) : mkOf h xs = none := by
  unfold mkOf
  rw [if_neg]
  rintro ⟨_, _, _, h4⟩
  omega

/-- How MakeType ends. -/
def MkEnd (w : World) (o : Option (List UInt8)) (e : Ending) (w' : World) : Prop :=
  e = .returned (.tuple #[.string (mkS o), .bool o.isSome]) ∧ Below w.heap.size w w'

set_option maxHeartbeats 400000 in
set_option maxRecDepth 100000 in
theorem joinTypeO_any (hd : ByteArray) (g o cap : Nat) (xs : List ByteArray) (w : World) (hcells : ∀ (j : Nat) x, xs[j]? = some x → w.cell? ⟨g, o + j, none⟩ = some (.string x)) (hg : g < w.heap.size) (hc : xs.length ≤ cap) (hN : xs.length ≤ 2) (h0 : 0 < xs.length) (hh : hd.size ≤ 1)
    (r : ByteArray) (hr : Hid (strOf (Lib.join (xs.map (·.data.toList)) [44]) = r)) (hl : r.size ≤ 200) (m : Nat) (hm : Hid (xs.length = m)) :
    Calls Tryd.prog 59 #[.string hd, .slice (some ⟨g, o, none⟩) m cap] w fun e w' => e = .returned (.string (strOf (hd.data.toList ++ 40 :: (r.data.toList ++ [41])))) ∧ Below w.heap.size w w' := by
  have hl' : (Lib.join (xs.map (·.data.toList)) [44]).length ≤ 200 := by
    have h := hl
    rw [← hr.out] at h
    exact h
  have HJ := hid (Tryd.strings_Join g o cap xs { data := #[44] } w hcells hg (by omega) hc (by exact Nat.le_trans hl' (by decide)))
  have hrr : (⟨(Lib.join (xs.map (·.data.toList)) [44]).toArray⟩ : ByteArray) = r := hr.out
  simp only [hrr, hm.out] at HJ
  rw [hm.out] at h0
  clear hcells hl' hrr hc hN
  have hf : ((m : Int) == 0) = false := by simp; omega
  go_enter Tryd.func59, Tryd.ntmps59
  go_wp2_with fail
  refine HJ.out.mono ?_
  rintro e w1 ⟨rfl, hb1⟩
  go_wp2_with fail
  go_ret
  refine ⟨?_, hb1⟩
  show Ending.returned (.string _) = .returned (.string _)
  congr 2
  exact strOf_eq (by simp [ByteArray.data_append])

set_option maxHeartbeats 400000 in
set_option maxRecDepth 100000 in
theorem joinType_nil (hd : ByteArray) (A : Option Addr) (cap : Nat) (w : World) :
    Calls Tryd.prog 59 #[.string hd, .slice A 0 cap] w fun e w' => e = .returned (.string hd) ∧ w' = w := by
  go_enter Tryd.func59, Tryd.ntmps59
  go_wp2_with fail
  go_ret
  exact ⟨rfl, rfl⟩

theorem mkOf_yes {h : ByteArray} {xs : List ByteArray} (h1 : h.size = 1) (h2 : ar (h.data.toList.headD 0) = xs.length) (h3 : ∀ x ∈ xs, (tyOf x.data.toList).isSome = true) (h4 : (joinL h.data.toList xs).length ≤ 60) : mkOf h xs = some (joinL h.data.toList xs) := by
  unfold mkOf
  rw [if_pos ⟨h1, h2, h3, h4⟩]
theorem valid_len {x : ByteArray} (h : (tyOf x.data.toList).isSome = true) : x.size ≤ 60 := by
  obtain ⟨t, ht⟩ := Option.isSome_iff_exists.1 h
  have := (tyOf_text ht).2.2
  simpa using this

theorem one_cell {w : World} {g o : Nat} {x : ByteArray} (h : w.cell? ⟨g, o, none⟩ = some (.string x)) : ∀ (j : Nat) y, [x][j]? = some y → w.cell? ⟨g, o + j, none⟩ = some (.string y) := by
  intro j y hj
  cases j with
  | zero => simp only [List.getElem?_cons_zero, Option.some.injEq] at hj; subst hj; exact h
  | succ j => simp at hj

theorem two_cell {w : World} {g o : Nat} {x y : ByteArray} (h : w.cell? ⟨g, o, none⟩ = some (.string x)) (h' : w.cell? ⟨g, o + 1, none⟩ = some (.string y)) : ∀ (j : Nat) z, [x, y][j]? = some z → w.cell? ⟨g, o + j, none⟩ = some (.string z) := by
  intro j z hj
  match j with
  | 0 => simp only [List.getElem?_cons_zero, Option.some.injEq] at hj; subst hj; exact h
  | 1 => simp only [List.getElem?_cons_succ, List.getElem?_cons_zero, Option.some.injEq] at hj; subst hj; exact h'
  | j + 2 => simp at hj

end Go.Proofs.YtlpfgiegapelmaaDoor
