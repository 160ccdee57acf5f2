/- Marks laid into a row of needs that the program handed back, and read again. Marks laid into the needs of an instance that the program handed back, and read again. A row of instances that was handed back: a block of its own, and one for the needs of each. Marks laid into a row of classes that the program handed back, and read again. Marks laid into a world that the program handed back, and read again. Marks laid into a world that the program handed back, and read again: the world. -/
import Derived.Test.YtlpfgiegapelmaaDoorMarksB
import Derived.Test.YtlpfgiegapelmaaDoorArgsB
import Derived.Test.YtlpfgiegapelmaaDoorInsA
import Derived.Deep.Cut
namespace Go.Proofs.YtlpfgiegapelmaaDoor
open Go.RowKit

/-- The marks k, k+1, .. as pairs. -/
def marksN (k n : Nat) : List (ByteArray × ByteArray) := (List.range n).map fun j => (strOf (mark (k + 2 * j)), strOf (mark (k + 2 * j + 1)))
theorem marksN_at (k n j : Nat) (h : j < n) : (marksN k n)[j]? = some (strOf (mark (k + 2 * j)), strOf (mark (k + 2 * j + 1))) := by
  simp [marksN, h]

end Go.Proofs.YtlpfgiegapelmaaDoor

namespace Go.Proofs.YtlpfgiegapelmaaDoor
open Go.RowKit
set_option linter.unusedVariables false

end Go.Proofs.YtlpfgiegapelmaaDoor

namespace Go.Proofs.YtlpfgiegapelmaaDoor
open Go.RowKit
set_option linter.unusedVariables false

/-- An instance, and where its needs lie. -/
abbrev InP := Ins × (Option Addr × Nat)
def cells3 (ps : List InP) : List Value := ps.flatMap fun p => [.string p.1.c, .string p.1.t, .slice p.2.1 p.1.ns.length p.2.2]
theorem cells3_len (ps : List InP) : (cells3 ps).length = ps.length * 3 := by
  induction ps with
  | nil => rfl
  | cons p ps ih =>
    unfold cells3 at ih ⊢
    rw [List.flatMap_cons, List.length_append, ih]
    simp only [List.length_cons, List.length_nil]
    omega
theorem cells3_at : ∀ (ps : List InP) (j : Nat) (p : InP), ps[j]? = some p → (cells3 ps)[j * 3]? = some (.string p.1.c) ∧ (cells3 ps)[j * 3 + 1]? = some (.string p.1.t) ∧ (cells3 ps)[j * 3 + 2]? = some (.slice p.2.1 p.1.ns.length p.2.2)
  | [], j, p, h => by simp at h
  | q :: ps, 0, p, h => by
    simp only [List.getElem?_cons_zero, Option.some.injEq] at h
    subst h
    exact ⟨rfl, rfl, rfl⟩
  | q :: ps, j + 1, p, h => by
    have h' : ps[j]? = some p := by simpa using h
    obtain ⟨h1, h2, h3⟩ := cells3_at ps j p h'
    have e : cells3 (q :: ps) = .string q.1.c :: .string q.1.t :: .slice q.2.1 q.1.ns.length q.2.2 :: cells3 ps := rfl
    rw [e, show (j + 1) * 3 = j * 3 + 1 + 1 + 1 by omega]
    exact ⟨by simpa using h1, by simpa using h2, by simpa using h3⟩
theorem cells3_snoc (ps : List InP) (p : InP) : cells3 (ps ++ [p]) = cells3 ps ++ [.string p.1.c, .string p.1.t, .slice p.2.1 p.1.ns.length p.2.2] := by
  unfold cells3
  rw [List.flatMap_append, List.flatMap_cons, List.flatMap_nil, List.append_nil]
theorem at_mid {A B : List InP} {p : InP} {j : Nat} {q : InP} (h : (A ++ p :: B)[j]? = some q) : (j < A.length ∧ ∀ x, (A ++ x :: B)[j]? = some q) ∨ (j = A.length ∧ q = p) ∨ (A.length < j ∧ ∀ x, (A ++ x :: B)[j]? = some q) := by
  rcases Nat.lt_trichotomy j A.length with hj | hj | hj
  · refine .inl ⟨hj, fun x => ?_⟩
    rw [List.getElem?_append_left hj] at h ⊢
    exact h
  · subst hj
    rw [List.getElem?_append_right (Nat.le_refl _)] at h
    simp at h
    exact .inr (.inl ⟨rfl, h.symm⟩)
  · refine .inr (.inr ⟨hj, fun x => ?_⟩)
    rw [List.getElem?_append_right (by omega)] at h ⊢
    obtain ⟨k, hk⟩ : ∃ k, j - A.length = k + 1 := ⟨j - A.length - 1, by omega⟩
    rw [hk] at h ⊢
    simpa using h
end Go.Proofs.YtlpfgiegapelmaaDoor

namespace Go.Proofs.YtlpfgiegapelmaaDoor
open Go.RowKit

end Go.Proofs.YtlpfgiegapelmaaDoor

namespace Go.Proofs.YtlpfgiegapelmaaDoor
open Go.RowKit
set_option linter.unusedVariables false

/-- An instance of marks. -/
def mkI (k n : Nat) : Ins := ⟨strOf (mark k), strOf (mark (k + 1)), marksN (k + 2) n⟩
theorem marksN_len (k n : Nat) : (marksN k n).length = n := by simp [marksN]
/-- How many marks the needs take. -/
def cntN : List Nat → Nat
  | [] => 0
  | n :: ns => 2 + 2 * n + cntN ns
def mkIs : Nat → List Nat → List Ins
  | _, [] => []
  | k, n :: ns => mkI k n :: mkIs (k + (2 + 2 * n)) ns
def mkPs : Nat → List InP → List InP
  | _, [] => []
  | k, p :: ps => (mkI k p.1.ns.length, p.2) :: mkPs (k + (2 + 2 * p.1.ns.length)) ps
def nsOf (is : List Ins) : List Nat := is.map fun i => i.ns.length
theorem cntN_append (a b : List Nat) : cntN (a ++ b) = cntN a + cntN b := by
  induction a with
  | nil => simp [cntN]
  | cons n a ih => show 2 + 2 * n + cntN (a ++ b) = 2 + 2 * n + cntN a + cntN b; omega
theorem cntN_ge (l : List Nat) : 2 * l.length ≤ cntN l := by
  induction l with
  | nil => exact Nat.zero_le _
  | cons n l ih => show 2 * (l.length + 1) ≤ 2 + 2 * n + cntN l; omega
theorem cntN_take_le (l : List Nat) (j : Nat) : cntN (l.take j) ≤ cntN l := by
  have h := congrArg cntN (List.take_append_drop j l)
  rw [cntN_append] at h
  omega
theorem mkPs_len (k : Nat) (ps : List InP) : (mkPs k ps).length = ps.length := by
  induction ps generalizing k with
  | nil => rfl
  | cons p ps ih => simp only [mkPs, List.length_cons, ih]
theorem mkPs_snoc (k : Nat) (ps : List InP) (p : InP) : mkPs k (ps ++ [p]) = mkPs k ps ++ [(mkI (k + cntN (nsOf (ps.map Prod.fst))) p.1.ns.length, p.2)] := by
  induction ps generalizing k with
  | nil => rfl
  | cons q ps ih =>
    show (mkI k q.1.ns.length, q.2) :: mkPs _ (ps ++ [p]) = _
    rw [ih]
    show _ = (mkI k q.1.ns.length, q.2) :: (mkPs _ ps ++ _)
    congr 3
    show (mkI _ _, p.2) = (mkI (k + (2 + 2 * q.1.ns.length + cntN (nsOf (ps.map Prod.fst)))) _, p.2)
    rw [Nat.add_assoc k]
theorem mkPs_fst (k : Nat) (ps : List InP) : (mkPs k ps).map Prod.fst = mkIs k (nsOf (ps.map Prod.fst)) := by
  induction ps generalizing k with
  | nil => rfl
  | cons p ps ih =>
    show mkI k p.1.ns.length :: (mkPs _ ps).map Prod.fst = mkI k p.1.ns.length :: mkIs _ _
    rw [ih]
    rfl
theorem mkIs_len (k : Nat) (ns : List Nat) : (mkIs k ns).length = ns.length := by
  induction ns generalizing k with
  | nil => rfl
  | cons n ns ih => simp only [mkIs, List.length_cons, ih]
theorem mkIs_at : ∀ (k : Nat) (ns : List Nat) (j n : Nat), ns[j]? = some n → (mkIs k ns)[j]? = some (mkI (k + cntN (ns.take j)) n)
  | k, m :: ns, 0, n, h => by
    simp only [List.getElem?_cons_zero, Option.some.injEq] at h
    subst h
    rfl
  | k, m :: ns, j + 1, n, h => by
    have h' : ns[j]? = some n := by simpa using h
    have ih := mkIs_at (k + (2 + 2 * m)) ns j n h'
    show (mkIs _ ns)[j]? = _
    rw [ih]
    show some (mkI (k + (2 + 2 * m) + _) n) = some (mkI (k + (2 + 2 * m + cntN (ns.take j))) n)
    rw [Nat.add_assoc k]
theorem cntN_snoc {ns : List Nat} {j n : Nat} (h : ns[j]? = some n) : cntN (ns.take (j + 1)) = cntN (ns.take j) + (2 + 2 * n) := by
  rw [List.take_add_one, h, cntN_append]
  rfl

end Go.Proofs.YtlpfgiegapelmaaDoor

namespace Go.Proofs.YtlpfgiegapelmaaDoor
open Go.RowKit
set_option linter.unusedVariables false

theorem cntN_ins (is : List Ins) : cntN (nsOf is) ≤ 2 * (is.length + inssTot is) := by
  induction is with
  | nil => exact Nat.zero_le _
  | cons i is ih =>
    have e : inssTot (i :: is) = insTot i + inssTot is := by simp [inssTot]
    have e2 : i.ns.length ≤ insTot i := by unfold insTot; omega
    show 2 + 2 * i.ns.length + cntN (nsOf is) ≤ _
    rw [List.length_cons, e]
    omega

end Go.Proofs.YtlpfgiegapelmaaDoor
