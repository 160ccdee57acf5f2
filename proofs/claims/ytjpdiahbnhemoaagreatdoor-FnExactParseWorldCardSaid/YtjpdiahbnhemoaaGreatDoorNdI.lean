/- FormatBindings in plain words. FormatBindings in the program. Needs and instances in plain words: their texts. FormatNeed and FormatInstance in the program. -/
import Derived.Test.YtjpdiahbnhemoaaGreatDoorArgsB
import Derived.Lib.Join
import Derived.Test.YtjpdiahbnhemoaaGreatDoorJoin
import Derived.OwnWalk
import Derived.Test.YtjpdiahbnhemoaaGreatDoorArgsN
namespace Go.Proofs.YtjpdiahbnhemoaaGreatDoor
open Go.RowKit

/-- The text of a binding. -/
def bnd (z : ByteArray × ByteArray) : List UInt8 := z.1.data.toList ++ 61 :: z.2.data.toList
def fmtL (zs : List (ByteArray × ByteArray)) : List UInt8 := Lib.join (zs.map bnd) [32]
def fmtB (zs : List (ByteArray × ByteArray)) : ByteArray := if zs = [] then strOf [45] else strOf (fmtL zs)

theorem inter_snoc {α : Type} (sep a : List α) : ∀ l : List (List α), l ≠ [] → sep.intercalate (l ++ [a]) = sep.intercalate l ++ (sep ++ a)
  | [], h => absurd rfl h
  | [x], _ => by simp [List.intercalate]
  | x :: y :: l, _ => by
    have := inter_snoc sep a (y :: l) (by simp)
    simp only [List.intercalate, List.cons_append, List.intersperse_cons_cons, List.flatten_cons, List.append_assoc] at this ⊢
    rw [this]
theorem bnd_len (z : ByteArray × ByteArray) : (bnd z).length = z.1.size + z.2.size + 1 := by
  have e1 : z.1.size = z.1.data.toList.length := by simp
  have e2 : z.2.size = z.2.data.toList.length := by simp
  rw [bnd, e1, e2, List.length_append, List.length_cons]
  omega
theorem fmtL_nil : fmtL [] = [] := rfl
theorem fmtL_one (z : ByteArray × ByteArray) : fmtL [z] = bnd z := by simp [fmtL, Lib.join, List.intercalate]
theorem fmtL_snoc {zs : List (ByteArray × ByteArray)} (h : zs ≠ []) (z : ByteArray × ByteArray) : fmtL (zs ++ [z]) = fmtL zs ++ 32 :: bnd z := by
  unfold fmtL Lib.join
  rw [List.map_append, List.map_singleton, inter_snoc _ _ _ (by simpa using h)]
  rfl
theorem fmtL_cons (z y : ByteArray × ByteArray) (ys : List (ByteArray × ByteArray)) : fmtL (z :: y :: ys) = bnd z ++ 32 :: fmtL (y :: ys) := by
  simp [fmtL, Lib.join, List.intercalate]
theorem fmtL_len (zs : List (ByteArray × ByteArray)) : (fmtL zs).length ≤ zs.length * 2 + tot zs := by
  induction zs with
  | nil => simp [fmtL_nil]
  | cons z zs ih =>
    cases zs with
    | nil =>
      rw [fmtL_one, bnd_len]
      simp [tot]
      omega
    | cons y ys =>
      have e : tot (z :: y :: ys) = z.1.size + z.2.size + tot (y :: ys) := by simp [tot]
      rw [fmtL_cons, List.length_append, List.length_cons, bnd_len, e, List.length_cons]
      omega
theorem fmtL_ne {zs : List (ByteArray × ByteArray)} (h : zs ≠ []) : fmtL zs ≠ [] := by
  intro e
  have h1 : (fmtL zs).length = 0 := by rw [e]; rfl
  match zs with
  | [] => exact h rfl
  | [z] =>
    rw [fmtL_one, bnd_len] at h1
    omega
  | z :: y :: ys =>
    rw [fmtL_cons, List.length_append, bnd_len] at h1
    omega

end Go.Proofs.YtjpdiahbnhemoaaGreatDoor

namespace Go.Proofs.YtjpdiahbnhemoaaGreatDoor
open Go.RowKit

theorem bnd_cat (x y : ByteArray) : x ++ ({ data := #[61] } : ByteArray) ++ y = strOf (bnd (x, y)) := strOf_eq (by simp [ByteArray.data_append, bnd])
theorem own_row {w : World} {base n : Nat} {T : TypeId} {v : Value} {xs : List Value} (h : w.ownsRow base T 1 v n xs) (hn : 0 < n) :
    ∃ g cap, v = .slice (some ⟨g, 0, none⟩) n cap ∧ base ≤ g ∧ g < w.heap.size ∧ n ≤ cap ∧ ∀ (j : Nat) u, xs[j]? = some u → w.cell? ⟨g, j, none⟩ = some u := by
  have hc : ∀ g, v.ownBlock = some g → ∀ j u, xs[j]? = some u → w.cell? ((⟨g, 0, none⟩ : Addr).add j) = some u := fun g hg => h.cells hg
  have hl := h.lt
  obtain ⟨h1, ⟨rfl, rfl⟩ | ⟨g, cap, cur, rfl, hb, hg, hnc, _⟩⟩ := h
  · exact absurd hn (Nat.lt_irrefl 0)
  · refine ⟨g, cap, rfl, hb, (hl g rfl).2, hnc, fun j u hj => ?_⟩
    have := hc g rfl j u hj
    rwa [show (⟨g, 0, none⟩ : Addr).add j = ⟨g, j, none⟩ by unfold Addr.add; split <;> simp_all] at this

/-- Texts with a mark between them; a dash for none. -/
def allW (sep : ByteArray) (xs : List ByteArray) : ByteArray := if xs = [] then { data := #[45] } else strOf (Lib.join (xs.map (·.data.toList)) sep.data.toList)
end Go.Proofs.YtjpdiahbnhemoaaGreatDoor

namespace Go.Proofs.YtjpdiahbnhemoaaGreatDoor
open Go.RowKit

/-- The text of a need. -/
def ndt (z : ByteArray × ByteArray) : List UInt8 := z.1.data.toList ++ 32 :: z.2.data.toList
def ndL (zs : List (ByteArray × ByteArray)) : List UInt8 := Lib.join (zs.map ndt) [38]
theorem ndt_len (z : ByteArray × ByteArray) : (ndt z).length = z.1.size + z.2.size + 1 := by
  have e1 : z.1.size = z.1.data.toList.length := by simp
  have e2 : z.2.size = z.2.data.toList.length := by simp
  rw [ndt, e1, e2, List.length_append, List.length_cons]
  omega
theorem ndL_nil : ndL [] = [] := rfl
theorem ndL_one (z : ByteArray × ByteArray) : ndL [z] = ndt z := by simp [ndL, Lib.join, List.intercalate]
theorem ndL_snoc {zs : List (ByteArray × ByteArray)} (h : zs ≠ []) (z : ByteArray × ByteArray) : ndL (zs ++ [z]) = ndL zs ++ 38 :: ndt z := by
  unfold ndL Lib.join
  rw [List.map_append, List.map_singleton, inter_snoc _ _ _ (by simpa using h)]
  rfl
theorem ndL_cons (z y : ByteArray × ByteArray) (ys : List (ByteArray × ByteArray)) : ndL (z :: y :: ys) = ndt z ++ 38 :: ndL (y :: ys) := by
  simp [ndL, Lib.join, List.intercalate]
theorem ndL_len (zs : List (ByteArray × ByteArray)) : (ndL zs).length ≤ zs.length * 2 + tot zs := by
  induction zs with
  | nil => simp [ndL_nil]
  | cons z zs ih =>
    cases zs with
    | nil =>
      rw [ndL_one, ndt_len]
      simp [tot]
      omega
    | cons y ys =>
      have e : tot (z :: y :: ys) = z.1.size + z.2.size + tot (y :: ys) := by simp [tot]
      rw [ndL_cons, List.length_append, List.length_cons, ndt_len, e, List.length_cons]
      omega
/-- An instance: class, type, needs. -/
structure Ins where
  c : ByteArray
  t : ByteArray
  ns : List (ByteArray × ByteArray)
/-- The text of an instance. -/
def insL (i : Ins) : List UInt8 := ndt (i.c, i.t) ++ (if i.ns = [] then [] else 58 :: ndL i.ns)
def insTot (i : Ins) : Nat := i.c.size + i.t.size + i.ns.length + tot i.ns
theorem insL_len (i : Ins) : (insL i).length ≤ 2 * insTot i + 2 := by
  have h1 := ndt_len (i.c, i.t)
  have h2 := ndL_len i.ns
  unfold insL insTot
  rw [List.length_append, h1]
  dsimp only
  split
  · simp; omega
  · simp; omega

end Go.Proofs.YtjpdiahbnhemoaaGreatDoor

namespace Go.Proofs.YtjpdiahbnhemoaaGreatDoor
open Go.RowKit

theorem own_keep {w w' : World} {base : Nat} {e : TypeId} {size : Nat} {v : Value} {n : Nat} {xs : List Value} (h : w.ownsRow base e size v n xs) (hk : ∀ g, v.ownBlock = some g → w'.heap[g]? = w.heap[g]?) : w'.ownsRow base e size v n xs := by
  refine ⟨h.1, ?_⟩
  rcases h.2 with h' | ⟨g, cap, cur, rfl, hb, hg, r⟩
  · exact .inl h'
  · exact .inr ⟨g, cap, cur, rfl, hb, (hk g rfl).trans hg, r⟩
theorem ndt_cat (x y : ByteArray) : x ++ ({ data := #[32] } : ByteArray) ++ y = strOf (ndt (x, y)) := strOf_eq (by simp [ByteArray.data_append, ndt])

end Go.Proofs.YtjpdiahbnhemoaaGreatDoor
