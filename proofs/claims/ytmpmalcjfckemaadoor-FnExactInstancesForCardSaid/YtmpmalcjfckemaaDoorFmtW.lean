/- FormatBindings in plain words. -/
import Derived.Test.YtmpmalcjfckemaaDoorArgsB
import Derived.Lib.Join
namespace Go.Proofs.YtmpmalcjfckemaaDoor
open Go.RowKit

/-- The text of a binding. -/
def bnd (z : ByteArray × ByteArray) : List UInt8 := z.1.data.toList ++ 61 :: z.2.data.toList
def fmtL (zs : List (ByteArray × ByteArray)) : List UInt8 := Lib.join (zs.map bnd) [32]
def fmtB (zs : List (ByteArray × ByteArray)) : ByteArray := if zs = [] then strOf [45] else strOf (fmtL zs)

theorem inter_snoc {α : Type} (sep a : List α) : ∀ l : List (List α), l ≠ [] → sep.intercalate (l ++ [a]) = sep.intercalate l ++ (sep ++ a)
  | [], h => absurd rfl h
  | [x], _ => by simp [List.intercalate]
  | x :: y :: l, _ => by
    have := inter_snoc sep a (y :: l) (by simp)
    simp only [List.intercalate, List.cons_append, List.intersperse_cons_cons, List.flatten_cons, List.append_assoc] at this ⊢
    rw [this]
theorem bnd_len (z : ByteArray × ByteArray) : (bnd z).length = z.1.size + z.2.size + 1 := by
  have e1 : z.1.size = z.1.data.toList.length := by simp
  have e2 : z.2.size = z.2.data.toList.length := by simp
  rw [bnd, e1, e2, List.length_append, List.length_cons]
  omega
theorem fmtL_nil : fmtL [] = [] := rfl
theorem fmtL_one (z : ByteArray × ByteArray) : fmtL [z] = bnd z := by simp [fmtL, Lib.join, List.intercalate]
theorem fmtL_snoc {zs : List (ByteArray × ByteArray)} (h : zs ≠ []) (z : ByteArray × ByteArray) : fmtL (zs ++ [z]) = fmtL zs ++ 32 :: bnd z := by
  unfold fmtL Lib.join
  rw [List.map_append, List.map_singleton, inter_snoc _ _ _ (by simpa using h)]
  rfl
theorem fmtL_cons (z y : ByteArray × ByteArray) (ys : List (ByteArray × ByteArray)) : fmtL (z :: y :: ys) = bnd z ++ 32 :: fmtL (y :: ys) := by
  simp [fmtL, Lib.join, List.intercalate]
theorem fmtL_len (zs : List (ByteArray × ByteArray)) : (fmtL zs).length ≤ zs.length * 2 + tot zs := by
  induction zs with
  | nil => simp [fmtL_nil]
  | cons z zs ih =>
    cases zs with
    | nil =>
      rw [fmtL_one, bnd_len]
      simp [tot]
      omega
    | cons y ys =>
      have e : tot (z :: y :: ys) = z.1.size + z.2.size + tot (y :: ys) := by simp [tot]
      rw [fmtL_cons, List.length_append, List.length_cons, bnd_len, e, List.length_cons]
      omega
theorem fmtL_ne {zs : List (ByteArray × ByteArray)} (h : zs ≠ []) : fmtL zs ≠ [] := by
  intro e
  have h1 : (fmtL zs).length = 0 := by rw [e]; rfl
  match zs with
  | [] => exact h rfl
  | [z] =>
    rw [fmtL_one, bnd_len] at h1
    omega
  | z :: y :: ys =>
    rw [fmtL_cons, List.length_append, bnd_len] at h1
    omega

end Go.Proofs.YtmpmalcjfckemaaDoor
