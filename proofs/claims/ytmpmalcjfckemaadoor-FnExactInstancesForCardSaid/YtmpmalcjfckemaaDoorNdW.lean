/- Needs and instances in plain words: their texts. -/
import Derived.Test.YtmpmalcjfckemaaDoorFmtW
import Derived.Test.YtmpmalcjfckemaaDoorArgsN
import Derived.Lib.Join
namespace Go.Proofs.YtmpmalcjfckemaaDoor
open Go.RowKit

/-- The text of a need. -/
def ndt (z : ByteArray × ByteArray) : List UInt8 := z.1.data.toList ++ 32 :: z.2.data.toList
def ndL (zs : List (ByteArray × ByteArray)) : List UInt8 := Lib.join (zs.map ndt) [38]
theorem ndt_len (z : ByteArray × ByteArray) : (ndt z).length = z.1.size + z.2.size + 1 := by
  have e1 : z.1.size = z.1.data.toList.length := by simp
  have e2 : z.2.size = z.2.data.toList.length := by simp
  rw [ndt, e1, e2, List.length_append, List.length_cons]
  omega
theorem ndL_nil : ndL [] = [] := rfl
theorem ndL_one (z : ByteArray × ByteArray) : ndL [z] = ndt z := by simp [ndL, Lib.join, List.intercalate]
theorem ndL_snoc {zs : List (ByteArray × ByteArray)} (h : zs ≠ []) (z : ByteArray × ByteArray) : ndL (zs ++ [z]) = ndL zs ++ 38 :: ndt z := by
  unfold ndL Lib.join
  rw [List.map_append, List.map_singleton, inter_snoc _ _ _ (by simpa using h)]
  rfl
theorem ndL_cons (z y : ByteArray × ByteArray) (ys : List (ByteArray × ByteArray)) : ndL (z :: y :: ys) = ndt z ++ 38 :: ndL (y :: ys) := by
  simp [ndL, Lib.join, List.intercalate]
theorem ndL_len (zs : List (ByteArray × ByteArray)) : (ndL zs).length ≤ zs.length * 2 + tot zs := by
  induction zs with
  | nil => simp [ndL_nil]
  | cons z zs ih =>
    cases zs with
    | nil =>
      rw [ndL_one, ndt_len]
      simp [tot]
      omega
    | cons y ys =>
      have e : tot (z :: y :: ys) = z.1.size + z.2.size + tot (y :: ys) := by simp [tot]
      rw [ndL_cons, List.length_append, List.length_cons, ndt_len, e, List.length_cons]
      omega
/-- An instance: class, type, needs. -/
structure Ins where
  c : ByteArray
  t : ByteArray
  ns : List (ByteArray × ByteArray)
/-- The text of an instance. -/
def insL (i : Ins) : List UInt8 := ndt (i.c, i.t) ++ (if i.ns = [] then [] else 58 :: ndL i.ns)
def insTot (i : Ins) : Nat := i.c.size + i.t.size + i.ns.length + tot i.ns
theorem insL_len (i : Ins) : (insL i).length ≤ 2 * insTot i + 2 := by
  have h1 := ndt_len (i.c, i.t)
  have h2 := ndL_len i.ns
  unfold insL insTot
  rw [List.length_append, h1]
  dsimp only
  split
  · simp; omega
  · simp; omega

end Go.Proofs.YtmpmalcjfckemaaDoor
