/- A world's text, in plain words. -/
import Derived.Test.YtjpdiahbnhemoaaGreatDoorNdI
import Derived.Test.YtjpdiahbnhemoaaGreatDoorInsA
namespace Go.Proofs.YtjpdiahbnhemoaaGreatDoor
open Go.RowKit

def clsT (z : ByteArray × ByteArray) : List UInt8 := z.1.data.toList ++ (if z.2.data.toList = [] then [] else 60 :: z.2.data.toList)
def clL (zs : List (ByteArray × ByteArray)) : List UInt8 := Lib.join (zs.map clsT) [32]
theorem clsT_len (z : ByteArray × ByteArray) : (clsT z).length ≤ z.1.size + z.2.size + 1 := by
  have e1 : z.1.size = z.1.data.toList.length := by simp
  have e2 : z.2.size = z.2.data.toList.length := by simp
  unfold clsT
  rw [e1, e2, List.length_append]
  split
  · rw [List.length_nil]; omega
  · rw [List.length_cons]; omega
theorem clL_nil : clL [] = [] := rfl
theorem clL_one (z : ByteArray × ByteArray) : clL [z] = clsT z := by simp [clL, Lib.join, List.intercalate]
theorem clL_snoc {zs : List (ByteArray × ByteArray)} (h : zs ≠ []) (z : ByteArray × ByteArray) : clL (zs ++ [z]) = clL zs ++ 32 :: clsT z := by
  unfold clL Lib.join
  rw [List.map_append, List.map_singleton, inter_snoc _ _ _ (by simpa using h)]
  rfl
theorem clL_cons (z y : ByteArray × ByteArray) (ys : List (ByteArray × ByteArray)) : clL (z :: y :: ys) = clsT z ++ 32 :: clL (y :: ys) := by
  simp [clL, Lib.join, List.intercalate]
theorem clL_len (zs : List (ByteArray × ByteArray)) : (clL zs).length ≤ zs.length * 2 + tot zs := by
  induction zs with
  | nil => simp [clL_nil]
  | cons z zs ih =>
    cases zs with
    | nil =>
      have := clsT_len z
      rw [clL_one]
      simp [tot]
      omega
    | cons y ys =>
      have h := clsT_len z
      have e : tot (z :: y :: ys) = z.1.size + z.2.size + tot (y :: ys) := by simp [tot]
      rw [clL_cons, List.length_append, List.length_cons, e, List.length_cons]
      omega
/-- The text of a world. -/
def wdT (zs : List (ByteArray × ByteArray)) (is : List Ins) : List UInt8 := clL zs ++ is.flatMap fun i => 59 :: insL i
theorem wdT_snoc (zs : List (ByteArray × ByteArray)) {is : List Ins} {k : Nat} {i : Ins} (h : is[k]? = some i) : wdT zs (is.take (k + 1)) = wdT zs (is.take k) ++ 59 :: insL i := by
  unfold wdT
  rw [List.take_add_one, h]
  simp
theorem wdT_nil (zs : List (ByteArray × ByteArray)) : wdT zs [] = clL zs := by simp [wdT]
theorem flat_len (is : List Ins) : (is.flatMap fun i => 59 :: insL i).length ≤ 3 * is.length + 2 * inssTot is := by
  induction is with
  | nil => exact Nat.zero_le _
  | cons i is ih =>
    have h := insL_len i
    have e : inssTot (i :: is) = insTot i + inssTot is := by simp [inssTot]
    rw [List.flatMap_cons, List.length_append, List.length_cons, List.length_cons, e]
    omega
theorem wdT_len (zs : List (ByteArray × ByteArray)) (is : List Ins) : (wdT zs is).length ≤ zs.length * 2 + tot zs + (3 * is.length + 2 * inssTot is) := by
  unfold wdT
  rw [List.length_append]
  exact Nat.add_le_add (clL_len zs) (flat_len is)
/-- The same as the program joins it. -/
theorem wdT_join (zs : List (ByteArray × ByteArray)) (is : List Ins) : Lib.join (clL zs :: is.map insL) [59] = wdT zs is := by
  unfold wdT
  generalize clL zs = c
  induction is generalizing c with
  | nil => simp [Lib.join, List.intercalate]
  | cons i is ih =>
    have h := ih (insL i)
    rw [List.map_cons, show Lib.join (c :: insL i :: is.map insL) [59] = c ++ 59 :: Lib.join (insL i :: is.map insL) [59] from by simp [Lib.join, List.intercalate], h]
    simp

/-- What is answered: the text, if the world is valid. -/
def fwOf (v : Bool) (l : List UInt8) : ByteArray := match v with
  | true => strOf l
  | false => ⟨#[]⟩

end Go.Proofs.YtjpdiahbnhemoaaGreatDoor
