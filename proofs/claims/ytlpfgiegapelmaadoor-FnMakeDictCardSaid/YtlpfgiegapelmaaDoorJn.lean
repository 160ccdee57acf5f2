/- Worlds in plain words: whether classes, instances, worlds are valid. Errors in the program, one or none; names of classes. Whether a class stands in a list, in the program. errors.Join, at a few errors. -/
import Derived.Test.YtlpfgiegapelmaaDoorInsA
import Derived.Test.YtlpfgiegapelmaaDoorRen
import Derived.Test.YtlpfgiegapelmaaDoorBvI
import Derived.Test.YtlpfgiegapelmaaDoorBvS
import Derived.OwnWalk
namespace Go.Proofs.YtlpfgiegapelmaaDoor
open Go.RowKit

/-- The name of a class: a letter from A to T. -/
def isNm (l : List UInt8) : Bool := match l with
  | [c] => decide (65 ≤ c.toNat) && decide (c.toNat ≤ 84)
  | _ => false
/-- Each letter is greater than the one before it. -/
def ascB : List UInt8 → Bool
  | a :: b :: l => decide (a < b) && ascB (b :: l)
  | _ => true
/-- A class behind the names of those before it. -/
def behind (names : List UInt8) (z : ByteArray × ByteArray) : Bool :=
  isNm z.1.data.toList && ascB (names ++ z.1.data.toList) && ascB z.2.data.toList && z.2.data.toList.all (fun c => names.contains c)
def clsGo : List UInt8 → List (ByteArray × ByteArray) → Bool
  | _, [] => true
  | names, z :: r => behind names z && clsGo (names ++ z.1.data.toList) r
/-- Whether classes are valid. -/
def clsOf (zs : List (ByteArray × ByteArray)) : Bool := decide (1 ≤ zs.length) && decide (zs.length ≤ 4) && clsGo [] zs
/-- Whether a class stands in a list. -/
def hasNm (zs : List (ByteArray × ByteArray)) (s : ByteArray) : Bool := zs.any fun z => z.1.toList == s.toList

/-- All letters of a text stand in another one. -/
def inB (l text : List UInt8) : Bool := l.all fun c => text.contains c
theorem behind_def (names : List UInt8) (z : ByteArray × ByteArray) : behind names z = ((isNm z.1.data.toList && ascB (names ++ z.1.data.toList)) && (ascB z.2.data.toList && inB z.2.data.toList names)) := by
  unfold behind inB
  rw [Bool.and_assoc]
/-- What holds for a need of an instance and for the needs of it. -/
def ndOk (zs : List (ByteArray × ByteArray)) (n : ByteArray × ByteArray) : Bool := hasNm zs n.1 && (decide (n.2.size ≤ 20) && (tyOf n.2.data.toList).isSome)
/-- A text is a variable. -/
def bareB (t : ByteArray) : Bool := match t.data.toList with
  | [c] => isVarB c
  | _ => false
/-- Whether an instance is one of classes. -/
def insOk (zs : List (ByteArray × ByteArray)) (i : Ins) : Bool :=
  ndOk zs (i.c, i.t) && (!bareB i.t && (decide (i.ns.length ≤ 3) && i.ns.all fun n => ndOk zs n && inB (varsOf n.2.data.toList) (varsOf i.t.data.toList)))
/-- Whether a world is valid. -/
def wdOf (zs : List (ByteArray × ByteArray)) (is : List Ins) : Bool := decide (is.length ≤ 10) && (clsOf zs && is.all (insOk zs))

/-- The names of classes, one behind the other. -/
def nmsL (zs : List (ByteArray × ByteArray)) : List UInt8 := (zs.map fun z => z.1.data.toList).flatten
theorem nmsL_snoc {zs : List (ByteArray × ByteArray)} {k : Nat} {z : ByteArray × ByteArray} (h : zs[k]? = some z) : nmsL (zs.take (k + 1)) = nmsL (zs.take k) ++ z.1.data.toList := by
  unfold nmsL
  rw [List.take_add_one, h]
  simp
theorem nmsL_len (zs : List (ByteArray × ByteArray)) : (nmsL zs).length ≤ tot zs := by
  induction zs with
  | nil => exact Nat.le_refl _
  | cons z zs ih =>
    simp only [nmsL, tot, List.map_cons, List.flatten_cons, List.length_append, List.sum_cons] at ih ⊢
    have : z.1.data.toList.length = z.1.size := by simp
    omega
theorem clsGo_append (names : List UInt8) (xs ys : List (ByteArray × ByteArray)) : clsGo names (xs ++ ys) = (clsGo names xs && clsGo (names ++ nmsL xs) ys) := by
  induction xs generalizing names with
  | nil => simp [clsGo, nmsL]
  | cons x xs ih =>
    show (behind names x && clsGo (names ++ x.1.data.toList) (xs ++ ys)) = ((behind names x && clsGo (names ++ x.1.data.toList) xs) && clsGo (names ++ nmsL (x :: xs)) ys)
    rw [ih, Bool.and_assoc]
    simp [nmsL]
theorem clsGo_snoc {zs : List (ByteArray × ByteArray)} {k : Nat} {z : ByteArray × ByteArray} (h : zs[k]? = some z) : clsGo [] (zs.take (k + 1)) = (clsGo [] (zs.take k) && behind (nmsL (zs.take k)) z) := by
  rw [List.take_add_one, h]
  show clsGo [] (zs.take k ++ [z]) = _
  rw [clsGo_append]
  simp [clsGo]
theorem clsGo_take {zs : List (ByteArray × ByteArray)} {k : Nat} (h : clsGo [] (zs.take k) = false) : clsGo [] zs = false := by
  have e : zs = zs.take k ++ zs.drop k := (List.take_append_drop k zs).symm
  rw [e, clsGo_append, h]
  rfl
theorem ascB_snoc (l : List UInt8) (a b : UInt8) : ascB (l ++ [a, b]) = (ascB (l ++ [a]) && decide (a < b)) := by
  induction l with
  | nil => simp [ascB]
  | cons x l ih =>
    cases l with
    | nil => simp [ascB]
    | cons y l =>
      have ih' : ascB (y :: (l ++ [a, b])) = (ascB (y :: (l ++ [a])) && decide (a < b)) := ih
      show (decide (x < y) && ascB (y :: (l ++ [a, b]))) = ((decide (x < y) && ascB (y :: (l ++ [a]))) && decide (a < b))
      rw [Bool.and_assoc, ← ih']
theorem ascB_one (a : UInt8) : ascB [a] = true := rfl
theorem isNm_one {l : List UInt8} (h : isNm l = true) : ∃ c, l = [c] ∧ 65 ≤ c.toNat ∧ c.toNat ≤ 84 := by
  unfold isNm at h
  split at h
  · rename_i c
    simp only [Bool.and_eq_true, decide_eq_true_eq] at h
    exact ⟨c, rfl, h⟩
  · cases h
/-- Valid classes have names of one letter. -/
theorem clsGo_names {zs : List (ByteArray × ByteArray)} : ∀ (names : List UInt8), clsGo names zs = true → ∀ z ∈ zs, isNm z.1.data.toList = true := by
  induction zs with
  | nil => exact fun _ _ z hz => by cases hz
  | cons y ys ih =>
    intro names h z hz
    have h' : (behind names y && clsGo (names ++ y.1.data.toList) ys) = true := h
    rw [Bool.and_eq_true] at h'
    rcases List.mem_cons.1 hz with rfl | hz
    · have := h'.1
      rw [behind_def] at this
      simp only [Bool.and_eq_true] at this
      exact this.1.1
    · exact ih _ h'.2 z hz
theorem ba_eq {x y : ByteArray} (h : x.data.toList = y.data.toList) : x = y := by
  cases x
  cases y
  have h' := Array.toList_inj.1 h
  simp only at h'
  rw [h']
theorem ba_list (x y : ByteArray) : (x.toList == y.toList) = (x.data.toList == y.data.toList) := by rw [ByteArray.toList_eq, ByteArray.toList_eq]
theorem ba_ne {x y : ByteArray} (h : x ≠ y) : (x.toList == y.toList) = false := by
  rw [ba_list]
  exact beq_eq_false_iff_ne.2 fun e => h (ba_eq e)
/-- Among classes with names of one letter, a letter stands in the names exactly if a class has it. -/
theorem names_has {zs : List (ByteArray × ByteArray)} (h : ∀ z ∈ zs, isNm z.1.data.toList = true) (c : UInt8) (s : ByteArray) (hs : s.data.toList = [c]) : (nmsL zs).contains c = hasNm zs s := by
  induction zs with
  | nil => rfl
  | cons z zs ih =>
    obtain ⟨d, hd, _⟩ := isNm_one (h z (List.mem_cons_self ..))
    have ih' := ih fun y hy => h y (List.mem_cons_of_mem _ hy)
    have e1 : nmsL (z :: zs) = d :: nmsL zs := by
      unfold nmsL
      rw [List.map_cons, List.flatten_cons, hd]
      rfl
    have e2 : hasNm (z :: zs) s = ((z.1.toList == s.toList) || hasNm zs s) := rfl
    have e3 : (z.1.toList == s.toList) = (c == d) := by
      rw [ba_list, hd, hs]
      show ((d == c) && true) = (c == d)
      rw [Bool.and_true, Bool.eq_iff_iff, beq_iff_eq, beq_iff_eq]
      exact ⟨fun h => h.symm, fun h => h.symm⟩
    rw [e1, e2, List.contains_cons, ih', e3]
/-- The last of the names. -/
theorem nms_last {zs : List (ByteArray × ByteArray)} {k : Nat} {z : ByteArray × ByteArray} {a : UInt8} (h : zs[k]? = some z) (ha : z.1.data.toList = [a]) : ∃ l, nmsL (zs.take (k + 1)) = l ++ [a] := ⟨nmsL (zs.take k), by rw [nmsL_snoc h, ha]⟩
theorem asc_names {zs : List (ByteArray × ByteArray)} : ∀ (k : Nat), clsGo [] (zs.take k) = true → ascB (nmsL (zs.take k)) = true := by
  intro k
  cases k with
  | zero => intro _; rfl
  | succ k =>
    intro h
    rcases hk : zs[k]? with _ | z
    · have e : zs.take (k + 1) = zs.take k := by rw [List.take_add_one, hk]; simp
      have hlen : zs.length ≤ k := List.getElem?_eq_none_iff.1 hk
      rw [e] at h ⊢
      rw [List.take_of_length_le hlen] at h ⊢
      clear e hk
      -- the whole list: by its last class
      rcases List.eq_nil_or_concat zs with rfl | ⟨ys, y, e0⟩
      · rfl
      · have e1 : zs = ys ++ [y] := by rw [e0]; simp
        rw [e1] at h ⊢
        rw [clsGo_append] at h
        simp only [clsGo, Bool.and_true, List.nil_append, Bool.and_eq_true] at h
        have h2 := h.2
        rw [behind_def] at h2
        simp only [Bool.and_eq_true] at h2
        have e : nmsL (ys ++ [y]) = nmsL ys ++ y.1.data.toList := by simp [nmsL]
        rw [e]
        exact h2.1.2
    · rw [clsGo_snoc hk, Bool.and_eq_true] at h
      have h2 := h.2
      rw [behind_def] at h2
      simp only [Bool.and_eq_true] at h2
      rw [nmsL_snoc hk]
      exact h2.1.2
/-- A class behind valid ones, as the model looks at it. -/
theorem behind_model {zs : List (ByteArray × ByteArray)} {k : Nat} {z y : ByteArray × ByteArray} {a b : UInt8} (hk : clsGo [] (zs.take (k + 1)) = true) (hy : zs[k]? = some y) (ha : y.1.data.toList = [a]) (hb : z.1.data.toList = [b]) :
    ascB (nmsL (zs.take (k + 1)) ++ z.1.data.toList) = decide (a < b) := by
  have h1 := asc_names (k + 1) hk
  rw [nmsL_snoc hy, ha] at h1 ⊢
  rw [hb, List.append_assoc]
  show ascB (nmsL (zs.take k) ++ [a, b]) = _
  rw [ascB_snoc, h1, Bool.true_and]

theorem ascB_pre {xs ys : List UInt8} (h : ascB (xs ++ ys) = true) : ascB xs = true := by
  induction xs with
  | nil => rfl
  | cons x xs ih =>
    cases xs with
    | nil => rfl
    | cons y xs =>
      have h' : (decide (x < y) && ascB (y :: (xs ++ ys))) = true := h
      rw [Bool.and_eq_true] at h'
      show (decide (x < y) && ascB (y :: xs)) = true
      rw [h'.1, ih h'.2]
      rfl
theorem ascB_take {l : List UInt8} (k : Nat) (h : ascB (l.take k) = false) : ascB l = false := by
  refine Bool.eq_false_iff.2 fun e => ?_
  rw [← List.take_append_drop k l] at e
  rw [ascB_pre e] at h
  cases h
theorem ascB_step {l : List UInt8} {k : Nat} {a b : UInt8} (ha : l[k]? = some a) (hb : l[k + 1]? = some b) : ascB (l.take (k + 2)) = (ascB (l.take (k + 1)) && decide (a < b)) := by
  have e1 : l.take (k + 1) = l.take k ++ [a] := by rw [List.take_add_one, ha]; rfl
  have e2 : l.take (k + 2) = l.take k ++ [a, b] := by rw [List.take_add_one, hb, e1]; simp
  rw [e1, e2, ascB_snoc]

end Go.Proofs.YtlpfgiegapelmaaDoor

namespace Go.Proofs.YtlpfgiegapelmaaDoor
open Go.RowKit

/-- An error, or none. -/
def IsErr (v : Value) (b : Bool) : Prop := (b = false ∧ v = .nilIface) ∨ (b = true ∧ ∃ t a, v = .iface t (.pointer (some a)))
theorem IsErr.nil : IsErr .nilIface false := .inl ⟨rfl, rfl⟩
theorem IsErr.some (t : TypeId) (a : Addr) : IsErr (.iface t (.pointer (some a))) true := .inr ⟨rfl, t, a, rfl⟩
theorem IsErr.cells {v : Value} {b : Bool} (h : IsErr v b) : v.cells = #[v] := by
  rcases h with ⟨_, rfl⟩ | ⟨_, t, a, rfl⟩ <;> rfl
theorem IsErr.one {v : Value} {b : Bool} (h : IsErr v b) : v.oneCell' = true := by
  rcases h with ⟨_, rfl⟩ | ⟨_, t, a, rfl⟩ <;> rfl

theorem isNm_size {s : ByteArray} (h : s.size ≠ 1) : isNm s.data.toList = false := by
  unfold isNm
  split
  · rename_i c e
    exact absurd (by have : s.size = s.data.toList.length := by simp
                     rw [this, e]; rfl) h
  · rfl

theorem ib_neg (l : List UInt8) (c : UInt8) : (Lib.indexByte l c < 0) ↔ l.contains c = false := by
  induction l with
  | nil => exact ⟨fun _ => rfl, fun _ => (by decide : (-1 : Int) < 0)⟩
  | cons b l ih =>
    have hge := Lib.indexByte_ge l c
    rw [List.contains_cons]
    unfold Lib.indexByte
    by_cases e : b = c
    · subst e; simp
    · have e1 : (b == c) = false := beq_eq_false_iff_ne.2 e
      have e2 : (c == b) = false := beq_eq_false_iff_ne.2 fun h => e h.symm
      rw [e1, e2, Bool.false_or, ← ih]
      simp only [Bool.false_eq_true, if_false]
      split
      · rename_i h
        have h' : Lib.indexByte l c = -1 := by simpa using h
        rw [h']
      · rename_i h
        have h' : Lib.indexByte l c ≠ -1 := by simpa using h
        omega
theorem inB_take {l t : List UInt8} (k : Nat) (h : inB (l.take k) t = false) : inB l t = false := by
  have e : inB l t = (inB (l.take k) t && inB (l.drop k) t) := by
    unfold inB
    rw [← List.all_append, List.take_append_drop]
  rw [e, h]
  rfl
theorem inB_snoc {l t : List UInt8} {k : Nat} {c : UInt8} (h : l[k]? = some c) : inB (l.take (k + 1)) t = (inB (l.take k) t && t.contains c) := by
  unfold inB
  rw [List.take_add_one, h, List.all_append]
  simp
theorem byte_at {s : ByteArray} {k : Nat} (h : k < s.size) : s.data.toList[k]? = some s[k] := by
  rw [List.getElem?_eq_getElem (by simpa using h)]
  rfl

end Go.Proofs.YtlpfgiegapelmaaDoor

namespace Go.Proofs.YtlpfgiegapelmaaDoor
open Go.RowKit

end Go.Proofs.YtlpfgiegapelmaaDoor

namespace Go.Proofs.YtlpfgiegapelmaaDoor
open Go.RowKit

/-- How many are errors. -/
def cntE (vs : List (Value × Bool)) : Nat := (vs.filter fun p => p.2).length
theorem cntE_snoc {vs : List (Value × Bool)} {k : Nat} {p : Value × Bool} (h : vs[k]? = some p) : cntE (vs.take (k + 1)) = cntE (vs.take k) + (if p.2 = true then 1 else 0) := by
  unfold cntE
  rw [List.take_add_one, h, List.filter_append, List.length_append]
  rcases hb : p.2 with _ | _ <;> simp [hb]
theorem cntE_le (vs : List (Value × Bool)) : cntE vs ≤ vs.length := List.length_filter_le _ _
theorem cntE_any (vs : List (Value × Bool)) : (vs.any fun p => p.2) = decide (0 < cntE vs) := by
  unfold cntE
  induction vs with
  | nil => rfl
  | cons p vs ih =>
    rw [List.any_cons, ih]
    rcases hb : p.2 with _ | _
    · rw [List.filter_cons_of_neg (by simp [hb]), Bool.false_or]
    · rw [List.filter_cons_of_pos (by simp [hb]), Bool.true_or, decide_eq_true (by simp)]

theorem errorInfo : (Tryd.prog.info? 105).map (fun i => (i.zero, i.size, i.bytes)) = some (some .nilIface, 1, 16) := by kernel_rfl
end Go.Proofs.YtlpfgiegapelmaaDoor
