/- Worlds in plain words: whether classes, instances, worlds are valid. Errors in the program, one or none; names of classes. Whether a class stands in a list, in the program. errors.Join, at a few errors. -/
import Derived.Test.YtgbbobjkhpplkaaDoorInsA
import Derived.Test.YtgbbobjkhpplkaaDoorRen
import Derived.Test.YtgbbobjkhpplkaaDoorBvI
import Derived.Test.YtgbbobjkhpplkaaDoorBvS
import Derived.OwnWalk
namespace Go.Proofs.YtgbbobjkhpplkaaDoor
open Go.RowKit

/-- The name of a class: a letter from A to T. -/
def isNm (l : List UInt8) : Bool := match l with
  | [c] => decide (65 ≤ c.toNat) && decide (c.toNat ≤ 84)
  | _ => false
/-- Each letter is greater than the one before it. -/
def ascB : List UInt8 → Bool
  | a :: b :: l => decide (a < b) && ascB (b :: l)
  | _ => true
/-- A class behind the names of those before it. -/
def behind (names : List UInt8) (z : ByteArray × ByteArray) : Bool :=
  isNm z.1.data.toList && ascB (names ++ z.1.data.toList) && ascB z.2.data.toList && z.2.data.toList.all (fun c => names.contains c)
def clsGo : List UInt8 → List (ByteArray × ByteArray) → Bool
  | _, [] => true
  | names, z :: r => behind names z && clsGo (names ++ z.1.data.toList) r
/-- Whether classes are valid. -/
def clsOf (zs : List (ByteArray × ByteArray)) : Bool := decide (1 ≤ zs.length) && decide (zs.length ≤ 4) && clsGo [] zs
/-- Whether a class stands in a list. -/
def hasNm (zs : List (ByteArray × ByteArray)) (s : ByteArray) : Bool := zs.any fun z => z.1.toList == s.toList

/-- All letters of a text stand in another one. -/
def inB (l text : List UInt8) : Bool := l.all fun c => text.contains c
theorem behind_def (names : List UInt8) (z : ByteArray × ByteArray) : behind names z = ((isNm z.1.data.toList && ascB (names ++ z.1.data.toList)) && (ascB z.2.data.toList && inB z.2.data.toList names)) := by
  unfold behind inB
  rw [Bool.and_assoc]
/-- What holds for a need of an instance and for the needs of it. -/
def ndOk (zs : List (ByteArray × ByteArray)) (n : ByteArray × ByteArray) : Bool := hasNm zs n.1 && (decide (n.2.size ≤ 20) && (tyOf n.2.data.toList).isSome)
/-- A text is a variable. -/
def bareB (t : ByteArray) : Bool := match t.data.toList with
  | [c] => isVarB c
  | _ => false
/-- Whether an instance is one of classes. -/
def insOk (zs : List (ByteArray × ByteArray)) (i : Ins) : Bool :=
  ndOk zs (i.c, i.t) && (!bareB i.t && (decide (i.ns.length ≤ 3) && i.ns.all fun n => ndOk zs n && inB (varsOf n.2.data.toList) (varsOf i.t.data.toList)))
/-- Whether a world is valid. -/
def wdOf (zs : List (ByteArray × ByteArray)) (is : List Ins) : Bool := decide (is.length ≤ 10) && (clsOf zs && is.all (insOk zs))

/-- The names of classes, one behind the other. -/
def nmsL (zs : List (ByteArray × ByteArray)) : List UInt8 := (zs.map fun z => z.1.data.toList).flatten
theorem nmsL_snoc {zs : List (ByteArray × ByteArray)} {k : Nat} {z : ByteArray × ByteArray} (h : zs[k]? = some z) : nmsL (zs.take (k + 1)) = nmsL (zs.take k) ++ z.1.data.toList := by
  unfold nmsL
  rw [List.take_add_one, h]
  simp
theorem nmsL_len (zs : List (ByteArray × ByteArray)) : (nmsL zs).length ≤ tot zs := by
  induction zs with
  | nil => exact Nat.le_refl _
  | cons z zs ih =>
    simp only [nmsL, tot, List.map_cons, List.flatten_cons, List.length_append, List.sum_cons] at ih ⊢
    have : z.1.data.toList.length = z.1.size := by simp
    omega
theorem clsGo_append (names : List UInt8) (xs ys : List (ByteArray × ByteArray)) : clsGo names (xs ++ ys) = (clsGo names xs && clsGo (names ++ nmsL xs) ys) := by
  induction xs generalizing names with
  | nil => simp [clsGo, nmsL]
  | cons x xs ih =>
    show (behind names x && clsGo (names ++ x.1.data.toList) (xs ++ ys)) = ((behind names x && clsGo (names ++ x.1.data.toList) xs) && clsGo (names ++ nmsL (x :: xs)) ys)
    rw [ih, Bool.and_assoc]
    simp [nmsL]
theorem clsGo_snoc {zs : List (ByteArray × ByteArray)} {k : Nat} {z : ByteArray × ByteArray} (h : zs[k]? = some z) : clsGo [] (zs.take (k + 1)) = (clsGo [] (zs.take k) && behind (nmsL (zs.take k)) z) := by
  rw [List.take_add_one, h]
  show clsGo [] (zs.take k ++ [z]) = _
  rw [clsGo_append]
  simp [clsGo]
theorem clsGo_take {zs : List (ByteArray × ByteArray)} {k : Nat} (h : clsGo [] (zs.take k) = false) : clsGo [] zs = false := by
  have e : zs = zs.take k ++ zs.drop k := (List.take_append_drop k zs).symm
  rw [e, clsGo_append, h]
  rfl
theorem ascB_snoc (l : List UInt8) (a b : UInt8) : ascB (l ++ [a, b]) = (ascB (l ++ [a]) && decide (a < b)) := by
  induction l with
  | nil => simp [ascB]
  | cons x l ih =>
    cases l with
    | nil => simp [ascB]
    | cons y l =>
      have ih' : ascB (y :: (l ++ [a, b])) = (ascB (y :: (l ++ [a])) && decide (a < b)) := ih
      show (decide (x < y) && ascB (y :: (l ++ [a, b]))) = ((decide (x < y) && ascB (y :: (l ++ [a]))) && decide (a < b))
      rw [Bool.and_assoc, ← ih']
theorem ascB_one (a : UInt8) : ascB [a] = true := rfl
theorem isNm_one {l : List UInt8} (h : isNm l = true) : ∃ c, l = [c] ∧ 65 ≤ c.toNat ∧ c.toNat ≤ 84 := by
  unfold isNm at h
  split at h
  · rename_i c
    simp only [Bool.and_eq_true, decide_eq_true_eq] at h
    exact ⟨c, rfl, h⟩
  · cases h
/-- Valid classes have names of one letter. -/
theorem clsGo_names {zs : List (ByteArray × ByteArray)} : ∀ (names : List UInt8), clsGo names zs = true → ∀ z ∈ zs, isNm z.1.data.toList = true := by
  induction zs with
  | nil => exact fun _ _ z hz => by cases hz
  | cons y ys ih =>
    intro names h z hz
    have h' : (behind names y && clsGo (names ++ y.1.data.toList) ys) = true := h
    rw [Bool.and_eq_true] at h'
    rcases List.mem_cons.1 hz with rfl | hz
    · have := h'.1
      rw [behind_def] at this
      simp only [Bool.and_eq_true] at this
      exact this.1.1
    · exact ih _ h'.2 z hz
theorem ba_eq {x y : ByteArray} (h : x.data.toList = y.data.toList) : x = y := by
  cases x
  cases y
  have h' := Array.toList_inj.1 h
  simp only at h'
  rw [h']
theorem ba_list (x y : ByteArray) : (x.toList == y.toList) = (x.data.toList == y.data.toList) := by rw [ByteArray.toList_eq, ByteArray.toList_eq]
theorem ba_ne {x y : ByteArray} (h : x ≠ y) : (x.toList == y.toList) = false := by
  rw [ba_list]
  exact beq_eq_false_iff_ne.2 fun e => h (ba_eq e)
/-- Among classes with names of one letter, a letter stands in the names exactly if a class has it. -/
theorem names_has {zs : List (ByteArray × ByteArray)} (h : ∀ z ∈ zs, isNm z.1.data.toList = true) (c : UInt8) (s : ByteArray) (hs : s.data.toList = [c]) : (nmsL zs).contains c = hasNm zs s := by
  induction zs with
  | nil => rfl
  | cons z zs ih =>
    obtain ⟨d, hd, _⟩ := isNm_one (h z (List.mem_cons_self ..))
    have ih' := ih fun y hy => h y (List.mem_cons_of_mem _ hy)
    have e1 : nmsL (z :: zs) = d :: nmsL zs := by
      unfold nmsL
      rw [List.map_cons, List.flatten_cons, hd]
      rfl
    have e2 : hasNm (z :: zs) s = ((z.1.toList == s.toList) || hasNm zs s) := rfl
    have e3 : (z.1.toList == s.toList) = (c == d) := by
      rw [ba_list, hd, hs]
      show ((d == c) && true) = (c == d)
      rw [Bool.and_true, Bool.eq_iff_iff, beq_iff_eq, beq_iff_eq]
      exact ⟨fun h => h.symm, fun h => h.symm⟩
    rw [e1, e2, List.contains_cons, ih', e3]
/-- The last of the names. -/
theorem nms_last {zs : List (ByteArray × ByteArray)} {k : Nat} {z : ByteArray × ByteArray} {a : UInt8} (h : zs[k]? = some z) (ha : z.1.data.toList = [a]) : ∃ l, nmsL (zs.take (k + 1)) = l ++ [a] := ⟨nmsL (zs.take k), by rw [nmsL_snoc h, ha]⟩
theorem asc_names {zs : List (ByteArray × ByteArray)} : ∀ (k : Nat), clsGo [] (zs.take k) = true → ascB (nmsL (zs.take k)) = true := by
  intro k
  cases k with
  | zero => intro _; rfl
  | succ k =>
    intro h
    rcases hk : zs[k]? with _ | z
    · have e : zs.take (k + 1) = zs.take k := by rw [List.take_add_one, hk]; simp
      have hlen : zs.length ≤ k := List.getElem?_eq_none_iff.1 hk
      rw [e] at h ⊢
      rw [List.take_of_length_le hlen] at h ⊢
      clear e hk
      -- the whole list: by its last class
      rcases List.eq_nil_or_concat zs with rfl | ⟨ys, y, e0⟩
      · rfl
      · have e1 : zs = ys ++ [y] := by rw [e0]; simp
        rw [e1] at h ⊢
        rw [clsGo_append] at h
        simp only [clsGo, Bool.and_true, List.nil_append, Bool.and_eq_true] at h
        have h2 := h.2
        rw [behind_def] at h2
        simp only [Bool.and_eq_true] at h2
        have e : nmsL (ys ++ [y]) = nmsL ys ++ y.1.data.toList := by simp [nmsL]
        rw [e]
        exact h2.1.2
    · rw [clsGo_snoc hk, Bool.and_eq_true] at h
      have h2 := h.2
      rw [behind_def] at h2
      simp only [Bool.and_eq_true] at h2
      rw [nmsL_snoc hk]
      exact h2.1.2
/-- A class behind valid ones, as the model looks at it. -/
theorem behind_model {zs : List (ByteArray × ByteArray)} {k : Nat} {z y : ByteArray × ByteArray} {a b : UInt8} (hk : clsGo [] (zs.take (k + 1)) = true) (hy : zs[k]? = some y) (ha : y.1.data.toList = [a]) (hb : z.1.data.toList = [b]) :
    ascB (nmsL (zs.take (k + 1)) ++ z.1.data.toList) = decide (a < b) := by
  have h1 := asc_names (k + 1) hk
  rw [nmsL_snoc hy, ha] at h1 ⊢
  rw [hb, List.append_assoc]
  show ascB (nmsL (zs.take k) ++ [a, b]) = _
  rw [ascB_snoc, h1, Bool.true_and]

theorem ascB_pre {xs ys : List UInt8} (h : ascB (xs ++ ys) = true) : ascB xs = true := by
  induction xs with
  | nil => rfl
  | cons x xs ih =>
    cases xs with
    | nil => rfl
    | cons y xs =>
      have h' : (decide (x < y) && ascB (y :: (xs ++ ys))) = true := h
      rw [Bool.and_eq_true] at h'
      show (decide (x < y) && ascB (y :: xs)) = true
      rw [h'.1, ih h'.2]
      rfl
theorem ascB_take {l : List UInt8} (k : Nat) (h : ascB (l.take k) = false) : ascB l = false := by
  refine Bool.eq_false_iff.2 fun e => ?_
  rw [← List.take_append_drop k l] at e
  rw [ascB_pre e] at h
  cases h
theorem ascB_step {l : List UInt8} {k : Nat} {a b : UInt8} (ha : l[k]? = some a) (hb : l[k + 1]? = some b) : ascB (l.take (k + 2)) = (ascB (l.take (k + 1)) && decide (a < b)) := by
  have e1 : l.take (k + 1) = l.take k ++ [a] := by rw [List.take_add_one, ha]; rfl
  have e2 : l.take (k + 2) = l.take k ++ [a, b] := by rw [List.take_add_one, hb, e1]; simp
  rw [e1, e2, ascB_snoc]

end Go.Proofs.YtgbbobjkhpplkaaDoor

namespace Go.Proofs.YtgbbobjkhpplkaaDoor
open Go.RowKit

/-- An error, or none. -/
def IsErr (v : Value) (b : Bool) : Prop := (b = false ∧ v = .nilIface) ∨ (b = true ∧ ∃ t a, v = .iface t (.pointer (some a)))
theorem IsErr.nil : IsErr .nilIface false := .inl ⟨rfl, rfl⟩
theorem IsErr.some (t : TypeId) (a : Addr) : IsErr (.iface t (.pointer (some a))) true := .inr ⟨rfl, t, a, rfl⟩
theorem IsErr.cells {v : Value} {b : Bool} (h : IsErr v b) : v.cells = #[v] := by
  rcases h with ⟨_, rfl⟩ | ⟨_, t, a, rfl⟩ <;> rfl
theorem IsErr.one {v : Value} {b : Bool} (h : IsErr v b) : v.oneCell' = true := by
  rcases h with ⟨_, rfl⟩ | ⟨_, t, a, rfl⟩ <;> rfl

set_option maxHeartbeats 400000 in
theorem unless_any (well : Bool) (v : Value) (b : Bool) (h : IsErr v b) (w : World) :
    Calls Tryd.prog 58 #[.bool well, v] w fun e w' => (∃ u, e = .returned u ∧ IsErr u (!well && b)) ∧ w' = w := by
  cases well
  · go_enter Tryd.func58, Tryd.ntmps58
    go_wp2_with fail
    go_ret
    exact ⟨⟨v, rfl, h⟩, rfl⟩
  · go_enter Tryd.func58, Tryd.ntmps58
    go_wp2_with fail
    go_ret
    exact ⟨⟨.nilIface, rfl, .inl ⟨rfl, rfl⟩⟩, rfl⟩

set_option maxHeartbeats 400000 in
theorem unlessT (v : Value) (w : World) : Calls Tryd.prog 58 #[.bool true, v] w fun e w' => e = .returned .nilIface ∧ w' = w := by
  go_enter Tryd.func58, Tryd.ntmps58
  go_wp2_with fail
  go_ret
  exact ⟨rfl, rfl⟩
set_option maxHeartbeats 400000 in
theorem unlessF (v : Value) (w : World) : Calls Tryd.prog 58 #[.bool false, v] w fun e w' => e = .returned v ∧ w' = w := by
  go_enter Tryd.func58, Tryd.ntmps58
  go_wp2_with fail
  go_ret
  exact ⟨rfl, rfl⟩
theorem isNm_size {s : ByteArray} (h : s.size ≠ 1) : isNm s.data.toList = false := by
  unfold isNm
  split
  · rename_i c e
    exact absurd (by have : s.size = s.data.toList.length := by simp
                     rw [this, e]; rfl) h
  · rfl

set_option maxHeartbeats 400000 in
theorem isName_any (s : ByteArray) (w : World) : Calls Tryd.prog 65 #[.string s] w fun e w' => e = .returned (.bool (isNm s.data.toList)) ∧ w' = w := by
  by_cases h1 : s.size = 1
  · obtain ⟨c, hc, hx⟩ := one_list h1
    have h0 : 0 < s.size := by omega
    have hx0 := hx h0
    have e : isNm s.data.toList = (decide (65 ≤ c.toNat) && decide (c.toNat ≤ 84)) := by rw [hc]; rfl
    rw [e]
    clear e hx hc
    by_cases h2 : 65 ≤ c.toNat
    · have h3 : (65 : Int) ≤ (c.toNat : Int) := by omega
      by_cases h4 : c.toNat ≤ 84
      · have h5 : (c.toNat : Int) ≤ 84 := by omega
        go_enter Tryd.func65, Tryd.ntmps65
        go_wp2_with fail
        go_ret
        exact ⟨by rw [decide_eq_true h2, decide_eq_true h4]; rfl, rfl⟩
      · have h5 : ¬ (c.toNat : Int) ≤ 84 := by omega
        go_enter Tryd.func65, Tryd.ntmps65
        go_wp2_with fail
        go_ret
        exact ⟨rfl, rfl⟩
    · have h3 : ¬ (65 : Int) ≤ (c.toNat : Int) := by omega
      go_enter Tryd.func65, Tryd.ntmps65
      go_wp2_with fail
      go_ret
      exact ⟨rfl, rfl⟩
  · rw [isNm_size h1]
    have h2 : ((s.size : Int) == 1) = false := by simp; omega
    go_enter Tryd.func65, Tryd.ntmps65
    go_wp2_with fail
    go_ret
    exact ⟨rfl, rfl⟩

theorem ib_neg (l : List UInt8) (c : UInt8) : (Lib.indexByte l c < 0) ↔ l.contains c = false := by
  induction l with
  | nil => exact ⟨fun _ => rfl, fun _ => (by decide : (-1 : Int) < 0)⟩
  | cons b l ih =>
    have hge := Lib.indexByte_ge l c
    rw [List.contains_cons]
    unfold Lib.indexByte
    by_cases e : b = c
    · subst e; simp
    · have e1 : (b == c) = false := beq_eq_false_iff_ne.2 e
      have e2 : (c == b) = false := beq_eq_false_iff_ne.2 fun h => e h.symm
      rw [e1, e2, Bool.false_or, ← ih]
      simp only [Bool.false_eq_true, if_false]
      split
      · rename_i h
        have h' : Lib.indexByte l c = -1 := by simpa using h
        rw [h']
      · rename_i h
        have h' : Lib.indexByte l c ≠ -1 := by simpa using h
        omega
theorem inB_take {l t : List UInt8} (k : Nat) (h : inB (l.take k) t = false) : inB l t = false := by
  have e : inB l t = (inB (l.take k) t && inB (l.drop k) t) := by
    unfold inB
    rw [← List.all_append, List.take_append_drop]
  rw [e, h]
  rfl
theorem inB_snoc {l t : List UInt8} {k : Nat} {c : UInt8} (h : l[k]? = some c) : inB (l.take (k + 1)) t = (inB (l.take k) t && t.contains c) := by
  unfold inB
  rw [List.take_add_one, h, List.all_append]
  simp
theorem byte_at {s : ByteArray} {k : Nat} (h : k < s.size) : s.data.toList[k]? = some s[k] := by
  rw [List.getElem?_eq_getElem (by simpa using h)]
  rfl

set_option maxHeartbeats 1000000 in
set_option maxRecDepth 100000 in
theorem isAscending_any (s : ByteArray) (hs : s.size ≤ maxLen) (w : World) : Calls Tryd.prog 66 #[.string s] w fun e w' => e = .returned (.bool (ascB s.data.toList)) ∧ Below w.heap.size w w' := by
  have hl : s.data.toList.length = s.size := by simp
  have HL := hid hl
  clear hl
  unfold maxLen at hs
  go_enter Tryd.func66, Tryd.ntmps66
  go_wp2_with fail
  go_loopw [3] (fun i wr => ∃ k : Nat, k ≤ s.size ∧ i = .int .i64 ((k : Int) + 1) ∧ ascB (s.data.toList.take (k + 1)) = true ∧ Below w.heap.size w wr) (fun i _ => s.size + 1 - (intOf i).toNat)
  case atStart =>
    refine ⟨0, Nat.zero_le _, rfl, ?_, Below.refl _ _⟩
    rcases s.data.toList with _ | ⟨a, l⟩ <;> rfl
  case round =>
    obtain ⟨k, hk, rfl, hasc, hbel⟩ := hrel
    have HASC := hid hasc
    clear hasc
    by_cases hlt : k + 1 < s.size
    · have h0 : k < s.size := by omega
      have ha := byte_at h0
      have hb := byte_at hlt
      obtain ⟨a, ea⟩ : ∃ a, s[k] = a := ⟨_, rfl⟩
      obtain ⟨b, eb⟩ : ∃ b, s[k + 1] = b := ⟨_, rfl⟩
      rw [ea] at ha
      rw [eb] at hb
      have HST := hid (ascB_step ha hb)
      have i1 : (k : Int) + 1 < (s.size : Int) := by omega
      have i2 : (0 : Int) ≤ (k : Int) := by omega
      clear ha hb
      go_wp2_with fail
      go_quiet (fail)
      by_cases hab : a < b
      · have hn : ¬ b.toNat ≤ a.toNat := by have := UInt8.lt_iff_toNat_lt.1 hab; omega
        have HA2 := hid (show ascB (s.data.toList.take (k + 2)) = true by rw [HST.out, HASC.out, decide_eq_true hab]; rfl)
        clear hab
        go_wp2_with fail
        go_roundw
        case rel => exact ⟨k + 1, by omega, by go_num, HA2.out, hbel.trans ⟨rfl, rfl, rfl, Nat.le_refl _, fun _ _ => rfl⟩⟩
        case measure => simp [intOf]; omega
      · have hn : b.toNat ≤ a.toNat := by
          refine Decidable.byContradiction fun h => hab (UInt8.lt_iff_toNat_lt.2 (by omega))
        have HA2 := hid (show ascB s.data.toList = false from ascB_take (k + 2) (by rw [HST.out, decide_eq_false hab, Bool.and_false]))
        clear hab
        go_wp2_with fail
        go_ret
        exact ⟨by rw [HA2.out]; rfl, hbel.trans ⟨rfl, rfl, rfl, Nat.le_refl _, fun _ _ => rfl⟩⟩
    · have HA2 := hid (show ascB s.data.toList = true by
        have h := HASC.out
        rwa [List.take_of_length_le (by rw [HL.out]; omega)] at h)
      go_wp2_with fail
      go_ret
      exact ⟨by rw [HA2.out]; rfl, hbel⟩

set_option maxHeartbeats 1000000 in
set_option maxRecDepth 100000 in
theorem standIn_any (s t : ByteArray) (hs : s.size ≤ maxLen) (w : World) : Calls Tryd.prog 67 #[.string s, .string t] w fun e w' => e = .returned (.bool (inB s.data.toList t.data.toList)) ∧ w' = w := by
  have hl : s.data.toList.length = s.size := by simp
  have HL := hid hl
  clear hl
  unfold maxLen at hs
  go_enter Tryd.func67, Tryd.ntmps67
  go_wp2_with fail
  go_loopw [8] (fun i wr => ∃ k : Nat, k ≤ s.size ∧ i = .int .i64 k ∧ inB (s.data.toList.take k) t.data.toList = true ∧ wr = w) (fun i _ => s.size - (intOf i).toNat)
  case atStart => exact ⟨0, Nat.zero_le _, rfl, rfl, rfl⟩
  case round =>
    obtain ⟨k, hk, rfl, hin, rfl⟩ := hrel
    have HIN := hid hin
    clear hin
    by_cases hlt : k < s.size
    · have hc := byte_at hlt
      have HSN := hid (inB_snoc (t := t.data.toList) hc)
      obtain ⟨q, hq⟩ : ∃ q, Lib.indexByte t.data.toList s[k] = q := ⟨_, rfl⟩
      have hneg := ib_neg t.data.toList s[k]
      rw [hq] at hneg
      have HQ := hid hq
      have HNEG := hid hneg
      have i1 : (0 : Int) ≤ (k : Int) := by omega
      have i2 : (k : Int) < (s.size : Int) := by omega
      clear hc hq hneg
      by_cases hq0 : q < 0
      · have HF := hid (show inB s.data.toList t.data.toList = false from inB_take (k + 1) (by rw [HSN.out, HNEG.out.1 hq0, Bool.and_false]))
        go_wp2_with (first | (go_at_call 76; refine (strings_IndexByte_any t _ _ q HQ).mono ?_; rintro e w' ⟨rfl, rfl⟩) | fail)
        go_ret
        exact ⟨by rw [HF.out]; rfl, rfl⟩
      · have HT := hid (show inB (s.data.toList.take (k + 1)) t.data.toList = true by
          rw [HSN.out, HIN.out, Bool.true_and]
          rw [← Bool.not_eq_false]
          exact fun h => hq0 (HNEG.out.2 h))
        go_wp2_with (first | (go_at_call 76; refine (strings_IndexByte_any t _ _ q HQ).mono ?_; rintro e w' ⟨rfl, rfl⟩) | fail)
        go_roundw
        case rel => exact ⟨k + 1, hlt, by go_num, HT.out, by trivial⟩
        case measure => simp [intOf]; omega
    · have e : s.data.toList.take k = s.data.toList := List.take_of_length_le (by rw [HL.out]; omega)
      have HE := hid e
      clear e
      go_wp2_with fail
      go_ret
      have h := HIN.out
      rw [HE.out] at h
      exact ⟨by rw [h]; rfl, rfl⟩

end Go.Proofs.YtgbbobjkhpplkaaDoor

namespace Go.Proofs.YtgbbobjkhpplkaaDoor
open Go.RowKit

theorem cf_has1 (args : Array Value) (w : World) : (callFunc 61 args).run Tryd.prog w = .ok (.enter 61 args) w := by kernel_rfl

set_option maxHeartbeats 400000 in
theorem has1_any (x y s : ByteArray) (g : Nat) (w : World) (hg : g < w.heap.size) (hc : w.cell? ⟨g, 0, none⟩ = some (.string s)) :
    Calls Tryd.prog 61 #[.agg #[.string x, .string y], .pointer (some ⟨g, 0, none⟩)] w fun e w' => e = .returned (.bool (x.toList == s.toList)) ∧ Below w.heap.size w w' := by
  have hc2 := fun o => cell_below hc hg ((Below.refl _ w).alloc (Nat.le_refl _) o)
  go_enter Tryd.func61, Tryd.ntmps61
  go_wp2_with fail
  go_ret
  exact ⟨rfl, (Below.refl _ _).alloc (Nat.le_refl _) _⟩

set_option maxHeartbeats 1000000 in
set_option maxRecDepth 100000 in
theorem indexC_any (fn : Nat) (k1 : Value) (hcf : ∀ args w, (callFunc fn args).run Tryd.prog w = .ok (.enter fn args) w) (A : Option Addr) (n cap : Nat) (zs : List (ByteArray × ByteArray)) (r : ByteArray × ByteArray → Bool) (w : World) (hn : n ≤ maxLen) (ha : Prs w A n zs)
    (HC : ∀ W x y, Below w.heap.size w W → Calls Tryd.prog fn #[.agg #[.string x, .string y], k1] W fun e w' => e = .returned (.bool (r (x, y))) ∧ Below W.heap.size W w') :
    Calls Tryd.prog 69 #[.slice A n cap, .func (.func fn) #[] #[k1]] w fun e w' => ∃ q : Int, e = .returned (.int .i64 q) ∧ decide (0 ≤ q) = zs.any r ∧ Below w.heap.size w w' := by
  have HA := hid ha
  have HCC := hid HC
  clear ha HC
  unfold maxLen at hn
  go_enter Tryd.func69, Tryd.ntmps69
  go_wp2_with fail
  go_loopw [8] (fun i wr => ∃ k : Nat, k ≤ n ∧ i = .int .i64 k ∧ (∀ j z, j < k → zs[j]? = some z → r z = false) ∧ Below w.heap.size w wr) (fun i _ => n - (intOf i).toNat)
  case atStart => exact ⟨0, Nat.zero_le _, rfl, (fun j z h => absurd h (Nat.not_lt_zero _)), Below.refl _ _⟩
  case round =>
    obtain ⟨k, hk, rfl, hno, hbel⟩ := hrel
    have HNO := hid hno
    clear hno
    by_cases hlt : k < n
    · obtain ⟨g, o, rfl, hg, hca⟩ := HA.out.2 (by omega)
      have hx : zs[k]? = some (zs[k]'(by have := HA.out.1; omega)) := List.getElem?_eq_getElem _
      obtain ⟨ca, cb⟩ := hca k _ hx
      obtain ⟨⟨x, y⟩, ex⟩ : ∃ z, zs[k]'(by have := HA.out.1; omega) = z := ⟨_, rfl⟩
      rw [ex] at ca cb hx
      have HX := hid hx
      have ca' := cell_below ca hg hbel
      have cb' := cell_below cb hg hbel
      have HI := hid (HCC.out wr x y hbel)
      clear hca hx ex ca cb
      have i1 : (0 : Int) ≤ (k : Int) := by omega
      have i2 : (k : Int) < (n : Int) := by omega
      obtain ⟨b, hb⟩ : ∃ b, r (x, y) = b := ⟨_, rfl⟩
      rw [hb] at HI
      have HB := hid hb
      clear hb
      go_wp2_with fail
      refine HI.out.mono ?_
      rintro e w1 ⟨rfl, d1⟩
      cases b
      · go_wp2_with fail
        go_roundw
        case rel =>
          refine ⟨k + 1, hlt, by go_num, fun j z hj hz => ?_, hbel.trans (d1.mono hbel.size)⟩
          by_cases e : j = k
          · subst e
            rw [HX.out] at hz
            injection hz with hz
            rw [← hz]
            exact HB.out
          · exact HNO.out j z (by omega) hz
        case measure => simp [intOf]; omega
      · go_wp2_with fail
        go_ret
        refine ⟨(k : Int), rfl, ?_, hbel.trans (d1.mono hbel.size)⟩
        rw [decide_eq_true i1]
        exact (List.any_eq_true.2 ⟨(x, y), List.mem_of_getElem? HX.out, HB.out⟩).symm
    · go_wp2_with fail
      go_ret
      refine ⟨-1, rfl, ?_, hbel⟩
      rw [show decide ((0 : Int) ≤ -1) = false from rfl]
      refine (Bool.eq_false_iff.2 fun h => ?_).symm
      obtain ⟨z, hz, e⟩ := List.any_eq_true.1 h
      obtain ⟨j, hj, rfl⟩ := List.getElem_of_mem hz
      rw [HNO.out j _ (by have := HA.out.1; omega) (List.getElem?_eq_getElem hj)] at e
      cases e

set_option maxHeartbeats 400000 in
set_option maxRecDepth 100000 in
theorem containsC_any (fn : Nat) (k1 : Value) (hcf : ∀ args w, (callFunc fn args).run Tryd.prog w = .ok (.enter fn args) w) (A : Option Addr) (n cap : Nat) (zs : List (ByteArray × ByteArray)) (r : ByteArray × ByteArray → Bool) (w : World) (hn : n ≤ maxLen) (ha : Prs w A n zs)
    (HC : ∀ W x y, Below w.heap.size w W → Calls Tryd.prog fn #[.agg #[.string x, .string y], k1] W fun e w' => e = .returned (.bool (r (x, y))) ∧ Below W.heap.size W w') :
    Calls Tryd.prog 60 #[.slice A n cap, .func (.func fn) #[] #[k1]] w fun e w' => e = .returned (.bool (zs.any r)) ∧ Below w.heap.size w w' := by
  have HI := hid (indexC_any fn k1 hcf A n cap zs r w hn ha HC)
  clear HC ha
  go_enter Tryd.func60, Tryd.ntmps60
  go_wp2_with fail
  refine HI.out.mono ?_
  rintro e w1 ⟨q, rfl, hq, hb⟩
  have HQ := hid hq
  clear hq
  go_wp2_with fail
  go_ret
  exact ⟨by rw [← HQ.out]; simp, hb⟩

set_option maxHeartbeats 400000 in
set_option maxRecDepth 100000 in
theorem hasName_any (A : Option Addr) (n cap : Nat) (zs : List (ByteArray × ByteArray)) (s : ByteArray) (w : World) (hn : n ≤ maxLen) (ha : Prs w A n zs) :
    Calls Tryd.prog 50 #[.slice A n cap, .string s] w fun e w' => e = .returned (.bool (hasNm zs s)) ∧ Below w.heap.size w w' := by
  have hb0 : ∀ o, Below w.heap.size w (w.alloc o) := fun o => (Below.refl _ _).alloc (Nat.le_refl _) o
  have HI := hid (fun (W : World) (hW : Below w.heap.size w W) (hg : w.heap.size < W.heap.size) (hc : W.cell? ⟨w.heap.size, 0, none⟩ = some (.string s)) => containsC_any 61 (.pointer (some ⟨w.heap.size, 0, none⟩)) cf_has1 A n cap zs (fun z => z.1.toList == s.toList) W hn (ha.below hW) fun W' x y hW' => has1_any x y s w.heap.size W' (Nat.lt_of_lt_of_le hg hW'.size) (cell_below hc hg hW'))
  clear ha
  go_enter Tryd.func50, Tryd.ntmps50
  go_wp2_with fail
  refine (HI.out _ (hb0 _) (by simp only [World.size_alloc]; omega) (cell_of1 (heap_new1 w _))).mono ?_
  rintro e w1 ⟨rfl, hb⟩
  go_wp2_with fail
  go_ret
  exact ⟨rfl, (hb0 _).trans (hb.mono (hb0 _).size)⟩

end Go.Proofs.YtgbbobjkhpplkaaDoor

namespace Go.Proofs.YtgbbobjkhpplkaaDoor
open Go.RowKit

/-- How many are errors. -/
def cntE (vs : List (Value × Bool)) : Nat := (vs.filter fun p => p.2).length
theorem cntE_snoc {vs : List (Value × Bool)} {k : Nat} {p : Value × Bool} (h : vs[k]? = some p) : cntE (vs.take (k + 1)) = cntE (vs.take k) + (if p.2 = true then 1 else 0) := by
  unfold cntE
  rw [List.take_add_one, h, List.filter_append, List.length_append]
  rcases hb : p.2 with _ | _ <;> simp [hb]
theorem cntE_le (vs : List (Value × Bool)) : cntE vs ≤ vs.length := List.length_filter_le _ _
theorem cntE_any (vs : List (Value × Bool)) : (vs.any fun p => p.2) = decide (0 < cntE vs) := by
  unfold cntE
  induction vs with
  | nil => rfl
  | cons p vs ih =>
    rw [List.any_cons, ih]
    rcases hb : p.2 with _ | _
    · rw [List.filter_cons_of_neg (by simp [hb]), Bool.false_or]
    · rw [List.filter_cons_of_pos (by simp [hb]), Bool.true_or, decide_eq_true (by simp)]

theorem errorInfo : (Tryd.prog.info? 70).map (fun i => (i.zero, i.size, i.bytes)) = some (some .nilIface, 1, 16) := by kernel_rfl
theorem run_makeErr (n : Nat) (hn : n ≤ 1048576) (w : World) :
    (Instr.makeSlice 98 (.int .i64 0) (.int .i64 (n : Int))).run Tryd.prog w = .ok (.slice (some ⟨w.heap.size, 0, none⟩) 0 n) (w.alloc (.cells (madeCells #[.nilIface] n) 70)) := by
  obtain ⟨i, hi, hz, hs, hb⟩ := info_parts errorInfo
  have := run_make (P := Tryd.prog) w 98 70 i _ Tryd.underlying98 hi hz .i64 .i64 0 n (by omega) (by omega) (by rw [hb]; omega) (by omega)
  rw [this, hs, Nat.mul_one]
  rfl

set_option maxHeartbeats 2000000 in
set_option maxRecDepth 100000 in
theorem join_any (g o N cap : Nat) (vs : List (Value × Bool)) (w : World) (hN : vs.length = N) (h3 : N ≤ 3) (hv : ∀ p ∈ vs, IsErr p.1 p.2) (hc : ∀ (j : Nat) p, vs[j]? = some p → w.cell? ⟨g, o + j, none⟩ = some p.1) (hg : g < w.heap.size) :
    Calls Tryd.prog 48 #[.slice (some ⟨g, o, none⟩) N cap] w fun e w' => (∃ v, e = .returned v ∧ IsErr v (vs.any fun p => p.2)) ∧ Below w.heap.size w w' := by
  have HN := hid hN
  have HV := hid hv
  have HC := hid hc
  clear hN hv hc
  go_enter Tryd.func48, Tryd.ntmps48
  go_wp2_with fail
  go_loopw [3, 11] (fun n i wr => ∃ k : Nat, k ≤ N ∧ i = .int .i64 k ∧ n = .int .i64 (cntE (vs.take k) : Nat) ∧ w = wr) (fun _ i _ => N - (intOf i).toNat)
  case atStart => exact ⟨0, Nat.zero_le _, rfl, rfl, rfl⟩
  case round =>
    obtain ⟨k, hk, rfl, rfl, rfl⟩ := hrel
    have hle : cntE (vs.take k) ≤ 3 := Nat.le_trans (cntE_le _) (by rw [List.length_take]; omega)
    obtain ⟨c, hcn⟩ : ∃ c, cntE (vs.take k) = c := ⟨_, rfl⟩
    have HCN := hid hcn
    rw [hcn] at hle ⊢
    clear hcn
    by_cases hlt : k < N
    · have hx : vs[k]? = some (vs[k]'(by have := HN.out; omega)) := List.getElem?_eq_getElem _
      obtain ⟨⟨v, b⟩, ex⟩ : ∃ z, vs[k]'(by have := HN.out; omega) = z := ⟨_, rfl⟩
      rw [ex] at hx
      have cv := HC.out k _ hx
      have hv := HV.out _ (List.mem_of_getElem? hx)
      have HX := hid (cntE_snoc hx)
      have i1 : (0 : Int) ≤ (k : Int) := by omega
      have i2 : (k : Int) < (N : Int) := by omega
      clear hx ex
      rcases hv with ⟨hb, hv⟩ | ⟨hb, t, a, hv⟩
      · simp only at hb hv
        subst hb
        subst hv
        have HX2 := hid (show cntE (vs.take (k + 1)) = c by rw [HX.out, HCN.out]; rfl)
        go_wp2_with fail
        go_roundw
        case rel => exact ⟨k + 1, hlt, by go_num, by rw [HX2.out], by trivial⟩
        case measure => simp [intOf]; omega
      · simp only at hb hv
        subst hb
        subst hv
        have HX2 := hid (show cntE (vs.take (k + 1)) = c + 1 by rw [HX.out, HCN.out]; rfl)
        go_wp2_with fail
        go_roundw
        case rel => exact ⟨k + 1, hlt, by go_num, by rw [HX2.out]; go_num, by trivial⟩
        case measure => simp [intOf]; omega
    · have hc2 : cntE vs = c := by rw [← HCN.out, List.take_of_length_le (by have := HN.out; omega)]
      have HC2 := hid hc2
      clear hc2
      by_cases hc0 : c = 0
      · have HAN := hid (show (vs.any fun p => p.2) = false by rw [cntE_any, HC2.out, hc0]; rfl)
        subst hc0
        go_wp2_with fail
        go_ret
        rw [HAN.out]
        exact ⟨⟨_, rfl, IsErr.nil⟩, Below.refl _ _⟩
      · have HAN := hid (show (vs.any fun p => p.2) = true by rw [cntE_any, HC2.out]; exact decide_eq_true (by omega))
        have hc1 : ((c : Int) == 0) = false := by simp; omega
        have hmk := run_makeErr c (by omega)
        obtain ⟨i0, hi0, hz0, hz1, hz2⟩ := info_parts errorInfo
        have hc3 : c ≤ 3 := hle
        go_wp2_with fail
        clear hmk
        have hh0 : ((w.alloc (.cells (madeCells #[.nilIface] c) 70)).alloc (.cells #[.slice (some ⟨w.heap.size, 0, none⟩) 0 c] 101)).heap[w.heap.size]? = some (.cells (madeCells #[.nilIface] c) 70 (0, 0)) := by
          rw [Below.heap_alloc _ _ _ (by simp only [World.size_alloc]; omega)]
          exact heap_new1 _ _
        have hh1 : ((w.alloc (.cells (madeCells #[.nilIface] c) 70)).alloc (.cells #[.slice (some ⟨w.heap.size, 0, none⟩) 0 c] 101)).heap[w.heap.size + 1]? = some (.cells #[.slice (some ⟨w.heap.size, 0, none⟩) 0 c] 101 (0, 0)) := by
          have := heap_new1 (w.alloc (.cells (madeCells #[.nilIface] c) 70)) (.cells #[.slice (some ⟨w.heap.size, 0, none⟩) 0 c] 101)
          rw [World.size_alloc] at this
          exact this
        have HH0 := hid hh0
        have HH1 := hid hh1
        clear hh0 hh1
        go_loopw [28] (fun i wr => ∃ k : Nat, k ≤ N ∧ i = .int .i64 k ∧ ∃ (gs m cap' : Nat) (xs : List Value), wr.heap[w.heap.size + 1]? = some (.cells #[.slice (some ⟨gs, 0, none⟩) m cap'] 101 (0, 0)) ∧ wr.ownsRow w.heap.size 70 1 (.slice (some ⟨gs, 0, none⟩) m cap') m xs ∧ gs ≠ w.heap.size + 1 ∧ m ≤ k ∧ Below w.heap.size w wr ∧ w.heap.size + 1 < wr.heap.size) (fun i _ => N - (intOf i).toNat)
        case atStart =>
          exact ⟨0, Nat.zero_le _, rfl, w.heap.size, 0, c, [], HH1.out, ⟨rfl, .inr ⟨w.heap.size, c, _, rfl, Nat.le_refl _, HH0.out, Nat.zero_le _, by unfold maxLen; omega, by simp [madeCells], rfl⟩⟩, by omega, Nat.le_refl _, ((Below.refl _ _).alloc (Nat.le_refl _) _).alloc (by simp only [World.size_alloc]; omega) _, by simp only [World.size_alloc]; omega⟩
        case round =>
          obtain ⟨k2, hk2, rfl, gs, m, cap', xs, heb, hown, hne, hm, hbel, hsz⟩ := hrel
          have HOWN := hid hown
          have HEB := hid heb
          have hgs := hown.lt gs rfl
          clear hown heb
          by_cases hlt2 : k2 < N
          · have hx : vs[k2]? = some (vs[k2]'(by have := HN.out; omega)) := List.getElem?_eq_getElem _
            obtain ⟨⟨v, b⟩, ex⟩ : ∃ z, vs[k2]'(by have := HN.out; omega) = z := ⟨_, rfl⟩
            rw [ex] at hx
            have cv := cell_below (HC.out k2 _ hx) hg hbel
            have hv := HV.out _ (List.mem_of_getElem? hx)
            have i1 : (0 : Int) ≤ (k2 : Int) := by omega
            have i2 : (k2 : Int) < (N : Int) := by omega
            clear hx ex
            rcases hv with ⟨hb, hv⟩ | ⟨hb, t, a, hv⟩
            · simp only at hb hv
              subst hb
              subst hv
              go_wp2_with fail
              go_roundw
              case rel => exact ⟨k2 + 1, hlt2, by go_num, gs, m, cap', xs, HEB.out, HOWN.out, hne, by omega, hbel, hsz⟩
              case measure => simp [intOf]; omega
            · simp only at hb hv
              subst hb
              subst hv
              have e0 := cell_of1 HEB.out
              go_wp2_with (first
                | (at_builtin; refine wpList_append_lies _ rfl _ _ 98 rfl w.heap.size 70 i0 _ 1 16 Tryd.underlying98 hi0 hz0 hz1 hz2 rfl (by decide) _ _ _ rfl (HOWN.out.alloc _) ⟨wr.heap.size, 0, none⟩ 1 1 [.iface t (.pointer (some a))] rfl rfl ?c1 ?c2 (by decide) ?c3 ?c4 ?c5 (wr.heap.size + 1) (World.size_alloc _ _) ?_)
                | fail)
              case c2 => simp [Value.oneCell']
              case c3 => unfold maxLen; omega
              case c4 => omega
              case c5 => omega
              intro g5 cap5 w5 hown5 hg5 hat5 q5
              have HO5 := hid hown5
              have z5 := hg5.size
              simp only [World.size_alloc] at z5
              have heb5 : w5.heap[w.heap.size + 1]? = some (.cells #[.slice (some ⟨gs, 0, none⟩) m cap'] 101 (0, 0)) := by
                rw [hg5.block _ (by simp only [World.size_alloc]; omega) (by simp [Value.ownBlock]; omega), Below.heap_alloc _ _ _ (by omega)]
                exact HEB.out
              have hb5 : Below w.heap.size w w5 := (hbel.alloc (by omega) _).grown hg5 (by simp only [World.size_alloc]; omega) (fun j hj => by simp [Value.ownBlock] at hj; omega)
              have hne5 : g5 ≠ w.heap.size + 1 := by
                rcases hat5 with h | h
                · simp only [Value.ownBlock, Option.some.injEq] at h
                  omega
                · omega
              have e5 := cell_of1 heb5
              have f5 := frz_blk heb5 0
              have HE5 := hid heb5
              clear hown5 heb5
              go_wp2_with fail
              go_roundw
              case rel =>
                have hset : (w5.setCell ⟨w.heap.size + 1, 0, none⟩ (.slice (some ⟨g5, 0, none⟩) (m + 1) cap5)).heap[w.heap.size + 1]? = some (.cells #[.slice (some ⟨g5, 0, none⟩) (m + 1) cap5] 101 (0, 0)) := by
                  simp [World.setCell, Array.getElem?_modify, HE5.out]
                refine ⟨k2 + 1, hlt2, by go_num, g5, m + 1, cap5, _, hset, own_kept HO5.out (Below.heap_setCell _ _ _ _ hne5), hne5, by omega, ?_, by simp [World.setCell]; omega⟩
                exact hb5.trans ⟨rfl, rfl, rfl, by simp [World.setCell], fun j hj => Below.heap_setCell _ _ _ _ (by show j ≠ w.heap.size + 1; omega)⟩
              case measure => simp [intOf]; omega
          · go_wp2_with fail
            go_ret
            rw [HAN.out]
            exact ⟨⟨_, rfl, .inr ⟨rfl, _, _, rfl⟩⟩, hbel⟩

end Go.Proofs.YtgbbobjkhpplkaaDoor
