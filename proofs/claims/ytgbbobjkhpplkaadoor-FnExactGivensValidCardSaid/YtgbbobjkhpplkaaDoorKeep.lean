/- The places of instances that are wanted, in plain words. The exact laws' own helpers over rows of numbers: eqIntS, markIntS, heldIntS. keep at numbers: those of a list of which a predicate is true, in memory of their own. -/
import Derived.Test.YtgbbobjkhpplkaaDoorJn
import Derived.Test.YtgbbobjkhpplkaaDoorMtW
import Derived.Test.YtgbbobjkhpplkaaDoorMarksB
import Derived.Test.YtgbbobjkhpplkaaDoorArgsB
import Derived.Test.YtgbbobjkhpplkaaDoorNdI
import Derived.OwnWalk
import Derived.Maps.AppendAt
import Derived.Maps.OwnRows
namespace Go.Proofs.YtgbbobjkhpplkaaDoor
set_option linter.unusedVariables false

/-- The places of those that are wanted, from k on. -/
def idxs (p : Ins → Bool) : Nat → List Ins → List Nat
  | _, [] => []
  | k, i :: is => if p i then k :: idxs p (k + 1) is else idxs p (k + 1) is
theorem idxs_append (p : Ins → Bool) : ∀ (k : Nat) (xs ys : List Ins), idxs p k (xs ++ ys) = idxs p k xs ++ idxs p (k + xs.length) ys
  | k, [], ys => by simp [idxs]
  | k, x :: xs, ys => by
    have ih := idxs_append p (k + 1) xs ys
    simp only [List.cons_append, idxs, List.length_cons]
    rw [ih, show k + 1 + xs.length = k + (xs.length + 1) by omega]
    split <;> simp
theorem idxs_snoc (p : Ins → Bool) {is : List Ins} {k : Nat} {i : Ins} (h : is[k]? = some i) : idxs p 0 (is.take (k + 1)) = idxs p 0 (is.take k) ++ (if p i then [k] else []) := by
  have hk : k < is.length := (List.getElem?_eq_some_iff.1 h).1
  have e : is.take (k + 1) = is.take k ++ [i] := by rw [List.take_add_one, h]; rfl
  rw [e, idxs_append, List.length_take, Nat.zero_add, Nat.min_eq_left (by omega)]
  simp only [idxs]
theorem idxs_length (p : Ins → Bool) : ∀ (k : Nat) (is : List Ins), (idxs p k is).length ≤ is.length
  | _, [] => Nat.le_refl _
  | k, i :: is => by
    have ih := idxs_length p (k + 1) is
    simp only [idxs]
    split <;> simp only [List.length_cons] <;> omega
theorem idxs_take (p : Ins → Bool) (is : List Ins) (k : Nat) : (idxs p 0 (is.take k)).length ≤ k := Nat.le_trans (idxs_length p 0 _) (by rw [List.length_take]; omega)
theorem idxs_at (p : Ins → Bool) : ∀ (k : Nat) (is : List Ins), ∀ j ∈ idxs p k is, k ≤ j ∧ ∃ i, is[j - k]? = some i ∧ p i = true
  | _, [], j, h => by cases h
  | k, i :: is, j, h => by
    have ih := idxs_at p (k + 1) is j
    simp only [idxs] at h
    have key : j ∈ idxs p (k + 1) is → k ≤ j ∧ ∃ i', (i :: is)[j - k]? = some i' ∧ p i' = true := fun h' => by
      obtain ⟨h1, x, h2, h3⟩ := ih h'
      exact ⟨by omega, x, by rw [show j - k = (j - (k + 1)) + 1 by omega]; simpa using h2, h3⟩
    rcases hp : p i with _ | _
    · rw [hp] at h
      exact key (by simpa using h)
    · rw [hp] at h
      rcases List.mem_cons.1 (show j ∈ k :: idxs p (k + 1) is by simpa using h) with rfl | h'
      · exact ⟨Nat.le_refl _, i, by simp, hp⟩
      · exact key h'
theorem idxs_lt {p : Ins → Bool} {is : List Ins} {j : Nat} (h : j ∈ idxs p 0 is) : j < is.length := by
  obtain ⟨_, i, hi, _⟩ := idxs_at p 0 is j h
  exact (List.getElem?_eq_some_iff.1 hi).1
theorem idxs_filter (p q : Ins → Bool) (f : Nat → Bool) : ∀ (k : Nat) (is : List Ins), (∀ (j : Nat) i, is[j]? = some i → f (k + j) = q i) → (idxs p k is).filter f = idxs (fun i => p i && q i) k is
  | k, [], _ => rfl
  | k, i :: is, h => by
    have h0 : f k = q i := h 0 i rfl
    have ih := idxs_filter p q f (k + 1) is fun j x hx => by
      have := h (j + 1) x (by simpa using hx)
      rwa [show k + (j + 1) = k + 1 + j by omega] at this
    simp only [idxs]
    by_cases hp : p i = true <;> by_cases hq : q i = true <;> simp [h0, hp, hq, ih]
/-- Of one class. -/
def isC (s : ByteArray) (i : Ins) : Bool := i.c.toList == s.toList
/-- As the program's numbers. -/
def zOf (l : List Nat) : List Int := l.map fun (k : Nat) => (k : Int)
theorem zOf_append (xs ys : List Nat) : zOf (xs ++ ys) = zOf xs ++ zOf ys := List.map_append ..
theorem zOf_length (l : List Nat) : (zOf l).length = l.length := List.length_map ..
theorem zOf_at {l : List Nat} {j : Nat} {x : Int} (h : (zOf l)[j]? = some x) : ∃ k, l[j]? = some k ∧ x = (k : Int) := by
  unfold zOf at h
  rw [List.getElem?_map] at h
  rcases hl : l[j]? with _ | k
  · rw [hl] at h; cases h
  · rw [hl] at h
    exact ⟨k, rfl, (Option.some.inj h).symm⟩
theorem zOf_inj {xs ys : List Nat} (h : zOf xs = zOf ys) : xs = ys := (List.map_inj_right (fun (a b : Nat) hab => by omega)).1 h
/-- A need of a world. -/
def ndV (zs : List (ByteArray × ByteArray)) (is : List Ins) (c t : ByteArray) : Bool := (wdOf zs is && hasNm zs c) && (tyOf t.data.toList).isSome
theorem wdOf_is {zs : List (ByteArray × ByteArray)} {is : List Ins} (h : wdOf zs is = true) : is.length ≤ 10 ∧ ∀ i ∈ is, insOk zs i = true := by
  unfold wdOf at h
  simp only [Bool.and_eq_true, decide_eq_true_eq] at h
  exact ⟨h.1, fun i hi => List.all_eq_true.1 h.2.2 i hi⟩
/-- One instance is special to another one. -/
def spI (a b : Ins) : Bool := (a.c.toList == b.c.toList) && (mtOf b.t.data.toList a.t.data.toList).isSome
def spB (is : List Ins) (i k : Int) : Bool := if 0 ≤ i ∧ 0 ≤ k then (match is[i.toNat]?, is[k.toNat]? with | some a, some b => spI a b | _, _ => false) else false
theorem spB_at {is : List Ins} {i k : Nat} {a b : Ins} (hi : is[i]? = some a) (hk : is[k]? = some b) : spB is (i : Int) (k : Int) = spI a b := by
  unfold spB
  rw [if_pos ⟨by omega, by omega⟩]
  simp only [Int.toNat_natCast]
  rw [hi, hk]
theorem spB_neg {is : List Ins} {i k : Int} (h : i < 0 ∨ k < 0 ∨ is.length ≤ i ∨ is.length ≤ k) : spB is i k = false := by
  unfold spB
  by_cases h0 : 0 ≤ i ∧ 0 ≤ k
  · rw [if_pos h0]
    rcases h with h | h | h | h
    · omega
    · omega
    · rw [List.getElem?_eq_none (by omega)]
    · rw [List.getElem?_eq_none (i := k.toNat) (by omega)]
      split
      · rename_i h1 h2
        cases h2
      · rfl
  · rw [if_neg h0]

end Go.Proofs.YtgbbobjkhpplkaaDoor

namespace Go.Proofs.YtgbbobjkhpplkaaDoor
open Go.RowKit
set_option linter.unusedVariables false

/-- The slice (A, n) reads as the numbers xs. -/
def Ints (w : World) (A : Option Addr) (n : Nat) (xs : List Int) : Prop :=
  xs.length = n ∧ (0 < n → ∃ g o, A = some ⟨g, o, none⟩ ∧ g < w.heap.size ∧ ∀ (j : Nat) x, xs[j]? = some x → w.cell? ⟨g, o + j, none⟩ = some (.int .i64 x))
theorem Ints.below {w w' : World} {A : Option Addr} {n : Nat} {xs : List Int} (h : Ints w A n xs) (hb : Below w.heap.size w w') : Ints w' A n xs := by
  refine ⟨h.1, fun hn => ?_⟩
  obtain ⟨g, o, e, hg, hc⟩ := h.2 hn
  exact ⟨g, o, e, Nat.lt_of_lt_of_le hg hb.size, fun j x hj => cell_below (hc j x hj) hg hb⟩

/-- The marks k, k+1, .. as numbers. -/
def marksZ (k n : Nat) : List Int := (List.range n).map fun j => ((k + j : Nat) : Int)
theorem marksZ_at (k n j : Nat) (h : j < n) : (marksZ k n)[j]? = some ((k + j : Nat) : Int) := by
  simp [marksZ, h]

/-- Block g is a row of numbers of which the first n are xs; none of it frozen. -/
def OwnZ (w : World) (g n : Nat) (xs : List Int) : Prop :=
  ∃ cur : Array Value, w.heap[g]? = some (.cells cur 3 (0, 0)) ∧ n ≤ cur.size ∧ xs.length = n ∧ ∀ (j : Nat) x, xs[j]? = some x → cur[j]? = some (.int .i64 x)
theorem OwnZ.ints {w : World} {g n : Nat} {xs : List Int} (h : OwnZ w g n xs) : Ints w (some ⟨g, 0, none⟩) n xs := by
  obtain ⟨cur, hg, hn, hl, hx⟩ := h
  refine ⟨hl, fun _ => ⟨g, 0, rfl, (Array.getElem?_eq_some_iff.1 hg).1, fun j x hj => ?_⟩⟩
  unfold World.cell?
  rw [show w.heap[(⟨g, 0 + j, none⟩ : Addr).block]? = _ from hg]
  simpa using hx j x hj

end Go.Proofs.YtgbbobjkhpplkaaDoor

namespace Go.Proofs.YtgbbobjkhpplkaaDoor
open Go.RowKit
set_option linter.unusedVariables false

theorem infoIntK : (Tryd.prog.info? 3).map (fun i => (i.zero, i.size, i.bytes)) = some (some (.int .i64 0), 1, 8) := by kernel_rfl
/-- The slice v reads as the numbers of ks. -/
def NumAt (w : World) (A : Option Addr) (n : Nat) (ks : List Nat) : Prop :=
  ks.length = n ∧ (0 < n → ∃ g o, A = some ⟨g, o, none⟩ ∧ g < w.heap.size ∧ ∀ (j : Nat) k, ks[j]? = some k → w.cell? ⟨g, o + j, none⟩ = some (.int .i64 (k : Int)))
theorem NumAt.below {w w' : World} {A : Option Addr} {n : Nat} {ks : List Nat} (h : NumAt w A n ks) (hb : Below w.heap.size w w') : NumAt w' A n ks := by
  refine ⟨h.1, fun hn => ?_⟩
  obtain ⟨g, o, e, hg, hc⟩ := h.2 hn
  exact ⟨g, o, e, Nat.lt_of_lt_of_le hg hb.size, fun j k hj => cell_below (hc j k hj) hg hb⟩
/-- A slice that owns the numbers of ks, from a block on. -/
def OwnK (w : World) (lo : Nat) (v : Value) (ks : List Nat) : Prop := w.ownsRow lo 3 1 v ks.length ((zOf ks).map (Value.int .i64))
theorem OwnK.form {w : World} {lo : Nat} {v : Value} {ks : List Nat} (h : OwnK w lo v ks) : ∃ A c, v = .slice A ks.length c ∧ ks.length ≤ c ∧ c ≤ maxLen ∧ NumAt w A ks.length ks := by
  have hl := h.1
  rcases h.2 with ⟨rfl, h0⟩ | ⟨g, cap, cur, rfl, hb, hg, hc, hm, hs, ht⟩
  · refine ⟨none, 0, by rw [h0], by omega, Nat.zero_le _, rfl, fun hp => by omega⟩
  · refine ⟨_, _, rfl, hc, hm, rfl, fun _ => ⟨g, 0, rfl, (Array.getElem?_eq_some_iff.1 hg).1, fun j k hj => ?_⟩⟩
    have hjl : j < ks.length := (List.getElem?_eq_some_iff.1 hj).1
    have h1 : (cur.toList.take (ks.length * 1))[j]? = some (.int .i64 (k : Int)) := by
      rw [ht, List.getElem?_map]
      unfold zOf
      rw [List.getElem?_map, hj]
      rfl
    rw [List.getElem?_take, if_pos (by omega)] at h1
    rw [Nat.zero_add]
    exact cell_blk hg (by simpa using h1)
theorem OwnK.keep {w w' : World} {lo : Nat} {v : Value} {ks : List Nat} (h : OwnK w lo v ks) (hb : Below w.heap.size w w') : OwnK w' lo v ks := own_keep h fun g hg => hb.block g (h.lt g hg).2
theorem OwnK.mono {w : World} {lo lo' : Nat} {v : Value} {ks : List Nat} (h : OwnK w lo' v ks) (hl : lo ≤ lo') : OwnK w lo v ks := by
  refine ⟨h.1, ?_⟩
  rcases h.2 with h' | ⟨g, cap, cur, h1, h2, h3⟩
  · exact .inl h'
  · exact .inr ⟨g, cap, cur, h1, Nat.le_trans hl h2, h3⟩
theorem numAt_of {w : World} {base : Nat} {D : Option Addr} {s : List Int} {c : Nat} {l : List Nat} (h : w.ownsInts base 3 .i64 (.slice D s.length c) s) (e : s = zOf l) : NumAt w D s.length l := by
  subst e
  have h1 : OwnK w base (.slice D (zOf l).length c) l := by
    have h2 := h.1
    unfold OwnK
    rw [zOf_length] at h2 ⊢
    exact h2
  obtain ⟨A, c', hv, _, _, hn⟩ := h1.form
  rw [zOf_length] at hv ⊢
  injection hv with hv
  rw [hv]
  exact hn
/-- Numbers of a slice's own, and whether there are any. -/
def TwoK (w : World) (ks : List Nat) (b : Bool) (e : Ending) (w' : World) : Prop := (∃ v, e = .returned (.tuple #[v, .bool b]) ∧ OwnK w' w.heap.size v ks) ∧ Below w.heap.size w w'
theorem filter_snoc {ks : List Nat} {f : Nat → Bool} {k x : Nat} (h : ks[k]? = some x) : (ks.take (k + 1)).filter f = (ks.take k).filter f ++ (if f x then [x] else []) := by
  rw [List.take_add_one, h, List.filter_append]
  congr 1
  by_cases hf : f x = true <;> simp [hf]
theorem filter_le (ks : List Nat) (f : Nat → Bool) (k : Nat) : ((ks.take k).filter f).length ≤ k := Nat.le_trans (List.length_filter_le _ _) (by rw [List.length_take]; omega)

end Go.Proofs.YtgbbobjkhpplkaaDoor
