/- The places of instances that are wanted, in plain words. -/
import Derived.Test.YtmpmalcjfckemaaGreatDoorWdW
import Derived.Test.YtmpmalcjfckemaaGreatDoorMtW
namespace Go.Proofs.YtmpmalcjfckemaaGreatDoor
set_option linter.unusedVariables false

/-- The places of those that are wanted, from k on. -/
def idxs (p : Ins → Bool) : Nat → List Ins → List Nat
  | _, [] => []
  | k, i :: is => if p i then k :: idxs p (k + 1) is else idxs p (k + 1) is
theorem idxs_append (p : Ins → Bool) : ∀ (k : Nat) (xs ys : List Ins), idxs p k (xs ++ ys) = idxs p k xs ++ idxs p (k + xs.length) ys
  | k, [], ys => by simp [idxs]
  | k, x :: xs, ys => by
    have ih := idxs_append p (k + 1) xs ys
    simp only [List.cons_append, idxs, List.length_cons]
    rw [ih, show k + 1 + xs.length = k + (xs.length + 1) by omega]
    split <;> simp
theorem idxs_snoc (p : Ins → Bool) {is : List Ins} {k : Nat} {i : Ins} (h : is[k]? = some i) : idxs p 0 (is.take (k + 1)) = idxs p 0 (is.take k) ++ (if p i then [k] else []) := by
  have hk : k < is.length := (List.getElem?_eq_some_iff.1 h).1
  have e : is.take (k + 1) = is.take k ++ [i] := by rw [List.take_add_one, h]; rfl
  rw [e, idxs_append, List.length_take, Nat.zero_add, Nat.min_eq_left (by omega)]
  simp only [idxs]
theorem idxs_length (p : Ins → Bool) : ∀ (k : Nat) (is : List Ins), (idxs p k is).length ≤ is.length
  | _, [] => Nat.le_refl _
  | k, i :: is => by
    have ih := idxs_length p (k + 1) is
    simp only [idxs]
    split <;> simp only [List.length_cons] <;> omega
theorem idxs_take (p : Ins → Bool) (is : List Ins) (k : Nat) : (idxs p 0 (is.take k)).length ≤ k := Nat.le_trans (idxs_length p 0 _) (by rw [List.length_take]; omega)
theorem idxs_at (p : Ins → Bool) : ∀ (k : Nat) (is : List Ins), ∀ j ∈ idxs p k is, k ≤ j ∧ ∃ i, is[j - k]? = some i ∧ p i = true
  | _, [], j, h => by cases h
  | k, i :: is, j, h => by
    have ih := idxs_at p (k + 1) is j
    simp only [idxs] at h
    have key : j ∈ idxs p (k + 1) is → k ≤ j ∧ ∃ i', (i :: is)[j - k]? = some i' ∧ p i' = true := fun h' => by
      obtain ⟨h1, x, h2, h3⟩ := ih h'
      exact ⟨by omega, x, by rw [show j - k = (j - (k + 1)) + 1 by omega]; simpa using h2, h3⟩
    rcases hp : p i with _ | _
    · rw [hp] at h
      exact key (by simpa using h)
    · rw [hp] at h
      rcases List.mem_cons.1 (show j ∈ k :: idxs p (k + 1) is by simpa using h) with rfl | h'
      · exact ⟨Nat.le_refl _, i, by simp, hp⟩
      · exact key h'
theorem idxs_lt {p : Ins → Bool} {is : List Ins} {j : Nat} (h : j ∈ idxs p 0 is) : j < is.length := by
  obtain ⟨_, i, hi, _⟩ := idxs_at p 0 is j h
  exact (List.getElem?_eq_some_iff.1 hi).1
theorem idxs_filter (p q : Ins → Bool) (f : Nat → Bool) : ∀ (k : Nat) (is : List Ins), (∀ (j : Nat) i, is[j]? = some i → f (k + j) = q i) → (idxs p k is).filter f = idxs (fun i => p i && q i) k is
  | k, [], _ => rfl
  | k, i :: is, h => by
    have h0 : f k = q i := h 0 i rfl
    have ih := idxs_filter p q f (k + 1) is fun j x hx => by
      have := h (j + 1) x (by simpa using hx)
      rwa [show k + (j + 1) = k + 1 + j by omega] at this
    simp only [idxs]
    by_cases hp : p i = true <;> by_cases hq : q i = true <;> simp [h0, hp, hq, ih]
/-- Of one class. -/
def isC (s : ByteArray) (i : Ins) : Bool := i.c.toList == s.toList
/-- As the program's numbers. -/
def zOf (l : List Nat) : List Int := l.map fun (k : Nat) => (k : Int)
theorem zOf_append (xs ys : List Nat) : zOf (xs ++ ys) = zOf xs ++ zOf ys := List.map_append ..
theorem zOf_length (l : List Nat) : (zOf l).length = l.length := List.length_map ..
theorem zOf_at {l : List Nat} {j : Nat} {x : Int} (h : (zOf l)[j]? = some x) : ∃ k, l[j]? = some k ∧ x = (k : Int) := by
  unfold zOf at h
  rw [List.getElem?_map] at h
  rcases hl : l[j]? with _ | k
  · rw [hl] at h; cases h
  · rw [hl] at h
    exact ⟨k, rfl, (Option.some.inj h).symm⟩
theorem zOf_inj {xs ys : List Nat} (h : zOf xs = zOf ys) : xs = ys := (List.map_inj_right (fun (a b : Nat) hab => by omega)).1 h
/-- A need of a world. -/
def ndV (zs : List (ByteArray × ByteArray)) (is : List Ins) (c t : ByteArray) : Bool := (wdOf zs is && hasNm zs c) && (tyOf t.data.toList).isSome
theorem wdOf_is {zs : List (ByteArray × ByteArray)} {is : List Ins} (h : wdOf zs is = true) : is.length ≤ 10 ∧ ∀ i ∈ is, insOk zs i = true := by
  unfold wdOf at h
  simp only [Bool.and_eq_true, decide_eq_true_eq] at h
  exact ⟨h.1, fun i hi => List.all_eq_true.1 h.2.2 i hi⟩
/-- One instance is special to another one. -/
def spI (a b : Ins) : Bool := (a.c.toList == b.c.toList) && (mtOf b.t.data.toList a.t.data.toList).isSome
def spB (is : List Ins) (i k : Int) : Bool := if 0 ≤ i ∧ 0 ≤ k then (match is[i.toNat]?, is[k.toNat]? with | some a, some b => spI a b | _, _ => false) else false
theorem spB_at {is : List Ins} {i k : Nat} {a b : Ins} (hi : is[i]? = some a) (hk : is[k]? = some b) : spB is (i : Int) (k : Int) = spI a b := by
  unfold spB
  rw [if_pos ⟨by omega, by omega⟩]
  simp only [Int.toNat_natCast]
  rw [hi, hk]
theorem spB_neg {is : List Ins} {i k : Int} (h : i < 0 ∨ k < 0 ∨ is.length ≤ i ∨ is.length ≤ k) : spB is i k = false := by
  unfold spB
  by_cases h0 : 0 ≤ i ∧ 0 ≤ k
  · rw [if_pos h0]
    rcases h with h | h | h | h
    · omega
    · omega
    · rw [List.getElem?_eq_none (by omega)]
    · rw [List.getElem?_eq_none (i := k.toNat) (by omega)]
      split
      · rename_i h1 h2
        cases h2
      · rfl
  · rw [if_neg h0]

end Go.Proofs.YtmpmalcjfckemaaGreatDoor
