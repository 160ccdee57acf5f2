/- Needs read from a text, in plain words. -/
import Derived.Test.YtjpdiahbnhemoaaGreatDoorJn
namespace Go.Proofs.YtjpdiahbnhemoaaGreatDoor
open Go.RowKit

/-- None of the marks. -/
def noB (m : List UInt8) (c : UInt8) : Bool := !m.contains c
def ms4 : List UInt8 := [32, 58, 38, 59]
def ms3 : List UInt8 := [58, 38, 59]
/-- What is left behind one letter, if it stands next. -/
def skB (m : UInt8) (l : List UInt8) : Bool := l.head? == some m
def skR (m : UInt8) (l : List UInt8) : List UInt8 := if skB m l = true then l.tail else l
/-- A need of a letter and a type. -/
def okN (c t : List UInt8) : Bool := isNm c && (tyOf t).isSome
/-- A need read from the left: its class, its type, whether all fits, the rest. -/
def ndC (l : List UInt8) : List UInt8 := l.takeWhile (noB ms4)
def ndK (l : List UInt8) : List UInt8 := l.dropWhile (noB ms4)
def ndY (l : List UInt8) : List UInt8 := (skR 32 (ndK l)).takeWhile (noB ms3)
def ndR (l : List UInt8) : List UInt8 := (skR 32 (ndK l)).dropWhile (noB ms3)
def ndF (l : List UInt8) : Bool := (isNm (ndC l) && skB 32 (ndK l)) && (tyOf (ndY l)).isSome

theorem text_plain (t : Ty) (ho : t.ok) : ∀ c ∈ t.text, noB ms4 c = true := by
  have leaf : ∀ c : UInt8, ar c ≠ -1 → noB ms4 c = true := fun c => by
    refine u8_all (p := fun c => ar c ≠ -1 → noB ms4 c = true) ?_ c
    decide +kernel
  induction t with
  | lf d =>
    intro c hc
    rw [List.mem_singleton.1 hc]
    exact leaf d (by have : ar d = 0 := ho; omega)
  | un d a ih =>
    intro c hc
    obtain ⟨h1, h2⟩ := ho
    simp only [Ty.text, List.mem_cons, List.mem_append, List.not_mem_nil, or_false] at hc
    rcases hc with rfl | rfl | hc | rfl
    · exact leaf c (by omega)
    · rfl
    · exact ih h2 c hc
    · rfl
  | bi d a b iha ihb =>
    intro c hc
    obtain ⟨h1, h2, h3⟩ := ho
    simp only [Ty.text, List.mem_cons, List.mem_append, List.not_mem_nil, or_false] at hc
    rcases hc with rfl | rfl | hc | rfl | hc | rfl
    · exact leaf c (by omega)
    · rfl
    · exact iha h2 c hc
    · rfl
    · exact ihb h3 c hc
    · rfl
/-- A type has no marks. -/
theorem ty_plain {l : List UInt8} (h : (tyOf l).isSome = true) : ∀ c ∈ l, noB ms4 c = true := by
  obtain ⟨t, ht⟩ := Option.isSome_iff_exists.1 h
  obtain ⟨e, ho, hl⟩ := tyOf_text ht
  intro c hc
  rw [e] at hc
  exact text_plain t ho c hc
theorem noB3 {c : UInt8} (h : noB ms4 c = true) : noB ms3 c = true := by
  revert h
  refine u8_all (p := fun c => noB ms4 c = true → noB ms3 c = true) ?_ c
  decide +kernel
theorem nm_plain {l : List UInt8} (h : isNm l = true) : ∃ c, l = [c] ∧ noB ms4 c = true := by
  obtain ⟨c, rfl, h1, h2⟩ := isNm_one h
  refine ⟨c, rfl, ?_⟩
  have : ∀ c : UInt8, 65 ≤ c.toNat ∧ c.toNat ≤ 84 → noB ms4 c = true := fun c => by
    refine u8_all (p := fun c => 65 ≤ c.toNat ∧ c.toNat ≤ 84 → noB ms4 c = true) ?_ c
    decide +kernel
  exact this c ⟨h1, h2⟩

/-- Where nothing of what follows is read on. -/
def endsAt (r : List UInt8) : Prop := r = [] ∨ ∃ c r', r = c :: r' ∧ noB ms3 c = false
theorem takeWhile_stop {p : UInt8 → Bool} {xs r : List UInt8} (h : ∀ c ∈ xs, p c = true) (hr : r = [] ∨ ∃ c r', r = c :: r' ∧ p c = false) : (xs ++ r).takeWhile p = xs ∧ (xs ++ r).dropWhile p = r := by
  induction xs with
  | nil =>
    rcases hr with rfl | ⟨c, r', rfl, hc⟩
    · exact ⟨rfl, rfl⟩
    · constructor
      · rw [List.nil_append, List.takeWhile_cons, hc]; rfl
      · rw [List.nil_append, List.dropWhile_cons, hc]; rfl
  | cons x xs ih =>
    have hx := h x (List.mem_cons_self ..)
    have := ih fun c hc => h c (List.mem_cons_of_mem _ hc)
    simp only [List.cons_append, List.takeWhile_cons, List.dropWhile_cons, hx, if_true, this.1, this.2, and_self]
/-- A need's text, with what follows, is read as that need. -/
theorem nd_of {c t r : List UInt8} (h : okN c t = true) (hr : endsAt r) : ndC (c ++ 32 :: t ++ r) = c ∧ ndY (c ++ 32 :: t ++ r) = t ∧ ndR (c ++ 32 :: t ++ r) = r ∧ ndF (c ++ 32 :: t ++ r) = true := by
  unfold okN at h
  rw [Bool.and_eq_true] at h
  obtain ⟨a, rfl, ha⟩ := nm_plain h.1
  have e1 := takeWhile_stop (p := noB ms4) (xs := [a]) (r := 32 :: (t ++ r)) (fun c hc => by rw [List.mem_singleton.1 hc]; exact ha) (.inr ⟨32, _, rfl, rfl⟩)
  have e2 := takeWhile_stop (p := noB ms3) (xs := t) (r := r) (fun c hc => noB3 (ty_plain h.2 c hc)) hr
  have l1 : [a] ++ 32 :: t ++ r = [a] ++ 32 :: (t ++ r) := by simp
  have hC : ndC ([a] ++ 32 :: t ++ r) = [a] := by unfold ndC; rw [l1]; exact e1.1
  have hK : ndK ([a] ++ 32 :: t ++ r) = 32 :: (t ++ r) := by unfold ndK; rw [l1]; exact e1.2
  have hS : skR 32 (ndK ([a] ++ 32 :: t ++ r)) = t ++ r := by rw [hK]; rfl
  have hY : ndY ([a] ++ 32 :: t ++ r) = t := by unfold ndY; rw [hS]; exact e2.1
  refine ⟨hC, hY, by unfold ndR; rw [hS]; exact e2.2, ?_⟩
  unfold ndF
  rw [hC, hY, hK, h.1, h.2]
  rfl
theorem dropWhile_ends {m : List UInt8} : ∀ (l : List UInt8), l.dropWhile (noB m) = [] ∨ ∃ c r, l.dropWhile (noB m) = c :: r ∧ noB m c = false
  | [] => .inl rfl
  | x :: l => by
    rw [List.dropWhile_cons]
    rcases h : noB m x with _ | _
    · rw [if_neg (by decide)]; exact .inr ⟨x, l, rfl, h⟩
    · rw [if_pos rfl]; exact dropWhile_ends l
/-- What is read as a need is its text, and what follows. -/
theorem nd_text {l : List UInt8} (h : ndF l = true) : l = ndC l ++ 32 :: ndY l ++ ndR l ∧ okN (ndC l) (ndY l) = true ∧ endsAt (ndR l) := by
  unfold ndF at h
  simp only [Bool.and_eq_true] at h
  obtain ⟨⟨h1, h2⟩, h3⟩ := h
  have e1 : l = ndC l ++ ndK l := (List.takeWhile_append_dropWhile ..).symm
  have e2 : ndK l = 32 :: skR 32 (ndK l) := by
    unfold skR
    rw [if_pos h2]
    unfold skB at h2
    rcases hk : ndK l with _ | ⟨c, r⟩
    · rw [hk] at h2; cases h2
    · rw [hk] at h2
      have : c = 32 := by simpa using h2
      rw [this]
      rfl
  have e3 : skR 32 (ndK l) = ndY l ++ ndR l := (List.takeWhile_append_dropWhile ..).symm
  refine ⟨?_, by unfold okN; rw [h1, h3]; rfl, dropWhile_ends _⟩
  calc l = ndC l ++ ndK l := e1
    _ = ndC l ++ 32 :: (ndY l ++ ndR l) := by rw [e2, e3]
    _ = _ := by simp

/-- A text that is a need's. -/
def pnF (l : List UInt8) : Bool := ndF l && (ndR l).isEmpty
theorem pnF_iff (l : List UInt8) : pnF l = true ↔ ∃ c t, l = c ++ 32 :: t ∧ okN c t = true := by
  unfold pnF
  rw [Bool.and_eq_true, List.isEmpty_iff]
  constructor
  · rintro ⟨h1, h2⟩
    obtain ⟨e, ho, _⟩ := nd_text h1
    rw [h2, List.append_nil] at e
    exact ⟨_, _, e, ho⟩
  · rintro ⟨c, t, rfl, ho⟩
    obtain ⟨_, _, h3, h4⟩ := nd_of (r := []) ho (.inl rfl)
    rw [List.append_nil] at h3 h4
    exact ⟨h4, h3⟩
theorem pnF_val {c t : List UInt8} (h : okN c t = true) : ndC (c ++ 32 :: t) = c ∧ ndY (c ++ 32 :: t) = t := by
  obtain ⟨h1, h2, _, _⟩ := nd_of (r := []) h (.inl rfl)
  rw [List.append_nil] at h1 h2
  exact ⟨h1, h2⟩

end Go.Proofs.YtjpdiahbnhemoaaGreatDoor
