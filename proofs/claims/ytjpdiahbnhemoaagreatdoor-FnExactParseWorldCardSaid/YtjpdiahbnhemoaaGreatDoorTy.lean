/- Plain words on the types of the document's chapter 1: trees of letters, their reading from a list of bytes, their text. Nothing of the program is imported. -/
namespace Go.Proofs.YtjpdiahbnhemoaaGreatDoor

inductive Ty where
  | lf (c : UInt8)
  | un (c : UInt8) (a : Ty)
  | bi (c : UInt8) (a b : Ty)
  deriving DecidableEq

/-- How many parts a letter has; -1: it is none. -/
def arI (c : Int) : Int :=
  if c = 108 ∨ c = 109 then 1 else if c = 112 then 2
  else if c = 105 ∨ c = 98 ∨ c = 117 ∨ c = 120 ∨ c = 121 ∨ c = 122 ∨ c = 88 ∨ c = 89 ∨ c = 90 then 0 else -1
def ar (c : UInt8) : Int := arI c.toNat

theorem ar_cases (c : UInt8) : ar c = -1 ∨ ar c = 0 ∨ ar c = 1 ∨ ar c = 2 := by
  unfold ar arI
  split
  · simp
  · split
    · simp
    · split <;> simp

/-- One letter that must stand next. -/
def skipP (d : UInt8) : List UInt8 → Option (List UInt8)
  | c :: l => if c = d then some l else none
  | [] => none
/-- '(', a type, ')'. -/
def parts1 (P : List UInt8 → Option (Ty × List UInt8)) (l : List UInt8) : Option (Ty × List UInt8) :=
  (skipP 40 l).bind fun l1 => (P l1).bind fun x => (skipP 41 x.2).bind fun l3 => some (x.1, l3)
/-- '(', a type, ',', a type, ')'. -/
def parts2 (P : List UInt8 → Option (Ty × List UInt8)) (l : List UInt8) : Option ((Ty × Ty) × List UInt8) :=
  (skipP 40 l).bind fun l1 => (P l1).bind fun x => (skipP 44 x.2).bind fun l2 => (P l2).bind fun y => (skipP 41 y.2).bind fun l3 => some ((x.1, y.1), l3)

/-- Reading a type from the left; the fuel is how deep it may go. -/
def parse : Nat → List UInt8 → Option (Ty × List UInt8)
  | 0, _ => none
  | _ + 1, [] => none
  | n + 1, c :: l =>
    if ar c = 0 then some (.lf c, l)
    else if ar c = 1 then (parts1 (parse n) l).bind fun x => some (.un c x.1, x.2)
    else if ar c = 2 then (parts2 (parse n) l).bind fun x => some (.bi c x.1.1 x.1.2, x.2)
    else none

theorem skipP_some {d : UInt8} {l r : List UInt8} (h : skipP d l = some r) : l = d :: r := by
  unfold skipP at h
  split at h
  · split at h
    · rename_i hd
      simp only [Option.some.injEq] at h
      rw [hd, h]
    · cases h
  · cases h
theorem skipP_cons (d : UInt8) (l : List UInt8) : skipP d (d :: l) = some l := by simp [skipP]
theorem parts1_some {P : List UInt8 → Option (Ty × List UInt8)} {l : List UInt8} {a : Ty} {r : List UInt8} (h : parts1 P l = some (a, r)) :
    ∃ l1 l2, l = 40 :: l1 ∧ P l1 = some (a, l2) ∧ l2 = 41 :: r := by
  unfold parts1 at h
  simp only [Option.bind_eq_some_iff, Option.some.injEq, Prod.mk.injEq] at h
  obtain ⟨l1, h1, ⟨a', l2⟩, h2, l3, h3, rfl, rfl⟩ := h
  exact ⟨l1, l2, skipP_some h1, h2, skipP_some h3⟩
theorem parts2_some {P : List UInt8 → Option (Ty × List UInt8)} {l : List UInt8} {a b : Ty} {r : List UInt8} (h : parts2 P l = some ((a, b), r)) :
    ∃ l1 l2 l3 l4, l = 40 :: l1 ∧ P l1 = some (a, l2) ∧ l2 = 44 :: l3 ∧ P l3 = some (b, l4) ∧ l4 = 41 :: r := by
  unfold parts2 at h
  simp only [Option.bind_eq_some_iff, Option.some.injEq, Prod.mk.injEq] at h
  obtain ⟨l1, h1, ⟨a', l2⟩, h2, l3, h3, ⟨b', l4⟩, h4, l5, h5, ⟨rfl, rfl⟩, rfl⟩ := h
  exact ⟨l1, l2, l3, l4, skipP_some h1, h2, skipP_some h3, h4, skipP_some h5⟩

def Ty.text : Ty → List UInt8
  | .lf c => [c]
  | .un c a => c :: 40 :: (a.text ++ [41])
  | .bi c a b => c :: 40 :: (a.text ++ 44 :: (b.text ++ [41]))

/-- Each letter has as many parts as it wants. -/
def Ty.ok : Ty → Prop
  | .lf c => ar c = 0
  | .un c a => ar c = 1 ∧ a.ok
  | .bi c a b => ar c = 2 ∧ a.ok ∧ b.ok

theorem parse_text (n : Nat) : ∀ (l : List UInt8) (t : Ty) (r : List UInt8), parse n l = some (t, r) → l = t.text ++ r ∧ t.ok := by
  induction n with
  | zero => intro l t r h; simp [parse] at h
  | succ n ih =>
    intro l t r h
    cases l with
    | nil => simp [parse] at h
    | cons c l =>
      unfold parse at h
      split at h
      · rename_i h0
        simp only [Option.some.injEq, Prod.mk.injEq] at h
        obtain ⟨rfl, rfl⟩ := h
        exact ⟨rfl, h0⟩
      · split at h
        · rename_i h1
          simp only [Option.bind_eq_some_iff, Option.some.injEq, Prod.mk.injEq] at h
          obtain ⟨⟨a, r'⟩, hp, rfl, rfl⟩ := h
          obtain ⟨l1, l2, rfl, hp, rfl⟩ := parts1_some hp
          obtain ⟨e1, o1⟩ := ih _ _ _ hp
          exact ⟨by simp [Ty.text, e1], h1, o1⟩
        · split at h
          · rename_i h2
            simp only [Option.bind_eq_some_iff, Option.some.injEq, Prod.mk.injEq] at h
            obtain ⟨⟨⟨a, b⟩, r'⟩, hp, rfl, rfl⟩ := h
            obtain ⟨l1, l2, l3, l4, rfl, hp, rfl, hq, rfl⟩ := parts2_some hp
            obtain ⟨e1, o1⟩ := ih _ _ _ hp
            obtain ⟨e2, o2⟩ := ih _ _ _ hq
            exact ⟨by simp [Ty.text, e1, e2], h2, o1, o2⟩
          · cases h

theorem parse_of (t : Ty) : ∀ (n : Nat) (r : List UInt8), t.ok → t.text.length ≤ n → parse n (t.text ++ r) = some (t, r) := by
  induction t with
  | lf c =>
    intro n r ho hn
    cases n with
    | zero => simp [Ty.text] at hn
    | succ n =>
      simp only [Ty.ok] at ho
      simp [Ty.text, parse, ho]
  | un c a ih =>
    intro n r ho hn
    cases n with
    | zero => simp [Ty.text] at hn
    | succ n =>
      obtain ⟨h1, h2⟩ := ho
      have := ih n (41 :: r) h2 (by simp [Ty.text] at hn; omega)
      simp [Ty.text, parse, parts1, skipP_cons, h1, this]
  | bi c a b iha ihb =>
    intro n r ho hn
    cases n with
    | zero => simp [Ty.text] at hn
    | succ n =>
      obtain ⟨h1, h2, h3⟩ := ho
      have e1 := iha n (44 :: (b.text ++ 41 :: r)) h2 (by simp [Ty.text] at hn; omega)
      have e2 := ihb n (41 :: r) h3 (by simp [Ty.text] at hn; omega)
      simp [Ty.text, parse, parts2, skipP_cons, h1, e1, e2]

/-- What stands before the part of number i. -/
def sep (i : Nat) : UInt8 := if i = 0 then 40 else 44
/-- The first i parts, each behind what stands before it. -/
def seqP (P : List UInt8 → Option (Ty × List UInt8)) : Nat → List UInt8 → Option (List Ty × List UInt8)
  | 0, l => some ([], l)
  | i + 1, l => (seqP P i l).bind fun x => (skipP (sep i) x.2).bind fun r => (P r).bind fun y => some (x.1 ++ [y.1], y.2)
theorem seqP_none {P : List UInt8 → Option (Ty × List UInt8)} {i : Nat} {l : List UInt8} (h : seqP P i l = none) : ∀ j, i ≤ j → seqP P j l = none := by
  intro j hj
  induction j with
  | zero =>
    have : i = 0 := by omega
    subst this
    exact h
  | succ j ih =>
    by_cases e : i = j + 1
    · subst e; exact h
    · simp [seqP, ih (by omega)]
theorem seqP_length {P : List UInt8 → Option (Ty × List UInt8)} {i : Nat} {l : List UInt8} : ∀ {ts : List Ty} {r : List UInt8}, seqP P i l = some (ts, r) → ts.length = i := by
  induction i with
  | zero =>
    intro ts r h
    simp only [seqP, Option.some.injEq, Prod.mk.injEq] at h
    rw [← h.1]; rfl
  | succ i ih =>
    intro ts r h
    simp only [seqP, Option.bind_eq_some_iff, Option.some.injEq, Prod.mk.injEq] at h
    obtain ⟨⟨ts', r'⟩, h1, r1, h2, y, h3, rfl, rfl⟩ := h
    simp [ih h1]
theorem parts1_seq (P : List UInt8 → Option (Ty × List UInt8)) (l : List UInt8) :
    (parts1 P l = none ∧ seqP P 1 l = none) ∨ ∃ t r, seqP P 1 l = some ([t], r) ∧ parts1 P l = (skipP 41 r).bind fun l3 => some (t, l3) := by
  rcases h1 : skipP 40 l with _ | l1
  · exact .inl ⟨by simp [parts1, h1], by simp [seqP, sep, h1]⟩
  · rcases h2 : P l1 with _ | ⟨t, r⟩
    · exact .inl ⟨by simp [parts1, h1, h2], by simp [seqP, sep, h1, h2]⟩
    · exact .inr ⟨t, r, by simp [seqP, sep, h1, h2], by simp [parts1, h1, h2]⟩
theorem parts2_seq (P : List UInt8 → Option (Ty × List UInt8)) (l : List UInt8) :
    (parts2 P l = none ∧ seqP P 2 l = none) ∨ ∃ t t' r, seqP P 2 l = some ([t, t'], r) ∧ parts2 P l = (skipP 41 r).bind fun l3 => some ((t, t'), l3) := by
  rcases h1 : skipP 40 l with _ | l1
  · exact .inl ⟨by simp [parts2, h1], by simp [seqP, sep, h1]⟩
  · rcases h2 : P l1 with _ | ⟨t, r⟩
    · exact .inl ⟨by simp [parts2, h1, h2], by simp [seqP, sep, h1, h2]⟩
    · rcases h3 : skipP 44 r with _ | r1
      · exact .inl ⟨by simp [parts2, h1, h2, h3], by simp [seqP, sep, h1, h2, h3]⟩
      · rcases h4 : P r1 with _ | ⟨t', r2⟩
        · exact .inl ⟨by simp [parts2, h1, h2, h3, h4], by simp [seqP, sep, h1, h2, h3, h4]⟩
        · exact .inr ⟨t, t', r2, by simp [seqP, sep, h1, h2, h3, h4], by simp [parts2, h1, h2, h3, h4]⟩

theorem text_pos (t : Ty) : 0 < t.text.length := by cases t <;> simp [Ty.text]

theorem parse_shorter {n : Nat} {l : List UInt8} {t : Ty} {r : List UInt8} (h : parse n l = some (t, r)) : r.length < l.length := by
  obtain ⟨e, _⟩ := parse_text n l t r h
  have := text_pos t
  rw [e, List.length_append]
  omega

/-- The type of a text, if it is one. -/
def tyOf (l : List UInt8) : Option Ty :=
  if l.length ≤ 60 then
    match parse l.length l with
    | some (t, []) => some t
    | _ => none
  else none

theorem tyOf_text {l : List UInt8} {t : Ty} (h : tyOf l = some t) : l = t.text ∧ t.ok ∧ l.length ≤ 60 := by
  unfold tyOf at h
  split at h
  · rename_i hl
    split at h
    · rename_i t' hp
      simp only [Option.some.injEq] at h
      subst h
      obtain ⟨e, o⟩ := parse_text _ _ _ _ hp
      exact ⟨by simpa using e, o, hl⟩
    · simp at h
  · simp at h

theorem tyOf_of {t : Ty} (ho : t.ok) (hl : t.text.length ≤ 60) : tyOf t.text = some t := by
  have h := parse_of t t.text.length [] ho (Nat.le_refl _)
  rw [List.append_nil] at h
  unfold tyOf
  rw [if_pos hl, h]

end Go.Proofs.YtjpdiahbnhemoaaGreatDoor
