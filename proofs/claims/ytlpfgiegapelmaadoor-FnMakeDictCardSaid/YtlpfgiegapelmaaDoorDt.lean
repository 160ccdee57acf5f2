/- Dictionaries in plain words: trees of digits, their reading from a list of bytes, their text. Nothing of the program is imported. -/
namespace Go.Proofs.YtlpfgiegapelmaaDoor

inductive Dt where
  | nd (c : UInt8) (ps : List Dt)

theorem Dt.ind {P : Dt → Prop} (h : ∀ c ps, (∀ p ∈ ps, P p) → P (.nd c ps)) (d : Dt) : P d :=
  Dt.rec (motive_1 := P) (motive_2 := fun l => ∀ p ∈ l, P p) (fun c ps ih => h c ps ih) (fun p hp => by cases hp)
    (fun a l ha hl p hp => by rcases List.mem_cons.1 hp with rfl | hp; exact ha; exact hl p hp) d

def isDg (c : UInt8) : Bool := decide (48 ≤ c) && decide (c ≤ 57)

/-- What stands before the part of number i. -/
def sepD (i : Nat) : UInt8 := if i = 0 then 40 else 44

mutual
/-- The text of a dictionary; of parts, each behind what stands before it, from number i on. -/
def Dt.text : Dt → List UInt8
  | .nd c ps => c :: (partsT 0 ps ++ if ps.isEmpty then [] else [41])
def partsT : Nat → List Dt → List UInt8
  | _, [] => []
  | i, p :: ps => sepD i :: (p.text ++ partsT (i + 1) ps)
end

mutual
/-- Digits alone, and at most three parts. -/
def Dt.ok : Dt → Prop
  | .nd c ps => isDg c = true ∧ ps.length ≤ 3 ∧ okL ps
def okL : List Dt → Prop
  | [] => True
  | p :: ps => p.ok ∧ okL ps
end
theorem okL_iff {ps : List Dt} : okL ps ↔ ∀ p ∈ ps, p.ok := by
  induction ps with
  | nil => simp [okL]
  | cons p ps ih => simp [okL, ih]
theorem Dt.text_nd (c : UInt8) (ps : List Dt) : (Dt.nd c ps).text = c :: (partsT 0 ps ++ if ps.isEmpty then [] else [41]) := by simp only [Dt.text]
theorem Dt.ok_nd (c : UInt8) (ps : List Dt) : (Dt.nd c ps).ok ↔ isDg c = true ∧ ps.length ≤ 3 ∧ ∀ p ∈ ps, p.ok := by
  simp only [Dt.ok, okL_iff]
theorem partsT_nil (i : Nat) : partsT i [] = [] := by simp only [partsT]
theorem partsT_cons (i : Nat) (p : Dt) (ps : List Dt) : partsT i (p :: ps) = sepD i :: (p.text ++ partsT (i + 1) ps) := by simp only [partsT]
theorem partsT_append (qs : List Dt) : ∀ (i : Nat) (ps : List Dt), partsT i (ps ++ qs) = partsT i ps ++ partsT (i + ps.length) qs
  | i, [] => by simp [partsT_nil]
  | i, p :: ps => by
    rw [List.cons_append, partsT_cons, partsT_cons, partsT_append qs (i + 1) ps, List.length_cons, show i + (ps.length + 1) = i + 1 + ps.length by omega]
    simp
theorem partsT_snoc (i : Nat) (ps : List Dt) (p : Dt) : partsT i (ps ++ [p]) = partsT i ps ++ sepD (i + ps.length) :: p.text := by
  rw [partsT_append, partsT_cons, partsT_nil, List.append_nil]

/-- Parts, at least one, with commas between them; the fuel is how many. -/
def pLs (P : List UInt8 → Option (Dt × List UInt8)) : Nat → List UInt8 → Option (List Dt × List UInt8)
  | 0, _ => none
  | m + 1, l => (P l).bind fun x => match x.2 with
    | [] => some ([x.1], [])
    | c :: r => if c = 44 then (pLs P m r).bind fun y => some (x.1 :: y.1, y.2) else some ([x.1], c :: r)

/-- What stands behind the digit. -/
def pEnd (c : UInt8) (o : Option (List Dt × List UInt8)) : Option (Dt × List UInt8) := match o with
  | some (ps, e :: r) => if e = 41 ∧ ps.length ≤ 3 then some (.nd c ps, r) else none
  | _ => none
def pB (P : List UInt8 → Option (Dt × List UInt8)) (c : UInt8) : List UInt8 → Option (Dt × List UInt8)
  | [] => some (.nd c [], [])
  | d :: r => if d = 40 then pEnd c (pLs P (r.length + 1) r) else some (.nd c [], d :: r)
def pN (P : List UInt8 → Option (Dt × List UInt8)) : List UInt8 → Option (Dt × List UInt8)
  | [] => none
  | c :: l => if isDg c then pB P c l else none

/-- Reading a dictionary from the left; the fuel is how deep it may go. -/
def pD : Nat → List UInt8 → Option (Dt × List UInt8)
  | 0, _ => none
  | n + 1, l => pN (pD n) l
theorem pD_succ (n : Nat) (l : List UInt8) : pD (n + 1) l = pN (pD n) l := rfl

theorem pEnd_some {c : UInt8} {o : Option (List Dt × List UInt8)} {d : Dt} {r : List UInt8} (h : pEnd c o = some (d, r)) : ∃ ps, o = some (ps, 41 :: r) ∧ ps.length ≤ 3 ∧ d = .nd c ps := by
  unfold pEnd at h
  split at h
  · split at h
    · rename_i ps e r' he
      simp only [Option.some.injEq, Prod.mk.injEq] at h
      obtain ⟨rfl, rfl⟩ := h
      exact ⟨ps, by rw [he.1], he.2, rfl⟩
    · cases h
  · cases h

theorem pLs_some {P : List UInt8 → Option (Dt × List UInt8)} (hP : ∀ l d r, P l = some (d, r) → l = d.text ++ r ∧ d.ok) : ∀ (m : Nat) (l : List UInt8) (ps : List Dt) (r : List UInt8), pLs P m l = some (ps, r) → ∃ p qs, ps = p :: qs ∧ l = p.text ++ partsT 1 qs ++ r ∧ (∀ p ∈ ps, p.ok)
  | 0, l, ps, r, h => by simp [pLs] at h
  | m + 1, l, ps, r, h => by
    unfold pLs at h
    rcases hl : P l with _ | ⟨d, k⟩
    · rw [hl] at h; cases h
    · rw [hl, Option.bind_some] at h
      obtain ⟨e1, o1⟩ := hP _ _ _ hl
      rcases k with _ | ⟨c, k⟩
      · simp only [Option.some.injEq, Prod.mk.injEq] at h
        obtain ⟨rfl, rfl⟩ := h
        exact ⟨d, [], rfl, by rw [e1, partsT_nil]; simp, by simpa using o1⟩
      · simp only at h
        split at h
        · rename_i hc
          simp only [Option.bind_eq_some_iff, Option.some.injEq, Prod.mk.injEq] at h
          obtain ⟨⟨qs, r'⟩, hq, rfl, rfl⟩ := h
          obtain ⟨p, qs', rfl, e2, o2⟩ := pLs_some hP m k qs r' hq
          refine ⟨d, p :: qs', rfl, ?_, ?_⟩
          · rw [e1, e2, hc, partsT_cons]
            have : ∀ (i : Nat) (ps : List Dt), partsT (i + 1) ps = partsT (i + 2) ps := by
              intro i ps
              induction ps generalizing i with
              | nil => rw [partsT_nil, partsT_nil]
              | cons a ps ih => rw [partsT_cons, partsT_cons, ih]; rfl
            rw [← this 0]
            simp [sepD]
          · intro q hq
            rcases List.mem_cons.1 hq with rfl | hq
            · exact o1
            · exact o2 q hq
        · simp only [Option.some.injEq, Prod.mk.injEq] at h
          obtain ⟨rfl, rfl⟩ := h
          exact ⟨d, [], rfl, by rw [e1, partsT_nil]; simp, by simpa using o1⟩

theorem pN_cons (P : List UInt8 → Option (Dt × List UInt8)) (c : UInt8) (l : List UInt8) : pN P (c :: l) = if isDg c = true then pB P c l else none := rfl
theorem pB_cons (P : List UInt8 → Option (Dt × List UInt8)) (c d : UInt8) (r : List UInt8) : pB P c (d :: r) = if d = 40 then pEnd c (pLs P (r.length + 1) r) else some (.nd c [], d :: r) := rfl
theorem pD_text (n : Nat) : ∀ (l : List UInt8) (d : Dt) (r : List UInt8), pD n l = some (d, r) → l = d.text ++ r ∧ d.ok := by
  induction n with
  | zero => intro l d r h; cases h
  | succ n ih =>
    intro l d r h
    rw [pD_succ] at h
    rcases l with _ | ⟨c, l⟩
    · cases h
    · rw [pN_cons] at h
      by_cases hc : isDg c = true
      · rw [if_pos hc] at h
        rcases l with _ | ⟨e, l⟩
        · simp only [pB, Option.some.injEq, Prod.mk.injEq] at h
          obtain ⟨rfl, rfl⟩ := h
          exact ⟨by rw [Dt.text_nd, partsT_nil]; rfl, (Dt.ok_nd c []).2 ⟨hc, by simp, by simp⟩⟩
        · rw [pB_cons] at h
          by_cases he : e = 40
          · rw [if_pos he] at h
            obtain ⟨ps, ho, hl, rfl⟩ := pEnd_some h
            obtain ⟨p, qs, rfl, e2, o2⟩ := pLs_some ih _ _ _ _ ho
            refine ⟨?_, (Dt.ok_nd c _).2 ⟨hc, hl, o2⟩⟩
            rw [Dt.text_nd, partsT_cons, he, e2]
            simp [sepD]
          · rw [if_neg he] at h
            simp only [Option.some.injEq, Prod.mk.injEq] at h
            obtain ⟨rfl, rfl⟩ := h
            exact ⟨by rw [Dt.text_nd, partsT_nil]; rfl, (Dt.ok_nd c []).2 ⟨hc, by simp, by simp⟩⟩
      · rw [if_neg hc] at h
        cases h

theorem Dt.text_ne (d : Dt) : ∃ c l, d.text = c :: l := by
  cases d with
  | nd c ps => exact ⟨c, _, Dt.text_nd c ps⟩
theorem Dt.text_pos (d : Dt) : 0 < d.text.length := by
  obtain ⟨c, l, h⟩ := d.text_ne
  rw [h]
  exact Nat.succ_pos _
theorem pD_shorter {n : Nat} {l : List UInt8} {d : Dt} {r : List UInt8} (h : pD n l = some (d, r)) : r.length < l.length := by
  obtain ⟨e, _⟩ := pD_text n l d r h
  have := d.text_pos
  rw [e, List.length_append]
  omega

/-- Behind the text there is no further part. -/
def noOpen : List UInt8 → Prop
  | c :: _ => c ≠ 40
  | [] => True
theorem partsT_one (ps : List Dt) : ∀ i, partsT (i + 1) ps = partsT 1 ps := by
  induction ps with
  | nil => intro i; rw [partsT_nil, partsT_nil]
  | cons a ps ih => intro i; rw [partsT_cons, partsT_cons, ih (i + 1), ih 1]; rfl

theorem pLs_of {P : List UInt8 → Option (Dt × List UInt8)} (r : List UInt8) : ∀ (qs : List Dt) (p : Dt) (m : Nat), (∀ d ∈ p :: qs, ∀ r, noOpen r → P (d.text ++ r) = some (d, r)) → qs.length < m →
    pLs P m (p.text ++ (partsT 1 qs ++ 41 :: r)) = some (p :: qs, 41 :: r)
  | [], p, m, h, hm => by
    obtain ⟨k, rfl⟩ : ∃ k, m = k + 1 := ⟨m - 1, by simp at hm; omega⟩
    have e := h p (List.mem_cons_self ..) (41 :: r) (by simp [noOpen])
    rw [partsT_nil, List.nil_append]
    unfold pLs
    rw [e, Option.bind_some]
    rfl
  | q :: qs, p, m, h, hm => by
    obtain ⟨k, rfl⟩ : ∃ k, m = k + 1 := ⟨m - 1, by simp at hm; omega⟩
    have e := h p (List.mem_cons_self ..) (partsT 1 (q :: qs) ++ 41 :: r) (by rw [partsT_cons]; simp [noOpen, sepD])
    have e2 := pLs_of r qs q k (fun d hd => h d (List.mem_cons_of_mem _ hd)) (by simp at hm; omega)
    unfold pLs
    rw [e, Option.bind_some, partsT_cons]
    simp only [List.cons_append]
    rw [show sepD 1 = 44 from rfl, if_pos rfl, partsT_one qs 1, List.append_assoc, e2]
    rfl

theorem mem_len {ps : List Dt} {i : Nat} {p : Dt} (h : p ∈ ps) : p.text.length ≤ (partsT i ps).length := by
  induction ps generalizing i with
  | nil => cases h
  | cons a ps ih =>
    rw [partsT_cons, List.length_cons, List.length_append]
    rcases List.mem_cons.1 h with rfl | h
    · omega
    · have := ih (i := i + 1) h; omega
theorem partsT_len (ps : List Dt) : ∀ i, ps.length ≤ (partsT i ps).length := by
  induction ps with
  | nil => intro i; exact Nat.zero_le _
  | cons a ps ih => intro i; rw [partsT_cons, List.length_cons, List.length_cons, List.length_append]; have := ih (i + 1); omega

theorem pD_of (d : Dt) : ∀ (n : Nat) (r : List UInt8), d.ok → d.text.length ≤ n → noOpen r → pD n (d.text ++ r) = some (d, r) := by
  induction d using Dt.ind with
  | h c ps ih =>
    intro n r ho hn hr
    obtain ⟨hc, hl, hps⟩ := (Dt.ok_nd c ps).1 ho
    rw [Dt.text_nd] at hn ⊢
    obtain ⟨k, rfl⟩ : ∃ k, n = k + 1 := ⟨n - 1, by simp at hn; omega⟩
    rw [List.cons_append, pD_succ]
    show (if isDg c then pB (pD k) c _ else none) = _
    rw [if_pos hc]
    rcases ps with _ | ⟨p, qs⟩
    · rw [partsT_nil]
      rcases r with _ | ⟨e, r⟩
      · rfl
      · have : e ≠ 40 := hr
        simp [pB, this]
    · rw [partsT_cons]
      have e := pLs_of (P := pD k) r qs p ((p.text ++ (partsT 1 qs ++ 41 :: r)).length + 1) (fun d hd r' hr' => ih d hd k r' (hps d hd) (by
        have := mem_len (i := 0) hd
        simp only [List.length_cons, List.length_append] at hn this ⊢
        omega) hr') (by
        have := partsT_len qs 1
        simp only [List.length_append]
        omega)
      simp only [List.cons_append, List.append_assoc, List.isEmpty_cons, Bool.false_eq_true, if_false, List.nil_append]
      rw [pB_cons, if_pos (show sepD 0 = 40 from rfl), e]
      show (if (41 : UInt8) = 41 ∧ (p :: qs).length ≤ 3 then some (Dt.nd c (p :: qs), r) else none) = _
      rw [if_pos ⟨rfl, hl⟩]

/-- The dictionary of a text, if it is one. -/
def dtOf (l : List UInt8) : Option Dt :=
  if l.length ≤ 1200 then
    match pD (l.length + 1) l with
    | some (d, []) => some d
    | _ => none
  else none
theorem dtOf_text {l : List UInt8} {d : Dt} (h : dtOf l = some d) : l = d.text ∧ d.ok ∧ l.length ≤ 1200 := by
  unfold dtOf at h
  split at h
  · rename_i hl
    split at h
    · rename_i d' hp
      simp only [Option.some.injEq] at h
      subst h
      obtain ⟨e, o⟩ := pD_text _ _ _ _ hp
      exact ⟨by simpa using e, o, hl⟩
    · simp at h
  · simp at h
theorem dtOf_of {d : Dt} (ho : d.ok) (hl : d.text.length ≤ 1200) : dtOf d.text = some d := by
  have h := pD_of d (d.text.length + 1) [] ho (Nat.le_succ _) trivial
  rw [List.append_nil] at h
  unfold dtOf
  rw [if_pos hl, h]
theorem dtOf_long {l : List UInt8} (h : 1200 < l.length) : dtOf l = none := by
  unfold dtOf
  rw [if_neg (by omega)]
theorem dtOf_none {l : List UInt8} (h : pD (l.length + 1) l = none) : dtOf l = none := by
  unfold dtOf
  split
  · rw [h]
  · rfl
theorem dtOf_rest {l : List UInt8} {d : Dt} {x : UInt8} {r : List UInt8} (h : pD (l.length + 1) l = some (d, x :: r)) : dtOf l = none := by
  unfold dtOf
  split
  · rw [h]
  · rfl
theorem dtOf_some {l : List UInt8} {d : Dt} (h : pD (l.length + 1) l = some (d, [])) (hl : l.length ≤ 1200) : dtOf l = some d := by
  unfold dtOf
  rw [if_pos hl, h]

mutual
/-- How many instances; how deep. -/
def Dt.size : Dt → Nat
  | .nd _ ps => 1 + sizeL ps
def sizeL : List Dt → Nat
  | [] => 0
  | p :: ps => p.size + sizeL ps
end
mutual
def Dt.depth : Dt → Nat
  | .nd _ ps => depthL ps
def depthL : List Dt → Nat
  | [] => 0
  | p :: ps => max (p.depth + 1) (depthL ps)
end
theorem Dt.size_nd (c : UInt8) (ps : List Dt) : (Dt.nd c ps).size = 1 + sizeL ps := by simp only [Dt.size]
theorem Dt.depth_nd (c : UInt8) (ps : List Dt) : (Dt.nd c ps).depth = depthL ps := by simp only [Dt.depth]
theorem sizeL_snoc (ps : List Dt) (p : Dt) : sizeL (ps ++ [p]) = sizeL ps + p.size := by
  induction ps with
  | nil => simp [sizeL]
  | cons a ps ih => simp [sizeL, ih]; omega
theorem depthL_snoc (ps : List Dt) (p : Dt) : depthL (ps ++ [p]) = max (depthL ps) (p.depth + 1) := by
  induction ps with
  | nil => simp [depthL]
  | cons a ps ih => simp [depthL, ih]
theorem sizeL_le {ps : List Dt} (h : ∀ p ∈ ps, p.size ≤ p.text.length) : ∀ i, sizeL ps ≤ (partsT i ps).length := by
  induction ps with
  | nil => intro i; exact Nat.zero_le _
  | cons a ps ih =>
    intro i
    have h1 := h a (List.mem_cons_self ..)
    have h2 := ih (fun p hp => h p (List.mem_cons_of_mem _ hp)) (i + 1)
    rw [partsT_cons, List.length_cons, List.length_append]
    simp only [sizeL]
    omega
theorem Dt.size_le (d : Dt) : d.size ≤ d.text.length := by
  induction d using Dt.ind with
  | h c ps ih =>
    have := sizeL_le ih 0
    rw [Dt.size_nd, Dt.text_nd, List.length_cons, List.length_append]
    omega
theorem depthL_le {ps : List Dt} (h : ∀ p ∈ ps, p.depth + 1 ≤ p.text.length) : ∀ i, depthL ps ≤ (partsT i ps).length := by
  induction ps with
  | nil => intro i; exact Nat.zero_le _
  | cons a ps ih =>
    intro i
    have h1 := h a (List.mem_cons_self ..)
    have h2 := ih (fun p hp => h p (List.mem_cons_of_mem _ hp)) (i + 1)
    rw [partsT_cons, List.length_cons, List.length_append]
    simp only [depthL]
    omega
theorem Dt.depth_le (d : Dt) : d.depth + 1 ≤ d.text.length := by
  induction d using Dt.ind with
  | h c ps ih =>
    have := depthL_le ih 0
    rw [Dt.depth_nd, Dt.text_nd, List.length_cons, List.length_append]
    omega

mutual
/-- Whether an instance is there. -/
def Dt.has (x : UInt8) : Dt → Bool
  | .nd c ps => c == x || hasL x ps
def hasL (x : UInt8) : List Dt → Bool
  | [] => false
  | p :: ps => p.has x || hasL x ps
end
theorem Dt.has_nd (x c : UInt8) (ps : List Dt) : (Dt.nd c ps).has x = (c == x || hasL x ps) := by simp only [Dt.has]
theorem hasL_any (x : UInt8) (ps : List Dt) : hasL x ps = ps.any (·.has x) := by
  induction ps with
  | nil => rfl
  | cons a ps ih => simp only [hasL, List.any_cons, ih]
theorem isDg_ne {x : UInt8} (h : isDg x = true) : x ≠ 40 ∧ x ≠ 41 ∧ x ≠ 44 := by
  refine ⟨?_, ?_, ?_⟩ <;> (rintro rfl; revert h; decide)
theorem hasL_text {x : UInt8} (hx : isDg x = true) {ps : List Dt} (h : ∀ p ∈ ps, (x ∈ p.text ↔ p.has x = true)) : ∀ i, x ∈ partsT i ps ↔ hasL x ps = true := by
  induction ps with
  | nil => intro i; simp [partsT_nil, hasL]
  | cons a ps ih =>
    intro i
    have h1 := h a (List.mem_cons_self ..)
    have h2 := ih (fun p hp => h p (List.mem_cons_of_mem _ hp)) (i + 1)
    obtain ⟨n1, n2, n3⟩ := isDg_ne hx
    have hs : x ≠ sepD i := by unfold sepD; split <;> assumption
    rw [partsT_cons, List.mem_cons, List.mem_append, h1, h2]
    simp only [hasL, Bool.or_eq_true]
    constructor
    · rintro (h | h)
      · exact absurd h hs
      · exact h
    · exact .inr
theorem Dt.has_text {x : UInt8} (hx : isDg x = true) (d : Dt) : x ∈ d.text ↔ d.has x = true := by
  induction d using Dt.ind with
  | h c ps ih =>
    have h := hasL_text hx ih 0
    obtain ⟨n1, n2, n3⟩ := isDg_ne hx
    rw [Dt.text_nd, Dt.has_nd, List.mem_cons, List.mem_append, h, Bool.or_eq_true, beq_iff_eq]
    constructor
    · rintro (h | h | h)
      · exact .inl h.symm
      · exact .inr h
      · split at h
        · cases h
        · exact absurd (List.mem_singleton.1 h) n2
    · rintro (h | h)
      · exact .inl h.symm
      · exact .inr (.inl h)

end Go.Proofs.YtlpfgiegapelmaaDoor
