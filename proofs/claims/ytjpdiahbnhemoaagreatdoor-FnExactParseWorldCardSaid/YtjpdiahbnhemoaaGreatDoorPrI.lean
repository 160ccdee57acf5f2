/- Instances read from a text, in plain words. -/
import Derived.Test.YtjpdiahbnhemoaaGreatDoorPrW
import Derived.Test.YtjpdiahbnhemoaaGreatDoorNdI
namespace Go.Proofs.YtjpdiahbnhemoaaGreatDoor
open Go.RowKit

/-- A need read from the left, as a pair. -/
def ndP (l : List UInt8) : ByteArray × ByteArray := (strOf (ndC l), strOf (ndY l))
/-- What is read behind a need, as long as an ampersand stands next: the needs, the rest, whether all fits. -/
def tlN : Nat → List UInt8 → List (ByteArray × ByteArray) × List UInt8 × Bool
  | 0, r => ([], r, true)
  | n + 1, r => if skB 38 r = true then (ndP (skR 38 r) :: (tlN n (ndR (skR 38 r))).1, (tlN n (ndR (skR 38 r))).2.1, ndF (skR 38 r) && (tlN n (ndR (skR 38 r))).2.2) else ([], r, true)
theorem tlN_yes {n : Nat} {r : List UInt8} (h : skB 38 r = true) : tlN (n + 1) r = (ndP (skR 38 r) :: (tlN n (ndR (skR 38 r))).1, (tlN n (ndR (skR 38 r))).2.1, ndF (skR 38 r) && (tlN n (ndR (skR 38 r))).2.2) := by
  show (if skB 38 r = true then _ else _) = _
  rw [if_pos h]
theorem tlN_no {n : Nat} {r : List UInt8} (h : skB 38 r = false) : tlN n r = ([], r, true) := by
  cases n with
  | zero => rfl
  | succ n =>
    show (if skB 38 r = true then _ else _) = _
    rw [if_neg (by rw [h]; decide)]
theorem skB_cons {m : UInt8} {r : List UInt8} (h : skB m r = true) : r = m :: skR m r := by
  unfold skR
  rw [if_pos h]
  unfold skB at h
  rcases r with _ | ⟨c, r⟩
  · cases h
  · have : c = m := by simpa using h
    rw [this]
    rfl
theorem ndR_len (l : List UInt8) : (ndR l).length ≤ l.length := by
  unfold ndR
  refine Nat.le_trans (List.Sublist.length_le (List.dropWhile_sublist _)) ?_
  have h1 : (skR 32 (ndK l)).length ≤ (ndK l).length := by
    unfold skR
    split
    · rw [List.length_tail]; omega
    · exact Nat.le_refl _
  exact Nat.le_trans h1 (List.Sublist.length_le (List.dropWhile_sublist _))
theorem skR_lt {m : UInt8} {r : List UInt8} (h : skB m r = true) : (skR m r).length < r.length := by
  have := congrArg List.length (skB_cons h)
  simp only [List.length_cons] at this
  omega
/-- Needs read from the left. -/
def nsL (l : List UInt8) : List (ByteArray × ByteArray) := ndP l :: (tlN (ndR l).length (ndR l)).1
def nsR (l : List UInt8) : List UInt8 := (tlN (ndR l).length (ndR l)).2.1
def nsF (l : List UInt8) : Bool := ndF l && (tlN (ndR l).length (ndR l)).2.2
/-- An instance read from the left. -/
def inI (l : List UInt8) : Ins := ⟨strOf (ndC l), strOf (ndY l), if skB 58 (ndR l) = true then nsL (skR 58 (ndR l)) else []⟩
def inR (l : List UInt8) : List UInt8 := if skB 58 (ndR l) = true then nsR (skR 58 (ndR l)) else ndR l
def inF (l : List UInt8) : Bool := ndF l && (if skB 58 (ndR l) = true then nsF (skR 58 (ndR l)) else true)
/-- A text that is an instance's. -/
def piF (l : List UInt8) : Bool := inF l && (inR l).isEmpty
/-- All that an instance is made of is a need. -/
def insFine (i : Ins) : Prop := okN i.c.data.toList i.t.data.toList = true ∧ ∀ z ∈ i.ns, okN z.1.data.toList z.2.data.toList = true

theorem strOf_data (l : List UInt8) : (strOf l).data.toList = l := rfl
theorem ndP_text {l : List UInt8} (h : ndF l = true) : l = ndt (ndP l) ++ ndR l ∧ okN (ndP l).1.data.toList (ndP l).2.data.toList = true ∧ endsAt (ndR l) := by
  obtain ⟨h1, h2, h3⟩ := nd_text h
  exact ⟨h1, h2, h3⟩
theorem ndP_of (z : ByteArray × ByteArray) (r : List UInt8) (h : okN z.1.data.toList z.2.data.toList = true) (hr : endsAt r) : ndP (ndt z ++ r) = z ∧ ndR (ndt z ++ r) = r ∧ ndF (ndt z ++ r) = true := by
  obtain ⟨h1, h2, h3, h4⟩ := nd_of h hr
  refine ⟨?_, h3, h4⟩
  unfold ndP
  rw [show ndt z = z.1.data.toList ++ 32 :: z.2.data.toList from rfl, h1, h2]
  exact Prod.ext (ba_eq rfl) (ba_eq rfl)
/-- The text of what follows a need. -/
def amp (zs : List (ByteArray × ByteArray)) : List UInt8 := zs.flatMap fun z => 38 :: ndt z
theorem amp_ends (zs : List (ByteArray × ByteArray)) : endsAt (amp zs) := by
  rcases zs with _ | ⟨z, zs⟩
  · exact .inl rfl
  · exact .inr ⟨38, ndt z ++ amp zs, rfl, rfl⟩
theorem ndL_amp (z : ByteArray × ByteArray) (zs : List (ByteArray × ByteArray)) : ndL (z :: zs) = ndt z ++ amp zs := by
  unfold ndL
  induction zs generalizing z with
  | nil => simp [Lib.join, amp]
  | cons y zs ih =>
    have h := ih y
    simp only [List.map_cons] at h ⊢
    rw [show Lib.join (ndt z :: ndt y :: zs.map ndt) [38] = ndt z ++ [38] ++ Lib.join (ndt y :: zs.map ndt) [38] from by simp [Lib.join], h]
    simp [amp]
theorem tlN_of (zs : List (ByteArray × ByteArray)) (h : ∀ z ∈ zs, okN z.1.data.toList z.2.data.toList = true) : ∀ n, (amp zs).length ≤ n → tlN n (amp zs) = (zs, [], true) := by
  induction zs with
  | nil => intro n _; exact tlN_no rfl
  | cons z zs ih =>
    intro n hn
    have e : amp (z :: zs) = 38 :: (ndt z ++ amp zs) := rfl
    rcases n with _ | n
    · rw [e] at hn; simp at hn
    · have hs : skB 38 (amp (z :: zs)) = true := by rw [e]; rfl
      have hR : skR 38 (amp (z :: zs)) = ndt z ++ amp zs := by unfold skR; rw [if_pos hs, e]; rfl
      obtain ⟨h1, h2, h3⟩ := ndP_of z (amp zs) (h z (List.mem_cons_self ..)) (amp_ends zs)
      rw [tlN_yes hs, hR, h1, h2, h3, ih (fun y hy => h y (List.mem_cons_of_mem _ hy)) n (by rw [e] at hn; simp only [List.length_cons, List.length_append] at hn; omega)]
      rfl
theorem tlN_text : ∀ (n : Nat) (r : List UInt8), (tlN n r).2.2 = true → (tlN n r).2.1 = [] → r = amp (tlN n r).1 ∧ ∀ z ∈ (tlN n r).1, okN z.1.data.toList z.2.data.toList = true
  | 0, r, _, h => ⟨h, fun z hz => by cases hz⟩
  | n + 1, r, hf, hr => by
    rcases hs : skB 38 r with _ | _
    · rw [tlN_no hs] at hr ⊢
      exact ⟨hr, fun z hz => by cases hz⟩
    · rw [tlN_yes hs] at hr hf ⊢
      simp only [Bool.and_eq_true] at hf
      obtain ⟨h1, h2⟩ := tlN_text n _ hf.2 hr
      obtain ⟨k1, k2, _⟩ := ndP_text hf.1
      constructor
      · show r = 38 :: ndt (ndP (skR 38 r)) ++ amp _
        rw [← h1, List.cons_append, ← k1]
        exact skB_cons hs
      · intro z hz
        rcases List.mem_cons.1 hz with rfl | hz
        · exact k2
        · exact h2 z hz
theorem nsF_of (z : ByteArray × ByteArray) (zs : List (ByteArray × ByteArray)) (h : ∀ y ∈ z :: zs, okN y.1.data.toList y.2.data.toList = true) : nsL (ndt z ++ amp zs) = z :: zs ∧ nsR (ndt z ++ amp zs) = [] ∧ nsF (ndt z ++ amp zs) = true := by
  obtain ⟨h1, h2, h3⟩ := ndP_of z (amp zs) (h z (List.mem_cons_self ..)) (amp_ends zs)
  have h4 := tlN_of zs (fun y hy => h y (List.mem_cons_of_mem _ hy)) (amp zs).length (Nat.le_refl _)
  unfold nsL nsR nsF
  rw [h2, h1, h3, h4]
  exact ⟨rfl, rfl, rfl⟩
theorem nsF_text {l : List UInt8} (hf : nsF l = true) (hr : nsR l = []) : l = ndL (nsL l) ∧ ∀ z ∈ nsL l, okN z.1.data.toList z.2.data.toList = true := by
  unfold nsF at hf
  rw [Bool.and_eq_true] at hf
  obtain ⟨h1, h2⟩ := tlN_text _ _ hf.2 hr
  obtain ⟨k1, k2, _⟩ := ndP_text hf.1
  unfold nsL
  constructor
  · rw [ndL_amp, ← h1]
    exact k1
  · intro z hz
    rcases List.mem_cons.1 hz with rfl | hz
    · exact k2
    · exact h2 z hz
/-- An instance's text is read as that instance. -/
theorem piF_of {i : Ins} (h : insFine i) : piF (insL i) = true ∧ inI (insL i) = i := by
  obtain ⟨c, t, ns⟩ := i
  obtain ⟨h1, h2⟩ := h
  rcases ns with _ | ⟨z, zs⟩
  · have e : insL ⟨c, t, []⟩ = ndt (c, t) ++ [] := rfl
    obtain ⟨k1, k2, k3⟩ := ndP_of (c, t) [] h1 (.inl rfl)
    have hs : skB 58 ([] : List UInt8) = false := rfl
    have hk : (strOf (ndC (ndt (c, t) ++ [])), strOf (ndY (ndt (c, t) ++ []))) = (c, t) := k1
    injection hk with hk1 hk2
    unfold piF inF inR inI
    rw [e, k2, k3, hk1, hk2]
    exact ⟨rfl, rfl⟩
  · have e : insL ⟨c, t, z :: zs⟩ = ndt (c, t) ++ 58 :: (ndt z ++ amp zs) := by
      unfold insL
      rw [if_neg (by simp), ndL_amp]
    obtain ⟨k1, k2, k3⟩ := ndP_of (c, t) (58 :: (ndt z ++ amp zs)) h1 (.inr ⟨58, _, rfl, rfl⟩)
    have hs : skB 58 (58 :: (ndt z ++ amp zs)) = true := rfl
    have hR : skR 58 (58 :: (ndt z ++ amp zs)) = ndt z ++ amp zs := rfl
    obtain ⟨m1, m2, m3⟩ := nsF_of z zs h2
    have hk : (strOf (ndC (ndt (c, t) ++ 58 :: (ndt z ++ amp zs))), strOf (ndY (ndt (c, t) ++ 58 :: (ndt z ++ amp zs)))) = (c, t) := k1
    injection hk with hk1 hk2
    unfold piF inF inR inI
    rw [e, k2, k3, hk1, hk2, if_pos hs, if_pos hs, if_pos hs, hR, m1, m2, m3]
    exact ⟨rfl, rfl⟩
/-- What is read as an instance is its text. -/
theorem piF_text {l : List UInt8} (h : piF l = true) : l = insL (inI l) ∧ insFine (inI l) := by
  unfold piF at h
  rw [Bool.and_eq_true, List.isEmpty_iff] at h
  obtain ⟨hf, hr⟩ := h
  unfold inF at hf
  rw [Bool.and_eq_true] at hf
  obtain ⟨k1, k2, _⟩ := ndP_text hf.1
  unfold inR at hr
  unfold inI insL insFine
  rcases hs : skB 58 (ndR l) with _ | _
  · rw [hs] at hr
    rw [if_neg (by decide)] at hr
    simp only [if_true, Bool.false_eq_true, if_false]
    refine ⟨?_, k2, fun z hz => by cases hz⟩
    rw [hr] at k1
    exact k1
  · rw [hs] at hr
    have hf2 := hf.2
    rw [hs] at hf2
    simp only [if_true] at hr hf2 ⊢
    obtain ⟨m1, m2⟩ := nsF_text hf2 hr
    refine ⟨?_, k2, m2⟩
    rw [if_neg (by unfold nsL; simp), ← m1, ← skB_cons hs]
    exact k1

/-- What reading a text as an instance gives. -/
def piV (l : List UInt8) : Ins × Bool := if piF l = true then (inI l, true) else (⟨⟨#[]⟩, ⟨#[]⟩, []⟩, false)
theorem piV_yes {l : List UInt8} (h : piF l = true) : piV l = (inI l, true) := if_pos h
theorem piV_no {l : List UInt8} (h : piF l = false) : piV l = (⟨⟨#[]⟩, ⟨#[]⟩, []⟩, false) := if_neg (by rw [h]; decide)

end Go.Proofs.YtjpdiahbnhemoaaGreatDoor
