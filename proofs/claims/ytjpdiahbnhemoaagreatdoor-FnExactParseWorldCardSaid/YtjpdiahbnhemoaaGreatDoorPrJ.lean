/- A text cut at a letter, in plain words; what the model makes of the pieces. -/
import Derived.Test.YtjpdiahbnhemoaaGreatDoorPrI
namespace Go.Proofs.YtjpdiahbnhemoaaGreatDoor
open Go.RowKit

/-- The pieces of what is left, behind what was read of the first. -/
def cutG (m : UInt8) : List UInt8 → List UInt8 → List (List UInt8)
  | pre, [] => [pre]
  | pre, c :: l => if (c == m) = true then pre :: cutG m [] l else cutG m (pre ++ [c]) l
theorem cutG_yes {m : UInt8} (pre l : List UInt8) : cutG m pre (m :: l) = pre :: cutG m [] l := by
  show (if (m == m) = true then _ else _) = _
  rw [if_pos (by simp)]
theorem cutG_no {m c : UInt8} (pre l : List UInt8) (h : (c == m) = false) : cutG m pre (c :: l) = cutG m (pre ++ [c]) l := by
  show (if (c == m) = true then _ else _) = _
  rw [if_neg (by rw [h]; decide)]
theorem cutG_ne (m : UInt8) : ∀ (l pre : List UInt8), cutG m pre l ≠ []
  | [], pre => by simp [cutG]
  | c :: l, pre => by
    rcases h : c == m with _ | _
    · rw [cutG_no _ _ h]; exact cutG_ne m l _
    · have : c = m := by simpa using h
      subst this
      rw [cutG_yes]; simp
/-- Pieces put together again. -/
def joinM (m : UInt8) : List (List UInt8) → List UInt8
  | [] => []
  | [p] => p
  | p :: q :: ps => p ++ m :: joinM m (q :: ps)
theorem joinM_cut (m : UInt8) : ∀ (l pre : List UInt8), joinM m (cutG m pre l) = pre ++ l
  | [], pre => by simp [cutG, joinM]
  | c :: l, pre => by
    rcases h : c == m with _ | _
    · rw [cutG_no _ _ h, joinM_cut m l]; simp
    · have : c = m := by simpa using h
      subst this
      rw [cutG_yes]
      have ih := joinM_cut c l []
      rcases hq : cutG c [] l with _ | ⟨q, ps⟩
      · exact absurd hq (cutG_ne c l [])
      · rw [hq] at ih
        show pre ++ c :: joinM c (q :: ps) = _
        rw [ih]
        rfl
theorem cutG_plain {m : UInt8} : ∀ (p pre r : List UInt8), (∀ c ∈ p, (c == m) = false) → cutG m pre (p ++ r) = cutG m (pre ++ p) r
  | [], pre, r, _ => by simp
  | c :: p, pre, r, h => by
    rw [List.cons_append, cutG_no _ _ (h c (List.mem_cons_self ..)), cutG_plain p _ r fun x hx => h x (List.mem_cons_of_mem _ hx)]
    simp
theorem cutG_one {m : UInt8} {p : List UInt8} (h : ∀ c ∈ p, (c == m) = false) : cutG m [] p = [p] := by
  have := cutG_plain p [] [] h
  rw [List.append_nil] at this
  rw [this]
  rfl
theorem cutG_more {m : UInt8} {p r : List UInt8} (h : ∀ c ∈ p, (c == m) = false) : cutG m [] (p ++ m :: r) = p :: cutG m [] r := by
  rw [cutG_plain p [] _ h, cutG_yes]
  rfl

/-- What the model makes of a text. -/
def miG (P : List (List UInt8)) : Option Ins := match P with
  | [p] => if pnF p = true then some ⟨(ndP p).1, (ndP p).2, []⟩ else none
  | [p, q] => if (pnF p && (cutG 38 [] q).all pnF) = true then some ⟨(ndP p).1, (ndP p).2, (cutG 38 [] q).map ndP⟩ else none
  | _ => none

theorem pn_text {p : List UInt8} (h : pnF p = true) : p = ndt (ndP p) ∧ okN (ndP p).1.data.toList (ndP p).2.data.toList = true := by
  unfold pnF at h
  rw [Bool.and_eq_true, List.isEmpty_iff] at h
  obtain ⟨h1, h2, _⟩ := ndP_text h.1
  rw [h.2, List.append_nil] at h1
  exact ⟨h1, h2⟩
theorem pn_of {z : ByteArray × ByteArray} (h : okN z.1.data.toList z.2.data.toList = true) : pnF (ndt z) = true ∧ ndP (ndt z) = z := by
  obtain ⟨h1, h2, h3⟩ := ndP_of z [] h (.inl rfl)
  rw [List.append_nil] at h1 h2 h3
  unfold pnF
  rw [h2, h3]
  exact ⟨rfl, h1⟩
theorem ndt_plain {z : ByteArray × ByteArray} (h : okN z.1.data.toList z.2.data.toList = true) : ∀ c ∈ ndt z, (c == 58) = false ∧ (c == 38) = false := by
  have hb : ∀ c : UInt8, noB ms4 c = true → (c == 58) = false ∧ (c == 38) = false := fun c => by
    refine u8_all (p := fun c => noB ms4 c = true → (c == 58) = false ∧ (c == 38) = false) ?_ c
    decide +kernel
  unfold okN at h
  rw [Bool.and_eq_true] at h
  obtain ⟨a, ha, hn⟩ := nm_plain h.1
  intro c hc
  unfold ndt at hc
  rw [ha] at hc
  simp only [List.cons_append, List.nil_append, List.mem_cons] at hc
  rcases hc with rfl | rfl | hc
  · exact hb _ hn
  · decide
  · exact hb c (ty_plain h.2 c hc)
theorem join_ndt (Q : List (List UInt8)) (h : Q.all pnF = true) (hne : Q ≠ []) : joinM 38 Q = ndL (Q.map ndP) ∧ ∀ z ∈ Q.map ndP, okN z.1.data.toList z.2.data.toList = true := by
  induction Q with
  | nil => exact absurd rfl hne
  | cons p Q ih =>
    rw [List.all_cons, Bool.and_eq_true] at h
    obtain ⟨h1, h2⟩ := pn_text h.1
    rcases Q with _ | ⟨q, Q⟩
    · refine ⟨?_, fun z hz => ?_⟩
      · rw [List.map_cons, List.map_nil, ndL_amp]
        show p = ndt (ndP p) ++ []
        rw [List.append_nil]
        exact h1
      · have : z = ndP p := by simpa using hz
        rw [this]
        exact h2
    · obtain ⟨k1, k2⟩ := ih h.2 (by simp)
      constructor
      · show p ++ 38 :: joinM 38 (q :: Q) = _
        rw [k1, List.map_cons, List.map_cons, ndL_amp, ndL_amp]
        rw [show amp ((q :: Q).map ndP) = 38 :: (ndt (ndP q) ++ amp (Q.map ndP)) from rfl, ← h1]
      · intro z hz
        rcases List.mem_cons.1 hz with rfl | hz
        · exact h2
        · exact k2 z hz
theorem cut_ndL (z : ByteArray × ByteArray) (zs : List (ByteArray × ByteArray)) (h : ∀ y ∈ z :: zs, okN y.1.data.toList y.2.data.toList = true) : cutG 38 [] (ndL (z :: zs)) = (z :: zs).map ndt := by
  induction zs generalizing z with
  | nil =>
    rw [ndL_amp]
    show cutG 38 [] (ndt z ++ []) = [ndt z]
    rw [List.append_nil]
    exact cutG_one fun c hc => (ndt_plain (h z (List.mem_cons_self ..)) c hc).2
  | cons y zs ih =>
    have ih := ih y fun x hx => h x (List.mem_cons_of_mem _ hx)
    rw [ndL_amp] at ih
    rw [ndL_amp, show amp (y :: zs) = 38 :: (ndt y ++ amp zs) from rfl, cutG_more fun c hc => (ndt_plain (h z (List.mem_cons_self ..)) c hc).2, ih]
    rfl
theorem amp_plain (zs : List (ByteArray × ByteArray)) (h : ∀ y ∈ zs, okN y.1.data.toList y.2.data.toList = true) : ∀ c ∈ amp zs, (c == 58) = false := by
  intro c hc
  unfold amp at hc
  obtain ⟨z, hz, hc⟩ := List.mem_flatMap.1 hc
  rcases List.mem_cons.1 hc with rfl | hc
  · decide
  · exact (ndt_plain (h z hz) c hc).1

/-- The model reads what the program reads. -/
theorem miG_piV (l : List UInt8) : piV l = match miG (cutG 58 [] l) with
  | some i => (i, true)
  | none => (⟨⟨#[]⟩, ⟨#[]⟩, []⟩, false) := by
  have fwd : ∀ i, miG (cutG 58 [] l) = some i → l = insL i ∧ insFine i := by
    intro i hi
    have hj := joinM_cut 58 l []
    rw [List.nil_append] at hj
    rcases hP : cutG 58 [] l with _ | ⟨p, _ | ⟨q, _ | ⟨a, ps⟩⟩⟩
    · rw [hP] at hi; cases hi
    · rw [hP] at hi hj
      unfold miG at hi
      simp only at hi
      split at hi
      · rename_i hp
        injection hi with hi
        obtain ⟨h1, h2⟩ := pn_text hp
        subst hi
        refine ⟨?_, h2, fun z hz => by cases hz⟩
        rw [← hj]
        show p = ndt (ndP p) ++ []
        rw [List.append_nil]
        exact h1
      · cases hi
    · rw [hP] at hi hj
      unfold miG at hi
      simp only at hi
      split at hi
      · rename_i hp
        injection hi with hi
        rw [Bool.and_eq_true] at hp
        obtain ⟨h1, h2⟩ := pn_text hp.1
        obtain ⟨k1, k2⟩ := join_ndt _ hp.2 (cutG_ne 38 q [])
        rw [joinM_cut, List.nil_append] at k1
        subst hi
        refine ⟨?_, h2, k2⟩
        rw [← hj]
        show p ++ 58 :: q = insL _
        unfold insL
        rw [if_neg (by simpa using cutG_ne 38 q []), ← k1, ← h1]
      · cases hi
    · rw [hP] at hi; cases hi
  rcases hm : miG (cutG 58 [] l) with _ | i
  · refine piV_no ?_
    refine Bool.eq_false_iff.2 fun hp => ?_
    obtain ⟨h1, h2⟩ := piF_text hp
    obtain ⟨i, hi⟩ : ∃ i, inI l = i := ⟨_, rfl⟩
    rw [hi] at h1 h2
    obtain ⟨c, t, ns⟩ := i
    obtain ⟨h2, h3⟩ := h2
    obtain ⟨e1, e2⟩ := pn_of (z := (c, t)) h2
    have hpl := fun x hx => (ndt_plain (z := (c, t)) h2 x hx).1
    rcases ns with _ | ⟨z, zs⟩
    · have e : insL ⟨c, t, []⟩ = ndt (c, t) := by show ndt (c, t) ++ [] = _; rw [List.append_nil]
      rw [h1, e, cutG_one hpl] at hm
      unfold miG at hm
      simp only [e1, if_true] at hm
      cases hm
    · have e : insL ⟨c, t, z :: zs⟩ = ndt (c, t) ++ 58 :: ndL (z :: zs) := by
        unfold insL
        rw [if_neg (by simp)]
      have hq : cutG 58 [] (ndL (z :: zs)) = [ndL (z :: zs)] := cutG_one fun x hx => by
        rw [ndL_amp] at hx
        rcases List.mem_append.1 hx with hx | hx
        · exact (ndt_plain (h3 z (List.mem_cons_self ..)) x hx).1
        · exact amp_plain zs (fun y hy => h3 y (List.mem_cons_of_mem _ hy)) x hx
      have hall : ((z :: zs).map ndt).all pnF = true := by
        rw [List.all_map]
        exact List.all_eq_true.2 fun y hy => (pn_of (h3 y hy)).1
      rw [h1, e, cutG_more hpl, hq] at hm
      unfold miG at hm
      simp only [cut_ndL z zs h3, e1, hall, Bool.and_self, if_true] at hm
      cases hm
  · obtain ⟨h1, h2⟩ := fwd i hm
    obtain ⟨k1, k2⟩ := piF_of h2
    rw [← h1] at k1 k2
    rw [piV_yes k1, k2]

theorem piV_len (l : List UInt8) : (piV l).1.ns.length ≤ l.length := by
  rw [miG_piV]
  have hj := joinM_cut 58 l []
  rw [List.nil_append] at hj
  rcases hP : cutG 58 [] l with _ | ⟨p, _ | ⟨q, _ | ⟨a, ps⟩⟩⟩
  · exact Nat.zero_le _
  · unfold miG
    simp only
    split <;> rename_i h <;> split at h <;> first | exact Nat.zero_le _ | (cases h; done) | (cases h; exact Nat.zero_le _)
  · rw [hP] at hj
    have hl : l.length = p.length + (1 + q.length) := by
      rw [← hj]
      show (p ++ 58 :: q).length = _
      simp only [List.length_append, List.length_cons]
      omega
    have hc : (cutG 38 [] q).length ≤ q.length + 1 := by
      have : ∀ (l pre : List UInt8), (cutG 38 pre l).length ≤ l.length + 1 := by
        intro l
        induction l with
        | nil => intro pre; simp [cutG]
        | cons c l ih =>
          intro pre
          rcases hc : c == (38 : UInt8) with _ | _
          · rw [cutG_no _ _ hc]
            have := ih (pre ++ [c])
            simp only [List.length_cons]
            omega
          · have e : c = 38 := by simpa using hc
            subst e
            rw [cutG_yes]
            have := ih []
            simp only [List.length_cons]
            omega
      exact this q []
    unfold miG
    simp only
    split <;> rename_i h <;> split at h
    · injection h with h
      subst h
      show ((cutG 38 [] q).map ndP).length ≤ _
      rw [List.length_map]
      omega
    · cases h
    · cases h
    · exact Nat.zero_le _
  · exact Nat.zero_le _

end Go.Proofs.YtjpdiahbnhemoaaGreatDoor
