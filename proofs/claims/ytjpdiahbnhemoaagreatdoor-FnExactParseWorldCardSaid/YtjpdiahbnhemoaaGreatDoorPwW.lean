/- A world read from a text, in plain words: classes, instances, in the program and in the model. -/
import Derived.Test.YtjpdiahbnhemoaaGreatDoorPrJ
import Derived.Test.YtjpdiahbnhemoaaGreatDoorFwW
namespace Go.Proofs.YtjpdiahbnhemoaaGreatDoor
open Go.RowKit
set_option linter.unusedVariables false

def mc3 : List UInt8 := [60, 32, 59]
def mc2 : List UInt8 := [32, 59]
/-- A class read from the left: its name, what stands behind it, its classes above, the rest, whether all fits. -/
def clN (l : List UInt8) : List UInt8 := l.takeWhile (noB mc3)
def clK (l : List UInt8) : List UInt8 := l.dropWhile (noB mc3)
def clS (l : List UInt8) : List UInt8 := if skB 60 (clK l) = true then (skR 60 (clK l)).takeWhile (noB mc2) else []
def clR (l : List UInt8) : List UInt8 := if skB 60 (clK l) = true then (skR 60 (clK l)).dropWhile (noB mc2) else clK l
def clF (l : List UInt8) : Bool := if skB 60 (clK l) = true then !(clS l).isEmpty else true
def clP (l : List UInt8) : ByteArray × ByteArray := (strOf (clN l), strOf (clS l))
/-- What is read behind a class, as long as a blank stands next. -/
def tlC : Nat → List UInt8 → List (ByteArray × ByteArray) × List UInt8 × Bool
  | 0, r => ([], r, true)
  | n + 1, r => if skB 32 r = true then (clP (skR 32 r) :: (tlC n (clR (skR 32 r))).1, (tlC n (clR (skR 32 r))).2.1, clF (skR 32 r) && (tlC n (clR (skR 32 r))).2.2) else ([], r, true)
theorem tlC_yes {n : Nat} {r : List UInt8} (h : skB 32 r = true) : tlC (n + 1) r = (clP (skR 32 r) :: (tlC n (clR (skR 32 r))).1, (tlC n (clR (skR 32 r))).2.1, clF (skR 32 r) && (tlC n (clR (skR 32 r))).2.2) := by
  show (if skB 32 r = true then _ else _) = _
  rw [if_pos h]
theorem tlC_no {n : Nat} {r : List UInt8} (h : skB 32 r = false) : tlC n r = ([], r, true) := by
  cases n with
  | zero => rfl
  | succ n =>
    show (if skB 32 r = true then _ else _) = _
    rw [if_neg (by rw [h]; decide)]
/-- What is read behind the classes, as long as a semicolon stands next. -/
def tlI : Nat → List UInt8 → List Ins × List UInt8 × Bool
  | 0, r => ([], r, true)
  | n + 1, r => if skB 59 r = true then (inI (skR 59 r) :: (tlI n (inR (skR 59 r))).1, (tlI n (inR (skR 59 r))).2.1, inF (skR 59 r) && (tlI n (inR (skR 59 r))).2.2) else ([], r, true)
theorem tlI_yes {n : Nat} {r : List UInt8} (h : skB 59 r = true) : tlI (n + 1) r = (inI (skR 59 r) :: (tlI n (inR (skR 59 r))).1, (tlI n (inR (skR 59 r))).2.1, inF (skR 59 r) && (tlI n (inR (skR 59 r))).2.2) := by
  show (if skB 59 r = true then _ else _) = _
  rw [if_pos h]
theorem tlI_no {n : Nat} {r : List UInt8} (h : skB 59 r = false) : tlI n r = ([], r, true) := by
  cases n with
  | zero => rfl
  | succ n =>
    show (if skB 59 r = true then _ else _) = _
    rw [if_neg (by rw [h]; decide)]
/-- A world read from the left. -/
def csL (l : List UInt8) : List (ByteArray × ByteArray) := clP l :: (tlC (clR l).length (clR l)).1
def csR (l : List UInt8) : List UInt8 := (tlC (clR l).length (clR l)).2.1
def csF (l : List UInt8) : Bool := clF l && (tlC (clR l).length (clR l)).2.2
def isL (l : List UInt8) : List Ins := (tlI (csR l).length (csR l)).1
def isR (l : List UInt8) : List UInt8 := (tlI (csR l).length (csR l)).2.1
def isF (l : List UInt8) : Bool := csF l && (tlI (csR l).length (csR l)).2.2
/-- A text that is a world's. -/
def pwF (l : List UInt8) : Bool := (isF l && (isR l).isEmpty) && wdOf (csL l) (isL l)
/-- What reading a text as a world gives. -/
def pwV (l : List UInt8) : List (ByteArray × ByteArray) × List Ins × Bool := if pwF l = true then (csL l, isL l, true) else ([], [], false)
theorem pwV_yes {l : List UInt8} (h : pwF l = true) : pwV l = (csL l, isL l, true) := if_pos h
theorem pwV_no {l : List UInt8} (h : pwF l = false) : pwV l = ([], [], false) := if_neg (by rw [h]; decide)

/-! How much is read. -/
theorem skR_le (m : UInt8) (l : List UInt8) : (skR m l).length ≤ l.length := by
  unfold skR
  split
  · rw [List.length_tail]; omega
  · exact Nat.le_refl _
theorem take_drop_len (p : UInt8 → Bool) (l : List UInt8) : (l.takeWhile p).length + (l.dropWhile p).length = l.length := by
  have := congrArg List.length (List.takeWhile_append_dropWhile (p := p) (l := l))
  rw [List.length_append] at this
  exact this
theorem cl_len (l : List UInt8) : (clN l).length + (clS l).length + (clR l).length ≤ l.length := by
  have h1 := take_drop_len (noB mc3) l
  have h2 := take_drop_len (noB mc2) (skR 60 (clK l))
  have h3 := skR_le 60 (clK l)
  unfold clS clR
  unfold clN
  unfold clK at *
  split
  · omega
  · simp only [List.length_nil]; omega
theorem clP_tot (l : List UInt8) : (clP l).1.size + (clP l).2.size + (clR l).length ≤ l.length := by
  have := cl_len l
  unfold clP
  rw [strOf_size, strOf_size]
  exact this
theorem tlC_len : ∀ (n : Nat) (r : List UInt8), tot (tlC n r).1 + (tlC n r).1.length + (tlC n r).2.1.length ≤ r.length
  | 0, r => by simp [tlC, tot]
  | n + 1, r => by
    rcases h : skB 32 r with _ | _
    · rw [tlC_no h]; simp [tot]
    · rw [tlC_yes h]
      have h1 := tlC_len n (clR (skR 32 r))
      have h2 := clP_tot (skR 32 r)
      have h3 := skR_lt h
      simp only [tot, List.map_cons, List.sum_cons, List.length_cons] at h1 ⊢
      omega
theorem csL_len (l : List UInt8) : tot (csL l) + (csL l).length + (csR l).length ≤ l.length + 1 := by
  have h1 := clP_tot l
  have h2 := tlC_len (clR l).length (clR l)
  unfold csL csR
  simp only [tot, List.map_cons, List.sum_cons, List.length_cons] at h2 ⊢
  omega
theorem nd_len (l : List UInt8) : (ndP l).1.size + (ndP l).2.size + (ndR l).length ≤ l.length := by
  have h1 := take_drop_len (noB ms4) l
  have h2 := take_drop_len (noB ms3) (skR 32 (ndK l))
  have h3 := skR_le 32 (ndK l)
  unfold ndP
  rw [strOf_size, strOf_size]
  unfold ndC ndY ndR
  unfold ndK at *
  omega
theorem tlN_len : ∀ (n : Nat) (r : List UInt8), tot (tlN n r).1 + (tlN n r).1.length + (tlN n r).2.1.length ≤ r.length
  | 0, r => by simp [tlN, tot]
  | n + 1, r => by
    rcases h : skB 38 r with _ | _
    · rw [tlN_no h]; simp [tot]
    · rw [tlN_yes h]
      have h1 := tlN_len n (ndR (skR 38 r))
      have h2 := nd_len (skR 38 r)
      have h3 := skR_lt h
      simp only [tot, List.map_cons, List.sum_cons, List.length_cons] at h1 ⊢
      omega
theorem ns_len (l : List UInt8) : tot (nsL l) + (nsL l).length + (nsR l).length ≤ l.length + 1 := by
  have h1 := nd_len l
  have h2 := tlN_len (ndR l).length (ndR l)
  unfold nsL nsR
  simp only [tot, List.map_cons, List.sum_cons, List.length_cons] at h2 ⊢
  omega
theorem in_len (l : List UInt8) : insTot (inI l) + (inR l).length ≤ l.length := by
  have h1 := nd_len l
  unfold insTot inI inR
  rcases h : skB 58 (ndR l) with _ | _
  · simp only [Bool.false_eq_true, if_false, List.length_nil, tot, List.map_nil, List.sum_nil]
    unfold ndP at h1
    simp only at h1
    omega
  · simp only [if_true]
    have h2 := ns_len (skR 58 (ndR l))
    have h3 := skR_lt h
    unfold ndP at h1
    simp only at h1
    omega
theorem tlI_len : ∀ (n : Nat) (r : List UInt8), inssTot (tlI n r).1 + (tlI n r).1.length + (tlI n r).2.1.length ≤ r.length
  | 0, r => by simp [tlI, inssTot]
  | n + 1, r => by
    rcases h : skB 59 r with _ | _
    · rw [tlI_no h]; simp [inssTot]
    · rw [tlI_yes h]
      have h1 := tlI_len n (inR (skR 59 r))
      have h2 := in_len (skR 59 r)
      have h3 := skR_lt h
      simp only [inssTot, List.map_cons, List.sum_cons, List.length_cons] at h1 ⊢
      omega
theorem isL_len (l : List UInt8) : tot (csL l) + (csL l).length + (inssTot (isL l) + (isL l).length) + (isR l).length ≤ l.length + 1 := by
  have h1 := csL_len l
  have h2 := tlI_len (csR l).length (csR l)
  unfold isL isR
  omega
theorem insTot_ok {i : Ins} (h : insTot i ≤ 1048576) : InsOk i := by
  unfold insTot at h
  unfold InsOk maxLen
  refine ⟨by omega, by omega, fun z hz => ?_⟩
  have := tot_mem hz
  omega

/-! What is read is the text. -/
theorem skR_eq {m : UInt8} {r : List UInt8} (h : skB m r = false) : skR m r = r := by
  unfold skR
  rw [h]
  rfl
theorem clP_text {l : List UInt8} (h : clF l = true) : l = clsT (clP l) ++ clR l := by
  have e1 : l = clN l ++ clK l := (List.takeWhile_append_dropWhile ..).symm
  have eT : clsT (clP l) = clN l ++ (if clS l = [] then [] else 60 :: clS l) := rfl
  rw [eT]
  unfold clF at h
  rcases hs : skB 60 (clK l) with _ | _
  · have e2 : clS l = [] := by unfold clS; rw [hs]; rfl
    have e3 : clR l = clK l := by unfold clR; rw [hs]; rfl
    rw [e2, e3, if_pos rfl, List.append_nil]
    exact e1
  · rw [hs] at h
    simp only [if_true, Bool.not_eq_true', List.isEmpty_eq_false_iff] at h
    have e2 : clS l = (skR 60 (clK l)).takeWhile (noB mc2) := by unfold clS; rw [hs]; rfl
    have e3 : clR l = (skR 60 (clK l)).dropWhile (noB mc2) := by unfold clR; rw [hs]; rfl
    have e4 := skB_cons hs
    have e5 : skR 60 (clK l) = clS l ++ clR l := by rw [e2, e3]; exact (List.takeWhile_append_dropWhile ..).symm
    rw [if_neg h]
    calc l = clN l ++ clK l := e1
      _ = clN l ++ 60 :: (clS l ++ clR l) := by rw [e4, e5]
      _ = _ := by simp
/-- The text of what follows a class; of what follows the classes. -/
def spc (zs : List (ByteArray × ByteArray)) : List UInt8 := zs.flatMap fun z => 32 :: clsT z
def semi (is : List Ins) : List UInt8 := is.flatMap fun i => 59 :: insL i
theorem clL_spc (z : ByteArray × ByteArray) (zs : List (ByteArray × ByteArray)) : clL (z :: zs) = clsT z ++ spc zs := by
  induction zs generalizing z with
  | nil => rw [clL_one]; simp [spc]
  | cons y zs ih => rw [clL_cons, ih]; simp [spc]
theorem wdT_semi (zs : List (ByteArray × ByteArray)) (is : List Ins) : wdT zs is = clL zs ++ semi is := rfl
theorem tlC_text : ∀ (n : Nat) (r : List UInt8), (tlC n r).2.2 = true → r = spc (tlC n r).1 ++ (tlC n r).2.1
  | 0, r, _ => rfl
  | n + 1, r, hf => by
    rcases hs : skB 32 r with _ | _
    · rw [tlC_no hs]; rfl
    · rw [tlC_yes hs] at hf ⊢
      simp only [Bool.and_eq_true] at hf
      have h1 := tlC_text n _ hf.2
      have h2 := clP_text hf.1
      show r = 32 :: clsT (clP (skR 32 r)) ++ spc _ ++ _
      rw [List.append_assoc, ← h1, List.cons_append, ← h2]
      exact skB_cons hs
theorem tlN_text2 : ∀ (n : Nat) (r : List UInt8), (tlN n r).2.2 = true → r = amp (tlN n r).1 ++ (tlN n r).2.1 ∧ ∀ z ∈ (tlN n r).1, okN z.1.data.toList z.2.data.toList = true
  | 0, r, _ => ⟨rfl, fun z hz => by cases hz⟩
  | n + 1, r, hf => by
    rcases hs : skB 38 r with _ | _
    · rw [tlN_no hs]
      exact ⟨rfl, fun z hz => by cases hz⟩
    · rw [tlN_yes hs] at hf ⊢
      simp only [Bool.and_eq_true] at hf
      obtain ⟨h1, h2⟩ := tlN_text2 n _ hf.2
      obtain ⟨k1, k2, _⟩ := ndP_text hf.1
      constructor
      · show r = 38 :: ndt (ndP (skR 38 r)) ++ amp _ ++ _
        rw [List.append_assoc, ← h1, List.cons_append, ← k1]
        exact skB_cons hs
      · intro z hz
        rcases List.mem_cons.1 hz with rfl | hz
        · exact k2
        · exact h2 z hz
theorem in_text {l : List UInt8} (hf : inF l = true) : l = insL (inI l) ++ inR l ∧ insFine (inI l) := by
  unfold inF at hf
  rw [Bool.and_eq_true] at hf
  obtain ⟨k1, k2, _⟩ := ndP_text hf.1
  unfold inI inR insL insFine
  rcases hs : skB 58 (ndR l) with _ | _
  · simp only [if_true, Bool.false_eq_true, if_false, List.append_nil]
    exact ⟨k1, k2, fun z hz => by cases hz⟩
  · have hf2 := hf.2
    rw [hs] at hf2
    simp only [if_true] at hf2 ⊢
    unfold nsF at hf2
    rw [Bool.and_eq_true] at hf2
    obtain ⟨h1, h2⟩ := tlN_text2 _ _ hf2.2
    obtain ⟨m1, m2, _⟩ := ndP_text hf2.1
    refine ⟨?_, k2, ?_⟩
    · rw [if_neg (by unfold nsL; simp)]
      have e : skR 58 (ndR l) = ndL (nsL (skR 58 (ndR l))) ++ nsR (skR 58 (ndR l)) := by
        unfold nsL nsR
        rw [ndL_amp, List.append_assoc, ← h1]
        exact m1
      calc l = ndt (ndP l) ++ ndR l := k1
        _ = ndt (ndP l) ++ 58 :: (ndL (nsL (skR 58 (ndR l))) ++ nsR (skR 58 (ndR l))) := by rw [← e, ← skB_cons hs]
        _ = _ := by simp [ndP]
    · intro z hz
      rcases List.mem_cons.1 hz with rfl | hz
      · exact m2
      · exact h2 z hz
theorem tlI_text : ∀ (n : Nat) (r : List UInt8), (tlI n r).2.2 = true → r = semi (tlI n r).1 ++ (tlI n r).2.1
  | 0, r, _ => rfl
  | n + 1, r, hf => by
    rcases hs : skB 59 r with _ | _
    · rw [tlI_no hs]; rfl
    · rw [tlI_yes hs] at hf ⊢
      simp only [Bool.and_eq_true] at hf
      have h1 := tlI_text n _ hf.2
      have h2 := (in_text hf.1).1
      show r = 59 :: insL (inI (skR 59 r)) ++ semi _ ++ _
      rw [List.append_assoc, ← h1, List.cons_append, ← h2]
      exact skB_cons hs
theorem pw_text {l : List UInt8} (h : pwF l = true) : l = wdT (csL l) (isL l) ∧ wdOf (csL l) (isL l) = true := by
  unfold pwF isF csF at h
  simp only [Bool.and_eq_true, List.isEmpty_iff] at h
  obtain ⟨⟨⟨⟨h1, h2⟩, h3⟩, h4⟩, h5⟩ := h
  refine ⟨?_, h5⟩
  have e1 := clP_text h1
  have e2 := tlC_text _ _ h2
  have e3 := tlI_text _ _ h3
  unfold isR at h4
  rw [h4, List.append_nil] at e3
  rw [wdT_semi]
  unfold isL
  rw [← e3]
  unfold csL
  rw [clL_spc, List.append_assoc]
  show l = _ ++ (spc _ ++ (tlC (clR l).length (clR l)).2.1)
  rw [← e2]
  exact e1

/-! A valid world's text is read as that world. -/
def upB (c : UInt8) : Prop := 65 ≤ c.toNat ∧ c.toNat ≤ 84
def clsFine (z : ByteArray × ByteArray) : Prop := (∃ c, z.1.data.toList = [c] ∧ upB c) ∧ ∀ c ∈ z.2.data.toList, upB c
theorem cap_mark {c : UInt8} (h : upB c) : noB mc3 c = true ∧ noB mc2 c = true := by
  revert h
  refine u8_all (p := fun c => (65 ≤ c.toNat ∧ c.toNat ≤ 84) → noB mc3 c = true ∧ noB mc2 c = true) ?_ c
  decide +kernel
theorem cap_ne {c : UInt8} (h : upB c) : (c == 32) = false ∧ (c == 59) = false ∧ (c == 60) = false := by
  revert h
  refine u8_all (p := fun c => (65 ≤ c.toNat ∧ c.toNat ≤ 84) → (c == 32) = false ∧ (c == 59) = false ∧ (c == 60) = false) ?_ c
  decide +kernel
theorem mark23 {c : UInt8} (h : noB mc2 c = false) : noB mc3 c = false ∧ (c == 60) = false := by
  revert h
  refine u8_all (p := fun c => noB mc2 c = false → noB mc3 c = false ∧ (c == 60) = false) ?_ c
  decide +kernel
theorem clsGo_fine {zs : List (ByteArray × ByteArray)} : ∀ (names : List UInt8), clsGo names zs = true → (∀ c ∈ names, upB c) → ∀ z ∈ zs, clsFine z := by
  induction zs with
  | nil => exact fun _ _ _ z hz => by cases hz
  | cons y ys ih =>
    intro names h hn z hz
    have h' : (behind names y && clsGo (names ++ y.1.data.toList) ys) = true := h
    rw [Bool.and_eq_true] at h'
    have hb := h'.1
    rw [behind_def] at hb
    simp only [Bool.and_eq_true] at hb
    obtain ⟨c, hc, hcap⟩ := isNm_one hb.1.1
    rcases List.mem_cons.1 hz with rfl | hz
    · refine ⟨⟨c, hc, hcap⟩, fun d hd => ?_⟩
      have := List.all_eq_true.1 hb.2.2 d hd
      exact hn d (by simpa using this)
    · refine ih _ h'.2 (fun d hd => ?_) z hz
      rcases List.mem_append.1 hd with hd | hd
      · exact hn d hd
      · rw [hc] at hd
        rw [List.mem_singleton.1 hd]
        exact hcap
theorem wdOf_fine {zs : List (ByteArray × ByteArray)} {is : List Ins} (h : wdOf zs is = true) : (∀ z ∈ zs, clsFine z) ∧ zs ≠ [] ∧ ∀ i ∈ is, insFine i := by
  unfold wdOf clsOf at h
  simp only [Bool.and_eq_true, decide_eq_true_eq] at h
  obtain ⟨h1, ⟨⟨h2, h3⟩, h4⟩, h5⟩ := h
  have hz := clsGo_fine [] h4 (fun c hc => by cases hc)
  have hok : ∀ n : ByteArray × ByteArray, ndOk zs n = true → okN n.1.data.toList n.2.data.toList = true := by
    intro n hn
    unfold ndOk hasNm at hn
    simp only [Bool.and_eq_true, List.any_eq_true] at hn
    obtain ⟨⟨y, hy, he⟩, _, ht⟩ := hn
    obtain ⟨⟨c, hc, hcap⟩, _⟩ := hz y hy
    rw [ba_list, hc] at he
    have he' : n.1.data.toList = [c] := (eq_of_beq he).symm
    unfold okN
    rw [he', ht, Bool.and_true]
    unfold isNm
    simp only [Bool.and_eq_true, decide_eq_true_eq]
    exact hcap
  refine ⟨hz, fun e => by rw [e] at h2; simp at h2, fun i hi => ?_⟩
  have hi' := List.all_eq_true.1 h5 i hi
  unfold insOk at hi'
  simp only [Bool.and_eq_true] at hi'
  refine ⟨hok (i.c, i.t) hi'.1, fun z hz' => ?_⟩
  have := List.all_eq_true.1 hi'.2.2.2 z hz'
  rw [Bool.and_eq_true] at this
  exact hok z this.1
def endsC (r : List UInt8) : Prop := r = [] ∨ ∃ c r', r = c :: r' ∧ noB mc2 c = false
theorem clP_of {z : ByteArray × ByteArray} {r : List UInt8} (h : clsFine z) (hr : endsC r) : clP (clsT z ++ r) = z ∧ clR (clsT z ++ r) = r ∧ clF (clsT z ++ r) = true := by
  obtain ⟨x, y⟩ := z
  obtain ⟨⟨a, ha, hcap⟩, hs⟩ := h
  have ha' : x.data.toList = [a] := ha
  by_cases hy : y.data.toList = []
  · have et : clsT (x, y) ++ r = [a] ++ r := by
      unfold clsT
      simp only [ha', hy, if_true, List.append_nil]
    have hr3 : r = [] ∨ ∃ c r', r = c :: r' ∧ noB mc3 c = false := by
      rcases hr with h | ⟨c, r', h1, h2⟩
      · exact .inl h
      · exact .inr ⟨c, r', h1, (mark23 h2).1⟩
    have hsk : skB 60 r = false := by
      rcases hr with rfl | ⟨c, r', rfl, h2⟩
      · rfl
      · have h3 := (mark23 h2).2
        show (some c == some 60) = false
        rw [show (some c == some (60 : UInt8)) = (c == 60) from rfl]
        exact h3
    have e := takeWhile_stop (p := noB mc3) (xs := [a]) (r := r) (fun c hc => by rw [List.mem_singleton.1 hc]; exact (cap_mark hcap).1) hr3
    have hN : clN ([a] ++ r) = [a] := e.1
    have hK : clK ([a] ++ r) = r := e.2
    rw [et]
    have hS : clS ([a] ++ r) = [] := by unfold clS; rw [hK, hsk]; rfl
    refine ⟨?_, by unfold clR; rw [hK, hsk]; rfl, by unfold clF; rw [hK, hsk]; rfl⟩
    unfold clP
    rw [hN, hS]
    exact Prod.ext (ba_eq (by rw [strOf_data]; exact ha'.symm)) (ba_eq (by rw [strOf_data]; exact hy.symm))
  · obtain ⟨S, hS0⟩ : ∃ S, y.data.toList = S := ⟨_, rfl⟩
    rw [hS0] at hy
    have hs' : ∀ c ∈ S, upB c := by rw [← hS0]; exact hs
    have et : clsT (x, y) ++ r = [a] ++ 60 :: (S ++ r) := by
      unfold clsT
      simp only [ha', hS0, if_neg hy]
      simp
    have e := takeWhile_stop (p := noB mc3) (xs := [a]) (r := 60 :: (S ++ r)) (fun c hc => by rw [List.mem_singleton.1 hc]; exact (cap_mark hcap).1) (.inr ⟨60, _, rfl, rfl⟩)
    have hN : clN ([a] ++ 60 :: (S ++ r)) = [a] := e.1
    have hK : clK ([a] ++ 60 :: (S ++ r)) = 60 :: (S ++ r) := e.2
    have hsk : skB 60 (60 :: (S ++ r)) = true := rfl
    have hR : skR 60 (60 :: (S ++ r)) = S ++ r := rfl
    have e2 := takeWhile_stop (p := noB mc2) (xs := S) (r := r) (fun c hc => (cap_mark (hs' c hc)).2) hr
    have hSS : clS ([a] ++ 60 :: (S ++ r)) = S := by unfold clS; rw [hK, hsk, if_pos rfl, hR]; exact e2.1
    rw [et]
    refine ⟨?_, by unfold clR; rw [hK, hsk, if_pos rfl, hR]; exact e2.2, ?_⟩
    · unfold clP
      rw [hN, hSS]
      exact Prod.ext (ba_eq (by rw [strOf_data]; exact ha'.symm)) (ba_eq (by rw [strOf_data]; exact hS0.symm))
    · unfold clF
      rw [hK, hsk, if_pos rfl, hSS]
      simpa using hy
theorem spc_ends (zs : List (ByteArray × ByteArray)) {r : List UInt8} (hr : r = [] ∨ ∃ r', r = 59 :: r') : endsC (spc zs ++ r) := by
  rcases zs with _ | ⟨z, zs⟩
  · rcases hr with rfl | ⟨r', rfl⟩
    · exact .inl rfl
    · exact .inr ⟨59, r', rfl, rfl⟩
  · exact .inr ⟨32, clsT z ++ spc zs ++ r, rfl, rfl⟩
theorem tlC_of (zs : List (ByteArray × ByteArray)) (h : ∀ z ∈ zs, clsFine z) {r : List UInt8} (hr : r = [] ∨ ∃ r', r = 59 :: r') : ∀ n, (spc zs ++ r).length ≤ n → tlC n (spc zs ++ r) = (zs, r, true) := by
  induction zs with
  | nil =>
    intro n _
    refine tlC_no ?_
    rcases hr with rfl | ⟨r', rfl⟩ <;> rfl
  | cons z zs ih =>
    intro n hn
    have e : spc (z :: zs) ++ r = 32 :: (clsT z ++ (spc zs ++ r)) := by simp [spc]
    rw [e] at hn ⊢
    rcases n with _ | n
    · simp at hn
    · have hs : skB 32 (32 :: (clsT z ++ (spc zs ++ r))) = true := rfl
      have hR : skR 32 (32 :: (clsT z ++ (spc zs ++ r))) = clsT z ++ (spc zs ++ r) := rfl
      obtain ⟨h1, h2, h3⟩ := clP_of (h z (List.mem_cons_self ..)) (spc_ends zs hr)
      rw [tlC_yes hs, hR, h1, h2, h3, ih (fun y hy => h y (List.mem_cons_of_mem _ hy)) n (by simp only [List.length_cons, List.length_append] at hn ⊢; omega)]
      rfl
theorem tlN_of2 (zs : List (ByteArray × ByteArray)) (h : ∀ z ∈ zs, okN z.1.data.toList z.2.data.toList = true) {r : List UInt8} (hr : r = [] ∨ ∃ r', r = 59 :: r') : ∀ n, (amp zs ++ r).length ≤ n → tlN n (amp zs ++ r) = (zs, r, true) := by
  induction zs with
  | nil =>
    intro n _
    refine tlN_no ?_
    rcases hr with rfl | ⟨r', rfl⟩ <;> rfl
  | cons z zs ih =>
    intro n hn
    have e : amp (z :: zs) ++ r = 38 :: (ndt z ++ (amp zs ++ r)) := by simp [amp]
    have he : endsAt (amp zs ++ r) := by
      rcases zs with _ | ⟨y, zs⟩
      · rcases hr with rfl | ⟨r', rfl⟩
        · exact .inl rfl
        · exact .inr ⟨59, r', rfl, rfl⟩
      · exact .inr ⟨38, ndt y ++ amp zs ++ r, rfl, rfl⟩
    rw [e] at hn ⊢
    rcases n with _ | n
    · simp at hn
    · have hs : skB 38 (38 :: (ndt z ++ (amp zs ++ r))) = true := rfl
      have hR : skR 38 (38 :: (ndt z ++ (amp zs ++ r))) = ndt z ++ (amp zs ++ r) := rfl
      obtain ⟨h1, h2, h3⟩ := ndP_of z _ (h z (List.mem_cons_self ..)) he
      rw [tlN_yes hs, hR, h1, h2, h3, ih (fun y hy => h y (List.mem_cons_of_mem _ hy)) n (by simp only [List.length_cons, List.length_append] at hn ⊢; omega)]
      rfl
theorem in_of {i : Ins} (h : insFine i) {r : List UInt8} (hr : r = [] ∨ ∃ r', r = 59 :: r') : inI (insL i ++ r) = i ∧ inR (insL i ++ r) = r ∧ inF (insL i ++ r) = true := by
  obtain ⟨c, t, ns⟩ := i
  obtain ⟨h1, h2⟩ := h
  have hr0 : endsAt r := by
    rcases hr with rfl | ⟨r', rfl⟩
    · exact .inl rfl
    · exact .inr ⟨59, r', rfl, rfl⟩
  rcases ns with _ | ⟨z, zs⟩
  · have e : insL ⟨c, t, []⟩ ++ r = ndt (c, t) ++ r := by
      show ndt (c, t) ++ [] ++ r = _
      rw [List.append_nil]
    obtain ⟨k1, k2, k3⟩ := ndP_of (c, t) r h1 hr0
    have hs : skB 58 r = false := by rcases hr with rfl | ⟨r', rfl⟩ <;> rfl
    have hk : (strOf (ndC (ndt (c, t) ++ r)), strOf (ndY (ndt (c, t) ++ r))) = (c, t) := k1
    injection hk with hk1 hk2
    unfold inF inR inI
    rw [e, k2, k3, hk1, hk2, hs]
    exact ⟨rfl, rfl, rfl⟩
  · have e : insL ⟨c, t, z :: zs⟩ ++ r = ndt (c, t) ++ 58 :: (ndt z ++ (amp zs ++ r)) := by
      unfold insL
      rw [if_neg (by simp), ndL_amp]
      simp
    obtain ⟨k1, k2, k3⟩ := ndP_of (c, t) (58 :: (ndt z ++ (amp zs ++ r))) h1 (.inr ⟨58, _, rfl, rfl⟩)
    have hs : skB 58 (58 :: (ndt z ++ (amp zs ++ r))) = true := rfl
    have hR : skR 58 (58 :: (ndt z ++ (amp zs ++ r))) = ndt z ++ (amp zs ++ r) := rfl
    have he : endsAt (amp zs ++ r) := by
      rcases zs with _ | ⟨y, zs⟩
      · exact hr0
      · exact .inr ⟨38, ndt y ++ amp zs ++ r, rfl, rfl⟩
    obtain ⟨m1, m2, m3⟩ := ndP_of z (amp zs ++ r) (h2 z (List.mem_cons_self ..)) he
    have m4 := tlN_of2 zs (fun y hy => h2 y (List.mem_cons_of_mem _ hy)) hr (amp zs ++ r).length (Nat.le_refl _)
    have hk : (strOf (ndC (ndt (c, t) ++ 58 :: (ndt z ++ (amp zs ++ r)))), strOf (ndY (ndt (c, t) ++ 58 :: (ndt z ++ (amp zs ++ r))))) = (c, t) := k1
    injection hk with hk1 hk2
    unfold inF inR inI nsL nsR nsF
    rw [e, k2, k3, hk1, hk2, if_pos hs, if_pos hs, if_pos hs, hR, m2, m1, m3, m4]
    exact ⟨rfl, rfl, rfl⟩
theorem tlI_of (is : List Ins) (h : ∀ i ∈ is, insFine i) : ∀ n, (semi is).length ≤ n → tlI n (semi is) = (is, [], true) := by
  induction is with
  | nil => intro n _; exact tlI_no rfl
  | cons i is ih =>
    intro n hn
    have e : semi (i :: is) = 59 :: (insL i ++ semi is) := by simp [semi]
    have hr : semi is = [] ∨ ∃ r', semi is = 59 :: r' := by
      rcases is with _ | ⟨y, is⟩
      · exact .inl rfl
      · exact .inr ⟨insL y ++ semi is, rfl⟩
    rw [e] at hn ⊢
    rcases n with _ | n
    · simp at hn
    · have hs : skB 59 (59 :: (insL i ++ semi is)) = true := rfl
      have hR : skR 59 (59 :: (insL i ++ semi is)) = insL i ++ semi is := rfl
      obtain ⟨h1, h2, h3⟩ := in_of (h i (List.mem_cons_self ..)) hr
      rw [tlI_yes hs, hR, h1, h2, h3, ih (fun y hy => h y (List.mem_cons_of_mem _ hy)) n (by simp only [List.length_cons, List.length_append] at hn ⊢; omega)]
      rfl
theorem pw_of {zs : List (ByteArray × ByteArray)} {is : List Ins} (h : wdOf zs is = true) : csL (wdT zs is) = zs ∧ isL (wdT zs is) = is ∧ pwF (wdT zs is) = true := by
  obtain ⟨h1, h2, h3⟩ := wdOf_fine h
  rcases zs with _ | ⟨z, zs⟩
  · exact absurd rfl h2
  · have hr : semi is = [] ∨ ∃ r', semi is = 59 :: r' := by
      rcases is with _ | ⟨y, is⟩
      · exact .inl rfl
      · exact .inr ⟨insL y ++ semi is, rfl⟩
    have e : wdT (z :: zs) is = clsT z ++ (spc zs ++ semi is) := by rw [wdT_semi, clL_spc, List.append_assoc]
    obtain ⟨k1, k2, k3⟩ := clP_of (h1 z (List.mem_cons_self ..)) (spc_ends zs hr)
    have k4 := tlC_of zs (fun y hy => h1 y (List.mem_cons_of_mem _ hy)) hr (spc zs ++ semi is).length (Nat.le_refl _)
    have k5 := tlI_of is h3 (semi is).length (Nat.le_refl _)
    have c1 : csL (wdT (z :: zs) is) = z :: zs := by unfold csL; rw [e, k1, k2, k4]
    have c2 : csR (wdT (z :: zs) is) = semi is := by unfold csR; rw [e, k2, k4]
    have c3 : csF (wdT (z :: zs) is) = true := by unfold csF; rw [e, k2, k3, k4]; rfl
    have c4 : isL (wdT (z :: zs) is) = is := by unfold isL; rw [c2, k5]
    have c5 : isR (wdT (z :: zs) is) = [] := by unfold isR; rw [c2, k5]
    have c6 : isF (wdT (z :: zs) is) = true := by unfold isF; rw [c2, c3, k5]; rfl
    refine ⟨c1, c4, ?_⟩
    unfold pwF
    rw [c1, c4, c5, c6, h]
    rfl

/-! The model. -/
/-- What the model makes of a class's text. -/
def mcP (p : List UInt8) : ByteArray × ByteArray := if 2 < p.length ∧ p[1]? = some 60 then (strOf (p.take 1), strOf (p.drop 2)) else (strOf p, ⟨#[]⟩)
def mwG (P : List (List UInt8)) : Option (List (ByteArray × ByteArray) × List Ins) := match P with
  | [] => none
  | p :: ps => if (ps.all piF && wdOf ((cutG 32 [] p).map mcP) (ps.map inI)) = true then some ((cutG 32 [] p).map mcP, ps.map inI) else none
theorem joinM_flat (m : UInt8) (p : List UInt8) (ps : List (List UInt8)) : joinM m (p :: ps) = p ++ ps.flatMap (fun q => m :: q) := by
  induction ps generalizing p with
  | nil => show p = _; simp
  | cons q ps ih =>
    show p ++ m :: joinM m (q :: ps) = _
    rw [ih]
    simp
theorem cut_flat (m : UInt8) (p : List UInt8) (ps : List (List UInt8)) (h : ∀ q ∈ p :: ps, ∀ c ∈ q, (c == m) = false) : cutG m [] (p ++ ps.flatMap (fun q => m :: q)) = p :: ps := by
  induction ps generalizing p with
  | nil =>
    rw [List.flatMap_nil, List.append_nil]
    exact cutG_one (h p (List.mem_cons_self ..))
  | cons q ps ih =>
    rw [List.flatMap_cons, List.cons_append, cutG_more (h p (List.mem_cons_self ..)), ih q fun x hx => h x (List.mem_cons_of_mem _ hx)]
theorem mcP_text (p : List UInt8) : clsT (mcP p) = p := by
  unfold mcP
  split
  · rename_i h
    obtain ⟨h1, h2⟩ := h
    match p, h1, h2 with
    | a :: b :: c :: r, _, h2 =>
      have : b = 60 := by simpa using h2
      subst this
      unfold clsT
      simp [strOf_data]
  · unfold clsT
    simp [strOf_data]
theorem mcP_of {z : ByteArray × ByteArray} (h : clsFine z) : mcP (clsT z) = z := by
  obtain ⟨x, y⟩ := z
  obtain ⟨⟨a, ha, hcap⟩, hs⟩ := h
  have ha' : x.data.toList = [a] := ha
  by_cases hy : y.data.toList = []
  · have et : clsT (x, y) = [a] := by
      unfold clsT
      simp only [ha', hy, if_true, List.append_nil]
    rw [et]
    unfold mcP
    rw [if_neg (by simp)]
    exact Prod.ext (ba_eq (by rw [strOf_data]; exact ha'.symm)) (ba_eq hy.symm)
  · obtain ⟨b, r, hb⟩ : ∃ b r, y.data.toList = b :: r := by
      rcases h : y.data.toList with _ | ⟨b, r⟩
      · exact absurd h hy
      · exact ⟨b, r, rfl⟩
    have et : clsT (x, y) = a :: 60 :: b :: r := by
      unfold clsT
      simp only [ha', if_neg hy]
      rw [hb]
      rfl
    rw [et]
    unfold mcP
    rw [if_pos (by simp)]
    exact Prod.ext (ba_eq (by rw [strOf_data]; exact ha'.symm)) (ba_eq (by rw [strOf_data]; exact hb.symm))
theorem clsT_plain {z : ByteArray × ByteArray} (h : clsFine z) : ∀ c ∈ clsT z, (c == 32) = false ∧ (c == 59) = false := by
  obtain ⟨x, y⟩ := z
  obtain ⟨⟨a, ha, hcap⟩, hs⟩ := h
  have ha' : x.data.toList = [a] := ha
  intro c hc
  unfold clsT at hc
  simp only [ha'] at hc
  rcases List.mem_append.1 hc with hc | hc
  · rw [List.mem_singleton.1 hc]
    exact ⟨(cap_ne hcap).1, (cap_ne hcap).2.1⟩
  · split at hc
    · cases hc
    · rcases List.mem_cons.1 hc with rfl | hc
      · exact ⟨by decide, by decide⟩
      · have := cap_ne (hs c hc)
        exact ⟨this.1, this.2.1⟩
theorem ndt_59 {z : ByteArray × ByteArray} (h : okN z.1.data.toList z.2.data.toList = true) : ∀ c ∈ ndt z, (c == 59) = false := by
  have hb : ∀ c : UInt8, noB ms4 c = true → (c == 59) = false := fun c => by
    refine u8_all (p := fun c => noB ms4 c = true → (c == 59) = false) ?_ c
    decide +kernel
  unfold okN at h
  rw [Bool.and_eq_true] at h
  obtain ⟨a, ha, hn⟩ := nm_plain h.1
  intro c hc
  unfold ndt at hc
  rw [ha] at hc
  simp only [List.cons_append, List.nil_append, List.mem_cons] at hc
  rcases hc with rfl | rfl | hc
  · exact hb _ hn
  · decide
  · exact hb c (ty_plain h.2 c hc)
theorem insL_59 {i : Ins} (h : insFine i) : ∀ c ∈ insL i, (c == 59) = false := by
  obtain ⟨x, t, ns⟩ := i
  obtain ⟨h1, h2⟩ := h
  intro c hc
  unfold insL at hc
  rcases List.mem_append.1 hc with hc | hc
  · exact ndt_59 (z := (x, t)) h1 c hc
  · rcases ns with _ | ⟨z, zs⟩
    · rw [if_pos rfl] at hc
      cases hc
    · rw [if_neg (by simp), ndL_amp] at hc
      rcases List.mem_cons.1 hc with rfl | hc
      · decide
      · rcases List.mem_append.1 hc with hc | hc
        · exact ndt_59 (h2 z (List.mem_cons_self ..)) c hc
        · unfold amp at hc
          obtain ⟨y, hy, hc⟩ := List.mem_flatMap.1 hc
          rcases List.mem_cons.1 hc with rfl | hc
          · decide
          · exact ndt_59 (h2 y (List.mem_cons_of_mem _ hy)) c hc
theorem flat_map {α : Type} (m : UInt8) (f : α → List UInt8) (l : List α) : (l.map f).flatMap (fun q => m :: q) = l.flatMap (fun x => m :: f x) := by
  induction l with
  | nil => rfl
  | cons a l ih => simp only [List.map_cons, List.flatMap_cons, ih]
theorem map_id_of {l : List (List UInt8)} {f : List UInt8 → List UInt8} (h : ∀ q ∈ l, f q = q) : l.map f = l := by
  induction l with
  | nil => rfl
  | cons a l ih => rw [List.map_cons, h a (List.mem_cons_self ..), ih fun q hq => h q (List.mem_cons_of_mem _ hq)]

/-- The model reads what the program reads. -/
theorem mwG_pwV (l : List UInt8) : pwV l = match mwG (cutG 59 [] l) with
  | some v => (v.1, v.2, true)
  | none => ([], [], false) := by
  have hj := joinM_cut 59 l []
  rw [List.nil_append] at hj
  rcases hP : cutG 59 [] l with _ | ⟨p, ps⟩
  · exact absurd hP (cutG_ne 59 l [])
  · rw [hP, joinM_flat] at hj
    rcases hm : (ps.all piF && wdOf ((cutG 32 [] p).map mcP) (ps.map inI)) with _ | _
    · have e : mwG (p :: ps) = none := by
        show (if (ps.all piF && wdOf ((cutG 32 [] p).map mcP) (ps.map inI)) = true then _ else _) = _
        rw [hm]
        rfl
      rw [e]
      refine pwV_no (Bool.eq_false_iff.2 fun hp => ?_)
      obtain ⟨h1, h2⟩ := pw_text hp
      obtain ⟨zs, hzs⟩ : ∃ zs, csL l = zs := ⟨_, rfl⟩
      obtain ⟨is, his⟩ : ∃ is, isL l = is := ⟨_, rfl⟩
      rw [hzs, his] at h1 h2
      obtain ⟨f1, f2, f3⟩ := wdOf_fine h2
      rcases zs with _ | ⟨z, zs⟩
      · exact f2 rfl
      · have c1 : cutG 59 [] l = clL (z :: zs) :: is.map insL := by
          rw [h1, wdT_semi]
          have := cut_flat 59 (clL (z :: zs)) (is.map insL) (by
            intro q hq c hc
            rcases List.mem_cons.1 hq with rfl | hq
            · rw [clL_spc] at hc
              rcases List.mem_append.1 hc with hc | hc
              · exact (clsT_plain (f1 z (List.mem_cons_self ..)) c hc).2
              · unfold spc at hc
                obtain ⟨y, hy, hc⟩ := List.mem_flatMap.1 hc
                rcases List.mem_cons.1 hc with rfl | hc
                · decide
                · exact (clsT_plain (f1 y (List.mem_cons_of_mem _ hy)) c hc).2
            · obtain ⟨i, hi, rfl⟩ := List.mem_map.1 hq
              exact insL_59 (f3 i hi) c hc)
          rw [flat_map] at this
          exact this
        rw [hP] at c1
        injection c1 with c2 c3
        have c4 : cutG 32 [] p = (z :: zs).map clsT := by
          rw [c2, clL_spc]
          have := cut_flat 32 (clsT z) (zs.map clsT) (by
            intro q hq c hc
            rcases List.mem_cons.1 hq with rfl | hq
            · exact (clsT_plain (f1 z (List.mem_cons_self ..)) c hc).1
            · obtain ⟨y, hy, rfl⟩ := List.mem_map.1 hq
              exact (clsT_plain (f1 y (List.mem_cons_of_mem _ hy)) c hc).1)
          rw [flat_map] at this
          exact this
        have c5 : (cutG 32 [] p).map mcP = z :: zs := by
          rw [c4, List.map_map]
          have : ∀ (ys : List (ByteArray × ByteArray)), (∀ y ∈ ys, clsFine y) → ys.map (mcP ∘ clsT) = ys := by
            intro ys
            induction ys with
            | nil => intro _; rfl
            | cons y ys ih => intro h; rw [List.map_cons, ih fun x hx => h x (List.mem_cons_of_mem _ hx), Function.comp, mcP_of (h y (List.mem_cons_self ..))]
          exact this _ f1
        have c6 : ps.map inI = is ∧ ps.all piF = true := by
          rw [c3]
          have : ∀ (js : List Ins), (∀ y ∈ js, insFine y) → (js.map insL).map inI = js ∧ (js.map insL).all piF = true := by
            intro js
            induction js with
            | nil => intro _; exact ⟨rfl, rfl⟩
            | cons y ys ih =>
              intro h
              obtain ⟨i1, i2⟩ := ih fun x hx => h x (List.mem_cons_of_mem _ hx)
              obtain ⟨k1, k2⟩ := piF_of (h y (List.mem_cons_self ..))
              refine ⟨by rw [List.map_cons, List.map_cons, i1, k2], ?_⟩
              rw [List.map_cons, List.all_cons, i2, k1]
              rfl
          exact this _ f3
        rw [c5, c6.1, c6.2, h2] at hm
        cases hm
    · have e : mwG (p :: ps) = some ((cutG 32 [] p).map mcP, ps.map inI) := by
        show (if (ps.all piF && wdOf ((cutG 32 [] p).map mcP) (ps.map inI)) = true then _ else _) = _
        rw [hm]
        rfl
      rw [e]
      rw [Bool.and_eq_true] at hm
      obtain ⟨zs, hzs⟩ : ∃ zs, (cutG 32 [] p).map mcP = zs := ⟨_, rfl⟩
      obtain ⟨is, his⟩ : ∃ is, ps.map inI = is := ⟨_, rfl⟩
      have hl : l = wdT zs is := by
        rw [← hj, wdT_semi, ← hzs, ← his]
        have k1 : p = clL ((cutG 32 [] p).map mcP) := by
          have hj2 := joinM_cut 32 p []
          rw [List.nil_append] at hj2
          rcases hQ : cutG 32 [] p with _ | ⟨q, qs⟩
          · exact absurd hQ (cutG_ne 32 p [])
          · rw [hQ, joinM_flat] at hj2
            rw [List.map_cons, clL_spc, mcP_text]
            unfold spc
            rw [show ((qs.map mcP).flatMap fun z => 32 :: clsT z) = qs.flatMap (fun q => 32 :: q) from by
              rw [← flat_map 32 clsT, List.map_map, map_id_of (f := clsT ∘ mcP) fun q _ => mcP_text q]]
            exact hj2.symm
        have k2 : semi (ps.map inI) = ps.flatMap (fun q => 59 :: q) := by
          unfold semi
          rw [← flat_map 59 insL, List.map_map, map_id_of (f := insL ∘ inI) fun q hq => (piF_text (List.all_eq_true.1 hm.1 q hq)).1.symm]
        rw [← k1, k2]
      have hw := hm.2
      rw [hzs, his] at hw ⊢
      obtain ⟨k1, k2, k3⟩ := pw_of hw
      rw [← hl] at k1 k2 k3
      rw [pwV_yes k3, k1, k2]
/-- What a valid world's text costs. -/
theorem pwV_len (l : List UInt8) : (pwV l).1.length ≤ 4 ∧ tot (pwV l).1 ≤ l.length ∧ (pwV l).2.1.length + inssTot (pwV l).2.1 ≤ l.length := by
  rcases h : pwF l with _ | _
  · rw [pwV_no h]; simp [tot, inssTot]
  · rw [pwV_yes h]
    have h1 := isL_len l
    have h2 := (pw_text h).2
    have h3 : 1 ≤ (csL l).length := by unfold csL; simp
    unfold wdOf clsOf at h2
    simp only [Bool.and_eq_true, decide_eq_true_eq] at h2
    refine ⟨h2.2.1.1.2, ?_, ?_⟩ <;> simp only <;> omega

end Go.Proofs.YtjpdiahbnhemoaaGreatDoor
