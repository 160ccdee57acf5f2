/- Types apart, in plain words. Unification of two types in plain words: what each variable comes to with everything put in, and how long that gets. -/
import Derived.Test.YtjpdiahbnhemoaaGreatUnW
import Derived.Test.YtjpdiahbnhemoaaGreatRen
import Derived.Test.YtjpdiahbnhemoaaGreatApW
namespace Go.Proofs.YtjpdiahbnhemoaaGreat

theorem sub_subV (σ : UInt8 → Ty) (t : Ty) : t.sub σ = t.subV isVarX σ := by
  induction t with
  | lf c => rfl
  | un c a ih => simp only [Ty.sub, Ty.subV, ih]
  | bi c a b iha ihb => simp only [Ty.sub, Ty.subV, iha, ihb]
theorem subV_move {V W : UInt8 → Bool} (hVW : ∀ c, ar c = 0 → V c = W c) (σ : UInt8 → Ty) {t : Ty} (h : t.ok) : t.subV V σ = t.subV W σ := by
  induction t with
  | lf c => simp only [Ty.subV, hVW c h]
  | un c a ih => simp only [Ty.subV, ih h.2]
  | bi c a b iha ihb => simp only [Ty.subV, iha h.2.1, ihb h.2.2]
theorem has_ok {t : Ty} (h : t.ok) {c : UInt8} (hc : t.hasL c = true) : ar c = 0 := by
  induction t with
  | lf d =>
    have : d = c := by simpa [Ty.hasL] using hc
    rw [← this]
    exact h
  | un d a ih => exact ih h.2 hc
  | bi d a b iha ihb =>
    simp only [Ty.hasL, Bool.or_eq_true] at hc
    exact hc.elim (iha h.2.1) (ihb h.2.2)
/-- No type is of the form of both. -/
def Apart (l l' : List UInt8) : Prop := ∃ P T, tyOf l = some P ∧ tyOf l' = some T ∧ ∀ θ η, P.subV isVarB θ ≠ T.subV isVarB η
theorem apart_by {V : UInt8 → Bool} {o inv : UInt8 → UInt8} (hV : ∀ c, ar c = 0 → V c = isVarB c) (ho : ∀ c, isVarB c = true → V (o c) = true ∧ isVarB (o c) = false ∧ inv (o c) = c) {a b : Ty} (ha : a.ok) (hb : b.ok) :
    (∃ θ, a.subV V θ = (b.subV V (fun c => .lf (o c))).subV V θ) ↔ ∃ θ η, a.subV isVarB θ = b.subV isVarB η := by
  have e : ∀ θ : UInt8 → Ty, (b.subV V (fun c => .lf (o c))).subV V θ = b.subV isVarB (fun c => θ (o c)) := by
    intro θ
    rw [subV_comp, subV_move hV _ hb]
    refine subV_congr b fun c hc _ => ?_
    simp [Ty.subV, (ho c hc).1]
  constructor
  · rintro ⟨θ, h⟩
    rw [e, subV_move hV _ ha] at h
    exact ⟨θ, _, h⟩
  · rintro ⟨θ, η, h⟩
    refine ⟨fun c => if isVarB c = true then θ c else η (inv c), ?_⟩
    rw [e, subV_move hV _ ha]
    have e1 : a.subV isVarB (fun c => if isVarB c = true then θ c else η (inv c)) = a.subV isVarB θ := subV_congr a fun c hc _ => by simp [hc]
    have e2 : b.subV isVarB (fun c => if isVarB (o c) = true then θ (o c) else η (inv (o c))) = b.subV isVarB η := subV_congr b fun c hc _ => by simp [(ho c hc).2.1, (ho c hc).2.2]
    rw [e1, e2, h]
/-- The program's other letters. -/
def otherX (c : UInt8) : UInt8 := if c = 88 then 82 else if c = 89 then 83 else if c = 90 then 84 else if c = 120 then 114 else if c = 121 then 115 else if c = 122 then 116 else c
def backX (c : UInt8) : UInt8 := if c = 82 then 88 else if c = 83 then 89 else if c = 84 then 90 else if c = 114 then 120 else if c = 115 then 121 else if c = 116 then 122 else c
theorem otherX_var (c : UInt8) (h : isVarB c = true) : isVarX (otherX c) = true ∧ isVarB (otherX c) = false ∧ backX (otherX c) = c := by
  revert h
  refine u8_all (p := fun c => isVarB c = true → isVarX (otherX c) = true ∧ isVarB (otherX c) = false ∧ backX (otherX c) = c) ?_ c
  decide +kernel

theorem unify_apart {V : UInt8 → Bool} {lt : UInt8 → UInt8 → Bool} {o inv : UInt8 → UInt8} (hV : ∀ c, ar c = 0 → V c = isVarB c) (ho : ∀ c, isVarB c = true → V (o c) = true ∧ isVarB (o c) = false ∧ inv (o c) = c) (hs : ∀ c, V c = true → ar c ≠ 1 ∧ ar c ≠ 2) {a b : Ty} (ha : a.ok) (hb : b.ok) :
    ∃ r, Uni V lt (fun _ => none) a (b.subV V (fun c => .lf (o c))) r ∧ (∀ g, r = some g → ∃ σ ρ M, Inv V g σ ρ M) ∧ (r = none ↔ ∀ θ η, a.subV isVarB θ ≠ b.subV isVarB η) := by
  have hos : (b.subV V (fun c => .lf (o c))).shp := by
    have key : ∀ t : Ty, t.ok → (t.subV V (fun c => .lf (o c))).shp := by
      intro t
      induction t with
      | lf c =>
        intro hc
        unfold Ty.subV
        split
        · rename_i hv
          rw [hV c hc] at hv
          exact hs _ (ho c hv).1
        · exact ok_shp hc
      | un c a ih => exact fun h => ⟨h.1, ih h.2⟩
      | bi c a b iha ihb => exact fun h => ⟨h.1, iha h.2.1, ihb h.2.2⟩
    exact key b hb
  obtain ⟨r, h1, h2⟩ := uni_total V lt _ _ _ _ _ _ a _ (Inv.start V) (ok_shp ha) hos (Nat.lt_succ_self _) (Nat.lt_succ_self _)
  have hid : ∀ θ : UInt8 → Ty, Resp V (fun c => .lf c) θ := fun θ c hc => by simp [Ty.subV, hc]
  have hap := apart_by hV ho ha hb
  refine ⟨r, h1, ?_, ?_⟩
  · intro g hg
    subst hg
    obtain ⟨σ, ρ, M, hI, _⟩ := h2
    exact ⟨σ, ρ, M, hI⟩
  · cases r with
    | none =>
      refine ⟨fun _ θ η he => ?_, fun _ => rfl⟩
      obtain ⟨θ', h3⟩ := hap.2 ⟨θ, η, he⟩
      exact h2 θ' (hid θ') h3
    | some g =>
      obtain ⟨σ, ρ, M, _, _, h3, _⟩ := h2
      constructor
      · intro h; cases h
      · intro h
        obtain ⟨θ, η, h4⟩ := hap.1 ⟨σ, h3⟩
        exact absurd h4 (h θ η)

end Go.Proofs.YtjpdiahbnhemoaaGreat

namespace Go.Proofs.YtjpdiahbnhemoaaGreat

/-- The order of the document's variables. -/
def ltV (c d : UInt8) : Bool := decide (c < d)

theorem thr_fine {V : UInt8 → Bool} {f : UInt8 → Option Ty} (hf : Fine f) {a b : Ty} (h : Thr V f a b) : (a.ok ∧ a.text.length ≤ 60) → b.ok ∧ b.text.length ≤ 60 := by
  induction h with
  | stay _ => exact fun h => h
  | step _ h2 _ ih => exact fun _ => ih (hf _ _ h2)
theorem fine_bind {f : UInt8 → Option Ty} (h : Fine f) {c : UInt8} {t : Ty} (ht : t.ok ∧ t.text.length ≤ 60) : Fine (bindU f c t) := by
  intro d u hd
  unfold bindU at hd
  split at hd
  · injection hd with hd
    rw [← hd]
    exact ht
  · exact h d u hd
theorem fine_un {c : UInt8} {x : Ty} (h : (Ty.un c x).ok ∧ (Ty.un c x).text.length ≤ 60) : x.ok ∧ x.text.length ≤ 60 :=
  ⟨h.1.2, by have := h.2; simp [Ty.text] at this; omega⟩
theorem fine_bi {c : UInt8} {x y : Ty} (h : (Ty.bi c x y).ok ∧ (Ty.bi c x y).text.length ≤ 60) : (x.ok ∧ x.text.length ≤ 60) ∧ y.ok ∧ y.text.length ≤ 60 :=
  ⟨⟨h.1.2.1, by have := h.2; simp [Ty.text] at this; omega⟩, h.1.2.2, by have := h.2; simp [Ty.text] at this; omega⟩
theorem uni_fine {V : UInt8 → Bool} {lt : UInt8 → UInt8 → Bool} {f : UInt8 → Option Ty} {a b : Ty} {o : Option (UInt8 → Option Ty)} (h : Uni V lt f a b o) : Fine f → (a.ok ∧ a.text.length ≤ 60) → (b.ok ∧ b.text.length ≤ 60) → ∀ g, o = some g → Fine g := by
  induction h with
  | same _ _ _ => intro hf _ _ g hg; injection hg with hg; rw [← hg]; exact hf
  | less h1 h2 _ _ _ _ => intro hf ha hb g hg; injection hg with hg; rw [← hg]; exact fine_bind hf (thr_fine hf h2 hb)
  | more h1 h2 _ _ _ _ => intro hf ha hb g hg; injection hg with hg; rw [← hg]; exact fine_bind hf (thr_fine hf h1 ha)
  | left h1 h2 _ _ _ =>
    intro hf ha hb g hg
    split at hg
    · cases hg
    · injection hg with hg; rw [← hg]; exact fine_bind hf (thr_fine hf h2 hb)
  | right h1 h2 _ _ _ =>
    intro hf ha hb g hg
    split at hg
    · cases hg
    · injection hg with hg; rw [← hg]; exact fine_bind hf (thr_fine hf h1 ha)
  | con _ _ _ => intro hf _ _ g hg; injection hg with hg; rw [← hg]; exact hf
  | clash _ _ _ _ _ => intro _ _ _ g hg; cases hg
  | un h1 h2 _ ih => intro hf ha hb g hg; exact ih hf (fine_un (thr_fine hf h1 ha)) (fine_un (thr_fine hf h2 hb)) g hg
  | no _ _ _ _ => intro _ _ _ g hg; cases hg
  | bi h1 h2 _ _ iha ihb =>
    intro hf ha hb g hg
    exact ihb (iha hf (fine_bi (thr_fine hf h1 ha)).1 (fine_bi (thr_fine hf h2 hb)).1 _ rfl) (fine_bi (thr_fine hf h1 ha)).2 (fine_bi (thr_fine hf h2 hb)).2 g hg

theorem sub_len {V : UInt8 → Bool} {σ : UInt8 → Ty} {X : Nat} (hX : 1 ≤ X) (t : Ty) (h : ∀ c, V c = true → t.hasL c = true → (σ c).text.length ≤ X) : (t.subV V σ).text.length ≤ t.text.length * X := by
  induction t with
  | lf c =>
    unfold Ty.subV
    split
    · rename_i hv
      have := h c hv (by simp [Ty.hasL])
      simpa [Ty.text] using this
    · simpa [Ty.text] using hX
  | un c a ih =>
    have := ih fun d hd he => h d hd he
    simp only [Ty.subV, Ty.text, List.length_cons, List.length_append, List.length_nil, Nat.add_mul, Nat.zero_mul, Nat.one_mul]
    omega
  | bi c a b iha ihb =>
    have h1 := iha fun d hd he => h d hd (by simp [Ty.hasL, he])
    have h2 := ihb fun d hd he => h d hd (by simp [Ty.hasL, he])
    simp only [Ty.subV, Ty.text, List.length_cons, List.length_append, List.length_nil, Nat.add_mul, Nat.zero_mul, Nat.one_mul]
    omega
/-- How many variables have a rank below n. -/
def rnk (ρ : UInt8 → Nat) (n : Nat) : Nat := (([88, 89, 90, 120, 121, 122] : List UInt8).filter fun d => decide (ρ d < n)).length
theorem filter_mono {α : Type} {p q : α → Bool} (h : ∀ x, p x = true → q x = true) : ∀ L : List α, (L.filter p).length ≤ (L.filter q).length := by
  intro L
  induction L with
  | nil => exact Nat.le_refl _
  | cons x L ih =>
    by_cases hp : p x = true
    · rw [List.filter_cons_of_pos hp, List.filter_cons_of_pos (h x hp)]
      simpa using ih
    · rw [List.filter_cons_of_neg hp]
      by_cases hq : q x = true
      · rw [List.filter_cons_of_pos hq]
        simp only [List.length_cons]
        omega
      · rw [List.filter_cons_of_neg hq]
        exact ih
theorem filter_more {α : Type} {p q : α → Bool} (h : ∀ x, p x = true → q x = true) : ∀ L : List α, (∃ x ∈ L, p x = false ∧ q x = true) → (L.filter p).length < (L.filter q).length := by
  intro L
  induction L with
  | nil => rintro ⟨x, hx, _⟩; cases hx
  | cons x L ih =>
    rintro ⟨y, hy, h1, h2⟩
    have hm := filter_mono h L
    rcases List.mem_cons.1 hy with rfl | hy
    · rw [List.filter_cons_of_neg (by simp [h1]), List.filter_cons_of_pos h2]
      simp only [List.length_cons]
      omega
    · have := ih ⟨y, hy, h1, h2⟩
      by_cases hp : p x = true
      · rw [List.filter_cons_of_pos hp, List.filter_cons_of_pos (h x hp)]
        simpa using this
      · rw [List.filter_cons_of_neg hp]
        by_cases hq : q x = true
        · rw [List.filter_cons_of_pos hq]
          simp only [List.length_cons]
          omega
        · rw [List.filter_cons_of_neg hq]
          exact this
theorem isVarB_mem (c : UInt8) : isVarB c = true → c ∈ ([88, 89, 90, 120, 121, 122] : List UInt8) := by
  refine u8_all (p := fun c => isVarB c = true → c ∈ ([88, 89, 90, 120, 121, 122] : List UInt8)) ?_ c
  decide +kernel
theorem isVarB_ar (c : UInt8) : isVarB c = true → ar c = 0 := by
  refine u8_all (p := fun c => isVarB c = true → ar c = 0) ?_ c
  decide +kernel
theorem full_len {f : UInt8 → Option Ty} {σ : UInt8 → Ty} {ρ : UInt8 → Nat} {M : Nat} (h : Inv isVarB f σ ρ M) (hf : Fine f) : ∀ c, isVarB c = true → (σ c).text.length ≤ 46656000000 := by
  have key : ∀ n c, isVarB c = true → ρ c < n → (σ c).text.length ≤ 60 ^ rnk ρ n := by
    intro n
    induction n with
    | zero => intro c _ hc; omega
    | succ n ih =>
      intro c hv hc
      have hm : rnk ρ n ≤ rnk ρ (n + 1) := filter_mono (fun d hd => by simp only [decide_eq_true_eq] at *; omega) _
      by_cases hlt : ρ c < n
      · exact Nat.le_trans (ih c hv hlt) (Nat.pow_le_pow_right (by decide) hm)
      · have hm' : rnk ρ n < rnk ρ (n + 1) := filter_more (fun d hd => by simp only [decide_eq_true_eq] at *; omega) _ ⟨c, isVarB_mem c hv, by simp only [decide_eq_false_iff_not]; omega, by simp only [decide_eq_true_eq]; omega⟩
        rcases hfc : f c with _ | t
        · rw [h.free c hv hfc]
          exact Nat.one_le_pow _ _ (by decide)
        · rw [(h.bound c t hfc).2.2]
          have h1 : (t.subV isVarB σ).text.length ≤ t.text.length * 60 ^ rnk ρ n := sub_len (Nat.one_le_pow _ _ (by decide)) t fun d hd he => ih d hd (by have := h.rank c t d hfc hd he; omega)
          have h2 : t.text.length * 60 ^ rnk ρ n ≤ 60 * 60 ^ rnk ρ n := Nat.mul_le_mul_right _ (hf c t hfc).2
          have h3 : 60 * 60 ^ rnk ρ n = 60 ^ (rnk ρ n + 1) := by rw [Nat.pow_succ, Nat.mul_comm]
          exact Nat.le_trans h1 (Nat.le_trans h2 (by rw [h3]; exact Nat.pow_le_pow_right (by decide) hm'))
  intro c hv
  have h6 : rnk ρ M ≤ 6 := List.length_filter_le _ _
  refine Nat.le_trans (key M c hv (h.lim c)) (Nat.le_trans (Nat.pow_le_pow_right (by decide) h6) ?_)
  decide

/-- Other letters, the same types. -/
theorem inv_move {V : UInt8 → Bool} (hV : ∀ c, ar c = 0 → V c = isVarB c) {f : UInt8 → Option Ty} (hf : Fine f) {σ : UInt8 → Ty} {ρ : UInt8 → Nat} {M : Nat} (h : Inv isVarB f σ ρ M) : Inv V f (fun c => if isVarB c = true then σ c else .lf c) ρ M ∧ ∀ t : Ty, t.ok → t.subV V (fun c => if isVarB c = true then σ c else .lf c) = t.subV isVarB σ := by
  have e : ∀ t : Ty, t.ok → t.subV V (fun c => if isVarB c = true then σ c else .lf c) = t.subV isVarB σ := fun t ht => by
    rw [subV_move hV _ ht]
    exact subV_congr t fun c hc _ => by simp [hc]
  refine ⟨⟨fun c hc hfc => ?_, fun c t hc => ?_, fun c t d hc hd ht => ?_, h.lim⟩, e⟩
  · split
    · rename_i hv
      exact h.free c hv hfc
    · rfl
  · obtain ⟨h1, h2, h3⟩ := h.bound c t hc
    refine ⟨by rw [hV c (isVarB_ar c h1)]; exact h1, h2, ?_⟩
    rw [e t (hf c t hc).1, if_pos h1, h3]
  · have h0 := has_ok (hf c t hc).1 ht
    exact h.rank c t d hc (by rw [← hV d h0]; exact hd) ht

/-- What is known of a unification that came to something: g is what was bound, h what it comes to. -/
structure Known (V : UInt8 → Bool) (g h : UInt8 → Option Ty) : Prop where
  fine : Fine g
  inv : ∃ σ ρ M, Inv V g σ ρ M ∧ (∀ c, h c = (g c).map fun t => t.subV V σ)
  lim : ∀ c u, h c = some u → isVarB c = true ∧ u.ok ∧ u.text.length ≤ 46656000000
/-- r is what two types come to. -/
def Sol (P T : Ty) (r : Option (UInt8 → Option Ty)) : Prop :=
  (r = none ∧ Uni isVarB ltV (fun _ => none) P T none ∧ ∀ θ, P.subV isVarB θ ≠ T.subV isVarB θ) ∨
    ∃ g σ ρ M, r = some (fun c => (g c).map fun t => t.subV isVarB σ) ∧ Uni isVarB ltV (fun _ => none) P T (some g) ∧ Inv isVarB g σ ρ M ∧ P.subV isVarB σ = T.subV isVarB σ ∧ ∀ θ, P.subV isVarB θ = T.subV isVarB θ → Resp isVarB σ θ
theorem sol_ex {P T : Ty} (hP : P.ok) (hT : T.ok) : ∃ r, Sol P T r := by
  obtain ⟨o, h1, h2⟩ := uni_total isVarB ltV _ _ _ _ _ _ P T (Inv.start isVarB) (ok_shp hP) (ok_shp hT) (Nat.lt_succ_self _) (Nat.lt_succ_self _)
  have hid : ∀ θ : UInt8 → Ty, Resp isVarB (fun c => .lf c) θ := fun θ c hc => by simp [Ty.subV, hc]
  cases o with
  | none => exact ⟨none, .inl ⟨rfl, h1, fun θ => h2 θ (hid θ)⟩⟩
  | some g =>
    obtain ⟨σ, ρ, M, hI, _, he, hm, _⟩ := h2
    exact ⟨_, .inr ⟨g, σ, ρ, M, rfl, h1, hI, he, fun θ ht => hm θ (hid θ) ht⟩⟩
theorem subB_ok {σ : UInt8 → Ty} (t : Ty) (ht : t.ok) (h : ∀ c, isVarB c = true → t.hasL c = true → (σ c).ok) : (t.subV isVarB σ).ok := by
  induction t with
  | lf c =>
    unfold Ty.subV
    split
    · rename_i hv
      exact h c hv (by simp [Ty.hasL])
    · exact ht
  | un c a ih => exact ⟨ht.1, ih ht.2 fun d hd he => h d hd he⟩
  | bi c a b iha ihb => exact ⟨ht.1, iha ht.2.1 fun d hd he => h d hd (by simp [Ty.hasL, he]), ihb ht.2.2 fun d hd he => h d hd (by simp [Ty.hasL, he])⟩
theorem full_ok {f : UInt8 → Option Ty} {σ : UInt8 → Ty} {ρ : UInt8 → Nat} {M : Nat} (h : Inv isVarB f σ ρ M) (hf : Fine f) : ∀ c, isVarB c = true → (σ c).ok := by
  have key : ∀ n c, isVarB c = true → ρ c < n → (σ c).ok := by
    intro n
    induction n with
    | zero => intro c _ hc; omega
    | succ n ih =>
      intro c hv hc
      rcases hfc : f c with _ | t
      · rw [h.free c hv hfc]
        exact isVarB_ar c hv
      · rw [(h.bound c t hfc).2.2]
        exact subB_ok t (hf c t hfc).1 fun d hd he => ih d hd (by have := h.rank c t d hfc hd he; omega)
  exact fun c hv => key M c hv (h.lim c)
theorem sol_known {P T : Ty} {r : Option (UInt8 → Option Ty)} (hs : Sol P T r) (hP : P.ok ∧ P.text.length ≤ 60) (hT : T.ok ∧ T.text.length ≤ 60) {V : UInt8 → Bool} {lt : UInt8 → UInt8 → Bool} (hV : ∀ c, ar c = 0 → V c = isVarB c) (hlt : ∀ v w, ar v = 0 → ar w = 0 → isVarB v = true → isVarB w = true → ltV v w = lt v w) :
    (r = none ∧ Uni V lt (fun _ => none) P T none) ∨ ∃ g h, r = some h ∧ Uni V lt (fun _ => none) P T (some g) ∧ Known V g h := by
  have hV' : ∀ c, ar c = 0 → isVarB c = V c := fun c hc => (hV c hc).symm
  have h0 : OkF (fun _ => none) := fun c t h => by cases h
  rcases hs with ⟨rfl, hu, _⟩ | ⟨g, σ, ρ, M, rfl, hu, hI, _, _⟩
  · exact .inl ⟨rfl, (uni_move hV' hlt hu h0 hP.1 hT.1).1⟩
  · have hf := uni_fine hu (fun c t h => by cases h) hP hT g rfl
    obtain ⟨hI', he⟩ := inv_move hV hf hI
    refine .inr ⟨g, _, rfl, (uni_move hV' hlt hu h0 hP.1 hT.1).1, ⟨hf, ⟨_, ρ, M, hI', fun c => ?_⟩, fun c u hu => ?_⟩⟩
    · rcases hc : g c with _ | t
      · rfl
      · rw [Option.map_some, Option.map_some, he t (hf c t hc).1]
    · rcases hc : g c with _ | t
      · rw [hc] at hu; cases hu
      · rw [hc] at hu
        have hu' : t.subV isVarB σ = u := by injection hu
        obtain ⟨h1, _, h3⟩ := hI.bound c t hc
        rw [← hu', ← h3]
        exact ⟨h1, full_ok hI hf c h1, full_len hI hf c h1⟩

open Classical in
/-- What two texts come to when they are made the same. -/
noncomputable def ufOf (l l' : List UInt8) : Option (UInt8 → Option Ty) :=
  if h : ∃ r P T, tyOf l = some P ∧ tyOf l' = some T ∧ Sol P T r then Classical.choose h else none
theorem ufOf_none {l l' : List UInt8} (h : tyOf l = none ∨ tyOf l' = none) : ufOf l l' = none := by
  unfold ufOf
  rw [dif_neg]
  rintro ⟨r, P, T, h1, h2, _⟩
  rcases h with h | h
  · rw [h1] at h; cases h
  · rw [h2] at h; cases h
theorem ufOf_sol {l l' : List UInt8} {P T : Ty} (h1 : tyOf l = some P) (h2 : tyOf l' = some T) : Sol P T (ufOf l l') := by
  obtain ⟨r, hr⟩ := sol_ex (tyOf_text h1).2.1 (tyOf_text h2).2.1
  have hex : ∃ r P T, tyOf l = some P ∧ tyOf l' = some T ∧ Sol P T r := ⟨r, P, T, h1, h2, hr⟩
  have e : ufOf l l' = Classical.choose hex := by unfold ufOf; rw [dif_pos hex]
  obtain ⟨P', T', e1, e2, hs⟩ := Classical.choose_spec hex
  rw [h1] at e1
  rw [h2] at e2
  injection e1 with e1
  injection e2 with e2
  subst e1
  subst e2
  rw [e]
  exact hs
/-- No type of bindings is too long. -/
def Short (h : UInt8 → Option Ty) : Prop := ∀ c u, h c = some u → u.text.length ≤ 60
open Classical in
/-- The bindings with which two texts are the same type, if there are and none is too long. -/
noncomputable def uniOf (l l' : List UInt8) : Option (UInt8 → Option Ty) :=
  match ufOf l l' with
  | none => none
  | some h => if Short h then some h else none
theorem uniOf_none {l l' : List UInt8} (h : ufOf l l' = none) : uniOf l l' = none := by unfold uniOf; rw [h]
theorem uniOf_some {l l' : List UInt8} {h : UInt8 → Option Ty} (hu : ufOf l l' = some h) (hs : Short h) : uniOf l l' = some h := by unfold uniOf; rw [hu]; exact if_pos hs
theorem uniOf_long {l l' : List UInt8} {h : UInt8 → Option Ty} (hu : ufOf l l' = some h) (hs : ¬ Short h) : uniOf l l' = none := by unfold uniOf; rw [hu]; exact if_neg hs
theorem ltV_any (lt : UInt8 → UInt8 → Bool) (h : (([88, 89, 90, 120, 121, 122] : List UInt8).all fun v => ([88, 89, 90, 120, 121, 122] : List UInt8).all fun w => ltV v w == lt v w) = true) : ∀ v w, ar v = 0 → ar w = 0 → isVarB v = true → isVarB w = true → ltV v w = lt v w := by
  intro v w _ _ hv hw
  rw [List.all_eq_true] at h
  have h1 := h v (isVarB_mem v hv)
  rw [List.all_eq_true] at h1
  exact beq_iff_eq.1 (h1 w (isVarB_mem w hw))

end Go.Proofs.YtjpdiahbnhemoaaGreat
