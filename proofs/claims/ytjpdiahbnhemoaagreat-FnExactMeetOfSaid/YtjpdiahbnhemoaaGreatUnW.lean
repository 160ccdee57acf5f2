/- Unification in plain words: what it comes to step by step, that it comes to something, and what that means. -/
import Derived.Test.YtjpdiahbnhemoaaGreatTy
namespace Go.Proofs.YtjpdiahbnhemoaaGreat

/-- Variables of V replaced. -/
def Ty.subV (V : UInt8 → Bool) (σ : UInt8 → Ty) : Ty → Ty
  | .lf c => if V c = true then σ c else .lf c
  | .un c a => .un c (a.subV V σ)
  | .bi c a b => .bi c (a.subV V σ) (b.subV V σ)
/-- A letter stands in a type, as a leaf. -/
def Ty.hasL (v : UInt8) : Ty → Bool
  | .lf c => c == v
  | .un _ a => a.hasL v
  | .bi _ a b => a.hasL v || b.hasL v
def Ty.wt : Ty → Nat
  | .lf _ => 1
  | .un _ a => 1 + a.wt
  | .bi _ a b => 1 + a.wt + b.wt
/-- A letter says how many parts there are. -/
def Ty.shp : Ty → Prop
  | .lf c => ar c ≠ 1 ∧ ar c ≠ 2
  | .un c a => ar c = 1 ∧ a.shp
  | .bi c a b => ar c = 2 ∧ a.shp ∧ b.shp
def Ty.top : Ty → UInt8
  | .lf c => c
  | .un c _ => c
  | .bi c _ _ => c

theorem subV_congr {V : UInt8 → Bool} {σ τ : UInt8 → Ty} (t : Ty) (h : ∀ c, V c = true → t.hasL c = true → σ c = τ c) : t.subV V σ = t.subV V τ := by
  induction t with
  | lf c =>
    unfold Ty.subV
    split
    · rename_i hv
      exact h c hv (by simp [Ty.hasL])
    · rfl
  | un c a ih => simp only [Ty.subV]; rw [ih fun d hd he => h d hd (by simpa [Ty.hasL] using he)]
  | bi c a b iha ihb =>
    simp only [Ty.subV]
    rw [iha fun d hd he => h d hd (by simp [Ty.hasL, he]), ihb fun d hd he => h d hd (by simp [Ty.hasL, he])]
theorem subV_id {V : UInt8 → Bool} {σ : UInt8 → Ty} (t : Ty) (h : ∀ c, V c = true → t.hasL c = true → σ c = .lf c) : t.subV V σ = t := by
  induction t with
  | lf c =>
    unfold Ty.subV
    split
    · rename_i hv
      exact h c hv (by simp [Ty.hasL])
    · rfl
  | un c a ih => simp only [Ty.subV]; rw [ih fun d hd he => h d hd (by simpa [Ty.hasL] using he)]
  | bi c a b iha ihb =>
    simp only [Ty.subV]
    rw [iha fun d hd he => h d hd (by simp [Ty.hasL, he]), ihb fun d hd he => h d hd (by simp [Ty.hasL, he])]
theorem subV_comp {V : UInt8 → Bool} (σ τ : UInt8 → Ty) (t : Ty) : (t.subV V σ).subV V τ = t.subV V (fun c => (σ c).subV V τ) := by
  induction t with
  | lf c =>
    by_cases hv : V c = true
    · simp [Ty.subV, hv]
    · simp [Ty.subV, hv]
  | un c a ih => simp only [Ty.subV, ih]
  | bi c a b iha ihb => simp only [Ty.subV, iha, ihb]
theorem has_sub {V : UInt8 → Bool} {σ : UInt8 → Ty} {d : UInt8} (hd : V d = true) (t : Ty) : (t.subV V σ).hasL d = true ↔ ∃ c, V c = true ∧ t.hasL c = true ∧ (σ c).hasL d = true := by
  induction t with
  | lf c =>
    by_cases hv : V c = true
    · simp only [Ty.subV, hv, if_true, Ty.hasL, beq_iff_eq]
      constructor
      · exact fun h => ⟨c, hv, rfl, h⟩
      · rintro ⟨c', _, rfl, h⟩
        exact h
    · simp only [Ty.subV, hv, Ty.hasL, beq_iff_eq]
      constructor
      · intro h
        have h' : c = d := by simpa [Ty.hasL] using h
        subst h'
        exact absurd hd hv
      · rintro ⟨c', h1, rfl, h2⟩
        exact absurd h1 hv
  | un c a ih => simpa only [Ty.subV, Ty.hasL] using ih
  | bi c a b iha ihb =>
    simp only [Ty.subV, Ty.hasL, Bool.or_eq_true, iha, ihb]
    constructor
    · rintro (⟨c', h1, h2, h3⟩ | ⟨c', h1, h2, h3⟩)
      · exact ⟨c', h1, .inl h2, h3⟩
      · exact ⟨c', h1, .inr h2, h3⟩
    · rintro ⟨c', h1, h2 | h2, h3⟩
      · exact .inl ⟨c', h1, h2, h3⟩
      · exact .inr ⟨c', h1, h2, h3⟩
theorem wt_pos (t : Ty) : 0 < t.wt := by cases t <;> simp [Ty.wt] <;> omega
theorem wt_has {V : UInt8 → Bool} {θ : UInt8 → Ty} {v : UInt8} (hv : V v = true) (t : Ty) (h : t.hasL v = true) : (θ v).wt ≤ (t.subV V θ).wt := by
  induction t with
  | lf c =>
    have : c = v := by simpa [Ty.hasL] using h
    subst this
    simp [Ty.subV, hv]
  | un c a ih => have := ih h; simp only [Ty.subV, Ty.wt]; omega
  | bi c a b iha ihb =>
    simp only [Ty.hasL, Bool.or_eq_true] at h
    simp only [Ty.subV, Ty.wt]
    rcases h with h | h
    · have := iha h; omega
    · have := ihb h; omega

/-- One variable more. -/
def bindU (f : UInt8 → Option Ty) (c : UInt8) (t : Ty) : UInt8 → Option Ty := fun d => if d = c then some t else f d
/-- Variables followed to what the last of them stands for. -/
inductive Thr (V : UInt8 → Bool) (f : UInt8 → Option Ty) : Ty → Ty → Prop
  | stay {a : Ty} : (∀ c, a = .lf c → V c = true → f c = none) → Thr V f a a
  | step {c : UInt8} {t b : Ty} : V c = true → f c = some t → Thr V f t b → Thr V f (.lf c) b
/-- A variable stands in a type, through what variables stand for. -/
inductive Occ (V : UInt8 → Bool) (f : UInt8 → Option Ty) (v : UInt8) : Ty → Bool → Prop
  | var {n : Ty} {w : UInt8} : Thr V f n (.lf w) → V w = true → Occ V f v n (w == v)
  | con {n : Ty} {c : UInt8} : Thr V f n (.lf c) → V c = false → Occ V f v n false
  | un {n : Ty} {c : UInt8} {a : Ty} {r : Bool} : Thr V f n (.un c a) → Occ V f v a r → Occ V f v n r
  | bi1 {n : Ty} {c : UInt8} {a b : Ty} : Thr V f n (.bi c a b) → Occ V f v a true → Occ V f v n true
  | bi2 {n : Ty} {c : UInt8} {a b : Ty} {r : Bool} : Thr V f n (.bi c a b) → Occ V f v a false → Occ V f v b r → Occ V f v n r
/-- Nothing that a variable is. -/
def NoVar (V : UInt8 → Bool) (n : Ty) : Prop := ∀ c, n = .lf c → V c = false
/-- Two types made the same. -/
inductive Uni (V : UInt8 → Bool) (lt : UInt8 → UInt8 → Bool) : (UInt8 → Option Ty) → Ty → Ty → Option (UInt8 → Option Ty) → Prop
  | same {f : UInt8 → Option Ty} {a b : Ty} {v : UInt8} : Thr V f a (.lf v) → Thr V f b (.lf v) → V v = true → Uni V lt f a b (some f)
  | less {f : UInt8 → Option Ty} {a b : Ty} {v w : UInt8} : Thr V f a (.lf v) → Thr V f b (.lf w) → V v = true → V w = true → v ≠ w → lt v w = true → Uni V lt f a b (some (bindU f v (.lf w)))
  | more {f : UInt8 → Option Ty} {a b : Ty} {v w : UInt8} : Thr V f a (.lf v) → Thr V f b (.lf w) → V v = true → V w = true → v ≠ w → lt v w = false → Uni V lt f a b (some (bindU f w (.lf v)))
  | left {f : UInt8 → Option Ty} {a b n : Ty} {v : UInt8} {r : Bool} : Thr V f a (.lf v) → Thr V f b n → V v = true → NoVar V n → Occ V f v n r → Uni V lt f a b (if r = true then none else some (bindU f v n))
  | right {f : UInt8 → Option Ty} {a b n : Ty} {w : UInt8} {r : Bool} : Thr V f a n → Thr V f b (.lf w) → V w = true → NoVar V n → Occ V f w n r → Uni V lt f a b (if r = true then none else some (bindU f w n))
  | con {f : UInt8 → Option Ty} {a b : Ty} {c : UInt8} : Thr V f a (.lf c) → Thr V f b (.lf c) → V c = false → Uni V lt f a b (some f)
  | clash {f : UInt8 → Option Ty} {a b m n : Ty} : Thr V f a m → Thr V f b n → NoVar V m → NoVar V n → m.top ≠ n.top → Uni V lt f a b none
  | un {f : UInt8 → Option Ty} {a b x y : Ty} {c : UInt8} {o : Option (UInt8 → Option Ty)} : Thr V f a (.un c x) → Thr V f b (.un c y) → Uni V lt f x y o → Uni V lt f a b o
  | no {f : UInt8 → Option Ty} {a b x x' y y' : Ty} {c : UInt8} : Thr V f a (.bi c x x') → Thr V f b (.bi c y y') → Uni V lt f x y none → Uni V lt f a b none
  | bi {f g : UInt8 → Option Ty} {a b x x' y y' : Ty} {c : UInt8} {o : Option (UInt8 → Option Ty)} : Thr V f a (.bi c x x') → Thr V f b (.bi c y y') → Uni V lt f x y (some g) → Uni V lt g x' y' o → Uni V lt f a b o

/-- σ: what each variable comes to at last; ρ: what a variable stands for is of lesser ones. -/
structure Inv (V : UInt8 → Bool) (f : UInt8 → Option Ty) (σ : UInt8 → Ty) (ρ : UInt8 → Nat) (M : Nat) : Prop where
  free : ∀ c, V c = true → f c = none → σ c = .lf c
  bound : ∀ c t, f c = some t → V c = true ∧ t.shp ∧ σ c = t.subV V σ
  rank : ∀ c t d, f c = some t → V d = true → t.hasL d = true → ρ d < ρ c
  lim : ∀ c, ρ c < M
/-- A way to replace variables that keeps what they stand for. -/
def Resp (V : UInt8 → Bool) (σ θ : UInt8 → Ty) : Prop := ∀ c, V c = true → (σ c).subV V θ = θ c
theorem resp_sub {V : UInt8 → Bool} {σ θ : UInt8 → Ty} (h : Resp V σ θ) (t : Ty) : (t.subV V σ).subV V θ = t.subV V θ := by
  rw [subV_comp]
  exact subV_congr t fun c hc _ => h c hc

theorem Inv.start (V : UInt8 → Bool) : Inv V (fun _ => none) (fun c => .lf c) (fun _ => 0) 1 :=
  ⟨fun _ _ _ => rfl, (fun c t h => by cases h), (fun c t d h => by cases h), fun _ => Nat.one_pos⟩
theorem Inv.last {V : UInt8 → Bool} {f : UInt8 → Option Ty} {σ : UInt8 → Ty} {ρ : UInt8 → Nat} {M : Nat} (h : Inv V f σ ρ M) {d : UInt8} (hd : V d = true) : ∀ (n : Nat) (c : UInt8), ρ c < n → V c = true → (σ c).hasL d = true → f d = none := by
  intro n
  induction n with
  | zero => intro c hc; omega
  | succ n ih =>
    intro c hc hv hl
    cases hf : f c with
    | none =>
      rw [h.free c hv hf] at hl
      have : c = d := by simpa [Ty.hasL] using hl
      rw [← this]
      exact hf
    | some t =>
      rw [(h.bound c t hf).2.2, has_sub hd] at hl
      obtain ⟨e, h1, h2, h3⟩ := hl
      exact ih e (by have := h.rank c t e hf h1 h2; omega) h1 h3
theorem Inv.last' {V : UInt8 → Bool} {f : UInt8 → Option Ty} {σ : UInt8 → Ty} {ρ : UInt8 → Nat} {M : Nat} (h : Inv V f σ ρ M) {d : UInt8} (hd : V d = true) (t : Ty) (hl : (t.subV V σ).hasL d = true) : f d = none := by
  rw [has_sub hd] at hl
  obtain ⟨e, h1, _, h3⟩ := hl
  exact h.last hd _ e (h.lim e) h1 h3
theorem Inv.self {V : UInt8 → Bool} {f : UInt8 → Option Ty} {σ : UInt8 → Ty} {ρ : UInt8 → Nat} {M : Nat} (h : Inv V f σ ρ M) : Resp V σ σ :=
  fun c hc => subV_id _ fun d hd hl => h.free d hd (h.last hd _ c (h.lim c) hc hl)

theorem thr_total {V : UInt8 → Bool} {f : UInt8 → Option Ty} {σ : UInt8 → Ty} {ρ : UInt8 → Nat} {M : Nat} (h : Inv V f σ ρ M) (a : Ty) (ha : a.shp) : ∃ b, Thr V f a b ∧ b.shp ∧ b.subV V σ = a.subV V σ ∧ (∀ c, b = .lf c → V c = true → f c = none) := by
  have key : ∀ (n : Nat) (c : UInt8), ρ c < n → (Ty.lf c).shp → ∃ b, Thr V f (.lf c) b ∧ b.shp ∧ b.subV V σ = (Ty.lf c).subV V σ ∧ (∀ c, b = .lf c → V c = true → f c = none) := by
    intro n
    induction n with
    | zero => intro c hc; omega
    | succ n ih =>
      intro c hc hs
      by_cases hv : V c = true
      · cases hf : f c with
        | none =>
          refine ⟨_, .stay ?_, hs, rfl, ?_⟩ <;> (intro d hd _; injection hd with hd; rw [← hd]; exact hf)
        | some t =>
          obtain ⟨_, hts, hte⟩ := h.bound c t hf
          have e : (Ty.lf c).subV V σ = t.subV V σ := by simp [Ty.subV, hv, hte]
          cases t with
          | lf d =>
            by_cases hvd : V d = true
            · obtain ⟨b, h1, h2, h3, h4⟩ := ih d (by have := h.rank c _ d hf hvd (by simp [Ty.hasL]); omega) hts
              exact ⟨b, .step hv hf h1, h2, h3.trans e.symm, h4⟩
            · refine ⟨.lf d, .step hv hf (.stay ?_), hts, e.symm, ?_⟩ <;> (intro d' hd' hv'; injection hd' with hd'; rw [← hd'] at hv'; exact absurd hv' hvd)
          | un d x => exact ⟨_, .step hv hf (.stay (fun _ h => by cases h)), hts, e.symm, fun _ h => by cases h⟩
          | bi d x y => exact ⟨_, .step hv hf (.stay (fun _ h => by cases h)), hts, e.symm, fun _ h => by cases h⟩
      · refine ⟨_, .stay ?_, hs, rfl, ?_⟩ <;> (intro d hd hv'; injection hd with hd; rw [← hd] at hv'; exact absurd hv' hv)
  cases a with
  | lf c => exact key _ c (h.lim c) ha
  | un c x => exact ⟨_, .stay (fun _ h => by cases h), ha, rfl, fun _ h => by cases h⟩
  | bi c x y => exact ⟨_, .stay (fun _ h => by cases h), ha, rfl, fun _ h => by cases h⟩

theorem occ_total {V : UInt8 → Bool} {f : UInt8 → Option Ty} {σ : UInt8 → Ty} {ρ : UInt8 → Nat} {M : Nat} (h : Inv V f σ ρ M) {v : UInt8} (hv : V v = true) : ∀ (k : Nat) (n : Ty), (n.subV V σ).wt < k → n.shp → ∃ r, Occ V f v n r ∧ (r = true ↔ (n.subV V σ).hasL v = true) := by
  intro k
  induction k with
  | zero => intro n hn; omega
  | succ k ih =>
    intro n hn hs
    obtain ⟨b, h1, h2, h3, h4⟩ := thr_total h n hs
    rw [← h3] at hn ⊢
    cases b with
    | lf w =>
      by_cases hw : V w = true
      · refine ⟨_, .var h1 hw, ?_⟩
        rw [Ty.subV, if_pos hw, h.free w hw (h4 w rfl hw)]
        rfl
      · have hw' : V w = false := by simpa using hw
        refine ⟨_, .con h1 hw', ?_⟩
        rw [Ty.subV, if_neg hw]
        constructor
        · intro h; cases h
        · intro h
          have : w = v := by simpa [Ty.hasL] using h
          subst this
          exact absurd hv hw
    | un c a =>
      obtain ⟨r, i1, i2⟩ := ih a (by simp only [Ty.subV, Ty.wt] at hn; omega) h2.2
      exact ⟨r, .un h1 i1, i2⟩
    | bi c a b =>
      simp only [Ty.subV, Ty.wt] at hn
      obtain ⟨r, i1, i2⟩ := ih a (by omega) h2.2.1
      cases r with
      | true => exact ⟨true, .bi1 h1 i1, by simp [Ty.subV, Ty.hasL, i2.1 rfl]⟩
      | false =>
        obtain ⟨r, j1, j2⟩ := ih b (by omega) h2.2.2
        refine ⟨r, .bi2 h1 i1 j1, ?_⟩
        have : (a.subV V σ).hasL v = false := by
          cases hh : (a.subV V σ).hasL v with
          | false => rfl
          | true => exact absurd (i2.2 hh) (by simp)
        simp [Ty.subV, Ty.hasL, this, j2]

/-- How many variables stand for nothing. -/
def nfree (V : UInt8 → Bool) (f : UInt8 → Option Ty) : Nat := ((List.range 256).filter fun i => V (UInt8.ofNat i) && (f (UInt8.ofNat i)).isNone).length
theorem nfree_bind {V : UInt8 → Bool} {f : UInt8 → Option Ty} {v : UInt8} {n : Ty} (hv : V v = true) (hf : f v = none) : nfree V (bindU f v n) < nfree V f := by
  have key : ∀ (l : List Nat), (l.filter fun i => V (UInt8.ofNat i) && (bindU f v n (UInt8.ofNat i)).isNone).length ≤ (l.filter fun i => V (UInt8.ofNat i) && (f (UInt8.ofNat i)).isNone).length ∧
      ((∃ i ∈ l, UInt8.ofNat i = v) → (l.filter fun i => V (UInt8.ofNat i) && (bindU f v n (UInt8.ofNat i)).isNone).length < (l.filter fun i => V (UInt8.ofNat i) && (f (UInt8.ofNat i)).isNone).length) := by
    intro l
    induction l with
    | nil => exact ⟨Nat.le_refl _, by rintro ⟨i, hi, _⟩; cases hi⟩
    | cons x l ih =>
      simp only [List.filter_cons]
      by_cases hx : UInt8.ofNat x = v
      · have e1 : (V (UInt8.ofNat x) && (bindU f v n (UInt8.ofNat x)).isNone) = false := by rw [hx]; simp [bindU]
        have e2 : (V (UInt8.ofNat x) && (f (UInt8.ofNat x)).isNone) = true := by rw [hx]; simp [hv, hf]
        rw [e1, e2]
        simp only [if_true, List.length_cons, Bool.false_eq_true, if_false]
        exact ⟨by omega, fun _ => by omega⟩
      · have e1 : bindU f v n (UInt8.ofNat x) = f (UInt8.ofNat x) := by simp [bindU, hx]
        rw [e1]
        split
        · simp only [List.length_cons]
          refine ⟨by omega, ?_⟩
          rintro ⟨i, hi, he⟩
          rcases List.mem_cons.1 hi with rfl | hi
          · exact absurd he hx
          · have := ih.2 ⟨i, hi, he⟩; omega
        · refine ⟨ih.1, ?_⟩
          rintro ⟨i, hi, he⟩
          rcases List.mem_cons.1 hi with rfl | hi
          · exact absurd he hx
          · exact ih.2 ⟨i, hi, he⟩
  exact (key _).2 ⟨v.toNat, List.mem_range.2 (by have := v.toNat_lt; simpa using this), by simp⟩

/-- What a unification comes to. -/
def Res (V : UInt8 → Bool) (f : UInt8 → Option Ty) (σ : UInt8 → Ty) (a b : Ty) : Option (UInt8 → Option Ty) → Prop
  | some g => ∃ σ' ρ' M', Inv V g σ' ρ' M' ∧ (nfree V g < nfree V f ∨ (g = f ∧ σ' = σ)) ∧ a.subV V σ' = b.subV V σ' ∧ (∀ θ, Resp V σ θ → a.subV V θ = b.subV V θ → Resp V σ' θ) ∧ (∀ θ, Resp V σ' θ → Resp V σ θ)
  | none => ∀ θ, Resp V σ θ → a.subV V θ ≠ b.subV V θ

theorem inv_bind {V : UInt8 → Bool} {f : UInt8 → Option Ty} {σ : UInt8 → Ty} {ρ : UInt8 → Nat} {M : Nat} (h : Inv V f σ ρ M) {v : UInt8} (hv : V v = true) (hf : f v = none) {n : Ty} (hn : n.shp) (ho : (n.subV V σ).hasL v = false) {a b : Ty} (ha : a.subV V σ = .lf v) (hb : b.subV V σ = n.subV V σ) : Res V f σ a b (some (bindU f v n)) := by
  have hσv := h.free v hv hf
  obtain ⟨s, hs⟩ : ∃ s, n.subV V σ = s := ⟨_, rfl⟩
  rw [hs] at ho hb
  let β : UInt8 → Ty := fun d => if d = v then s else .lf d
  have hβ : s.subV V β = s := subV_id _ fun c _ hl => by
    have : c ≠ v := by rintro rfl; rw [ho] at hl; cases hl
    simp [β, this]
  have hβv : (Ty.lf v).subV V β = s := by simp [Ty.subV, hv, β]
  have e1 : ∀ t : Ty, t.subV V (fun c => (σ c).subV V β) = (t.subV V σ).subV V β := fun t => (subV_comp σ β t).symm
  have hθ : ∀ θ : UInt8 → Ty, θ v = s.subV V θ → ∀ t : Ty, (t.subV V β).subV V θ = t.subV V θ := by
    intro θ hθ t
    rw [subV_comp]
    refine subV_congr t fun c hc _ => ?_
    by_cases e : c = v
    · subst e
      simp [β, hθ]
    · simp [β, e, Ty.subV, hc]
  refine ⟨fun c => (σ c).subV V β, fun c => if (σ c).hasL v = true then ρ c + M else ρ c, M + M, ⟨?_, ?_, ?_, ?_⟩, .inl (nfree_bind hv hf), ?_, ?_, ?_⟩
  · intro c hc hfc
    have hcv : c ≠ v := by rintro rfl; simp [bindU] at hfc
    have hfc' : f c = none := by simpa [bindU, hcv] using hfc
    rw [h.free c hc hfc']
    simp [Ty.subV, hc, β, hcv]
  · intro c t hc
    by_cases e : c = v
    · subst e
      have : n = t := by simpa [bindU] using hc
      subst this
      exact ⟨hv, hn, by rw [e1, hs, hσv, hβv, hβ]⟩
    · have hc' : f c = some t := by simpa [bindU, e] using hc
      obtain ⟨b1, b2, b3⟩ := h.bound c t hc'
      exact ⟨b1, b2, by rw [e1, b3]⟩
  · intro c t d hc hd hl
    by_cases e : c = v
    · subst e
      have : n = t := by simpa [bindU] using hc
      subst this
      have h1 : (σ d).hasL c = false := by
        cases hh : (σ d).hasL c with
        | false => rfl
        | true =>
          have := (has_sub hv n (σ := σ)).2 ⟨d, hd, hl, hh⟩
          rw [hs, ho] at this
          cases this
      rw [h1, hσv]
      have := h.lim d
      simp [Ty.hasL]
      omega
    · have hc' : f c = some t := by simpa [bindU, e] using hc
      have hr := h.rank c t d hc' hd hl
      cases hh : (σ d).hasL v with
      | true =>
        have : (σ c).hasL v = true := by
          rw [(h.bound c t hc').2.2]
          exact (has_sub hv t).2 ⟨d, hd, hl, hh⟩
        rw [this]
        simp
        omega
      | false =>
        split <;> split <;> first | omega | (rename_i h1 _; cases h1)
  · intro c
    have := h.lim c
    split <;> omega
  · rw [e1, e1, ha, hb, hβv, hβ]
  · intro θ hr hab c hc
    have h1 : θ v = s.subV V θ := by
      have q1 := resp_sub hr a
      have q2 := resp_sub hr b
      rw [ha] at q1
      rw [hb] at q2
      rw [q2, ← hab, ← q1]
      simp [Ty.subV, hv]
    simp only
    rw [hθ θ h1]
    exact hr c hc
  · intro θ hr c hc
    have h1 : θ v = s.subV V θ := by
      have := hr v hv
      simp only at this
      rw [hσv, hβv] at this
      exact this.symm
    have := hr c hc
    simp only at this
    rw [hθ θ h1] at this
    exact this

theorem Res.swap {V : UInt8 → Bool} {f : UInt8 → Option Ty} {σ : UInt8 → Ty} {a b : Ty} {o : Option (UInt8 → Option Ty)} (h : Res V f σ a b o) : Res V f σ b a o := by
  cases o with
  | none => exact fun θ h1 h2 => h θ h1 h2.symm
  | some g =>
    obtain ⟨σ', ρ', M', h1, h2, h3, h4, h5⟩ := h
    exact ⟨σ', ρ', M', h1, h2, h3.symm, fun θ h6 h7 => h4 θ h6 h7.symm, h5⟩
theorem Res.to {V : UInt8 → Bool} {f : UInt8 → Option Ty} {σ : UInt8 → Ty} {a b a' b' : Ty} {o : Option (UInt8 → Option Ty)} (h : Res V f σ a' b' o) (ha : a'.subV V σ = a.subV V σ) (hb : b'.subV V σ = b.subV V σ) : Res V f σ a b o := by
  have ea : ∀ θ, Resp V σ θ → a.subV V θ = a'.subV V θ := fun θ hr => by rw [← resp_sub hr a, ← resp_sub hr a', ha]
  have eb : ∀ θ, Resp V σ θ → b.subV V θ = b'.subV V θ := fun θ hr => by rw [← resp_sub hr b, ← resp_sub hr b', hb]
  cases o with
  | none => exact fun θ h1 h2 => h θ h1 (by rw [← ea θ h1, ← eb θ h1]; exact h2)
  | some g =>
    obtain ⟨σ', ρ', M', h1, h2, h3, h4, h5⟩ := h
    have hr := h5 σ' h1.self
    exact ⟨σ', ρ', M', h1, h2, by rw [ea σ' hr, eb σ' hr]; exact h3, fun θ h6 h7 => h4 θ h6 (by rw [← ea θ h6, ← eb θ h6]; exact h7), h5⟩
theorem occ_no {V : UInt8 → Bool} {f : UInt8 → Option Ty} {σ : UInt8 → Ty} {v : UInt8} (hv : V v = true) {n : Ty} (hn : NoVar V n) (ho : (n.subV V σ).hasL v = true) : Res V f σ (.lf v) n none := by
  intro θ hr he
  have h1 : (Ty.lf v).subV V θ = θ v := by simp [Ty.subV, hv]
  rw [h1, ← resp_sub hr n] at he
  cases n with
  | lf c =>
    have hc := hn c rfl
    simp [Ty.subV, hc, Ty.hasL] at ho
    subst ho
    rw [hv] at hc
    cases hc
  | un c a =>
    have := wt_has (θ := θ) hv (a.subV V σ) ho
    rw [he] at this
    simp only [Ty.subV, Ty.wt] at this
    omega
  | bi c a b =>
    simp only [Ty.subV, Ty.hasL, Bool.or_eq_true] at ho
    rcases ho with ho | ho
    · have := wt_has (θ := θ) hv (a.subV V σ) ho
      rw [he] at this
      simp only [Ty.subV, Ty.wt] at this
      omega
    · have := wt_has (θ := θ) hv (b.subV V σ) ho
      rw [he] at this
      simp only [Ty.subV, Ty.wt] at this
      omega
theorem top_sub {V : UInt8 → Bool} {n : Ty} (h : NoVar V n) (θ : UInt8 → Ty) : (n.subV V θ).top = n.top := by
  cases n with
  | lf c => simp [Ty.subV, h c rfl]
  | un c a => rfl
  | bi c a b => rfl
theorem top_shape {m n : Ty} (h : m.top = n.top) (hm : m.shp) (hn : n.shp) : (∃ c, m = .lf c ∧ n = .lf c) ∨ (∃ c x y, m = .un c x ∧ n = .un c y) ∨ (∃ c x x' y y', m = .bi c x x' ∧ n = .bi c y y') := by
  cases m <;> cases n <;> simp only [Ty.top] at h <;> subst h <;> simp only [Ty.shp] at hm hn <;> first | (exact .inl ⟨_, rfl, rfl⟩) | (exact .inr (.inl ⟨_, _, _, rfl, rfl⟩)) | (exact .inr (.inr ⟨_, _, _, _, _, rfl, rfl⟩)) | (exfalso; omega)

theorem uni_total (V : UInt8 → Bool) (lt : UInt8 → UInt8 → Bool) : ∀ (u k : Nat) (f : UInt8 → Option Ty) (σ : UInt8 → Ty) (ρ : UInt8 → Nat) (M : Nat) (a b : Ty), Inv V f σ ρ M → a.shp → b.shp → nfree V f < u → (a.subV V σ).wt < k →
    ∃ o, Uni V lt f a b o ∧ Res V f σ a b o := by
  intro u
  induction u with
  | zero => intro k f σ ρ M a b _ _ _ h; omega
  | succ u ihu =>
    intro k
    induction k with
    | zero => intro f σ ρ M a b _ _ _ _ h; omega
    | succ k ihk =>
      intro f σ ρ M a b hI ha hb hu hk
      obtain ⟨m, t1, s1, e1, v1⟩ := thr_total hI a ha
      obtain ⟨n, t2, s2, e2, v2⟩ := thr_total hI b hb
      have hsame : a.subV V σ = b.subV V σ → Res V f σ a b (some f) := fun e => ⟨σ, ρ, M, hI, .inr ⟨rfl, rfl⟩, e, fun θ h _ => h, fun θ h => h⟩
      by_cases hm : ∃ v, m = .lf v ∧ V v = true
      · obtain ⟨v, rfl, hv⟩ := hm
        have hfv := v1 v rfl hv
        have eav : a.subV V σ = .lf v := by rw [← e1, Ty.subV, if_pos hv, hI.free v hv hfv]
        by_cases hn : ∃ w, n = .lf w ∧ V w = true
        · obtain ⟨w, rfl, hw⟩ := hn
          have hfw := v2 w rfl hw
          have ebw : b.subV V σ = .lf w := by rw [← e2, Ty.subV, if_pos hw, hI.free w hw hfw]
          by_cases hvw : v = w
          · subst hvw
            exact ⟨_, .same t1 t2 hv, hsame (eav.trans ebw.symm)⟩
          · have hne : (w == v) = false := by simpa using fun h => hvw h.symm
            have hne' : (v == w) = false := by simpa using hvw
            cases hl : lt v w with
            | true => exact ⟨_, .less t1 t2 hv hw hvw hl, inv_bind hI hv hfv s2 (by rw [e2, ebw]; exact hne) eav e2.symm⟩
            | false => exact ⟨_, .more t1 t2 hv hw hvw hl, (inv_bind hI hw hfw s1 (by rw [e1, eav]; exact hne') ebw e1.symm).swap⟩
        · have hn' : NoVar V n := fun c hc => by
            cases h : V c with
            | false => rfl
            | true => exact absurd ⟨c, hc, h⟩ hn
          obtain ⟨r, o1, o2⟩ := occ_total hI hv _ n (Nat.lt_succ_self _) s2
          refine ⟨_, .left t1 t2 hv hn' o1, ?_⟩
          cases r with
          | true => exact (occ_no hv hn' (o2.1 rfl)).to e1 e2
          | false => exact inv_bind hI hv hfv s2 (by
              cases h : (n.subV V σ).hasL v with
              | false => rfl
              | true => exact absurd (o2.2 h) (by simp)) eav e2.symm
      · have hm' : NoVar V m := fun c hc => by
          cases h : V c with
          | false => rfl
          | true => exact absurd ⟨c, hc, h⟩ hm
        by_cases hn : ∃ w, n = .lf w ∧ V w = true
        · obtain ⟨w, rfl, hw⟩ := hn
          have hfw := v2 w rfl hw
          have ebw : b.subV V σ = .lf w := by rw [← e2, Ty.subV, if_pos hw, hI.free w hw hfw]
          obtain ⟨r, o1, o2⟩ := occ_total hI hw _ m (Nat.lt_succ_self _) s1
          refine ⟨_, .right t1 t2 hw hm' o1, ?_⟩
          cases r with
          | true => exact ((occ_no hw hm' (o2.1 rfl)).to e2 e1).swap
          | false => exact (inv_bind hI hw hfw s1 (by
              cases h : (m.subV V σ).hasL w with
              | false => rfl
              | true => exact absurd (o2.2 h) (by simp)) ebw e1.symm).swap
        · have hn' : NoVar V n := fun c hc => by
            cases h : V c with
            | false => rfl
            | true => exact absurd ⟨c, hc, h⟩ hn
          by_cases htop : m.top = n.top
          · rcases top_shape htop s1 s2 with ⟨c, rfl, rfl⟩ | ⟨c, x, y, rfl, rfl⟩ | ⟨c, x, x', y, y', rfl, rfl⟩
            · exact ⟨_, .con t1 t2 (hm' c rfl), hsame (e1.symm.trans e2)⟩
            · rw [← e1] at hk
              simp only [Ty.subV, Ty.wt] at hk
              obtain ⟨o, u1, r1⟩ := ihk f σ ρ M x y hI s1.2 s2.2 hu (by omega)
              refine ⟨o, .un t1 t2 u1, Res.to (a' := .un c x) (b' := .un c y) ?_ e1 e2⟩
              cases o with
              | none =>
                intro θ h1 h2
                simp only [Ty.subV] at h2
                injection h2 with _ h2
                exact r1 θ h1 h2
              | some g =>
                obtain ⟨σ', ρ', M', q1, q2, q3, q4, q5⟩ := r1
                refine ⟨σ', ρ', M', q1, q2, by simp only [Ty.subV]; rw [q3], fun θ h1 h2 => q4 θ h1 ?_, q5⟩
                simp only [Ty.subV] at h2
                injection h2 with _ h2
            · rw [← e1] at hk
              simp only [Ty.subV, Ty.wt] at hk
              obtain ⟨o, u1, r1⟩ := ihk f σ ρ M x y hI s1.2.1 s2.2.1 hu (by omega)
              cases o with
              | none =>
                refine ⟨none, .no t1 t2 u1, Res.to (a' := .bi c x x') (b' := .bi c y y') ?_ e1 e2⟩
                intro θ h1 h2
                simp only [Ty.subV] at h2
                injection h2 with _ h2 _
                exact r1 θ h1 h2
              | some g =>
                obtain ⟨σ1, ρ1, M1, q1, q2, q3, q4, q5⟩ := r1
                obtain ⟨o, u2, r2⟩ : ∃ o, Uni V lt g x' y' o ∧ Res V g σ1 x' y' o := by
                  rcases q2 with q2 | ⟨rfl, rfl⟩
                  · exact ihu _ g σ1 ρ1 M1 x' y' q1 s1.2.2 s2.2.2 (by omega) (Nat.lt_succ_self _)
                  · exact ihk g σ1 ρ1 M1 x' y' q1 s1.2.2 s2.2.2 hu (by omega)
                refine ⟨o, .bi t1 t2 u1 u2, Res.to (a' := .bi c x x') (b' := .bi c y y') ?_ e1 e2⟩
                cases o with
                | none =>
                  intro θ h1 h2
                  simp only [Ty.subV] at h2
                  injection h2 with _ h2 h3
                  exact r2 θ (q4 θ h1 h2) h3
                | some g' =>
                  obtain ⟨σ2, ρ2, M2, p1, p2, p3, p4, p5⟩ := r2
                  refine ⟨σ2, ρ2, M2, p1, ?_, ?_, ?_, fun θ h => q5 θ (p5 θ h)⟩
                  · rcases p2 with p2 | ⟨rfl, rfl⟩
                    · rcases q2 with q2 | ⟨rfl, rfl⟩
                      · exact .inl (by omega)
                      · exact .inl p2
                    · exact q2
                  · have hr := p5 σ2 p1.self
                    have : x.subV V σ2 = y.subV V σ2 := by rw [← resp_sub hr x, ← resp_sub hr y, q3]
                    simp only [Ty.subV]
                    rw [this, p3]
                  · intro θ h1 h2
                    simp only [Ty.subV] at h2
                    injection h2 with _ h2 h3
                    exact p4 θ (q4 θ h1 h2) h3
          · refine ⟨_, .clash t1 t2 hm' hn' htop, Res.to (a' := m) (b' := n) ?_ e1 e2⟩
            intro θ _ h2
            exact htop (by rw [← top_sub hm' θ, ← top_sub hn' θ, h2])

theorem ok_shp {t : Ty} (h : t.ok) : t.shp := by
  induction t with
  | lf c =>
    have : ar c = 0 := h
    unfold Ty.shp
    omega
  | un c a ih => exact ⟨h.1, ih h.2⟩
  | bi c a b iha ihb => exact ⟨h.1, iha h.2.1, ihb h.2.2⟩
/-- What is bound is made of types. -/
def OkF (f : UInt8 → Option Ty) : Prop := ∀ c t, f c = some t → t.ok
theorem okF_bind {f : UInt8 → Option Ty} (h : OkF f) {c : UInt8} {t : Ty} (ht : t.ok) : OkF (bindU f c t) := by
  intro d u hd
  unfold bindU at hd
  split at hd
  · injection hd with hd
    rw [← hd]
    exact ht
  · exact h d u hd
theorem thr_ok {V : UInt8 → Bool} {f : UInt8 → Option Ty} (hf : OkF f) {a b : Ty} (h : Thr V f a b) : a.ok → b.ok := by
  induction h with
  | stay _ => exact fun h => h
  | step _ h2 _ ih => exact fun _ => ih (hf _ _ h2)
theorem thr_move {V W : UInt8 → Bool} (hVW : ∀ c, ar c = 0 → V c = W c) {f : UInt8 → Option Ty} (hf : OkF f) {a b : Ty} (h : Thr V f a b) : a.ok → Thr W f a b := by
  induction h with
  | stay h1 => exact fun ho => .stay fun c hc hw => h1 c hc (by subst hc; rw [hVW c ho]; exact hw)
  | @step c t b h1 h2 _ ih => exact fun ho => .step (by rw [← hVW c ho]; exact h1) h2 (ih (hf _ _ h2))
theorem occ_move {V W : UInt8 → Bool} (hVW : ∀ c, ar c = 0 → V c = W c) {f : UInt8 → Option Ty} (hf : OkF f) {v : UInt8} {n : Ty} {r : Bool} (h : Occ V f v n r) : n.ok → Occ W f v n r := by
  induction h with
  | @var n w h1 h2 =>
    intro ho
    have : (Ty.lf w).ok := thr_ok hf h1 ho
    exact .var (thr_move hVW hf h1 ho) (by rw [← hVW w this]; exact h2)
  | @con n c h1 h2 =>
    intro ho
    have : (Ty.lf c).ok := thr_ok hf h1 ho
    exact .con (thr_move hVW hf h1 ho) (by rw [← hVW c this]; exact h2)
  | un h1 _ ih => exact fun ho => .un (thr_move hVW hf h1 ho) (ih (thr_ok hf h1 ho).2)
  | bi1 h1 _ ih => exact fun ho => .bi1 (thr_move hVW hf h1 ho) (ih (thr_ok hf h1 ho).2.1)
  | bi2 h1 _ _ iha ihb => exact fun ho => .bi2 (thr_move hVW hf h1 ho) (iha (thr_ok hf h1 ho).2.1) (ihb (thr_ok hf h1 ho).2.2)
theorem noVar_move {V W : UInt8 → Bool} (hVW : ∀ c, ar c = 0 → V c = W c) {n : Ty} (h : NoVar V n) (ho : n.ok) : NoVar W n := fun c hc => by
  subst hc
  rw [← hVW c ho]
  exact h c rfl
theorem uni_move {V W : UInt8 → Bool} {lt lt' : UInt8 → UInt8 → Bool} (hVW : ∀ c, ar c = 0 → V c = W c) (hlt : ∀ v w, ar v = 0 → ar w = 0 → V v = true → V w = true → lt v w = lt' v w) {f : UInt8 → Option Ty} {a b : Ty} {o : Option (UInt8 → Option Ty)} (h : Uni V lt f a b o) :
    OkF f → a.ok → b.ok → Uni W lt' f a b o ∧ ∀ g, o = some g → OkF g := by
  induction h with
  | @same f a b v h1 h2 h3 =>
    intro hf ha hb
    have hv : (Ty.lf v).ok := thr_ok hf h1 ha
    refine ⟨.same (thr_move hVW hf h1 ha) (thr_move hVW hf h2 hb) (by rw [← hVW v hv]; exact h3), ?_⟩
    intro g hg
    injection hg with hg
    rw [← hg]
    exact hf
  | @less f a b v w h1 h2 h3 h4 h5 h6 =>
    intro hf ha hb
    have hv : (Ty.lf v).ok := thr_ok hf h1 ha
    have hw : (Ty.lf w).ok := thr_ok hf h2 hb
    refine ⟨.less (thr_move hVW hf h1 ha) (thr_move hVW hf h2 hb) (by rw [← hVW v hv]; exact h3) (by rw [← hVW w hw]; exact h4) h5 (by rw [← hlt v w hv hw h3 h4]; exact h6), ?_⟩
    intro g hg
    injection hg with hg
    rw [← hg]
    exact okF_bind hf hw
  | @more f a b v w h1 h2 h3 h4 h5 h6 =>
    intro hf ha hb
    have hv : (Ty.lf v).ok := thr_ok hf h1 ha
    have hw : (Ty.lf w).ok := thr_ok hf h2 hb
    refine ⟨.more (thr_move hVW hf h1 ha) (thr_move hVW hf h2 hb) (by rw [← hVW v hv]; exact h3) (by rw [← hVW w hw]; exact h4) h5 (by rw [← hlt v w hv hw h3 h4]; exact h6), ?_⟩
    intro g hg
    injection hg with hg
    rw [← hg]
    exact okF_bind hf hv
  | @left f a b n v r h1 h2 h3 h4 h5 =>
    intro hf ha hb
    have hv : (Ty.lf v).ok := thr_ok hf h1 ha
    have hn := thr_ok hf h2 hb
    refine ⟨.left (thr_move hVW hf h1 ha) (thr_move hVW hf h2 hb) (by rw [← hVW v hv]; exact h3) (noVar_move hVW h4 hn) (occ_move hVW hf h5 hn), ?_⟩
    intro g hg
    cases r with
    | true => cases hg
    | false =>
      injection hg with hg
      rw [← hg]
      exact okF_bind hf hn
  | @right f a b n w r h1 h2 h3 h4 h5 =>
    intro hf ha hb
    have hw : (Ty.lf w).ok := thr_ok hf h2 hb
    have hn := thr_ok hf h1 ha
    refine ⟨.right (thr_move hVW hf h1 ha) (thr_move hVW hf h2 hb) (by rw [← hVW w hw]; exact h3) (noVar_move hVW h4 hn) (occ_move hVW hf h5 hn), ?_⟩
    intro g hg
    cases r with
    | true => cases hg
    | false =>
      injection hg with hg
      rw [← hg]
      exact okF_bind hf hn
  | @con f a b c h1 h2 h3 =>
    intro hf ha hb
    have hc : (Ty.lf c).ok := thr_ok hf h1 ha
    refine ⟨.con (thr_move hVW hf h1 ha) (thr_move hVW hf h2 hb) (by rw [← hVW c hc]; exact h3), ?_⟩
    intro g hg
    injection hg with hg
    rw [← hg]
    exact hf
  | clash h1 h2 h3 h4 h5 =>
    intro hf ha hb
    exact ⟨.clash (thr_move hVW hf h1 ha) (thr_move hVW hf h2 hb) (noVar_move hVW h3 (thr_ok hf h1 ha)) (noVar_move hVW h4 (thr_ok hf h2 hb)) h5, fun g hg => by cases hg⟩
  | un h1 h2 _ ih =>
    intro hf ha hb
    obtain ⟨i1, i2⟩ := ih hf (thr_ok hf h1 ha).2 (thr_ok hf h2 hb).2
    exact ⟨.un (thr_move hVW hf h1 ha) (thr_move hVW hf h2 hb) i1, i2⟩
  | no h1 h2 _ ih =>
    intro hf ha hb
    obtain ⟨i1, _⟩ := ih hf (thr_ok hf h1 ha).2.1 (thr_ok hf h2 hb).2.1
    exact ⟨.no (thr_move hVW hf h1 ha) (thr_move hVW hf h2 hb) i1, fun g hg => by cases hg⟩
  | bi h1 h2 _ _ iha ihb =>
    intro hf ha hb
    obtain ⟨i1, i2⟩ := iha hf (thr_ok hf h1 ha).2.1 (thr_ok hf h2 hb).2.1
    obtain ⟨j1, j2⟩ := ihb (i2 _ rfl) (thr_ok hf h1 ha).2.2 (thr_ok hf h2 hb).2.2
    exact ⟨.bi (thr_move hVW hf h1 ha) (thr_move hVW hf h2 hb) i1 j1, j2⟩

end Go.Proofs.YtjpdiahbnhemoaaGreat
