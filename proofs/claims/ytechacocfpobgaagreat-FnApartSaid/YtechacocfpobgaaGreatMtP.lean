/- Plain facts on matching and unifying: what is told is valid and binds what it says; a match makes the pattern the type; two ways to unify are one. -/
import Derived.Test.YtechacocfpobgaaGreatMtW
import Derived.Test.YtechacocfpobgaaGreatLawA
import Derived.Test.YtechacocfpobgaaGreatUnF
namespace Go.Proofs.YtechacocfpobgaaGreat

/-- Bindings of the document: variables, types, none too long. -/
def Tidy (g : UInt8 → Option Ty) : Prop := ∀ c t, g c = some t → isVarB c = true ∧ t.ok ∧ t.text.length ≤ 60
theorem told_go {g : UInt8 → Option Ty} (hg : Tidy g) : ∀ (L : List UInt8) (last : UInt8), (∀ c ∈ L, last < c) → L.Pairwise (· < ·) → bvGo last (L.filterMap fun c => (g c).map fun t => (strOf [c], strOf t.text)) = true := by
  intro L
  induction L with
  | nil => intro last _ _; rfl
  | cons c L ih =>
    intro last h1 h2
    rw [List.pairwise_cons] at h2
    rcases hc : g c with _ | t
    · rw [List.filterMap_cons_none (by simp [hc])]
      exact ih last (fun d hd => h1 d (List.mem_cons_of_mem _ hd)) h2.2
    · rw [List.filterMap_cons_some (b := (strOf [c], strOf t.text)) (by simp [hc])]
      obtain ⟨v, o, l⟩ := hg c t hc
      rw [bvGo_good (c := c) (by rw [strOf_list]) v (by rw [strOf_list, tyOf_of o l]; rfl) (h1 c (List.mem_cons_self ..))]
      exact ih c h2.1 h2.2
theorem told_bv {g : UInt8 → Option Ty} (hg : Tidy g) : bvOf (told g) = true := told_go hg _ 0 (by decide) (by decide)
theorem told_mem {g : UInt8 → Option Ty} {z : ByteArray × ByteArray} (hz : z ∈ told g) : ∃ c t, c ∈ ([88, 89, 90, 120, 121, 122] : List UInt8) ∧ g c = some t ∧ z = (strOf [c], strOf t.text) := by
  unfold told at hz
  obtain ⟨c, hm, hc⟩ := List.mem_filterMap.1 hz
  rcases hg : g c with _ | t
  · rw [hg] at hc; cases hc
  · rw [hg] at hc
    have e : (strOf [c], strOf t.text) = z := by injection hc
    exact ⟨c, t, hm, hg, e.symm⟩
theorem mem_told {g : UInt8 → Option Ty} {c : UInt8} {t : Ty} (hv : isVarB c = true) (hc : g c = some t) : (strOf [c], strOf t.text) ∈ told g := by
  unfold told
  exact List.mem_filterMap.2 ⟨c, isVarB_mem c hv, by rw [hc]; rfl⟩
theorem told_map {g : UInt8 → Option Ty} (hg : Tidy g) : bmap (told g) = g := by
  funext c
  rcases hc : g c with _ | t
  · refine bv_not (told_bv hg) fun z hz he => ?_
    obtain ⟨d, t, _, hd, rfl⟩ := told_mem hz
    rw [strOf_list] at he
    injection he with he
    rw [he, hc] at hd
    cases hd
  · obtain ⟨v, o, l⟩ := hg c t hc
    obtain ⟨_, u, h1, h2⟩ := bv_has (told_bv hg) (mem_told v hc) (c := c) (by rw [strOf_list])
    rw [strOf_list, tyOf_of o l] at h1
    injection h1 with h1
    rw [h1]
    exact h2
theorem tidy_fine {g : UInt8 → Option Ty} (h : Tidy g) : Fine g := fun c t hc => (h c t hc).2
theorem mtOf_tidy {l l' : List UInt8} {g : UInt8 → Option Ty} (h : mtOf l l' = some g) : Tidy g := fun c t hc => by
  refine ⟨?_, (mtOf_fine h c t hc)⟩
  rcases hv : isVarB c with _ | _
  · rw [mtOf_dom h hv] at hc
    cases hc
  · rfl

theorem text_inj {t u : Ty} (ht : t.ok ∧ t.text.length ≤ 60) (hu : u.ok ∧ u.text.length ≤ 60) (h : t.text = u.text) : t = u := by
  have h1 := tyOf_of ht.1 ht.2
  rw [h, tyOf_of hu.1 hu.2] at h1
  injection h1 with h1
  exact h1.symm
/-- A match makes the pattern the type. -/
theorem mt_sub (P : Ty) : ∀ (t : Ty) (f g : UInt8 → Option Ty), Fine f → t.ok → t.text.length ≤ 60 → mt P t f = some g → (∀ c u, f c = some u → g c = some u) ∧ (∀ c u, g c = some u → f c = some u ∨ P.hasL c = true) ∧ ∀ g' : UInt8 → Option Ty, (∀ c u, g c = some u → g' c = some u) → P.sub (once g') = t ∧ ∀ c, isVarX c = true → P.hasL c = true → (g' c).isSome = true := by
  induction P with
  | lf c =>
    intro t f g hf ho hl h
    unfold mt at h
    split at h
    · rename_i hv
      split at h
      · rename_i hn
        injection h with h
        subst h
        refine ⟨fun d u hd => ?_, fun d u hd => ?_, fun g' hg => ?_⟩
        · have hne : d ≠ c := by rintro rfl; rw [hn] at hd; cases hd
          simpa [bindT, hne] using hd
        · by_cases e : d = c
          · exact .inr (by simp [Ty.hasL, e])
          · exact .inl (by simpa [bindT, e] using hd)
        · have := hg c t (by simp [bindT])
          refine ⟨by simp [Ty.sub, hv, once, this], fun d _ hd => ?_⟩
          have e : c = d := by simpa [Ty.hasL] using hd
          rw [← e, this]
          rfl
      · rename_i u hu
        split at h
        · rename_i ht
          injection h with h
          subst h
          have e := text_inj (hf c u hu) ⟨ho, hl⟩ ht
          refine ⟨fun d u hd => hd, fun d u hd => .inl hd, fun g' hg => ?_⟩
          have := hg c u hu
          refine ⟨by simp [Ty.sub, hv, once, this, e], fun d _ hd => ?_⟩
          have e : c = d := by simpa [Ty.hasL] using hd
          rw [← e, this]
          rfl
        · cases h
    · rename_i hv
      split at h
      · split at h
        · rename_i e
          injection h with h
          subst h
          refine ⟨fun d u hd => hd, fun d u hd => .inl hd, fun g' hg => ⟨by rw [Ty.sub, if_neg hv, e], fun d hd hd' => ?_⟩⟩
          have e' : c = d := by simpa [Ty.hasL] using hd'
          rw [e'] at hv
          exact absurd hd hv
        · cases h
      · cases h
  | un c a ih =>
    intro t f g hf ho hl h
    unfold mt at h
    split at h
    · split at h
      · rename_i e
        obtain ⟨h1, h2, h3⟩ := ih _ f g hf ho.2 (by simp [Ty.text] at hl; omega) h
        exact ⟨h1, h2, fun g' hg => ⟨by rw [Ty.sub, (h3 g' hg).1, e], (h3 g' hg).2⟩⟩
      · cases h
    · cases h
  | bi c a a' iha ihb =>
    intro t f g hf ho hl h
    unfold mt at h
    split at h
    · split at h
      · rename_i e
        split at h
        · rename_i k hk
          have hla := hl
          simp only [Ty.text, List.length_cons, List.length_append, List.length_nil] at hla
          obtain ⟨h1, h2, h3⟩ := iha _ f k hf ho.2.1 (by omega) hk
          obtain ⟨h4, h5, h6⟩ := ihb _ k g (mt_fine a _ f k hf ho.2.1 (by omega) hk) ho.2.2 (by omega) h
          refine ⟨fun d u hd => h4 d u (h1 d u hd), fun d u hd => ?_, fun g' hg => ?_⟩
          · rcases h5 d u hd with hd | hd
            · rcases h2 d u hd with hd | hd
              · exact .inl hd
              · exact .inr (by simp [Ty.hasL, hd])
            · exact .inr (by simp [Ty.hasL, hd])
          · obtain ⟨q1, q2⟩ := h3 g' fun d u hd => hg d u (h4 d u hd)
            obtain ⟨q3, q4⟩ := h6 g' hg
            refine ⟨by rw [Ty.sub, q1, q3, e], fun d hd hd' => ?_⟩
            simp only [Ty.hasL, Bool.or_eq_true] at hd'
            exact hd'.elim (q2 d hd) (q4 d hd)
        · cases h
      · cases h
    · cases h
/-- If some way makes the pattern the type, a match is found. -/
theorem mt_all (θ : UInt8 → Ty) (P : Ty) : ∀ (f : UInt8 → Option Ty), (∀ c u, f c = some u → θ c = u) → ∃ g, mt P (P.sub θ) f = some g ∧ ∀ c u, g c = some u → θ c = u := by
  induction P with
  | lf c =>
    intro f hf
    unfold mt
    by_cases hv : isVarX c = true
    · rw [if_pos hv]
      rcases hc : f c with _ | u
      · refine ⟨bindT f c _, rfl, fun d u hd => ?_⟩
        unfold bindT at hd
        split at hd
        · rename_i e
          injection hd with hd
          rw [← hd, e]
          simp [Ty.sub, hv]
        · exact hf d u hd
      · refine ⟨f, ?_, hf⟩
        have := hf c u hc
        simp [Ty.sub, hv, this]
    · rw [if_neg hv]
      exact ⟨f, by simp [Ty.sub, hv], hf⟩
  | un c a ih =>
    intro f hf
    obtain ⟨g, h1, h2⟩ := ih f hf
    refine ⟨g, ?_, h2⟩
    show mt (.un c a) (.un c (a.sub θ)) f = some g
    unfold mt
    show (if c = c then mt a (a.sub θ) f else none) = some g
    rw [if_pos rfl]
    exact h1
  | bi c a a' iha ihb =>
    intro f hf
    obtain ⟨g, h1, h2⟩ := iha f hf
    obtain ⟨k, h3, h4⟩ := ihb g h2
    refine ⟨k, ?_, h4⟩
    show mt (.bi c a a') (.bi c (a.sub θ) (a'.sub θ)) f = some k
    unfold mt
    show (if c = c then (match mt a (a.sub θ) f with | some g => mt a' (a'.sub θ) g | none => none) else none) = some k
    rw [if_pos rfl, h1]
    exact h3
theorem sub_B {P : Ty} (hP : P.ok) (θ : UInt8 → Ty) : P.sub θ = P.subV isVarB θ := by
  rw [sub_subV]
  exact subV_move (fun c hc => isVarX_ok hc) θ hP
theorem once_eq {g : UInt8 → Option Ty} {σ : UInt8 → Ty} (h : ∀ c, isVarB c = true → once g c = σ c) {P : Ty} (hP : P.ok) : P.sub (once g) = P.subV isVarB σ := by
  rw [sub_B hP]
  exact subV_congr P fun c hc _ => h c hc
/-- When there is a match. -/
theorem mtOf_iff {l l' : List UInt8} {P T : Ty} (h1 : tyOf l = some P) (h2 : tyOf l' = some T) : (mtOf l l').isSome = true ↔ ∃ θ, P.subV isVarB θ = T := by
  obtain ⟨e1, o1, z1⟩ := tyOf_text h1
  obtain ⟨e2, o2, z2⟩ := tyOf_text h2
  have hm : mtOf l l' = mt P T (fun _ => none) := by unfold mtOf; rw [h1, h2]
  rw [hm]
  constructor
  · intro h
    obtain ⟨g, hg⟩ := Option.isSome_iff_exists.1 h
    have := ((mt_sub P T _ g none_fine o2 (by rw [← e2]; exact z2) hg).2.2 g fun _ _ h => h).1
    exact ⟨once g, by rw [← sub_B o1]; exact this⟩
  · rintro ⟨θ, rfl⟩
    rw [← sub_B o1]
    obtain ⟨g, hg, _⟩ := mt_all θ P (fun _ => none) fun c u h => by cases h
    rw [hg]
    rfl

/-- The letter of a class of variables is the last one. -/
def Mono (f : UInt8 → Option Ty) : Prop := ∀ c e, f c = some (.lf e) → isVarB e = true → c < e
theorem mono_bind {f : UInt8 → Option Ty} (h : Mono f) {c : UInt8} {t : Ty} (ht : ∀ e, t = .lf e → isVarB e = true → c < e) : Mono (bindU f c t) := by
  intro d e hd he
  unfold bindU at hd
  split at hd
  · rename_i hdc
    injection hd with hd
    rw [hdc]
    exact ht e hd he
  · exact h d e hd he
theorem uni_mono {f : UInt8 → Option Ty} {a b : Ty} {o : Option (UInt8 → Option Ty)} (h : Uni isVarB ltV f a b o) : Mono f → ∀ g, o = some g → Mono g := by
  induction h with
  | same _ _ _ => intro hf g hg; injection hg with hg; rw [← hg]; exact hf
  | less h1 h2 _ _ _ hl =>
    intro hf g hg
    injection hg with hg
    rw [← hg]
    refine mono_bind hf fun e he _ => ?_
    injection he with he
    rw [← he]
    simpa [ltV] using hl
  | @more f a b v w h1 h2 _ _ hne hl =>
    intro hf g hg
    injection hg with hg
    rw [← hg]
    refine mono_bind hf fun e he _ => ?_
    injection he with he
    rw [← he]
    have h3 : ¬ v < w := by simpa [ltV] using hl
    rcases UInt8.lt_or_le v w with h | h
    · exact absurd h h3
    · exact UInt8.lt_of_le_of_ne h (fun e => hne e.symm)
  | left h1 h2 _ hn _ =>
    intro hf g hg
    split at hg
    · cases hg
    · injection hg with hg
      rw [← hg]
      exact mono_bind hf fun e he hv => by rw [hn e he] at hv; cases hv
  | right h1 h2 _ hn _ =>
    intro hf g hg
    split at hg
    · cases hg
    · injection hg with hg
      rw [← hg]
      exact mono_bind hf fun e he hv => by rw [hn e he] at hv; cases hv
  | con _ _ _ => intro hf g hg; injection hg with hg; rw [← hg]; exact hf
  | clash _ _ _ _ _ => intro _ g hg; cases hg
  | un h1 h2 _ ih => exact ih
  | no _ _ _ _ => intro _ g hg; cases hg
  | bi h1 h2 _ _ iha ihb => intro hf g hg; exact ihb (iha hf _ rfl) g hg
theorem mono_last {f : UInt8 → Option Ty} {σ : UInt8 → Ty} {ρ : UInt8 → Nat} {M : Nat} (h : Inv isVarB f σ ρ M) (hm : Mono f) {d : UInt8} (hd : isVarB d = true) : ∀ c, isVarB c = true → σ c = .lf d → c ≤ d := by
  have key : ∀ n c, ρ c < n → isVarB c = true → σ c = .lf d → c ≤ d := by
    intro n
    induction n with
    | zero => intro c hc; omega
    | succ n ih =>
      intro c hc hv he
      rcases hf : f c with _ | t
      · rw [h.free c hv hf] at he
        injection he with he
        rw [he]
        exact UInt8.le_refl _
      · rw [(h.bound c t hf).2.2] at he
        cases t with
        | lf e =>
          by_cases hve : isVarB e = true
          · have h1 := hm c e hf hve
            have h2 : σ e = .lf d := by simpa [Ty.subV, hve] using he
            have h3 := h.rank c _ e hf hve (by simp [Ty.hasL])
            exact UInt8.le_trans (UInt8.le_of_lt h1) (ih e (by omega) hve h2)
          · have h2 : e = d := by simpa [Ty.subV, hve] using he
            rw [h2] at hve
            exact absurd hd hve
        | un e a => simp [Ty.subV] at he
        | bi e a b => simp [Ty.subV] at he
  exact fun c => key M c (h.lim c)

/-- What a most general way is. -/
structure Mgu (P T : Ty) (g : UInt8 → Option Ty) (σ : UInt8 → Ty) : Prop where
  inv : ∃ ρ M, Inv isVarB g σ ρ M
  mono : Mono g
  same : P.subV isVarB σ = T.subV isVarB σ
  most : ∀ θ, P.subV isVarB θ = T.subV isVarB θ → Resp isVarB σ θ
theorem mgu_one {P T : Ty} {g g' : UInt8 → Option Ty} {σ σ' : UInt8 → Ty} (h : Mgu P T g σ) (h' : Mgu P T g' σ') : (∀ c, isVarB c = true → σ c = σ' c) ∧ ∀ c, isVarB c = true → g c = none → g' c = none := by
  obtain ⟨ρ, M, hI⟩ := h.inv
  obtain ⟨ρ', M', hI'⟩ := h'.inv
  have r1 := h.most σ' h'.same
  have r2 := h'.most σ h.same
  have key : ∀ c, isVarB c = true → σ c = σ' c := by
    intro c hc
    have h1 := r1 c hc
    rw [← h1]
    refine (subV_id _ fun d hd hl => ?_).symm
    have hfree := hI.last hd _ c (hI.lim c) hc hl
    have hσd := hI.free d hd hfree
    have h2 := r2 d hd
    rw [hσd] at h2
    rcases hs : σ' d with e | ⟨e, a⟩ | ⟨e, a, b⟩
    · rw [hs] at h2
      by_cases hve : isVarB e = true
      · have h3 : σ e = .lf d := by simpa [Ty.subV, hve] using h2
        have h4 := mono_last hI h.mono hd e hve h3
        have h5 := mono_last hI' h'.mono hve d hd hs
        rw [UInt8.le_antisymm h4 h5]
      · have h3 : e = d := by simpa [Ty.subV, hve] using h2
        rw [h3] at hve
        exact absurd hd hve
    · rw [hs] at h2
      simp [Ty.subV] at h2
    · rw [hs] at h2
      simp [Ty.subV] at h2
  refine ⟨key, fun c hc hn => ?_⟩
  refine hI'.last hc _ c (hI'.lim c) hc ?_
  rw [← key c hc, hI.free c hc hn]
  simp [Ty.hasL]
/-- What two types come to, with what a most general way is. -/
theorem sol_mgu {P T : Ty} {r : Option (UInt8 → Option Ty)} (hs : Sol P T r) : (r = none ∧ ∀ θ, P.subV isVarB θ ≠ T.subV isVarB θ) ∨ ∃ g σ, r = some (fun c => (g c).map fun t => t.subV isVarB σ) ∧ Mgu P T g σ := by
  rcases hs with ⟨h1, _, h2⟩ | ⟨g, σ, ρ, M, h1, h2, h3, h4, h5⟩
  · exact .inl ⟨h1, h2⟩
  · exact .inr ⟨g, σ, h1, ⟨⟨ρ, M, h3⟩, uni_mono h2 (fun c e h => by cases h) g rfl, h4, h5⟩⟩
theorem mgu_val {P T : Ty} {g : UInt8 → Option Ty} {σ : UInt8 → Ty} (h : Mgu P T g σ) (c : UInt8) : (g c).map (fun t => t.subV isVarB σ) = if (g c).isSome = true then some (σ c) else none := by
  obtain ⟨ρ, M, hI⟩ := h.inv
  rcases hc : g c with _ | t
  · rfl
  · rw [Option.map_some, (hI.bound c t hc).2.2]
    rfl
theorem mgu_dom {P T : Ty} {g : UInt8 → Option Ty} {σ : UInt8 → Ty} (h : Mgu P T g σ) {c : UInt8} (hc : isVarB c = false) : g c = none := by
  obtain ⟨ρ, M, hI⟩ := h.inv
  rcases hg : g c with _ | t
  · rfl
  · rw [(hI.bound c t hg).1] at hc
    cases hc
theorem ufOf_comm (l l' : List UInt8) : ufOf l l' = ufOf l' l := by
  rcases h1 : tyOf l with _ | P
  · rw [ufOf_none (.inl h1), ufOf_none (.inr h1)]
  · rcases h2 : tyOf l' with _ | T
    · rw [ufOf_none (.inr h2), ufOf_none (.inl h2)]
    · rcases sol_mgu (ufOf_sol h1 h2) with ⟨e1, n1⟩ | ⟨g, σ, e1, m1⟩
      · rcases sol_mgu (ufOf_sol h2 h1) with ⟨e2, n2⟩ | ⟨g', σ', e2, m2⟩
        · rw [e1, e2]
        · exact absurd m2.same.symm (n1 σ')
      · rcases sol_mgu (ufOf_sol h2 h1) with ⟨e2, n2⟩ | ⟨g', σ', e2, m2⟩
        · exact absurd m1.same.symm (n2 σ)
        · have m2' : Mgu P T g' σ' := ⟨m2.inv, m2.mono, m2.same.symm, fun θ hθ => m2.most θ hθ.symm⟩
          obtain ⟨k1, k2⟩ := mgu_one m1 m2'
          obtain ⟨_, k3⟩ := mgu_one m2' m1
          rw [e1, e2]
          congr 1
          funext c
          rw [mgu_val m1, mgu_val m2']
          rcases hv : isVarB c with _ | _
          · rw [mgu_dom m1 hv, mgu_dom m2' hv]
            rfl
          · have : (g c).isSome = (g' c).isSome := by
              rcases hg : g c with _ | t
              · rw [k2 c hv hg]
              · rcases hg' : g' c with _ | t'
                · rw [k3 c hv hg'] at hg; cases hg
                · rfl
            rw [this, k1 c hv]
theorem uniOf_comm (l l' : List UInt8) : uniOf l l' = uniOf l' l := by unfold uniOf; rw [ufOf_comm]

end Go.Proofs.YtechacocfpobgaaGreat
