/- Types apart, in plain words. -/
import Derived.Test.YteimmgajohimlaaGreatUnW
import Derived.Test.YteimmgajohimlaaGreatRenI
namespace Go.Proofs.YteimmgajohimlaaGreat

theorem sub_subV (σ : UInt8 → Ty) (t : Ty) : t.sub σ = t.subV isVarX σ := by
  induction t with
  | lf c => rfl
  | un c a ih => simp only [Ty.sub, Ty.subV, ih]
  | bi c a b iha ihb => simp only [Ty.sub, Ty.subV, iha, ihb]
theorem subV_move {V W : UInt8 → Bool} (hVW : ∀ c, ar c = 0 → V c = W c) (σ : UInt8 → Ty) {t : Ty} (h : t.ok) : t.subV V σ = t.subV W σ := by
  induction t with
  | lf c => simp only [Ty.subV, hVW c h]
  | un c a ih => simp only [Ty.subV, ih h.2]
  | bi c a b iha ihb => simp only [Ty.subV, iha h.2.1, ihb h.2.2]
theorem has_ok {t : Ty} (h : t.ok) {c : UInt8} (hc : t.hasL c = true) : ar c = 0 := by
  induction t with
  | lf d =>
    have : d = c := by simpa [Ty.hasL] using hc
    rw [← this]
    exact h
  | un d a ih => exact ih h.2 hc
  | bi d a b iha ihb =>
    simp only [Ty.hasL, Bool.or_eq_true] at hc
    exact hc.elim (iha h.2.1) (ihb h.2.2)
/-- No type is of the form of both. -/
def Apart (l l' : List UInt8) : Prop := ∃ P T, tyOf l = some P ∧ tyOf l' = some T ∧ ∀ θ η, P.subV isVarB θ ≠ T.subV isVarB η
theorem apart_by {V : UInt8 → Bool} {o inv : UInt8 → UInt8} (hV : ∀ c, ar c = 0 → V c = isVarB c) (ho : ∀ c, isVarB c = true → V (o c) = true ∧ isVarB (o c) = false ∧ inv (o c) = c) {a b : Ty} (ha : a.ok) (hb : b.ok) :
    (∃ θ, a.subV V θ = (b.subV V (fun c => .lf (o c))).subV V θ) ↔ ∃ θ η, a.subV isVarB θ = b.subV isVarB η := by
  have e : ∀ θ : UInt8 → Ty, (b.subV V (fun c => .lf (o c))).subV V θ = b.subV isVarB (fun c => θ (o c)) := by
    intro θ
    rw [subV_comp, subV_move hV _ hb]
    refine subV_congr b fun c hc _ => ?_
    simp [Ty.subV, (ho c hc).1]
  constructor
  · rintro ⟨θ, h⟩
    rw [e, subV_move hV _ ha] at h
    exact ⟨θ, _, h⟩
  · rintro ⟨θ, η, h⟩
    refine ⟨fun c => if isVarB c = true then θ c else η (inv c), ?_⟩
    rw [e, subV_move hV _ ha]
    have e1 : a.subV isVarB (fun c => if isVarB c = true then θ c else η (inv c)) = a.subV isVarB θ := subV_congr a fun c hc _ => by simp [hc]
    have e2 : b.subV isVarB (fun c => if isVarB (o c) = true then θ (o c) else η (inv (o c))) = b.subV isVarB η := subV_congr b fun c hc _ => by simp [(ho c hc).2.1, (ho c hc).2.2]
    rw [e1, e2, h]
/-- The program's other letters. -/
def otherX (c : UInt8) : UInt8 := if c = 88 then 82 else if c = 89 then 83 else if c = 90 then 84 else if c = 120 then 114 else if c = 121 then 115 else if c = 122 then 116 else c
def backX (c : UInt8) : UInt8 := if c = 82 then 88 else if c = 83 then 89 else if c = 84 then 90 else if c = 114 then 120 else if c = 115 then 121 else if c = 116 then 122 else c
theorem otherX_var (c : UInt8) (h : isVarB c = true) : isVarX (otherX c) = true ∧ isVarB (otherX c) = false ∧ backX (otherX c) = c := by
  revert h
  refine u8_all (p := fun c => isVarB c = true → isVarX (otherX c) = true ∧ isVarB (otherX c) = false ∧ backX (otherX c) = c) ?_ c
  decide +kernel

theorem unify_apart {V : UInt8 → Bool} {lt : UInt8 → UInt8 → Bool} {o inv : UInt8 → UInt8} (hV : ∀ c, ar c = 0 → V c = isVarB c) (ho : ∀ c, isVarB c = true → V (o c) = true ∧ isVarB (o c) = false ∧ inv (o c) = c) (hs : ∀ c, V c = true → ar c ≠ 1 ∧ ar c ≠ 2) {a b : Ty} (ha : a.ok) (hb : b.ok) :
    ∃ r, Uni V lt (fun _ => none) a (b.subV V (fun c => .lf (o c))) r ∧ (∀ g, r = some g → ∃ σ ρ M, Inv V g σ ρ M) ∧ (r = none ↔ ∀ θ η, a.subV isVarB θ ≠ b.subV isVarB η) := by
  have hos : (b.subV V (fun c => .lf (o c))).shp := by
    have key : ∀ t : Ty, t.ok → (t.subV V (fun c => .lf (o c))).shp := by
      intro t
      induction t with
      | lf c =>
        intro hc
        unfold Ty.subV
        split
        · rename_i hv
          rw [hV c hc] at hv
          exact hs _ (ho c hv).1
        · exact ok_shp hc
      | un c a ih => exact fun h => ⟨h.1, ih h.2⟩
      | bi c a b iha ihb => exact fun h => ⟨h.1, iha h.2.1, ihb h.2.2⟩
    exact key b hb
  obtain ⟨r, h1, h2⟩ := uni_total V lt _ _ _ _ _ _ a _ (Inv.start V) (ok_shp ha) hos (Nat.lt_succ_self _) (Nat.lt_succ_self _)
  have hid : ∀ θ : UInt8 → Ty, Resp V (fun c => .lf c) θ := fun θ c hc => by simp [Ty.subV, hc]
  have hap := apart_by hV ho ha hb
  refine ⟨r, h1, ?_, ?_⟩
  · intro g hg
    subst hg
    obtain ⟨σ, ρ, M, hI, _⟩ := h2
    exact ⟨σ, ρ, M, hI⟩
  · cases r with
    | none =>
      refine ⟨fun _ θ η he => ?_, fun _ => rfl⟩
      obtain ⟨θ', h3⟩ := hap.2 ⟨θ, η, he⟩
      exact h2 θ' (hid θ') h3
    | some g =>
      obtain ⟨σ, ρ, M, _, _, h3, _⟩ := h2
      constructor
      · intro h; cases h
      · intro h
        obtain ⟨θ, η, h4⟩ := hap.1 ⟨σ, h3⟩
        exact absurd h4 (h θ η)

end Go.Proofs.YteimmgajohimlaaGreat
