/- What a map of texts reads as, in plain words. -/
import Derived.Test.YteimmgajohimlaaGreatMtW
import Derived.Maps.RangeWalk
import Derived.Maps.OwnSet
namespace Go.Proofs.YteimmgajohimlaaGreat
open Go.RowKit Go.Maps

/-- A map from letters to texts reads as g. -/
def Reads (D : DataW Unit) (g : UInt8 → Option (List UInt8)) : Prop :=
  IsMap D ∧ (∀ l : List UInt8, has D (.string l) = true → ∃ c b, l = [c] ∧ g c = some b) ∧ ∀ c b, g c = some b → has D (.string [c]) = true ∧ ∀ z, D.atKey (.string [c]) z = .lit (.string b)
theorem reads_start : Reads (.map []) (fun _ => none) :=
  ⟨isMap_empty, fun l h => by simp [has] at h, fun c b h => by cases h⟩
theorem keyLit (l : List UInt8) : WideAt.IsKeyLit (.string l) := trivial
theorem reads_put {D : DataW Unit} {g g' : UInt8 → Option (List UInt8)} (h : Reads D g) {c : UInt8} {b : List UInt8} (hc : g' c = some b) (hg : ∀ d, d ≠ c → g' d = g d) : Reads (D.put (.string [c]) (.lit (.string b))) g' := by
  obtain ⟨h1, h2, h3⟩ := h
  refine ⟨h1.put _ _, fun l hl => ?_, fun d b' hd => ?_⟩
  · by_cases e : l = [c]
    · exact ⟨c, b, e, hc⟩
    · rw [has_put_other (by simpa using e)] at hl
      obtain ⟨d, b', e1, e2⟩ := h2 l hl
      refine ⟨d, b', e1, ?_⟩
      rw [hg d (by rintro rfl; exact e e1)]
      exact e2
  · by_cases e : d = c
    · subst e
      rw [hc] at hd
      injection hd with hd
      subst hd
      exact ⟨has_put_same h1 (keyLit _) _, fun z => atKey_put_same h1 (keyLit _) _ z⟩
    · have hne : (Lit.string [d]) ≠ .string [c] := by simpa using e
      rw [hg d e] at hd
      obtain ⟨q1, q2⟩ := h3 d b' hd
      exact ⟨by rw [has_put_other hne]; exact q1, fun z => by rw [atKey_put_other hne]; exact q2 z⟩
theorem reads_skip {D : DataW Unit} {g g' : UInt8 → Option (List UInt8)} (h : Reads D g) (hg : ∀ d, g' d = g d) : Reads D g' := by
  have : g' = g := funext hg
  subst this
  exact h

/-- The letters gone through in the first k rounds. -/
def upto (h : UInt8 → Option Ty) (k : Nat) (c : UInt8) : Option (List UInt8) := if isVarX c = true ∧ idxX c < k then (h c).map Ty.text else none
theorem upto_zero (h : UInt8 → Option Ty) (c : UInt8) : upto h 0 c = none := by simp [upto]
theorem upto_step {h : UInt8 → Option Ty} {k : Nat} {c : UInt8} (hc : isVarX c = true) (hk : idxX c = k) : upto h (k + 1) c = (h c).map Ty.text ∧ ∀ d, d ≠ c → upto h (k + 1) d = upto h k d := by
  refine ⟨if_pos ⟨hc, by omega⟩, fun d hd => ?_⟩
  unfold upto
  by_cases hv : isVarX d = true
  · have hne : idxX d ≠ k := fun e => hd (idxX_inj hv hc (e.trans hk.symm))
    by_cases hlt : idxX d < k
    · rw [if_pos ⟨hv, by omega⟩, if_pos ⟨hv, hlt⟩]
    · rw [if_neg (by rintro ⟨_, h⟩; omega), if_neg (by rintro ⟨_, h⟩; omega)]
  · rw [if_neg (fun h => hv h.1), if_neg (fun h => hv h.1)]
theorem upto_all {h : UInt8 → Option Ty} (c : UInt8) : upto h 12 c = if isVarX c = true then (h c).map Ty.text else none := by
  unfold upto
  by_cases hv : isVarX c = true
  · rw [if_pos ⟨hv, (idxX_int c hv).2⟩, if_pos hv]
  · rw [if_neg (fun h => hv h.1), if_neg hv]
/-- The letter in place k. -/
def letX (k : Nat) : UInt8 := ([88, 89, 90, 120, 121, 122, 82, 83, 84, 114, 115, 116] : List UInt8).getD k 0
theorem letX_var : ∀ k, k < 12 → isVarX (letX k) = true ∧ idxX (letX k) = k ∧ (letX k).toNat < 128 := by decide +kernel

end Go.Proofs.YteimmgajohimlaaGreat
