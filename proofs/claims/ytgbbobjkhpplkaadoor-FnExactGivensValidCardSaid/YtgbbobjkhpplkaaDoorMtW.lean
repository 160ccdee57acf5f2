/- Matching in plain words: what a pattern's variables stand for so that it is a type. -/
import Derived.Test.YtgbbobjkhpplkaaDoorApW
namespace Go.Proofs.YtgbbobjkhpplkaaDoor
open Go.RowKit

/-- One variable more. -/
def bindT (f : UInt8 → Option Ty) (c : UInt8) (t : Ty) : UInt8 → Option Ty := fun d => if d = c then some t else f d
/-- What the variables of a pattern stand for behind the match, if there is one. -/
def mt : Ty → Ty → (UInt8 → Option Ty) → Option (UInt8 → Option Ty)
  | .lf c, t, f => if isVarX c = true then (match f c with | none => some (bindT f c t) | some u => if u.text = t.text then some f else none) else (match t with | .lf d => if c = d then some f else none | _ => none)
  | .un c a, t, f => match t with | .un d b => if c = d then mt a b f else none | _ => none
  | .bi c a a', t, f => match t with | .bi d b b' => if c = d then (match mt a b f with | some g => mt a' b' g | none => none) else none | _ => none

theorem bind_fine {f : UInt8 → Option Ty} (h : Fine f) {c : UInt8} {t : Ty} (ho : t.ok) (hl : t.text.length ≤ 60) : Fine (bindT f c t) := by
  intro d u hd
  unfold bindT at hd
  split at hd
  · injection hd with hd
    subst hd
    exact ⟨ho, hl⟩
  · exact h d u hd
theorem mt_fine (P : Ty) : ∀ (t : Ty) (f g : UInt8 → Option Ty), Fine f → t.ok → t.text.length ≤ 60 → mt P t f = some g → Fine g := by
  induction P with
  | lf c =>
    intro t f g hf ho hl h
    unfold mt at h
    split at h
    · split at h
      · injection h with h
        subst h
        exact bind_fine hf ho hl
      · split at h
        · injection h with h
          subst h
          exact hf
        · cases h
    · split at h
      · split at h
        · injection h with h
          subst h
          exact hf
        · cases h
      · cases h
  | un c a ih =>
    intro t f g hf ho hl h
    unfold mt at h
    split at h
    · split at h
      · exact ih _ f g hf ho.2 (by simp [Ty.text] at hl; omega) h
      · cases h
    · cases h
  | bi c a a' iha ihb =>
    intro t f g hf ho hl h
    unfold mt at h
    split at h
    · split at h
      · split at h
        · rename_i k hk
          exact ihb _ k g (iha _ f k hf ho.2.1 (by simp [Ty.text] at hl; omega) hk) ho.2.2 (by simp [Ty.text] at hl; omega) h
        · cases h
      · cases h
    · cases h
theorem mt_dom (P : Ty) : ∀ (t : Ty) (f g : UInt8 → Option Ty), P.ok → mt P t f = some g → ∀ c, isVarB c = false → g c = f c := by
  induction P with
  | lf c =>
    intro t f g ho h d hd
    unfold mt at h
    split at h
    · rename_i hv
      split at h
      · injection h with h
        subst h
        have hne : d ≠ c := by
          rintro rfl
          rw [isVarX_ok ho, hd] at hv
          cases hv
        simp [bindT, hne]
      · split at h
        · injection h with h
          subst h
          rfl
        · cases h
    · split at h
      · split at h
        · injection h with h
          subst h
          rfl
        · cases h
      · cases h
  | un c a ih =>
    intro t f g ho h d hd
    unfold mt at h
    split at h
    · split at h
      · exact ih _ f g ho.2 h d hd
      · cases h
    · cases h
  | bi c a a' iha ihb =>
    intro t f g ho h d hd
    unfold mt at h
    split at h
    · split at h
      · split at h
        · rename_i k hk
          rw [ihb _ k g ho.2.2 h d hd, iha _ f k ho.2.1 hk d hd]
        · cases h
      · cases h
    · cases h

/-- What MatchType comes to: what each variable stands for. -/
def mtOf (l l' : List UInt8) : Option (UInt8 → Option Ty) :=
  match tyOf l, tyOf l' with
  | some P, some T => mt P T (fun _ => none)
  | _, _ => none
/-- Bindings told, in the order of their letters. -/
def told (f : UInt8 → Option Ty) : List (ByteArray × ByteArray) :=
  ([88, 89, 90, 120, 121, 122] : List UInt8).filterMap fun c => (f c).map fun t => (strOf [c], strOf t.text)
theorem none_fine : Fine (fun _ => none) := fun c t h => by cases h
theorem mtOf_fine {l l' : List UInt8} {g : UInt8 → Option Ty} (h : mtOf l l' = some g) : Fine g := by
  unfold mtOf at h
  split at h
  · rename_i P T h1 h2
    obtain ⟨e, o, z⟩ := tyOf_text h2
    exact mt_fine P T _ g none_fine o (by rw [← e]; exact z) h
  · cases h
theorem mtOf_dom {l l' : List UInt8} {g : UInt8 → Option Ty} (h : mtOf l l' = some g) {c : UInt8} (hc : isVarB c = false) : g c = none := by
  unfold mtOf at h
  split at h
  · rename_i P T h1 h2
    exact mt_dom P T _ g (tyOf_text h1).2.1 h c hc
  · cases h

end Go.Proofs.YtgbbobjkhpplkaaDoor
