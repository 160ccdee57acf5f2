/- Bindings applied, in the program: what a variable stands for, the closure of apply, applyOnce. ApplyBindings in plain words. -/
import Derived.Test.YtgbbobjkhpplkaaDoorBvI
import Derived.Deep.RegionWith
namespace Go.Proofs.YtgbbobjkhpplkaaDoor
open Go.RowKit

/-- What a letter stands for once, or itself. -/
def once (f : UInt8 → Option Ty) (c : UInt8) : Ty := (f c).getD (.lf c)

end Go.Proofs.YtgbbobjkhpplkaaDoor

namespace Go.Proofs.YtgbbobjkhpplkaaDoor
open Go.RowKit

/-- What bindings give is a type of at most 60 bytes. -/
def Fine (f : UInt8 → Option Ty) : Prop := ∀ c t, f c = some t → t.ok ∧ t.text.length ≤ 60
theorem bstep_fine {f : UInt8 → Option Ty} (h : Fine f) (z : ByteArray × ByteArray) : Fine (bstep f z) := by
  intro c t hc
  unfold bstep at hc
  rcases hl : z.1.data.toList with _ | ⟨d, _ | ⟨d', r⟩⟩
  · simp only [hl] at hc
    exact h c t hc
  · rcases ht : tyOf z.2.data.toList with _ | u
    · simp only [hl, ht] at hc
      exact h c t hc
    · simp only [hl, ht] at hc
      split at hc
      · injection hc with hc
        subst hc
        obtain ⟨e, o, l⟩ := tyOf_text ht
        exact ⟨o, by rw [← e]; exact l⟩
      · exact h c t hc
  · simp only [hl] at hc
    exact h c t hc
theorem bmap_fine (zs : List (ByteArray × ByteArray)) : Fine (bmap zs) := by
  unfold bmap
  have key : ∀ (zs : List (ByteArray × ByteArray)) (f : UInt8 → Option Ty), Fine f → Fine (zs.foldl bstep f) := by
    intro zs
    induction zs with
    | nil => exact fun f h => h
    | cons z zs ih => exact fun f h => ih _ (bstep_fine h z)
  exact key zs _ (fun c t h => by cases h)
theorem sub_ok {f : UInt8 → Option Ty} (hf : Fine f) {T : Ty} (h : T.ok) : (T.sub (once f)).ok ∧ (T.sub (once f)).text.length ≤ 60 * T.text.length := by
  induction T with
  | lf c =>
    unfold Ty.sub
    split
    · unfold once
      cases hc : f c with
      | none => exact ⟨h, by simp [Ty.text]⟩
      | some t => exact ⟨(hf c t hc).1, by have := (hf c t hc).2; simp [Ty.text]; exact this⟩
    · exact ⟨h, by simp [Ty.text]⟩
  | un c a ih =>
    obtain ⟨h1, h2⟩ := ih h.2
    exact ⟨⟨h.1, h1⟩, by simp [Ty.sub, Ty.text]; omega⟩
  | bi c a b iha ihb =>
    obtain ⟨h1, h2⟩ := iha h.2.1
    obtain ⟨h3, h4⟩ := ihb h.2.2
    exact ⟨⟨h.1, h1, h3⟩, by simp [Ty.sub, Ty.text]; omega⟩

def apS (o : Option (List UInt8)) : ByteArray := match o with
  | some l => strOf l
  | none => ⟨#[]⟩
/-- What ApplyBindings comes to. -/
def apOf (zs : List (ByteArray × ByteArray)) (l : List UInt8) : Option (List UInt8) :=
  match bvOf zs, tyOf l with
  | true, some T => if (T.sub (once (bmap zs))).text.length ≤ 60 then some (T.sub (once (bmap zs))).text else none
  | _, _ => none

end Go.Proofs.YtgbbobjkhpplkaaDoor
