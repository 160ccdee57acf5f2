/- ParseNeed, in the program and in the model. -/
import Derived.Test.YtmpmalcjfckemaaDoorRdW
import Derived.Test.YtmpmalcjfckemaaDoorWdT
namespace Go.Proofs.YtmpmalcjfckemaaDoor
open Go.RowKit
set_option linter.unusedVariables false

/-- What reading a text as a need gives. -/
def PnRes (l : List UInt8) (x y : ByteArray) (f : Bool) : Prop := f = pnF l ∧ ((f = true ∧ x.data.toList = ndC l ∧ y.data.toList = ndY l) ∨ (f = false ∧ x = ⟨#[]⟩ ∧ y = ⟨#[]⟩))
theorem PnRes.same {l : List UInt8} {x y x' y' : ByteArray} {f f' : Bool} (h : PnRes l x y f) (h' : PnRes l x' y' f') : x' = x ∧ y' = y ∧ f' = f := by
  obtain ⟨e, h⟩ := h
  obtain ⟨e', h'⟩ := h'
  have ef : f' = f := by rw [e, e']
  subst ef
  rcases h with ⟨h1, h2, h3⟩ | ⟨h1, h2, h3⟩ <;> rcases h' with ⟨k1, k2, k3⟩ | ⟨k1, k2, k3⟩
  · exact ⟨ba_eq (k2.trans h2.symm), ba_eq (k3.trans h3.symm), rfl⟩
  · rw [h1] at k1; cases k1
  · rw [h1] at k1; cases k1
  · exact ⟨k2.trans h2.symm, k3.trans h3.symm, rfl⟩
theorem pnF_cons (a d : UInt8) (r : List UInt8) : pnF (a :: d :: r) = ((d == 32 && isNm [a]) && (tyOf r).isSome) := by
  rw [Bool.eq_iff_iff, pnF_iff]
  simp only [Bool.and_eq_true, beq_iff_eq]
  constructor
  · rintro ⟨c, t, e, ho⟩
    unfold okN at ho
    rw [Bool.and_eq_true] at ho
    obtain ⟨a', rfl, _⟩ := isNm_one ho.1
    simp only [List.cons_append, List.nil_append, List.cons.injEq] at e
    obtain ⟨rfl, rfl, rfl⟩ := e
    exact ⟨⟨rfl, ho.1⟩, ho.2⟩
  · rintro ⟨⟨rfl, h1⟩, h2⟩
    exact ⟨[a], r, rfl, by unfold okN; rw [h1, h2]; rfl⟩
theorem pnF_short {l : List UInt8} (h : l.length < 3) : pnF l = false := by
  refine Bool.eq_false_iff.2 fun e => ?_
  obtain ⟨c, t, rfl, ho⟩ := (pnF_iff l).1 e
  unfold okN at ho
  rw [Bool.and_eq_true] at ho
  obtain ⟨a', rfl, _⟩ := isNm_one ho.1
  obtain ⟨T, hT⟩ := Option.isSome_iff_exists.1 ho.2
  have := text_pos T
  rw [← (tyOf_text hT).1] at this
  simp only [List.length_append, List.length_cons, List.length_nil] at h
  omega
theorem pnF_vals {a : UInt8} {r : List UInt8} (h : okN [a] r = true) : ndC (a :: 32 :: r) = [a] ∧ ndY (a :: 32 :: r) = r := pnF_val h

theorem u8_32 {d : UInt8} (h : d ≠ 32) : ¬ (d.toNat : Int) = 32 := by
  have : d.toNat ≠ 32 := fun e => h (UInt8.toNat_inj.1 e)
  omega

end Go.Proofs.YtmpmalcjfckemaaDoor
