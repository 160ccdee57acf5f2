/- Matching in the model: l2Match. Matching in the model: a node's parts; l2Match whole. l2Match of the model, whole. -/
import Derived.Test.YtjpdiahbnhemoaaGreatApT
import Derived.Test.YtjpdiahbnhemoaaGreatMtW
import Derived.Test.YtjpdiahbnhemoaaGreatUnW
namespace Go.Proofs.YtjpdiahbnhemoaaGreat
open Go.RowKit

/-- How l2Match ends. -/
def MtEndN (w : World) (mb : Nat) (S : Nat → Prop) (r : Option (UInt8 → Option Ty)) (e : Ending) (w' : World) : Prop :=
  But w.heap.size mb w w' ∧ match r with
    | none => e = .returned (.bool false)
    | some g => e = .returned (.bool true) ∧ StndN w' mb S g

theorem bel_undrewN {a w : World} (h : Below a.drew.heap.size a.drew w) : Below a.heap.size a w := bel_undrew h
theorem bytes_neN {a b : ByteArray} (h : ¬ a = b) : (a.toList == b.toList) = false := by
  rw [ByteArray.toList_eq, ByteArray.toList_eq, beq_eq_false_iff_ne]
  exact fun e => h (WideShapes.bytes_inj e)
theorem str_injN {l l' : List UInt8} (h : strOf l = strOf l') : l = l' := by
  have := congrArg (fun b : ByteArray => b.data.toList) h
  simpa [strOf_list] using this

end Go.Proofs.YtjpdiahbnhemoaaGreat

namespace Go.Proofs.YtjpdiahbnhemoaaGreat
open Go.RowKit

/-- Parts matched side by side. -/
def mtL : List Ty → List Ty → (UInt8 → Option Ty) → Option (UInt8 → Option Ty)
  | [], _, f => some f
  | _ :: _, [], _ => none
  | t :: ts, u :: us, f => match mt t u f with | some g => mtL ts us g | none => none
theorem mtL_snoc {ts us : List Ty} {t u : Ty} (hl : ts.length = us.length) : ∀ {f : UInt8 → Option Ty}, mtL (ts ++ [t]) (us ++ [u]) f = match mtL ts us f with | some g => mt t u g | none => none := by
  induction ts generalizing us with
  | nil =>
    intro f
    obtain rfl : us = [] := List.eq_nil_of_length_eq_zero hl.symm
    show (match mt t u f with | some g => some g | none => none) = mt t u f
    cases mt t u f <;> rfl
  | cons a ts ih =>
    intro f
    cases us with
    | nil => cases hl
    | cons b us =>
      show (match mt a b f with | some g => mtL (ts ++ [t]) (us ++ [u]) g | none => none) = match (match mt a b f with | some g => mtL ts us g | none => none) with | some g => mt t u g | none => none
      cases mt a b f with
      | none => rfl
      | some g => exact ih (by simpa using hl)
theorem mtL_none {ts us : List Ty} {t u : Ty} {f g : UInt8 → Option Ty} (hl : ts.length = us.length) (h1 : mtL ts us f = some g) (h2 : mt t u g = none) (xs ys : List Ty) : mtL (ts ++ t :: xs) (us ++ u :: ys) f = none := by
  induction ts generalizing us f with
  | nil =>
    obtain rfl : us = [] := List.eq_nil_of_length_eq_zero hl.symm
    injection h1 with h1
    subst h1
    show (match mt t u f with | some g => mtL xs ys g | none => none) = none
    rw [h2]
  | cons a ts ih =>
    cases us with
    | nil => cases hl
    | cons b us =>
      show (match mt a b f with | some g => mtL (ts ++ t :: xs) (us ++ u :: ys) g | none => none) = none
      change (match mt a b f with | some g => mtL ts us g | none => none) = some g at h1
      cases h3 : mt a b f with
      | none => rfl
      | some k =>
        rw [h3] at h1
        exact ih (by simpa using hl) h1

theorem mtL_fine {ts us : List Ty} : ∀ {f g : UInt8 → Option Ty}, Fine f → (∀ u ∈ us, u.ok ∧ u.text.length ≤ 60) → mtL ts us f = some g → Fine g := by
  induction ts generalizing us with
  | nil =>
    intro f g hf _ h
    injection h with h
    rw [← h]
    exact hf
  | cons a ts ih =>
    intro f g hf hu h
    cases us with
    | nil => cases h
    | cons b us =>
      change (match mt a b f with | some g => mtL ts us g | none => none) = some g at h
      cases h3 : mt a b f with
      | none => rw [h3] at h; cases h
      | some k =>
        rw [h3] at h
        exact ih (mt_fine a b f k hf (hu b (List.mem_cons_self ..)).1 (hu b (List.mem_cons_self ..)).2 h3) (fun u hu' => hu u (List.mem_cons_of_mem _ hu')) h

end Go.Proofs.YtjpdiahbnhemoaaGreat

namespace Go.Proofs.YtjpdiahbnhemoaaGreat
open Go.RowKit

theorem ar_ix (c : UInt8) : (ar c = 0 → isVarX c = false → l2ix c = -1) ∧ (ar c = 0 → isVarX c = true → 0 ≤ l2ix c) := by
  refine u8_all (p := fun c => (ar c = 0 → isVarX c = false → l2ix c = -1) ∧ (ar c = 0 → isVarX c = true → 0 ≤ l2ix c)) ?_ c
  decide +kernel
theorem repN_head {w : World} {S : Nat → Prop} {t : Ty} {c : UInt8} {p : Value} (h : RepN w S t (.int .u8 c.toNat) p) : c = t.top := by
  have key : ∀ d : UInt8, (Value.int .u8 (c.toNat : Int) = .int .u8 d.toNat) → c = d := by
    intro d e
    simp only [Value.int.injEq, true_and] at e
    exact UInt8.toNat_inj.1 (by omega)
  cases t with
  | lf d => exact key d h.1
  | un d a => exact key d h.1
  | bi d a b => exact key d h.1
theorem mtC_clash {P t : Ty} {f : UInt8 → Option Ty} (hv : ∀ c, P = .lf c → isVarX c = false) (h : P.top ≠ t.top) : mt P t f = none := by
  cases P with
  | lf c =>
    unfold mt
    rw [if_neg (by rw [hv c rfl]; decide)]
    cases t with
    | lf d => exact if_neg h
    | un d a => rfl
    | bi d a a' => rfl
  | un c a =>
    cases t with
    | lf d => rfl
    | un d a => exact if_neg h
    | bi d a a' => rfl
  | bi c a a' =>
    cases t with
    | lf d => rfl
    | un d a => rfl
    | bi d y y' => exact if_neg h

end Go.Proofs.YtjpdiahbnhemoaaGreat
