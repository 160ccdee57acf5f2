/- The functions of chapter 1 that look at a type's text alone: HeadOf, CountVar, VarsOf, IsGround, in the program and in the model. -/
import Derived.Test.YtpbjkblinenccaaSpecT
namespace Go.Proofs.Ytpbjkblinenccaa
open Go.RowKit

/-- A string out of a list of bytes. -/
def strOf (l : List UInt8) : ByteArray := ⟨l.toArray⟩
theorem strOf_list (l : List UInt8) : (strOf l).data.toList = l := by simp [strOf]
theorem strOf_eq {s : ByteArray} {l : List UInt8} (h : s.data.toList = l) : s = strOf l := by
  cases s with
  | mk d =>
    cases d with
    | mk x => simp at h; subst h; rfl

theorem ascii_of (c : UInt8) (h : 0 ≤ ar c) : c.toNat < 128 := by
  revert h
  refine u8_all (p := fun c => 0 ≤ ar c → c.toNat < 128) ?_ c
  decide +kernel

theorem encode_ascii (c : UInt8) (h : c.toNat < 128) : Utf8.encode (c.toNat : Nat) = strOf [c] := by
  revert h
  refine u8_all (p := fun c => c.toNat < 128 → Utf8.encode (c.toNat : Nat) = strOf [c]) ?_ c
  decide +kernel

set_option maxHeartbeats 400000 in
set_option maxRecDepth 100000 in
theorem letterText_any (c : UInt8) (hc : c.toNat < 128) (w : World) :
    Calls Try.prog 48 #[.int .u8 c.toNat] w fun e w' => e = .returned (.string (strOf [c])) ∧ w' = w := by
  go_enter Try.func48, Try.ntmps48
  go_wp2
  go_ret
  exact ⟨by show Ending.returned (.string (Utf8.encode (c.toNat : Nat))) = _; rw [encode_ascii c hc], rfl⟩

theorem take_snoc (s : ByteArray) (k : Nat) (h : k < s.size) : s.data.toList.take (k + 1) = s.data.toList.take k ++ [s[k]] := by
  rw [List.take_succ_eq_append_getElem (by simpa using h)]; rfl
theorem count_snoc (s : ByteArray) (c : UInt8) (k : Nat) (h : k < s.size) :
    ((s.data.toList.take (k + 1)).count c : Nat) = (s.data.toList.take k).count c + (if ((s[k].toNat : Int) == c.toNat) = true then 1 else 0) := by
  rw [take_snoc s k h, List.count_append]
  congr 1
  by_cases e : s[k] = c
  · simp [e]
  · have h1 : ¬ (s[k].toNat = c.toNat) := fun h => e (UInt8.toNat_inj.1 h)
    have h2 : ¬ ((s[k].toNat : Int) = c.toNat) := by omega
    simp [e, h2]

theorem text_ascii {t : Ty} (h : t.ok) : ∀ x ∈ t.text, x.toNat < 128 := by
  induction t with
  | lf c =>
    intro x hx
    simp [Ty.text] at hx
    subst hx
    exact ascii_of x (by rw [show ar x = 0 from h]; decide)
  | un c a ih =>
    intro x hx
    simp [Ty.text] at hx
    rcases hx with rfl | rfl | hx | rfl
    · exact ascii_of x (by rw [h.1]; decide)
    · decide
    · exact ih h.2 x hx
    · decide
  | bi c a b iha ihb =>
    intro x hx
    simp [Ty.text] at hx
    rcases hx with rfl | rfl | hx | rfl | hx | rfl
    · exact ascii_of x (by rw [h.1]; decide)
    · decide
    · exact iha h.2.1 x hx
    · decide
    · exact ihb h.2.2 x hx
    · decide
theorem tyOf_ascii {s : ByteArray} {t : Ty} (h : tyOf s.data.toList = some t) : ∀ i, (h : i < s.size) → (s[i]'h).toNat < 128 := by
  intro i hi
  obtain ⟨e, ho, _⟩ := tyOf_text h
  have hm : s[i] ∈ s.data.toList := by
    rw [List.mem_iff_getElem]
    exact ⟨i, by simpa using hi, rfl⟩
  rw [e] at hm
  exact text_ascii ho _ hm

theorem l1Variable_at (c : UInt8) (k : Bool) (h : Hid (isVarB c = k)) (w : World) :
    Calls Try.prog 42 #[.int .u8 c.toNat] w fun e w' => e = .returned (.bool k) ∧ w = w' := by
  rw [← h.out]
  exact (l1Variable_any c w).mono fun _ _ ⟨h1, h2⟩ => ⟨h1, h2.symm⟩
theorem below_drewN' {B : Nat} {a w : World} (h : Below B a w) (n : Nat) : Below B a (w.drewN n) := ⟨h.os, h.tape, h.output, h.size, h.block⟩

/-- How often a variable stands in a type; -1 where there is no such type or variable. -/
def cvOf (s v : ByteArray) : Int :=
  if (tyOf s.data.toList).isSome = true ∧ v.size = 1 ∧ isVarB (v.data.toList.headD 0) = true then (s.data.toList.count (v.data.toList.headD 0) : Nat) else -1

theorem head_at (v : ByteArray) (h : 0 < v.size) : v.data.toList.headD 0 = v[0] := by
  have e : v.data.toList[0]? = some v[0] := by
    rw [List.getElem?_eq_getElem (by simpa using h)]
    rfl
  cases hl : v.data.toList with
  | nil => rw [hl] at e; cases e
  | cons x l => rw [hl] at e; simpa using e

end Go.Proofs.Ytpbjkblinenccaa
