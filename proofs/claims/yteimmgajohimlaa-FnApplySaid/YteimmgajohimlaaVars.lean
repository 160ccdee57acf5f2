/- HeadOf, VarsOf, IsGround, in the program and in the model. -/
import Derived.Test.YteimmgajohimlaaPartsI
import Derived.Lib.OthersKept
namespace Go.Proofs.Yteimmgajohimlaa
open Go.RowKit

set_option maxHeartbeats 400000 in
set_option maxRecDepth 100000 in
theorem headI_none (s : ByteArray) (hs : s.size ≤ maxLen) (ht : Hid ((tyOf s.data.toList).isSome = false)) (w : World) :
    Calls Try.prog 18 #[.string s] w fun e w' => e = .returned (.string ⟨#[]⟩) ∧ Below w.heap.size w w' := by
  go_enter Try.func18, Try.ntmps18
  go_wp2_with (go_at_call 19; refine (typeValidI_at s _ hs false ht).mono ?_; rintro e w1 ⟨rfl, hb1⟩)
  go_ret
  exact ⟨rfl, hb1⟩

set_option maxHeartbeats 400000 in
set_option maxRecDepth 100000 in
theorem headI_some (s : ByteArray) (hs : s.size ≤ maxLen) (h0 : 0 < s.size) (ha : s[0].toNat < 128) (ht : Hid ((tyOf s.data.toList).isSome = true)) (w : World) :
    Calls Try.prog 18 #[.string s] w fun e w' => e = .returned (.string (strOf [s[0]])) ∧ Below w.heap.size w w' := by
  go_enter Try.func18, Try.ntmps18
  go_wp2_with (first | (go_at_call 19; refine (typeValidI_at s _ hs true ht).mono ?_; rintro e w1 ⟨rfl, hb1⟩) | (go_at_call 48; refine (letterText_any _ ha _).mono ?_; rintro e w' ⟨rfl, rfl⟩))
  go_ret
  exact ⟨rfl, hb1⟩

/-- A type's first letter, as a string. -/
def headOf (s : ByteArray) : ByteArray := if (tyOf s.data.toList).isSome = true then strOf [s.data.toList.headD 0] else ⟨#[]⟩
theorem size_pos {s : ByteArray} {t : Ty} (h : tyOf s.data.toList = some t) : 0 < s.size := by
  obtain ⟨e, _, _⟩ := tyOf_text h
  have h1 := text_pos t
  have h2 : s.size = s.data.toList.length := by simp
  rw [h2, e]
  exact h1
theorem headI_at (s : ByteArray) (hs : s.size ≤ maxLen) (w : World) (r : ByteArray) (hr : Hid (headOf s = r)) :
    Calls Try.prog 18 #[.string s] w fun e w' => e = .returned (.string r) ∧ Below w.heap.size w w' := by
  rw [← hr.out]
  cases ht : tyOf s.data.toList with
  | none =>
    have hts : (tyOf s.data.toList).isSome = false := by rw [ht]; rfl
    rw [headOf, hts, if_neg (by decide)]
    exact headI_none s hs hts w
  | some t =>
    have hts : (tyOf s.data.toList).isSome = true := by rw [ht]; rfl
    have h0 := size_pos ht
    rw [headOf, hts, if_pos rfl, head_at s h0]
    exact headI_some s hs h0 (tyOf_ascii ht 0 h0) hts w
/-- The variables' letters, in order. -/
def V6 : ByteArray := { data := #[88, 89, 90, 120, 121, 122] }
theorem V6_size : V6.size = 6 := rfl
theorem V6_ascii : ∀ i, (h : i < V6.size) → (V6[i]'h).toNat < 128 := by
  intro i h
  have h' : i < 6 := h
  match i, h' with
  | 0, _ => exact (by decide : (88 : UInt8).toNat < 128)
  | 1, _ => exact (by decide : (89 : UInt8).toNat < 128)
  | 2, _ => exact (by decide : (90 : UInt8).toNat < 128)
  | 3, _ => exact (by decide : (120 : UInt8).toNat < 128)
  | 4, _ => exact (by decide : (121 : UInt8).toNat < 128)
  | 5, _ => exact (by decide : (122 : UInt8).toNat < 128)
/-- Those of the letters that stand in a text. -/
def varsIn (l vs : List UInt8) : List UInt8 := vs.filter fun c => decide (0 < l.count c)
theorem varsIn_snoc (l : List UInt8) (k : Nat) (h : k < V6.size) :
    varsIn l (V6.data.toList.take (k + 1)) = varsIn l (V6.data.toList.take k) ++ (if 0 < l.count V6[k] then [V6[k]] else []) := by
  rw [take_snoc V6 k h, varsIn, List.filter_append]
  congr 1
  by_cases e : 0 < l.count V6[k]
  · rw [if_pos e]
    simp
    exact List.count_pos_iff.1 e
  · rw [if_neg e]
    simp
    exact fun h => e (List.count_pos_iff.2 h)
theorem varsIn_len (l vs : List UInt8) : (varsIn l vs).length ≤ vs.length := List.length_filter_le _ _

theorem append_list (a : ByteArray) (l : List UInt8) : (a ++ strOf l).data.toList = a.data.toList ++ l := by
  rw [ByteArray.data_append, Array.toList_append]
  rfl
theorem V6_cell (i : Nat) (h : i < 6) : (#[Value.string { data := #[88] }, .string { data := #[89] }, .string { data := #[90] }, .string { data := #[120] }, .string { data := #[121] }, .string { data := #[122] }] : Array Value)[i]? = some (.string (strOf [V6[i]'h])) := by
  match i, h with
  | 0, _ => rfl
  | 1, _ => rfl
  | 2, _ => rfl
  | 3, _ => rfl
  | 4, _ => rfl
  | 5, _ => rfl

/-- What the model's loop adds for a letter. -/
theorem cv_pos (s : ByteArray) (c : UInt8) (hc : isVarB c = true) : (0 < cvOf s (strOf [c])) ↔ ((tyOf s.data.toList).isSome = true ∧ 0 < s.data.toList.count c) := by
  have h1 : (strOf [c]).data.toList.headD 0 = c := rfl
  have h2 : (strOf [c]).size = 1 := rfl
  rw [cvOf, h1]
  by_cases ht : (tyOf s.data.toList).isSome = true
  · rw [if_pos ⟨ht, h2, hc⟩]
    simp only [ht, true_and]
    omega
  · rw [if_neg (fun h => ht h.1)]
    simp [ht]
theorem V6_var (i : Nat) (h : i < 6) : isVarB (V6[i]'h) = true := by
  match i, h with
  | 0, _ => rfl
  | 1, _ => rfl
  | 2, _ => rfl
  | 3, _ => rfl
  | 4, _ => rfl
  | 5, _ => rfl

/-- A type's variables. -/
def varsOf (l : List UInt8) : List UInt8 := if (tyOf l).isSome = true then varsIn l V6.data.toList else []

/-- A type without variables. -/
def groundB (l : List UInt8) : Bool := (tyOf l).isSome && (varsOf l).isEmpty

end Go.Proofs.Yteimmgajohimlaa
