/- The small functions on letters: how many parts a letter has, in the program and in the model; each answers arI and writes nothing. -/
import Derived.Test.YtpbjkblinenccaaProg
import Derived.Test.YtpbjkblinenccaaTy
import Derived.WalkKit
import Derived.WalkSpells
import Derived.WalkLawsBesides
import Derived.Lib.Bytealg
namespace Go.Proofs.Ytpbjkblinenccaa
open Go.RowKit

theorem hid {p : Prop} (h : p) : Hid p := h

theorem ret_int {k : IntKind} {a b : Int} (h : a = b) : Ending.returned (.int k a) = .returned (.int k b) := by rw [h]
theorem ret_bool {a b : Bool} (h : a = b) : Ending.returned (.bool a) = .returned (.bool b) := by rw [h]

set_option maxHeartbeats 400000 in
theorem partsNeeded_any (c : Int) (w : World) :
    Calls Try.prog 46 #[.int .u8 c] w fun e w' => e = .returned (.int .i64 (arI c)) ∧ w' = w := by
  go_enter Try.func46, Try.ntmps46
  go_wp2
  all_goals go_ret
  all_goals refine ⟨ret_int ?_, rfl⟩
  all_goals (simp only [beq_iff_eq, beq_eq_false_iff_ne, ne_eq] at *; unfold arI; simp [*])

/-- The index of a byte in a list of bytes, -1 if it is none. -/
def findI (l : List UInt8) (c : UInt8) : Int :=
  match l.findIdx? (· == c) with
  | some k => k
  | none => -1

theorem findI_at {l : List UInt8} {c : UInt8} {k : Nat} (hk : k < l.length) (h : l[k] = c) (hno : ∀ j, (hj : j < k) → (hk : j < l.length) → l[j] ≠ c) : findI l c = k := by
  have e : l.findIdx? (· == c) = some k := by
    rw [List.findIdx?_eq_some_iff_getElem]
    refine ⟨hk, by simpa using h, fun j hj => ?_⟩
    simpa using hno j hj (by omega)
  unfold findI
  rw [e]
theorem findI_no {l : List UInt8} {c : UInt8} (hno : ∀ j, (hk : j < l.length) → l[j] ≠ c) : findI l c = -1 := by
  have e : l.findIdx? (· == c) = none := by
    rw [List.findIdx?_eq_none_iff]
    intro x hx
    obtain ⟨j, hj, rfl⟩ := List.mem_iff_getElem.1 hx
    simpa using hno j hj
  unfold findI
  rw [e]

theorem u8_eq {a b : UInt8} (h : ((a.toNat : Int) == (b.toNat : Int)) = true) : a = b := by
  rw [beq_iff_eq] at h
  exact UInt8.toNat_inj.1 (by omega)
theorem u8_ne {a b : UInt8} (h : ((a.toNat : Int) == (b.toNat : Int)) = false) : a ≠ b := by
  rintro rfl
  simp at h

set_option maxHeartbeats 400000 in
theorem l13Find_any (s : ByteArray) (c : UInt8) (w : World) (hs : s.size ≤ maxLen) :
    Calls Try.prog 73 #[.string s, .int .u8 c.toNat] w fun e w' => e = .returned (.int .i64 (findI s.data.toList c)) ∧ w' = w := by
  unfold maxLen at hs
  go_enter Try.func73, Try.ntmps73
  go_wp2
  go_loop [5] (fun i => ∃ k : Nat, k ≤ s.size ∧ i = .int .i64 k ∧ ∀ j, (hj : j < k) → (hk : j < s.data.toList.length) → s.data.toList[j] ≠ c) (fun i => s.size - (intOf i).toNat)
  case atStart => exact ⟨0, Nat.zero_le _, rfl, fun j hj => by omega⟩
  case round =>
    obtain ⟨k, hk, rfl, hno⟩ := hrel
    have HN := hid hno
    clear hno
    by_cases hlt : k < s.size
    · go_wp2
      · go_ret
        have h : (↑s[k].toNat == (c.toNat : Int)) = true := by assumption
        exact ⟨ret_int (findI_at (by simpa using hlt) (u8_eq h) HN.out).symm, rfl⟩
      · have h : (↑s[k].toNat == (c.toNat : Int)) = false := by assumption
        go_round
        case rel =>
          refine ⟨k + 1, by omega, by go_num, fun j hj hk' => ?_⟩
          by_cases e : j = k
          · subst e; exact u8_ne h
          · exact HN.out j (by omega) hk'
        case measure => simp [intOf]; omega
    · go_wp2
      go_ret
      exact ⟨ret_int (findI_no (fun j hj => HN.out j (by simp at hj; omega) hj)).symm, rfl⟩

theorem l13Find_at (s : ByteArray) (c : UInt8) (w : World) (hs : s.size ≤ maxLen) (k : Int) (hk : Hid (findI s.data.toList c = k)) :
    Calls Try.prog 73 #[.string s, .int .u8 c.toNat] w fun e w' => e = .returned (.int .i64 k) ∧ w' = w := by
  rw [← hk.out]
  exact l13Find_any s c w hs

/-- The letters of types, in the model's order. -/
def letters : List UInt8 := [105, 98, 117, 108, 109, 112, 120, 121, 122, 88, 89, 90]
theorem u8_all {p : UInt8 → Prop} (h : ∀ n, n < 256 → p (UInt8.ofNat n)) (c : UInt8) : p c := by
  have := h c.toNat c.toNat_lt
  rwa [UInt8.ofNat_toNat] at this
def idxAr (k : Int) : Int := if k < 0 then -1 else if k = 3 ∨ k = 4 then 1 else if k = 5 then 2 else 0
theorem arity_find (c : UInt8) : idxAr (findI letters c) = ar c := by
  refine u8_all (p := fun c => idxAr (findI letters c) = ar c) ?_ c
  decide +kernel
/-- A letter that is a variable. -/
def isVarB (c : UInt8) : Bool := c == 88 || c == 89 || c == 90 || c == 120 || c == 121 || c == 122
theorem var_find (c : UInt8) : decide (findI letters c ≥ 6) = isVarB c := by
  refine u8_all (p := fun c => decide (findI letters c ≥ 6) = isVarB c) ?_ c
  decide +kernel

set_option maxHeartbeats 400000 in
theorem l1Arity_any (c : UInt8) (w : World) :
    Calls Try.prog 99 #[.int .u8 c.toNat] w fun e w' => e = .returned (.int .i64 (ar c)) ∧ w' = w := by
  obtain ⟨k, hk, ha⟩ : ∃ k, findI letters c = k ∧ idxAr k = ar c := ⟨_, rfl, arity_find c⟩
  have HA := hid ha
  have HK := hid hk
  clear ha hk
  go_enter Try.func99, Try.ntmps99
  go_wp2_with (go_at_call 73; refine (l13Find_at _ _ _ (by decide) k HK).mono ?_; rintro e w' ⟨rfl, rfl⟩)
  all_goals go_ret
  all_goals refine ⟨ret_int ?_, rfl⟩
  all_goals
    rw [← HA.out]
    try simp only [beq_iff_eq, beq_eq_false_iff_ne, ne_eq] at *
    unfold idxAr
    (repeat' split) <;> omega

set_option maxHeartbeats 400000 in
theorem l1Variable_any (c : UInt8) (w : World) :
    Calls Try.prog 42 #[.int .u8 c.toNat] w fun e w' => e = .returned (.bool (isVarB c)) ∧ w' = w := by
  obtain ⟨k, hk, hv⟩ : ∃ k, findI letters c = k ∧ decide (k ≥ 6) = isVarB c := ⟨_, rfl, var_find c⟩
  have HK := hid hk
  have HV := hid hv
  clear hk hv
  go_enter Try.func42, Try.ntmps42
  go_wp2_with (go_at_call 73; refine (l13Find_at _ _ _ (by decide) k HK).mono ?_; rintro e w' ⟨rfl, rfl⟩)
  go_ret
  exact ⟨ret_bool HV.out, rfl⟩

theorem index_ge : ∀ c : UInt8, decide (0 ≤ Lib.indexByte [88, 89, 90, 120, 121, 122] c) = isVarB c := by
  intro c
  refine u8_all (p := fun c => decide (0 ≤ Lib.indexByte [88, 89, 90, 120, 121, 122] c) = isVarB c) ?_ c
  decide +kernel

set_option maxHeartbeats 400000 in
set_option maxRecDepth 100000 in
theorem stringslite_IndexByte_any (s : ByteArray) (c : Int) (w : World) :
    Calls Try.prog 109 #[.string s, .int .u8 c] w fun e w' => e = .returned (.int .i64 (Lib.indexByte s.data.toList c.toNat.toUInt8)) ∧ w' = w := by
  go_enter Try.func109, Try.ntmps109
  go_wp2
  rw [run_callFunc_extern Try.func126 (by kernel_rfl) (by kernel_rfl) (by kernel_rfl) (e := Extern.BytealgIndexByte.indexByte) (by kernel_rfl), Lib.run_indexByteString]
  simp only [Result.andThen]
  rw [Oper.upon_value]
  go_wp2
  go_ret
  exact ⟨rfl, rfl⟩

set_option maxHeartbeats 400000 in
theorem isVariable_any (c : UInt8) (w : World) :
    Calls Try.prog 96 #[.int .u8 c.toNat] w fun e w' => e = .returned (.bool (isVarB c)) ∧ w' = w := by
  have hv := index_ge c
  have HV := hid hv
  clear hv
  go_enter Try.func96, Try.ntmps96
  go_wp2_with (first | (go_at_call 92; go_in) | (go_at_call 109; refine (stringslite_IndexByte_any _ _ _).mono ?_; rintro e w' ⟨rfl, rfl⟩))
  go_ret
  refine ⟨ret_bool ?_, rfl⟩
  rw [← HV.out]
end Go.Proofs.Ytpbjkblinenccaa
