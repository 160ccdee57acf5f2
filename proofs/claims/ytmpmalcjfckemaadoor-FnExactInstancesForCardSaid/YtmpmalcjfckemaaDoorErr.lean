/- Errors in the program, one or none; names of classes. -/
import Derived.Test.YtmpmalcjfckemaaDoorWdW
import Derived.Test.YtmpmalcjfckemaaDoorBvI
import Derived.Test.YtmpmalcjfckemaaDoorBvS
import Derived.OwnWalk
namespace Go.Proofs.YtmpmalcjfckemaaDoor
open Go.RowKit

/-- An error, or none. -/
def IsErr (v : Value) (b : Bool) : Prop := (b = false ∧ v = .nilIface) ∨ (b = true ∧ ∃ t a, v = .iface t (.pointer (some a)))
theorem IsErr.nil : IsErr .nilIface false := .inl ⟨rfl, rfl⟩
theorem IsErr.some (t : TypeId) (a : Addr) : IsErr (.iface t (.pointer (some a))) true := .inr ⟨rfl, t, a, rfl⟩
theorem IsErr.cells {v : Value} {b : Bool} (h : IsErr v b) : v.cells = #[v] := by
  rcases h with ⟨_, rfl⟩ | ⟨_, t, a, rfl⟩ <;> rfl
theorem IsErr.one {v : Value} {b : Bool} (h : IsErr v b) : v.oneCell' = true := by
  rcases h with ⟨_, rfl⟩ | ⟨_, t, a, rfl⟩ <;> rfl

set_option maxHeartbeats 400000 in
theorem unless_any (well : Bool) (v : Value) (b : Bool) (h : IsErr v b) (w : World) :
    Calls Tryd.prog 78 #[.bool well, v] w fun e w' => (∃ u, e = .returned u ∧ IsErr u (!well && b)) ∧ w' = w := by
  cases well
  · go_enter Tryd.func78, Tryd.ntmps78
    go_wp2_with fail
    go_ret
    exact ⟨⟨v, rfl, h⟩, rfl⟩
  · go_enter Tryd.func78, Tryd.ntmps78
    go_wp2_with fail
    go_ret
    exact ⟨⟨.nilIface, rfl, .inl ⟨rfl, rfl⟩⟩, rfl⟩

set_option maxHeartbeats 400000 in
theorem unlessT (v : Value) (w : World) : Calls Tryd.prog 78 #[.bool true, v] w fun e w' => e = .returned .nilIface ∧ w' = w := by
  go_enter Tryd.func78, Tryd.ntmps78
  go_wp2_with fail
  go_ret
  exact ⟨rfl, rfl⟩
set_option maxHeartbeats 400000 in
theorem unlessF (v : Value) (w : World) : Calls Tryd.prog 78 #[.bool false, v] w fun e w' => e = .returned v ∧ w' = w := by
  go_enter Tryd.func78, Tryd.ntmps78
  go_wp2_with fail
  go_ret
  exact ⟨rfl, rfl⟩
theorem isNm_size {s : ByteArray} (h : s.size ≠ 1) : isNm s.data.toList = false := by
  unfold isNm
  split
  · rename_i c e
    exact absurd (by have : s.size = s.data.toList.length := by simp
                     rw [this, e]; rfl) h
  · rfl

set_option maxHeartbeats 400000 in
theorem isName_any (s : ByteArray) (w : World) : Calls Tryd.prog 82 #[.string s] w fun e w' => e = .returned (.bool (isNm s.data.toList)) ∧ w' = w := by
  by_cases h1 : s.size = 1
  · obtain ⟨c, hc, hx⟩ := one_list h1
    have h0 : 0 < s.size := by omega
    have hx0 := hx h0
    have e : isNm s.data.toList = (decide (65 ≤ c.toNat) && decide (c.toNat ≤ 84)) := by rw [hc]; rfl
    rw [e]
    clear e hx hc
    by_cases h2 : 65 ≤ c.toNat
    · have h3 : (65 : Int) ≤ (c.toNat : Int) := by omega
      by_cases h4 : c.toNat ≤ 84
      · have h5 : (c.toNat : Int) ≤ 84 := by omega
        go_enter Tryd.func82, Tryd.ntmps82
        go_wp2_with fail
        go_ret
        exact ⟨by rw [decide_eq_true h2, decide_eq_true h4]; rfl, rfl⟩
      · have h5 : ¬ (c.toNat : Int) ≤ 84 := by omega
        go_enter Tryd.func82, Tryd.ntmps82
        go_wp2_with fail
        go_ret
        exact ⟨rfl, rfl⟩
    · have h3 : ¬ (65 : Int) ≤ (c.toNat : Int) := by omega
      go_enter Tryd.func82, Tryd.ntmps82
      go_wp2_with fail
      go_ret
      exact ⟨rfl, rfl⟩
  · rw [isNm_size h1]
    have h2 : ((s.size : Int) == 1) = false := by simp; omega
    go_enter Tryd.func82, Tryd.ntmps82
    go_wp2_with fail
    go_ret
    exact ⟨rfl, rfl⟩

theorem ib_neg (l : List UInt8) (c : UInt8) : (Lib.indexByte l c < 0) ↔ l.contains c = false := by
  induction l with
  | nil => exact ⟨fun _ => rfl, fun _ => (by decide : (-1 : Int) < 0)⟩
  | cons b l ih =>
    have hge := Lib.indexByte_ge l c
    rw [List.contains_cons]
    unfold Lib.indexByte
    by_cases e : b = c
    · subst e; simp
    · have e1 : (b == c) = false := beq_eq_false_iff_ne.2 e
      have e2 : (c == b) = false := beq_eq_false_iff_ne.2 fun h => e h.symm
      rw [e1, e2, Bool.false_or, ← ih]
      simp only [Bool.false_eq_true, if_false]
      split
      · rename_i h
        have h' : Lib.indexByte l c = -1 := by simpa using h
        rw [h']
      · rename_i h
        have h' : Lib.indexByte l c ≠ -1 := by simpa using h
        omega
theorem inB_take {l t : List UInt8} (k : Nat) (h : inB (l.take k) t = false) : inB l t = false := by
  have e : inB l t = (inB (l.take k) t && inB (l.drop k) t) := by
    unfold inB
    rw [← List.all_append, List.take_append_drop]
  rw [e, h]
  rfl
theorem inB_snoc {l t : List UInt8} {k : Nat} {c : UInt8} (h : l[k]? = some c) : inB (l.take (k + 1)) t = (inB (l.take k) t && t.contains c) := by
  unfold inB
  rw [List.take_add_one, h, List.all_append]
  simp
theorem byte_at {s : ByteArray} {k : Nat} (h : k < s.size) : s.data.toList[k]? = some s[k] := by
  rw [List.getElem?_eq_getElem (by simpa using h)]
  rfl

set_option maxHeartbeats 1000000 in
set_option maxRecDepth 100000 in
theorem isAscending_any (s : ByteArray) (hs : s.size ≤ maxLen) (w : World) : Calls Tryd.prog 83 #[.string s] w fun e w' => e = .returned (.bool (ascB s.data.toList)) ∧ Below w.heap.size w w' := by
  have hl : s.data.toList.length = s.size := by simp
  have HL := hid hl
  clear hl
  unfold maxLen at hs
  go_enter Tryd.func83, Tryd.ntmps83
  go_wp2_with fail
  go_loopw [3] (fun i wr => ∃ k : Nat, k ≤ s.size ∧ i = .int .i64 ((k : Int) + 1) ∧ ascB (s.data.toList.take (k + 1)) = true ∧ Below w.heap.size w wr) (fun i _ => s.size + 1 - (intOf i).toNat)
  case atStart =>
    refine ⟨0, Nat.zero_le _, rfl, ?_, Below.refl _ _⟩
    rcases s.data.toList with _ | ⟨a, l⟩ <;> rfl
  case round =>
    obtain ⟨k, hk, rfl, hasc, hbel⟩ := hrel
    have HASC := hid hasc
    clear hasc
    by_cases hlt : k + 1 < s.size
    · have h0 : k < s.size := by omega
      have ha := byte_at h0
      have hb := byte_at hlt
      obtain ⟨a, ea⟩ : ∃ a, s[k] = a := ⟨_, rfl⟩
      obtain ⟨b, eb⟩ : ∃ b, s[k + 1] = b := ⟨_, rfl⟩
      rw [ea] at ha
      rw [eb] at hb
      have HST := hid (ascB_step ha hb)
      have i1 : (k : Int) + 1 < (s.size : Int) := by omega
      have i2 : (0 : Int) ≤ (k : Int) := by omega
      clear ha hb
      go_wp2_with fail
      go_quiet (fail)
      by_cases hab : a < b
      · have hn : ¬ b.toNat ≤ a.toNat := by have := UInt8.lt_iff_toNat_lt.1 hab; omega
        have HA2 := hid (show ascB (s.data.toList.take (k + 2)) = true by rw [HST.out, HASC.out, decide_eq_true hab]; rfl)
        clear hab
        go_wp2_with fail
        go_roundw
        case rel => exact ⟨k + 1, by omega, by go_num, HA2.out, hbel.trans ⟨rfl, rfl, rfl, Nat.le_refl _, fun _ _ => rfl⟩⟩
        case measure => simp [intOf]; omega
      · have hn : b.toNat ≤ a.toNat := by
          refine Decidable.byContradiction fun h => hab (UInt8.lt_iff_toNat_lt.2 (by omega))
        have HA2 := hid (show ascB s.data.toList = false from ascB_take (k + 2) (by rw [HST.out, decide_eq_false hab, Bool.and_false]))
        clear hab
        go_wp2_with fail
        go_ret
        exact ⟨by rw [HA2.out]; rfl, hbel.trans ⟨rfl, rfl, rfl, Nat.le_refl _, fun _ _ => rfl⟩⟩
    · have HA2 := hid (show ascB s.data.toList = true by
        have h := HASC.out
        rwa [List.take_of_length_le (by rw [HL.out]; omega)] at h)
      go_wp2_with fail
      go_ret
      exact ⟨by rw [HA2.out]; rfl, hbel⟩

set_option maxHeartbeats 1000000 in
set_option maxRecDepth 100000 in
theorem standIn_any (s t : ByteArray) (hs : s.size ≤ maxLen) (w : World) : Calls Tryd.prog 84 #[.string s, .string t] w fun e w' => e = .returned (.bool (inB s.data.toList t.data.toList)) ∧ w' = w := by
  have hl : s.data.toList.length = s.size := by simp
  have HL := hid hl
  clear hl
  unfold maxLen at hs
  go_enter Tryd.func84, Tryd.ntmps84
  go_wp2_with fail
  go_loopw [8] (fun i wr => ∃ k : Nat, k ≤ s.size ∧ i = .int .i64 k ∧ inB (s.data.toList.take k) t.data.toList = true ∧ wr = w) (fun i _ => s.size - (intOf i).toNat)
  case atStart => exact ⟨0, Nat.zero_le _, rfl, rfl, rfl⟩
  case round =>
    obtain ⟨k, hk, rfl, hin, rfl⟩ := hrel
    have HIN := hid hin
    clear hin
    by_cases hlt : k < s.size
    · have hc := byte_at hlt
      have HSN := hid (inB_snoc (t := t.data.toList) hc)
      obtain ⟨q, hq⟩ : ∃ q, Lib.indexByte t.data.toList s[k] = q := ⟨_, rfl⟩
      have hneg := ib_neg t.data.toList s[k]
      rw [hq] at hneg
      have HQ := hid hq
      have HNEG := hid hneg
      have i1 : (0 : Int) ≤ (k : Int) := by omega
      have i2 : (k : Int) < (s.size : Int) := by omega
      clear hc hq hneg
      by_cases hq0 : q < 0
      · have HF := hid (show inB s.data.toList t.data.toList = false from inB_take (k + 1) (by rw [HSN.out, HNEG.out.1 hq0, Bool.and_false]))
        go_wp2_with (first | (go_at_call 81; refine (strings_IndexByte_any t _ _ q HQ).mono ?_; rintro e w' ⟨rfl, rfl⟩) | fail)
        go_ret
        exact ⟨by rw [HF.out]; rfl, rfl⟩
      · have HT := hid (show inB (s.data.toList.take (k + 1)) t.data.toList = true by
          rw [HSN.out, HIN.out, Bool.true_and]
          rw [← Bool.not_eq_false]
          exact fun h => hq0 (HNEG.out.2 h))
        go_wp2_with (first | (go_at_call 81; refine (strings_IndexByte_any t _ _ q HQ).mono ?_; rintro e w' ⟨rfl, rfl⟩) | fail)
        go_roundw
        case rel => exact ⟨k + 1, hlt, by go_num, HT.out, by trivial⟩
        case measure => simp [intOf]; omega
    · have e : s.data.toList.take k = s.data.toList := List.take_of_length_le (by rw [HL.out]; omega)
      have HE := hid e
      clear e
      go_wp2_with fail
      go_ret
      have h := HIN.out
      rw [HE.out] at h
      exact ⟨by rw [h]; rfl, rfl⟩

end Go.Proofs.YtmpmalcjfckemaaDoor
