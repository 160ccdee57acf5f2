/- The small functions on letters: how many parts a letter has, in the program and in the model; each answers arI and writes nothing. The program's reader of types: its steps, its recursion; what it builds in memory. The program's readType: it reads a type, or recovers from the reader's panic. -/
import Derived.Test.YtgbbobjkhpplkaaDoorProg
import Derived.Test.YtgbbobjkhpplkaaDoorTy
import Derived.WalkKit
import Derived.WalkSpells
import Derived.WalkLawsBesides
import Derived.Lib.Bytealg
import Derived.Deep.QuietTactic
import Derived.BigQuiet
import Derived.LoopN
import Derived.Lib.IndexBytes
import Derived.Defers
import Derived.Recover
namespace Go.Proofs.YtgbbobjkhpplkaaDoor
open Go.RowKit

theorem hid {p : Prop} (h : p) : Hid p := h

theorem ret_int {k : IntKind} {a b : Int} (h : a = b) : Ending.returned (.int k a) = .returned (.int k b) := by rw [h]
theorem ret_bool {a b : Bool} (h : a = b) : Ending.returned (.bool a) = .returned (.bool b) := by rw [h]

set_option maxHeartbeats 400000 in
theorem partsNeeded_any (c : Int) (w : World) :
    Calls Tryd.prog 71 #[.int .u8 c] w fun e w' => e = .returned (.int .i64 (arI c)) ∧ w' = w := by
  go_enter Tryd.func71, Tryd.ntmps71
  go_wp2
  all_goals go_ret
  all_goals refine ⟨ret_int ?_, rfl⟩
  all_goals (simp only [beq_iff_eq, beq_eq_false_iff_ne, ne_eq] at *; unfold arI; simp [*])

/-- The index of a byte in a list of bytes, -1 if it is none. -/
def findI (l : List UInt8) (c : UInt8) : Int :=
  match l.findIdx? (· == c) with
  | some k => k
  | none => -1

theorem findI_at {l : List UInt8} {c : UInt8} {k : Nat} (hk : k < l.length) (h : l[k] = c) (hno : ∀ j, (hj : j < k) → (hk : j < l.length) → l[j] ≠ c) : findI l c = k := by
  have e : l.findIdx? (· == c) = some k := by
    rw [List.findIdx?_eq_some_iff_getElem]
    refine ⟨hk, by simpa using h, fun j hj => ?_⟩
    simpa using hno j hj (by omega)
  unfold findI
  rw [e]
theorem findI_no {l : List UInt8} {c : UInt8} (hno : ∀ j, (hk : j < l.length) → l[j] ≠ c) : findI l c = -1 := by
  have e : l.findIdx? (· == c) = none := by
    rw [List.findIdx?_eq_none_iff]
    intro x hx
    obtain ⟨j, hj, rfl⟩ := List.mem_iff_getElem.1 hx
    simpa using hno j hj
  unfold findI
  rw [e]

theorem u8_eq {a b : UInt8} (h : ((a.toNat : Int) == (b.toNat : Int)) = true) : a = b := by
  rw [beq_iff_eq] at h
  exact UInt8.toNat_inj.1 (by omega)
theorem u8_ne {a b : UInt8} (h : ((a.toNat : Int) == (b.toNat : Int)) = false) : a ≠ b := by
  rintro rfl
  simp at h

set_option maxHeartbeats 400000 in
theorem l13Find_any (s : ByteArray) (c : UInt8) (w : World) (hs : s.size ≤ maxLen) :
    Calls Tryd.prog 53 #[.string s, .int .u8 c.toNat] w fun e w' => e = .returned (.int .i64 (findI s.data.toList c)) ∧ w' = w := by
  unfold maxLen at hs
  go_enter Tryd.func53, Tryd.ntmps53
  go_wp2
  go_loop [5] (fun i => ∃ k : Nat, k ≤ s.size ∧ i = .int .i64 k ∧ ∀ j, (hj : j < k) → (hk : j < s.data.toList.length) → s.data.toList[j] ≠ c) (fun i => s.size - (intOf i).toNat)
  case atStart => exact ⟨0, Nat.zero_le _, rfl, fun j hj => by omega⟩
  case round =>
    obtain ⟨k, hk, rfl, hno⟩ := hrel
    have HN := hid hno
    clear hno
    by_cases hlt : k < s.size
    · go_wp2
      · go_ret
        have h : (↑s[k].toNat == (c.toNat : Int)) = true := by assumption
        exact ⟨ret_int (findI_at (by simpa using hlt) (u8_eq h) HN.out).symm, rfl⟩
      · have h : (↑s[k].toNat == (c.toNat : Int)) = false := by assumption
        go_round
        case rel =>
          refine ⟨k + 1, by omega, by go_num, fun j hj hk' => ?_⟩
          by_cases e : j = k
          · subst e; exact u8_ne h
          · exact HN.out j (by omega) hk'
        case measure => simp [intOf]; omega
    · go_wp2
      go_ret
      exact ⟨ret_int (findI_no (fun j hj => HN.out j (by simp at hj; omega) hj)).symm, rfl⟩

theorem l13Find_at (s : ByteArray) (c : UInt8) (w : World) (hs : s.size ≤ maxLen) (k : Int) (hk : Hid (findI s.data.toList c = k)) :
    Calls Tryd.prog 53 #[.string s, .int .u8 c.toNat] w fun e w' => e = .returned (.int .i64 k) ∧ w' = w := by
  rw [← hk.out]
  exact l13Find_any s c w hs

/-- The letters of types, in the model's order. -/
def letters : List UInt8 := [105, 98, 117, 108, 109, 112, 120, 121, 122, 88, 89, 90]
theorem u8_all {p : UInt8 → Prop} (h : ∀ n, n < 256 → p (UInt8.ofNat n)) (c : UInt8) : p c := by
  have := h c.toNat c.toNat_lt
  rwa [UInt8.ofNat_toNat] at this
def idxAr (k : Int) : Int := if k < 0 then -1 else if k = 3 ∨ k = 4 then 1 else if k = 5 then 2 else 0
theorem arity_find (c : UInt8) : idxAr (findI letters c) = ar c := by
  refine u8_all (p := fun c => idxAr (findI letters c) = ar c) ?_ c
  decide +kernel
/-- A letter that is a variable. -/
def isVarB (c : UInt8) : Bool := c == 88 || c == 89 || c == 90 || c == 120 || c == 121 || c == 122
theorem var_find (c : UInt8) : decide (findI letters c ≥ 6) = isVarB c := by
  refine u8_all (p := fun c => decide (findI letters c ≥ 6) = isVarB c) ?_ c
  decide +kernel

set_option maxHeartbeats 400000 in
theorem l1Arity_any (c : UInt8) (w : World) :
    Calls Tryd.prog 75 #[.int .u8 c.toNat] w fun e w' => e = .returned (.int .i64 (ar c)) ∧ w' = w := by
  obtain ⟨k, hk, ha⟩ : ∃ k, findI letters c = k ∧ idxAr k = ar c := ⟨_, rfl, arity_find c⟩
  have HA := hid ha
  have HK := hid hk
  clear ha hk
  go_enter Tryd.func75, Tryd.ntmps75
  go_wp2_with (go_at_call 53; refine (l13Find_at _ _ _ (by decide) k HK).mono ?_; rintro e w' ⟨rfl, rfl⟩)
  all_goals go_ret
  all_goals refine ⟨ret_int ?_, rfl⟩
  all_goals
    rw [← HA.out]
    try simp only [beq_iff_eq, beq_eq_false_iff_ne, ne_eq] at *
    unfold idxAr
    (repeat' split) <;> omega

set_option maxHeartbeats 400000 in
theorem l1Variable_any (c : UInt8) (w : World) :
    Calls Tryd.prog 42 #[.int .u8 c.toNat] w fun e w' => e = .returned (.bool (isVarB c)) ∧ w' = w := by
  obtain ⟨k, hk, hv⟩ : ∃ k, findI letters c = k ∧ decide (k ≥ 6) = isVarB c := ⟨_, rfl, var_find c⟩
  have HK := hid hk
  have HV := hid hv
  clear hk hv
  go_enter Tryd.func42, Tryd.ntmps42
  go_wp2_with (go_at_call 53; refine (l13Find_at _ _ _ (by decide) k HK).mono ?_; rintro e w' ⟨rfl, rfl⟩)
  go_ret
  exact ⟨ret_bool HV.out, rfl⟩

theorem index_ge : ∀ c : UInt8, decide (0 ≤ Lib.indexByte [88, 89, 90, 120, 121, 122] c) = isVarB c := by
  intro c
  refine u8_all (p := fun c => decide (0 ≤ Lib.indexByte [88, 89, 90, 120, 121, 122] c) = isVarB c) ?_ c
  decide +kernel

set_option maxHeartbeats 400000 in
set_option maxRecDepth 100000 in
theorem stringslite_IndexByte_any (s : ByteArray) (c : Int) (w : World) :
    Calls Tryd.prog 79 #[.string s, .int .u8 c] w fun e w' => e = .returned (.int .i64 (Lib.indexByte s.data.toList c.toNat.toUInt8)) ∧ w' = w := by
  go_enter Tryd.func79, Tryd.ntmps79
  go_wp2
  rw [run_callFunc_extern Tryd.func80 (by kernel_rfl) (by kernel_rfl) (by kernel_rfl) (e := Extern.BytealgIndexByte.indexByte) (by kernel_rfl), Lib.run_indexByteString]
  simp only [Result.andThen]
  rw [Oper.upon_value]
  go_wp2
  go_ret
  exact ⟨rfl, rfl⟩

set_option maxHeartbeats 400000 in
theorem isVariable_any (c : UInt8) (w : World) :
    Calls Tryd.prog 73 #[.int .u8 c.toNat] w fun e w' => e = .returned (.bool (isVarB c)) ∧ w' = w := by
  have hv := index_ge c
  have HV := hid hv
  clear hv
  go_enter Tryd.func73, Tryd.ntmps73
  go_wp2_with (first | (go_at_call 76; go_in) | (go_at_call 79; refine (stringslite_IndexByte_any _ _ _).mono ?_; rintro e w' ⟨rfl, rfl⟩))
  go_ret
  refine ⟨ret_bool ?_, rfl⟩
  rw [← HV.out]
end Go.Proofs.YtgbbobjkhpplkaaDoor

namespace Go.Proofs.YtgbbobjkhpplkaaDoor
open Go.RowKit

/-- What the reader panics with. -/
def noTypeC : List PanicEntry := [{ v := .iface 129 (.agg #[]), recovered := false }]

set_option maxHeartbeats 400000 in
theorem nextI_no (rb : Nat) (s : ByteArray) (w : World) (hc : w.cell? ⟨rb, 0, none⟩ = some (.string s)) (h0 : s.toList.isEmpty = true) :
    Calls Tryd.prog 70 #[.pointer (some ⟨rb, 0, none⟩)] w fun e w' => e = .panicked noTypeC ∧ w' = w := by
  go_enter Tryd.func70, Tryd.ntmps70
  go_wp2
  exact ⟨rfl, rfl, rfl⟩

set_option maxHeartbeats 400000 in
theorem nextI_some (rb : Nat) (s : ByteArray) (w : World) (hc : w.cell? ⟨rb, 0, none⟩ = some (.string s)) (hf : w.frozen? ⟨rb, 0, none⟩ = false) (h1 : s.toList.isEmpty = false) (h0 : 0 < s.size) (hs : s.size ≤ maxLen) :
    Calls Tryd.prog 70 #[.pointer (some ⟨rb, 0, none⟩)] w fun e w' => e = .returned (.int .u8 s[0].toNat) ∧ w' = w.setCell ⟨rb, 0, none⟩ (.string (s.extract 1 s.size)) := by
  unfold maxLen at hs
  go_enter Tryd.func70, Tryd.ntmps70
  go_wp2
  go_ret
  exact ⟨rfl, rfl⟩

/-- The reader at block rb holds the rest l. -/
def Rd (w : World) (rb : Nat) (l : List UInt8) : Prop :=
  ∃ s : ByteArray, w.heap[rb]? = some (.cells #[.string s] 110 (0, 0)) ∧ s.data.toList = l ∧ s.size ≤ maxLen

/-- Below block number B, but for block rb, w' is as w was. -/
structure But (B rb : Nat) (w w' : World) : Prop where
  os : w'.os = w.os
  tape : w'.tape = w.tape
  output : w'.output = w.output
  size : w.heap.size ≤ w'.heap.size
  block : ∀ k, k < B → k ≠ rb → w'.heap[k]? = w.heap[k]?

theorem But.refl (B rb : Nat) (w : World) : But B rb w w := ⟨rfl, rfl, rfl, Nat.le_refl _, fun _ _ _ => rfl⟩
theorem But.trans {B rb : Nat} {a b c : World} (h : But B rb a b) (k : But B rb b c) : But B rb a c :=
  ⟨k.os.trans h.os, k.tape.trans h.tape, k.output.trans h.output, Nat.le_trans h.size k.size, fun i hi hr => (k.block i hi hr).trans (h.block i hi hr)⟩
theorem But.mono {B B' rb : Nat} {w w' : World} (h : But B rb w w') (hB : B' ≤ B) : But B' rb w w' := ⟨h.os, h.tape, h.output, h.size, fun k hk hr => h.block k (Nat.lt_of_lt_of_le hk hB) hr⟩
theorem But.of_below {B rb : Nat} {w w' : World} (h : Below B w w') : But B rb w w' := ⟨h.os, h.tape, h.output, h.size, fun k hk _ => h.block k hk⟩
theorem But.set {B rb : Nat} {a w : World} (h : But B rb a w) (o : Nat) (u : Value) : But B rb a (w.setCell ⟨rb, o, none⟩ u) :=
  h.trans ⟨rfl, rfl, rfl, by simp [World.setCell], fun _ _ hr => Below.heap_setCell _ _ _ _ hr⟩
theorem But.below {B rb : Nat} {w w' : World} (h : But B rb w w') (hB : B ≤ rb) : Below B w w' := ⟨h.os, h.tape, h.output, h.size, fun k hk => h.block k hk (by omega)⟩
theorem But.drewN {B rb : Nat} {a w : World} (h : But B rb a w) (n : Nat) : But B rb a (w.drewN n) := h.trans ⟨rfl, rfl, rfl, Nat.le_refl _, fun _ _ _ => rfl⟩
theorem But.below' {B B' rb : Nat} {w w' : World} (h : But B rb w w') (hB : B' ≤ B) (hr : B' ≤ rb) : Below B' w w' := (h.mono hB).below hr
theorem But.alloc {B rb : Nat} {a w : World} (h : But B rb a w) (hB : B ≤ w.heap.size) (o : Obj) : But B rb a (w.alloc o) :=
  h.trans (But.of_below ((Below.refl _ _).alloc hB o))

theorem Rd.lt {w : World} {rb : Nat} {l : List UInt8} (h : Rd w rb l) : rb < w.heap.size := by
  obtain ⟨s, h, _⟩ := h
  exact (Array.getElem?_eq_some_iff.1 h).1
theorem Rd.keep {w w' : World} {rb : Nat} {l : List UInt8} (h : Rd w rb l) (e : w'.heap[rb]? = w.heap[rb]?) : Rd w' rb l := by
  obtain ⟨s, h1, h2⟩ := h
  exact ⟨s, e.trans h1, h2⟩

/-- A step of the reader, said of lists. -/
theorem nextI_any (rb : Nat) (l : List UInt8) (w : World) (hr : Rd w rb l) :
    Calls Tryd.prog 70 #[.pointer (some ⟨rb, 0, none⟩)] w fun e w' =>
      But w.heap.size rb w w' ∧ ((l = [] ∧ e = .panicked noTypeC) ∨ ∃ c l', l = c :: l' ∧ e = .returned (.int .u8 c.toNat) ∧ Rd w' rb l') := by
  obtain ⟨s, hb, hl, hs⟩ := hr
  have hc : w.cell? ⟨rb, 0, none⟩ = some (.string s) := by simp [World.cell?, hb]
  have hf : w.frozen? ⟨rb, 0, none⟩ = false := by simp [World.frozen?, hb]
  cases l with
  | nil =>
    refine (nextI_no rb s w hc (by rw [ByteArray.toList_eq, hl]; rfl)).mono ?_
    rintro e w' ⟨rfl, rfl⟩
    exact ⟨But.refl _ _ _, .inl ⟨rfl, rfl⟩⟩
  | cons c l =>
    have hz : 0 < s.size := by
      have := congrArg List.length hl
      simp at this
      have e : s.size = s.data.size := rfl
      omega
    refine (nextI_some rb s w hc hf (by rw [ByteArray.toList_eq, hl]; rfl) hz hs).mono ?_
    rintro e w' ⟨rfl, rfl⟩
    refine ⟨(But.refl _ _ _).set _ _, .inr ⟨c, l, rfl, ?_, s.extract 1 s.size, ?_, ?_, ?_⟩⟩
    · have : s[0] = c := by
        have e : s.data.toList[0]? = some c := by rw [hl]; rfl
        have e2 : s.data.toList[0]? = some s[0] := by
          rw [List.getElem?_eq_getElem (by simpa using hz)]
          rfl
        rw [e2] at e
        injection e
      rw [this]
    · simp [World.setCell, Array.getElem?_modify, hb]
    · rw [Lib.extract_to_end, hl]; rfl
    · have e : (s.extract 1 s.size).size = (s.extract 1 s.size).data.toList.length := by simp
      have e2 : s.size = s.data.toList.length := by simp
      rw [e, Lib.extract_to_end, List.length_drop]
      rw [e2] at hs
      omega


set_option maxHeartbeats 400000 in
theorem skipI_any (rb : Nat) (l : List UInt8) (d : UInt8) (w : World) (hr : Rd w rb l) :
    Calls Tryd.prog 78 #[.pointer (some ⟨rb, 0, none⟩), .int .u8 d.toNat] w fun e w' =>
      But w.heap.size rb w w' ∧ ((skipP d l = none ∧ e = .panicked noTypeC) ∨ ∃ r, skipP d l = some r ∧ e = .returned (.tuple #[]) ∧ Rd w' rb r) := by
  go_enter Tryd.func78, Tryd.ntmps78
  go_wp2_with fail
  refine (nextI_any rb l _ hr).mono ?_
  rintro e w1 ⟨hb, ⟨rfl, rfl⟩ | ⟨c, l', rfl, rfl, hr1⟩⟩
  · go_wp2
    exact ⟨rfl, hb, .inl ⟨rfl, rfl⟩⟩
  · by_cases h : ((c.toNat : Int) != d.toNat) = true
    · go_wp2
      refine ⟨rfl, hb, .inl ⟨?_, rfl⟩⟩
      have hcd : c ≠ d := by
        rintro rfl
        simp at h
      simp [skipP, hcd]
    · have h' : ((c.toNat : Int) != d.toNat) = false := by simpa using h
      have e : c = d := by
        have : (c.toNat : Int) = d.toNat := by simpa using h
        exact UInt8.toNat_inj.1 (by omega)
      have E := hid e
      clear h e
      go_wp2
      go_end0
      exact ⟨hb, .inr ⟨l', by rw [E.out]; exact skipP_cons _ _, rfl, hr1⟩⟩


/-- The value v stands for the type t; all its memory lies in blocks from lo on, below hi. -/
def Rep (w : World) (lo hi : Nat) : Ty → Value → Prop
  | .lf c, v => ∃ b, lo ≤ b ∧ b < hi ∧ ((isVarB c = true ∧ v = .iface 102 (.pointer (some ⟨b, 0, none⟩)) ∧ w.heap[b]? = some (.cells #[.int .u8 c.toNat] 125 (0, 0))) ∨
      (isVarB c = false ∧ v = .iface 126 (.pointer (some ⟨b, 0, none⟩)) ∧ w.heap[b]? = some (.cells #[.int .u8 c.toNat] 127 (0, 0))))
  | .un c a, v => ∃ b g cap x, lo ≤ b ∧ b < hi ∧ lo ≤ g ∧ g < hi ∧ v = .iface 119 (.pointer (some ⟨b, 0, none⟩)) ∧
      w.heap[b]? = some (.cells #[.int .u8 c.toNat, .slice (some ⟨g, 0, none⟩) 1 cap] 123 (0, 0)) ∧ w.cell? ⟨g, 0, none⟩ = some x ∧ Rep w lo hi a x
  | .bi c a a', v => ∃ b g cap x x', lo ≤ b ∧ b < hi ∧ lo ≤ g ∧ g < hi ∧ v = .iface 119 (.pointer (some ⟨b, 0, none⟩)) ∧
      w.heap[b]? = some (.cells #[.int .u8 c.toNat, .slice (some ⟨g, 0, none⟩) 2 cap] 123 (0, 0)) ∧ w.cell? ⟨g, 0, none⟩ = some x ∧ w.cell? ⟨g, 1, none⟩ = some x' ∧ Rep w lo hi a x ∧ Rep w lo hi a' x'

theorem Rep.keep {w w' : World} {lo hi lo' hi' : Nat} {t : Ty} : ∀ {v : Value}, Rep w lo hi t v → lo' ≤ lo → hi ≤ hi' → (∀ k, lo ≤ k → k < hi → w'.heap[k]? = w.heap[k]?) → Rep w' lo' hi' t v := by
  induction t with
  | lf c =>
    rintro v ⟨b, h1, h2, h3⟩ hl hh hk
    refine ⟨b, by omega, by omega, ?_⟩
    rw [hk b h1 h2]
    exact h3
  | un c a ih =>
    rintro v ⟨b, g, cap, x, h1, h2, h3, h4, h5, h6, h7, h8⟩ hl hh hk
    refine ⟨b, g, cap, x, by omega, by omega, by omega, by omega, h5, (hk b h1 h2).trans h6, ?_, ih h8 hl hh hk⟩
    rw [World.cell?_of_block (w := w) (hk g h3 h4)]
    exact h7
  | bi c a a' ih ih' =>
    rintro v ⟨b, g, cap, x, x', h1, h2, h3, h4, h5, h6, h7, h7', h8, h9⟩ hl hh hk
    refine ⟨b, g, cap, x, x', by omega, by omega, by omega, by omega, h5, (hk b h1 h2).trans h6, ?_, ?_, ih h8 hl hh hk, ih' h9 hl hh hk⟩
    · rw [World.cell?_of_block (w := w) (hk g h3 h4)]
      exact h7
    · rw [World.cell?_of_block (w := w) (hk g h3 h4)]
      exact h7'

theorem cell_new1 (w : World) (v : Value) (T : TypeId) : (w.alloc (.cells #[v] T)).cell? ⟨w.heap.size, 0, none⟩ = some v := by
  have e : (w.alloc (.cells #[v] T)).heap[w.heap.size]? = some (.cells #[v] T (0, 0)) := by
    show (w.heap.push _)[w.heap.size]? = _
    simp
  unfold World.cell?
  rw [show (w.alloc (.cells #[v] T)).heap[(⟨w.heap.size, 0, none⟩ : Addr).block]? = _ from e]
  rfl
theorem heap_new1 (w : World) (o : Obj) : (w.alloc o).heap[w.heap.size]? = some o := by
  show (w.heap.push _)[w.heap.size]? = _
  simp
theorem own2 {w : World} {base : Nat} {e : TypeId} {v x y : Value} (h : w.ownsRow base e 1 v 2 [x, y]) :
    ∃ g cap, v = .slice (some ⟨g, 0, none⟩) 2 cap ∧ base ≤ g ∧ g < w.heap.size ∧ w.cell? ⟨g, 0, none⟩ = some x ∧ w.cell? ⟨g, 1, none⟩ = some y := by
  rcases h.2 with ⟨_, h0⟩ | ⟨g, cap, cur, rfl, hb, hg, _, _, hz, ht⟩
  · cases h0
  · have c0 : cur[0]? = some x := by
      have := congrArg (·[0]?) ht
      simpa [List.getElem?_take] using this
    have c1 : cur[1]? = some y := by
      have := congrArg (·[1]?) ht
      simpa [List.getElem?_take] using this
    refine ⟨g, cap, rfl, hb, (Array.getElem?_eq_some_iff.1 hg).1, ?_, ?_⟩
    · unfold World.cell?
      rw [show w.heap[(⟨g, 0, none⟩ : Addr).block]? = _ from hg]
      exact c0
    · unfold World.cell?
      rw [show w.heap[(⟨g, 1, none⟩ : Addr).block]? = _ from hg]
      exact c1

/-- What a call of the reader comes to where 'P' says what is read. -/
def ReadEnd (rb : Nat) (w : World) (o : Option (Ty × List UInt8)) (e : Ending) (w' : World) : Prop :=
  But w.heap.size rb w w' ∧ ((o = none ∧ e = .panicked noTypeC) ∨ ∃ t r T b, o = some (t, r) ∧ e = .returned (.iface T (.pointer (some ⟨b, 0, none⟩))) ∧ Rep w' w.heap.size w'.heap.size t (.iface T (.pointer (some ⟨b, 0, none⟩))) ∧ Rd w' rb r)

/-- The contract of (*typeReader).read at texts of at most n bytes. -/
def ReadsAt (n : Nat) : Prop := ∀ (rb : Nat) (l : List UInt8) (w : World), l.length ≤ n → Rd w rb l →
  Calls Tryd.prog 63 #[.pointer (some ⟨rb, 0, none⟩)] w (ReadEnd rb w (parse n l))

set_option maxHeartbeats 400000 in
theorem readParts1 (n : Nat) (ih : ReadsAt n) (rb : Nat) (l : List UInt8) (w : World) (hn : l.length ≤ n) (hr : Rd w rb l) :
    Calls Tryd.prog 72 #[.pointer (some ⟨rb, 0, none⟩), .int .i64 1] w fun e w' =>
      But w.heap.size rb w w' ∧ ((parts1 (parse n) l = none ∧ e = .panicked noTypeC) ∨ ∃ t r g cap x, parts1 (parse n) l = some (t, r) ∧ e = .returned (.slice (some ⟨g, 0, none⟩) 1 cap) ∧ w.heap.size ≤ g ∧ g < w'.heap.size ∧
        w'.cell? ⟨g, 0, none⟩ = some x ∧ Rep w' w.heap.size w'.heap.size t x ∧ Rd w' rb r) := by
  go_enter Tryd.func72, Tryd.ntmps72
  go_wp2_with fail
  refine (skipI_any rb l 40 _ hr).mono ?_
  rintro e w1 ⟨hb1, ⟨hn1, rfl⟩ | ⟨l1, hs1, rfl, hr1⟩⟩
  · go_wp2
    exact ⟨rfl, hb1, .inl ⟨by simp [parts1, hn1], rfl⟩⟩
  · go_wp2_with fail
    refine (ih rb l1 _ (by rw [skipP_some hs1] at hn; simp at hn; omega) hr1).mono ?_
    rintro e w2 ⟨hb2, ⟨hn2, rfl⟩ | ⟨t, r, T, b, hs2, rfl, hrep, hr2⟩⟩
    · go_wp2
      exact ⟨rfl, hb1.trans (hb2.mono hb1.size), .inl ⟨by simp [parts1, hs1, hn2], rfl⟩⟩
    · have hb := hb1.trans (hb2.mono hb1.size)
      have hr3 : Rd (w2.alloc (.cells #[.iface T (.pointer (some ⟨b, 0, none⟩))] 86)) rb r := hr2.keep (Below.heap_alloc _ _ _ hr2.lt)
      go_wp2_with fail
      refine wp_loop_rounds 1 ?_
      rw [rounds_succ]
      go_wp2_with fail
      refine (skipI_any rb r 41 _ hr3).mono ?_
      rintro e w3 ⟨hb3, ⟨hn3, rfl⟩ | ⟨r2, hs3, rfl, hr4⟩⟩
      · go_wp2
        refine ⟨rfl, (hb.alloc hb.size _).trans (hb3.mono ?_), .inl ⟨by simp [parts1, hs1, hs2, hn3], rfl⟩⟩
        simp
        have := hb.size
        omega
      · go_wp2
        go_ret
        have z1 := hb1.size
        have z2 := hb2.size
        have z3 := hb3.size
        have zr := hr.lt
        simp only [World.size_alloc] at z3
        refine ⟨(hb.alloc hb.size _).trans (hb3.mono (by simp only [World.size_alloc]; omega)), .inr ⟨t, r2, w2.heap.size, 1, .iface T (.pointer (some ⟨b, 0, none⟩)), by simp [parts1, hs1, hs2, hs3], rfl, by omega, by omega, ?_, ?_, hr4⟩⟩
        · rw [World.cell?_of_block (w := w2.alloc _) (hb3.block w2.heap.size (by simp only [World.size_alloc]; omega) (by omega))]
          exact cell_new1 _ _ _
        · refine hrep.keep (by omega) (by omega) fun k h1 h2 => ?_
          rw [hb3.block k (by simp only [World.size_alloc]; omega) (by omega)]
          exact Below.heap_alloc _ _ _ h2

theorem nodeInfo : (Tryd.prog.info? 86).map (fun i => (i.zero, i.size, i.bytes)) = some (some .nilIface, 1, 16) := by kernel_rfl

set_option maxHeartbeats 400000 in
set_option maxRecDepth 100000 in
theorem readParts2 (n : Nat) (ih : ReadsAt n) (rb : Nat) (l : List UInt8) (w : World) (hn : l.length ≤ n) (hr : Rd w rb l) :
    Calls Tryd.prog 72 #[.pointer (some ⟨rb, 0, none⟩), .int .i64 2] w fun e w' =>
      But w.heap.size rb w w' ∧ ((parts2 (parse n) l = none ∧ e = .panicked noTypeC) ∨ ∃ t t' r g cap x x', parts2 (parse n) l = some ((t, t'), r) ∧ e = .returned (.slice (some ⟨g, 0, none⟩) 2 cap) ∧ w.heap.size ≤ g ∧ g < w'.heap.size ∧
        w'.cell? ⟨g, 0, none⟩ = some x ∧ w'.cell? ⟨g, 1, none⟩ = some x' ∧ Rep w' w.heap.size w'.heap.size t x ∧ Rep w' w.heap.size w'.heap.size t' x' ∧ Rd w' rb r) := by
  obtain ⟨i0, hi, hz0, hz1, hz2⟩ := info_parts nodeInfo
  go_enter Tryd.func72, Tryd.ntmps72
  go_wp2_with fail
  refine (skipI_any rb l 40 _ hr).mono ?_
  rintro e w1 ⟨hb1, ⟨hn1, rfl⟩ | ⟨l1, hs1, rfl, hr1⟩⟩
  · go_wp2
    exact ⟨rfl, hb1, .inl ⟨by simp [parts2, hn1], rfl⟩⟩
  · have hl1 := skipP_some hs1
    have hn1 : l1.length ≤ n := by rw [hl1] at hn; simp at hn; omega
    have HL1 := hid hl1
    clear hl1
    go_wp2_with fail
    refine (ih rb l1 _ hn1 hr1).mono ?_
    rintro e w2 ⟨hb2, ⟨hn2, rfl⟩ | ⟨t, r, T, b, hs2, rfl, hrep, hr2⟩⟩
    · go_wp2
      exact ⟨rfl, hb1.trans (hb2.mono hb1.size), .inl ⟨by simp [parts2, hs1, hn2], rfl⟩⟩
    · have hb := hb1.trans (hb2.mono hb1.size)
      have hr3 : Rd (w2.alloc (.cells #[.iface T (.pointer (some ⟨b, 0, none⟩))] 86)) rb r := hr2.keep (Below.heap_alloc _ _ _ hr2.lt)
      go_wp2_with fail
      refine wp_loop_rounds 2 ?_
      rw [rounds_succ]
      go_wp2_with fail
      refine (skipI_any rb r 44 _ hr3).mono ?_
      rintro e w3 ⟨hb3, ⟨hn3, rfl⟩ | ⟨r2, hs3, rfl, hr4⟩⟩
      · go_wp2
        refine ⟨rfl, (hb.alloc hb.size _).trans (hb3.mono ?_), .inl ⟨by simp [parts2, hs1, hs2, hn3], rfl⟩⟩
        simp
        have := hb.size
        omega
      · have hr2l : r2.length ≤ n := by
          have e1 := parse_shorter hs2
          have e2 := skipP_some hs3
          rw [e2] at e1
          simp at e1
          omega
        go_wp2_with fail
        refine (ih rb r2 _ hr2l hr4).mono ?_
        rintro e w4 ⟨hb4, ⟨hn4, rfl⟩ | ⟨t', r3, T', b', hs4, rfl, hrep', hr5⟩⟩
        · go_wp2
          have z1 := hb.size
          have z3 := hb3.size
          simp only [World.size_alloc] at z3
          exact ⟨rfl, ((hb.alloc hb.size _).trans (hb3.mono (by simp only [World.size_alloc]; omega))).trans (hb4.mono (by omega)), .inl ⟨by simp [parts2, hs1, hs2, hs3, hn4], rfl⟩⟩
        · have z1 := hb.size
          have z3 := hb3.size
          have z4 := hb4.size
          have zr := hr.lt
          simp only [World.size_alloc] at z3
          have zb : ∀ k, k < w2.heap.size + 1 → k ≠ rb → w3.heap[k]? = (w2.alloc (.cells #[.iface T (.pointer (some ⟨b, 0, none⟩))] 86)).heap[k]? := fun k h1 h2 => hb3.block k (by simp only [World.size_alloc]; omega) h2
          have hB4 : w4.heap[w2.heap.size]? = some (.cells #[.iface T (.pointer (some ⟨b, 0, none⟩))] 86 (0, 0)) := by
            rw [hb4.block _ (by omega) (by omega), zb _ (by omega) (by omega)]
            exact heap_new1 _ _
          have hown : w4.ownsRow w2.heap.size 86 1 (.slice (some ⟨w2.heap.size, 0, none⟩) 1 1) 1 [.iface T (.pointer (some ⟨b, 0, none⟩))] :=
            ⟨rfl, .inr ⟨_, 1, _, rfl, Nat.le_refl _, hB4, Nat.le_refl _, by decide, rfl, rfl⟩⟩
          have HB4 := hid hB4
          have ZB := hid zb
          clear hB4 zb
          go_wp2_with (at_builtin; refine wpList_append_own _ rfl _ _ 120 rfl w2.heap.size 86 i0 .nilIface 1 16 Tryd.underlying120 hi hz0 hz1 hz2 rfl (by decide) _ _ _ rfl (hown.alloc _) ⟨w4.heap.size, 0, none⟩ 1 1 [.iface T' (.pointer (some ⟨b', 0, none⟩))] rfl rfl ?c1 ?c2 ?c3 ?c4 ?c5 ?_)
          case c1 =>
            intro j u hj
            have e : j = 0 := by
              have := (List.getElem?_eq_some_iff.1 hj).1
              simp at this
              omega
            subst e
            simp only [List.getElem?_cons_zero, Option.some.injEq] at hj
            subst hj
            exact cell_new1 _ _ _
          case c2 =>
            intro u hu
            simp only [List.mem_singleton] at hu
            subst hu
            rfl
          case c3 => decide
          case c4 => decide
          case c5 => simp only [World.size_alloc]; omega
          intro v5 w5 hown5 hg5 hv5
          clear hv5
          have z5 := hg5.size
          simp only [World.size_alloc] at z5
          have hr6 : Rd w5 rb r3 := hr5.keep ((hg5.block rb (by simp only [World.size_alloc]; have := hr5.lt; omega) (by simp [Value.ownBlock]; omega)).trans (Below.heap_alloc _ _ _ hr5.lt))
          obtain ⟨g, cap, rfl, hg1, hg2, hx, hy⟩ := own2 hown5
          have HX := hid hx
          have HY := hid hy
          clear hx hy hown hown5
          have hbw5 : But w.heap.size rb w w5 :=
            (((((hb.alloc hb.size _).trans (hb3.mono (by simp only [World.size_alloc]; omega))).trans (hb4.mono (by omega))).alloc (by omega) _).trans
              (But.of_below ((Below.refl _ _).grown hg5 (by simp only [World.size_alloc]; omega) (by intro k hk; simp [Value.ownBlock] at hk; omega))))
          have hk5 : ∀ k, k < w4.heap.size → k ≠ w2.heap.size → w5.heap[k]? = w4.heap[k]? := fun k h1 h2 =>
            (hg5.block k (by simp only [World.size_alloc]; omega) (by simp [Value.ownBlock]; omega)).trans (Below.heap_alloc _ _ _ h1)
          have HK5 := hid hk5
          clear hk5
          go_wp2_with fail
          rw [rounds_succ]
          go_wp2_with fail
          refine (skipI_any rb r3 41 _ hr6).mono ?_
          rintro e w6 ⟨hb6, ⟨hn6, rfl⟩ | ⟨r4, hs6, rfl, hr7⟩⟩
          · go_wp2
            exact ⟨rfl, hbw5.trans (hb6.mono (by omega)), .inl ⟨by simp [parts2, hs1, hs2, hs3, hs4, hn6], rfl⟩⟩
          · go_wp2
            go_ret
            have z6 := hb6.size
            have y1 := hb1.size
            have y2 := hb2.size
            refine ⟨hbw5.trans (hb6.mono (by omega)), .inr ⟨t, t', r4, g, cap, .iface T (.pointer (some ⟨b, 0, none⟩)), .iface T' (.pointer (some ⟨b', 0, none⟩)), by simp [parts2, hs1, hs2, hs3, hs4, hs6], rfl, by omega, by omega, ?_, ?_, ?_, ?_, hr7⟩⟩
            · rw [World.cell?_of_block (w := w5) (hb6.block g hg2 (by omega))]
              exact HX.out
            · rw [World.cell?_of_block (w := w5) (hb6.block g hg2 (by omega))]
              exact HY.out
            · refine hrep.keep (by omega) (by omega) fun k h1 h2 => ?_
              rw [hb6.block k (by omega) (by omega), HK5.out k (by omega) (by omega), hb4.block k (by omega) (by omega), ZB.out k (by omega) (by omega)]
              exact Below.heap_alloc _ _ _ h2
            · refine hrep'.keep (by omega) (by omega) fun k h1 h2 => ?_
              rw [hb6.block k (by omega) (by omega), HK5.out k (by omega) (by omega)]

theorem partsNeeded_at (c k : Int) (h : Hid (arI c = k)) (w : World) :
    Calls Tryd.prog 71 #[.int .u8 c] w fun e w' => e = .returned (.int .i64 k) ∧ w' = w := by
  rw [← h.out]
  exact partsNeeded_any c w
theorem isVariable_at (c : UInt8) (k : Bool) (h : Hid (isVarB c = k)) (w : World) :
    Calls Tryd.prog 73 #[.int .u8 c.toNat] w fun e w' => e = .returned (.bool k) ∧ w' = w := by
  rw [← h.out]
  exact isVariable_any c w

theorem var_ar (c : UInt8) (h : isVarB c = true) : ar c = 0 := by
  revert h
  refine u8_all (p := fun c => isVarB c = true → ar c = 0) ?_ c
  decide +kernel

set_option maxHeartbeats 400000 in
set_option maxRecDepth 100000 in
theorem readI_step (n : Nat) (ih : ReadsAt n) : ReadsAt (n + 1) := by
  intro rb l w hn hr
  go_enter Tryd.func63, Tryd.ntmps63
  go_wp2_with fail
  refine (nextI_any rb l _ hr).mono ?_
  rintro e w1 ⟨hb1, ⟨hl1, rfl⟩ | ⟨c, l1, hl1, rfl, hr1⟩⟩
  · go_wp2
    exact ⟨rfl, hb1, .inl ⟨rfl, rfl⟩⟩
  · have hn1 : l1.length ≤ n := by rw [hl1] at hn; simp at hn; omega
    have HL1 := hid hl1
    clear hl1
    have z1 := hb1.size
    have zr := hr.lt
    rcases ar_cases c with ha | ha | ha | ha
    · have hv : isVarB c = false := by
        cases h : isVarB c
        · rfl
        · rw [var_ar c h] at ha; cases ha
      have HA : Hid (arI (c.toNat : Int) = -1) := ha
      have HV := hid hv
      have HR := hid ha
      clear ha hv
      go_wp2_with (first | (go_at_call 71; refine (partsNeeded_at _ _ HA _).mono ?_; rintro e w' ⟨rfl, rfl⟩) | (go_at_call 73; refine (isVariable_at _ _ HV _).mono ?_; rintro e w' ⟨rfl, rfl⟩))
      refine ⟨rfl, hb1, .inl ⟨?_, rfl⟩⟩
      rw [HL1.out]
      simp [parse, HR.out]
    · by_cases hv : isVarB c = true
      · have HA : Hid (arI (c.toNat : Int) = 0) := ha
        have HV := hid hv
        have HR := hid ha
        clear ha hv
        go_wp2_with (first | (go_at_call 71; refine (partsNeeded_at _ _ HA _).mono ?_; rintro e w' ⟨rfl, rfl⟩) | (go_at_call 73; refine (isVariable_at _ _ HV _).mono ?_; rintro e w' ⟨rfl, rfl⟩))
        go_ret
        refine ⟨hb1.alloc z1 _, .inr ⟨.lf c, l1, _, _, by rw [HL1.out]; simp [parse, HR.out], rfl, ⟨_, z1, by simp only [World.size_alloc]; omega, .inl ⟨HV.out, rfl, heap_new1 _ _⟩⟩, hr1.keep (Below.heap_alloc _ _ _ hr1.lt)⟩⟩
      · have hv : isVarB c = false := by simpa using hv
        have HA : Hid (arI (c.toNat : Int) = 0) := ha
        have HV := hid hv
        have HR := hid ha
        clear ha hv
        go_wp2_with (first | (go_at_call 71; refine (partsNeeded_at _ _ HA _).mono ?_; rintro e w' ⟨rfl, rfl⟩) | (go_at_call 73; refine (isVariable_at _ _ HV _).mono ?_; rintro e w' ⟨rfl, rfl⟩))
        go_ret
        refine ⟨hb1.alloc z1 _, .inr ⟨.lf c, l1, _, _, by rw [HL1.out]; simp [parse, HR.out], rfl, ⟨_, z1, by simp only [World.size_alloc]; omega, .inr ⟨HV.out, rfl, heap_new1 _ _⟩⟩, hr1.keep (Below.heap_alloc _ _ _ hr1.lt)⟩⟩
    · have HA : Hid (arI (c.toNat : Int) = 1) := ha
      have HR := hid ha
      clear ha
      go_wp2_with (first | (go_at_call 71; refine (partsNeeded_at _ _ HA _).mono ?_; rintro e w' ⟨rfl, rfl⟩))
      refine (readParts1 n ih rb l1 _ hn1 hr1).mono ?_
      rintro e w2 ⟨hb2, ⟨hn2, rfl⟩ | ⟨t, r, g, cap, x, hs2, rfl, hg1, hg2, hx, hrep, hr2⟩⟩
      · go_wp2
        exact ⟨rfl, hb1.trans (hb2.mono z1), .inl ⟨by rw [HL1.out]; simp [parse, HR.out, hn2], rfl⟩⟩
      · have HX := hid hx
        clear hx
        go_wp2
        go_ret
        have z2 := hb2.size
        refine ⟨(hb1.trans (hb2.mono z1)).alloc (by omega) _, .inr ⟨.un c t, r, _, _, by rw [HL1.out]; simp [parse, HR.out, hs2], rfl,
          ⟨w2.heap.size, g, cap, x, by omega, by simp only [World.size_alloc]; omega, by omega, by simp only [World.size_alloc]; omega, rfl, heap_new1 _ _, ?_, ?_⟩, hr2.keep (Below.heap_alloc _ _ _ hr2.lt)⟩⟩
        · rw [World.cell?_of_block (w := w2) (Below.heap_alloc _ _ _ hg2)]
          exact HX.out
        · exact hrep.keep z1 (by simp only [World.size_alloc]; omega) fun k h1 h2 => Below.heap_alloc _ _ _ h2
    · have HA : Hid (arI (c.toNat : Int) = 2) := ha
      have HR := hid ha
      clear ha
      go_wp2_with (first | (go_at_call 71; refine (partsNeeded_at _ _ HA _).mono ?_; rintro e w' ⟨rfl, rfl⟩))
      refine (readParts2 n ih rb l1 _ hn1 hr1).mono ?_
      rintro e w2 ⟨hb2, ⟨hn2, rfl⟩ | ⟨t, t', r, g, cap, x, x', hs2, rfl, hg1, hg2, hx, hx', hrep, hrep', hr2⟩⟩
      · go_wp2
        exact ⟨rfl, hb1.trans (hb2.mono z1), .inl ⟨by rw [HL1.out]; simp [parse, HR.out, hn2], rfl⟩⟩
      · have HX := hid hx
        have HX' := hid hx'
        clear hx hx'
        go_wp2
        go_ret
        have z2 := hb2.size
        refine ⟨(hb1.trans (hb2.mono z1)).alloc (by omega) _, .inr ⟨.bi c t t', r, _, _, by rw [HL1.out]; simp [parse, HR.out, hs2], rfl,
          ⟨w2.heap.size, g, cap, x, x', by omega, by simp only [World.size_alloc]; omega, by omega, by simp only [World.size_alloc]; omega, rfl, heap_new1 _ _, ?_, ?_, ?_, ?_⟩, hr2.keep (Below.heap_alloc _ _ _ hr2.lt)⟩⟩
        · rw [World.cell?_of_block (w := w2) (Below.heap_alloc _ _ _ hg2)]
          exact HX.out
        · rw [World.cell?_of_block (w := w2) (Below.heap_alloc _ _ _ hg2)]
          exact HX'.out
        · exact hrep.keep z1 (by simp only [World.size_alloc]; omega) fun k h1 h2 => Below.heap_alloc _ _ _ h2
        · exact hrep'.keep z1 (by simp only [World.size_alloc]; omega) fun k h1 h2 => Below.heap_alloc _ _ _ h2

set_option maxHeartbeats 400000 in
theorem readI_zero : ReadsAt 0 := by
  intro rb l w hn hr
  go_enter Tryd.func63, Tryd.ntmps63
  go_wp2_with fail
  refine (nextI_any rb l _ hr).mono ?_
  rintro e w1 ⟨hb1, ⟨hl1, rfl⟩ | ⟨c, l1, hl1, rfl, hr1⟩⟩
  · go_wp2
    exact ⟨rfl, hb1, .inl ⟨rfl, rfl⟩⟩
  · rw [hl1] at hn
    simp at hn

theorem readI_any (n : Nat) : ReadsAt n := by
  induction n with
  | zero => exact readI_zero
  | succ n ih => exact readI_step n ih

end Go.Proofs.YtgbbobjkhpplkaaDoor

namespace Go.Proofs.YtgbbobjkhpplkaaDoor
open Go.RowKit

set_option maxRecDepth 100000 in
theorem catch_panicking (p q : Addr) (w : World) (x y : Value) (hc : w.cell? p = some x) (hz : w.frozen? p = false) (hc' : ∀ v, (w.setCell p v).cell? q = some y) (hz' : ∀ v, (w.setCell p v).frozen? q = false) :
    CallsD Tryd.prog 62 #[.pointer (some p), .pointer (some q)] (.panicking [{ v := .iface 129 (.agg #[]), recovered := false }]) w fun e u' w' =>
      e = .returned (.tuple #[]) ∧ u' = .panicking [{ v := .iface 129 (.agg #[]), recovered := true }] ∧ w' = (w.setCell p .nilIface).setCell q (.bool false) := by
  refine callsD_of_wpS Tryd.func62 rfl fun c₀ cs hu => ?_
  apply wpS_seq
  apply wpS_region
  simp [wpOpsS, go_sem, recoverD, hu, Tryd.ntmps62, Exit.thenS]
  refine wpS_cond (t := true) (by simp [Act.eval, Array.replicate]) ?_
  simp only [if_true]
  apply wpS_region
  simp [wpOpsS, go_sem, hc, hz, hc', hz', bodyPostS, results, Tryd.results62]

set_option maxRecDepth 100000 in
theorem catch_idle (p q : Addr) (w : World) :
    CallsD Tryd.prog 62 #[.pointer (some p), .pointer (some q)] .returning w fun e u' w' => e = .returned (.tuple #[]) ∧ u' = .returning ∧ w' = w := by
  refine callsD_of_wpS Tryd.func62 rfl fun c₀ cs hu => ?_
  apply wpS_seq
  apply wpS_region
  simp [wpOpsS, go_sem, recoverD, hu, Tryd.ntmps62, Exit.thenS]
  refine wpS_cond (t := false) (by simp [Act.eval, Array.replicate]) ?_
  simp only [Bool.false_eq_true, if_false]
  refine wpS_of_wp (wp_skip ?_)
  cases c₀
  simp_all [bodyPostS, results, Tryd.results62]

/-- What readType comes to. -/
def TypeEnd (w : World) (o : Option Ty) (e : Ending) (w' : World) : Prop :=
  Below w.heap.size w w' ∧ ((o = none ∧ e = .returned (.tuple #[.nilIface, .bool false])) ∨
    ∃ t T b, o = some t ∧ e = .returned (.tuple #[.iface T (.pointer (some ⟨b, 0, none⟩)), .bool true]) ∧ Rep w' w.heap.size w'.heap.size t (.iface T (.pointer (some ⟨b, 0, none⟩))))

theorem Rd_new (W : World) (s : ByteArray) (l : List UInt8) (n : Nat) (hn : n = W.heap.size) (hl : s.data.toList = l) (hs : s.size ≤ maxLen) : Rd (W.alloc (.cells #[.string s] 110)) n l := by
  subst hn
  exact ⟨s, heap_new1 _ _, hl, hs⟩

theorem cell_of1 {w : World} {b : Nat} {v : Value} {T : TypeId} (h : w.heap[b]? = some (.cells #[v] T (0, 0))) : w.cell? ⟨b, 0, none⟩ = some v := by
  unfold World.cell?
  rw [show w.heap[(⟨b, 0, none⟩ : Addr).block]? = _ from h]
  rfl
theorem free_of1 {w : World} {b o : Nat} {v : Value} {T : TypeId} (h : w.heap[b]? = some (.cells #[v] T (0, 0))) : w.frozen? ⟨b, o, none⟩ = false := by
  unfold World.frozen?
  rw [show w.heap[(⟨b, o, none⟩ : Addr).block]? = _ from h]
  simp

set_option maxHeartbeats 400000 in
set_option maxRecDepth 100000 in
theorem readType_long (s : ByteArray) (w : World) (hs : s.size ≤ maxLen) (hl : 60 < s.size) :
    Calls Tryd.prog 51 #[.string s] w (TypeEnd w (tyOf s.data.toList)) := by
  unfold maxLen at hs
  have hmf : ∀ (fn : Fn) (first cap : Array Value) (w : World), (Instr.makeFunc fn first cap).run Tryd.prog w = .ok (.func fn first cap) w := fun _ _ _ _ => rfl
  go_enter_defers Tryd.func51, Tryd.ntmps51
  go_wp2
  have hn : tyOf s.data.toList = none := by
    unfold tyOf
    rw [if_neg]
    have e : s.size = s.data.toList.length := by simp
    omega
  simp only [bodyPostD, Leaves]
  refine ⟨.tuple #[.nilIface, .bool false], by simp [results, Tryd.results51, go_sem], ?_, .inl ⟨hn, rfl⟩⟩
  exact (((Below.refl _ _).alloc (Nat.le_refl _) _).alloc (by simp only [World.size_alloc]; omega) _)

set_option maxHeartbeats 400000 in
set_option maxRecDepth 100000 in
theorem readType_short (s : ByteArray) (w : World) (hs : s.size ≤ maxLen) (hl : s.size ≤ 60) :
    Calls Tryd.prog 51 #[.string s] w (TypeEnd w (tyOf s.data.toList)) := by
  unfold maxLen at hs
  have hmf : ∀ (fn : Fn) (first cap : Array Value) (w : World), (Instr.makeFunc fn first cap).run Tryd.prog w = .ok (.func fn first cap) w := fun _ _ _ _ => rfl
  go_enter_defers Tryd.func51, Tryd.ntmps51
  go_wp2_with fail
  have e1 : s.size = s.data.toList.length := by simp
  have e2 : s.data.toList.length ≤ 60 := by omega
  refine (readI_any s.data.toList.length _ s.data.toList _ (by omega) (Rd_new _ s _ _ (by simp only [World.size_alloc]) rfl (by unfold maxLen; omega))).mono ?_
  clear e1
  rintro e w1 ⟨hb1, hend⟩
  have y1 : w1.heap[w.heap.size]? = some (.cells #[.nilIface] 86 (0, 0)) := by
    rw [hb1.block _ (by simp only [World.size_alloc]; omega) (by omega), Below.heap_alloc _ _ _ (by simp only [World.size_alloc]; omega), Below.heap_alloc _ _ _ (by simp only [World.size_alloc]; omega)]
    exact heap_new1 _ _
  have y2 : w1.heap[w.heap.size + 1]? = some (.cells #[.bool false] 4 (0, 0)) := by
    rw [hb1.block _ (by simp only [World.size_alloc]; omega) (by omega), Below.heap_alloc _ _ _ (by simp only [World.size_alloc]; omega)]
    have := heap_new1 (w.alloc (.cells #[.nilIface] 86)) (.cells #[.bool false] 4)
    rwa [World.size_alloc] at this
  have c1 := cell_of1 y1
  have f1 : w1.frozen? ⟨w.heap.size, 0, none⟩ = false := free_of1 y1
  have c2 := cell_of1 y2
  have f2 : w1.frozen? ⟨w.heap.size + 1, 0, none⟩ = false := free_of1 y2
  have z1 := hb1.size
  simp only [World.size_alloc] at z1
  have hbel : Below w.heap.size w w1 := ((((Below.refl _ _).alloc (Nat.le_refl _) _).alloc (by simp only [World.size_alloc]; omega) _).alloc (by simp only [World.size_alloc]; omega) _).trans
    (hb1.below' (by simp only [World.size_alloc]; omega) (by omega))
  have HY1 := hid y1
  have HY2 := hid y2
  clear y1 y2
  rcases hend with ⟨hn1, rfl⟩ | ⟨t, r, T, b, hs1, rfl, hrep, hr1⟩
  · go_wp2_with fail
    refine leaves_cons (f := 62) (args := #[.pointer (some ⟨w.heap.size, 0, none⟩), .pointer (some ⟨w.heap.size + 1, 0, none⟩)]) (by simp) (by simp [go_sem]) ?_
    refine (catch_panicking ⟨w.heap.size, 0, none⟩ ⟨w.heap.size + 1, 0, none⟩ w1 .nilIface (.bool false) c1 f1 (fun v => ?_) (fun v => ?_)).mono ?_
    · simp [go_sem, c2]
    · simp [go_sem, f2]
    rintro e u' w'' ⟨rfl, rfl, rfl⟩
    simp only [settle]
    refine ⟨.tuple #[.nilIface, .bool false], by simp [results, Tryd.results51, go_sem, c1, c2], (hbel.setCell (Nat.le_refl _) _).setCell (Nat.le_succ _) _, .inl ⟨?_, rfl⟩⟩
    unfold tyOf
    rw [if_pos e2, hn1]
  · obtain ⟨s', hr2, hr3, hr4⟩ := hr1
    have c3 := cell_of1 hr2
    have HR2 := hid hr2
    clear hr2
    cases r with
    | nil =>
      have hem : s'.toList.isEmpty = true := by rw [ByteArray.toList_eq, hr3]; rfl
      clear hr3
      go_wp2_with fail
      refine leaves_cons (f := 62) (args := #[.pointer (some ⟨w.heap.size, 0, none⟩), .pointer (some ⟨w.heap.size + 1, 0, none⟩)]) (by simp) (by simp [go_sem]) ?_
      refine (catch_idle _ _ _).mono ?_
      rintro e u' w'' ⟨rfl, rfl, rfl⟩
      simp only
      refine ⟨.tuple #[.iface T (.pointer (some ⟨b, 0, none⟩)), .bool true], by simp [results, Tryd.results51, go_sem, c1, c2], ((hbel.setCell (Nat.le_refl _) _).setCell (Nat.le_refl _) _).setCell (Nat.le_succ _) _, .inr ⟨t, T, b, ?_, rfl, ?_⟩⟩
      · unfold tyOf
        rw [if_pos e2, hs1]
      · refine hrep.keep (by simp only [World.size_alloc]; omega) (by simp [World.setCell]) fun k h1 h2 => ?_
        simp only [World.size_alloc] at h1
        rw [Below.heap_setCell _ _ _ _ (by show k ≠ w.heap.size + 1; omega), Below.heap_setCell _ _ _ _ (by show k ≠ w.heap.size; omega), Below.heap_setCell _ _ _ _ (by show k ≠ w.heap.size; omega)]
    | cons x r =>
      have hem : s'.toList.isEmpty = false := by rw [ByteArray.toList_eq, hr3]; rfl
      clear hr3
      go_wp2_with fail
      refine leaves_cons (f := 62) (args := #[.pointer (some ⟨w.heap.size, 0, none⟩), .pointer (some ⟨w.heap.size + 1, 0, none⟩)]) (by simp) (by simp [go_sem]) ?_
      refine (catch_idle _ _ _).mono ?_
      rintro e u' w'' ⟨rfl, rfl, rfl⟩
      simp only
      refine ⟨.tuple #[.nilIface, .bool false], by simp [results, Tryd.results51, go_sem, c1, c2], ((hbel.setCell (Nat.le_refl _) _).setCell (Nat.le_refl _) _).setCell (Nat.le_succ _) _, .inl ⟨?_, rfl⟩⟩
      unfold tyOf
      rw [if_pos e2, hs1]

theorem readType_any (s : ByteArray) (w : World) (hs : s.size ≤ maxLen) : Calls Tryd.prog 51 #[.string s] w (TypeEnd w (tyOf s.data.toList)) := by
  by_cases h : s.size ≤ 60
  · exact readType_short s w hs h
  · exact readType_long s w hs (by omega)

set_option maxHeartbeats 400000 in
theorem typeValidI_any (s : ByteArray) (w : World) (hs : s.size ≤ maxLen) :
    Calls Tryd.prog 37 #[.string s] w fun e w' => e = .returned (.bool (tyOf s.data.toList).isSome) ∧ Below w.heap.size w w' := by
  go_enter Tryd.func37, Tryd.ntmps37
  go_wp2_with fail
  refine (readType_any s _ hs).mono ?_
  rintro e w1 ⟨hb, ⟨hn, rfl⟩ | ⟨t, T, b, hs1, rfl, hrep⟩⟩
  · go_wp2_with fail
    go_ret
    exact ⟨ret_bool (by rw [hn]; rfl), hb⟩
  · go_wp2_with fail
    go_ret
    exact ⟨ret_bool (by rw [hs1]; rfl), hb⟩

end Go.Proofs.YtgbbobjkhpplkaaDoor
