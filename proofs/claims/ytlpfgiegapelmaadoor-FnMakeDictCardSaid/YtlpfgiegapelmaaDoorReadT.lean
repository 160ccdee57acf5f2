/- The small functions on letters: how many parts a letter has, in the program and in the model; each answers arI and writes nothing. The program's reader of types: its steps, its recursion; what it builds in memory. The program's readType: it reads a type, or recovers from the reader's panic. -/
import Derived.Test.YtlpfgiegapelmaaDoorProg
import Derived.Test.YtlpfgiegapelmaaDoorTy
import Derived.WalkKit
import Derived.WalkSpells
import Derived.WalkLawsBesides
import Derived.Lib.Bytealg
import Derived.Deep.QuietTactic
import Derived.BigQuiet
import Derived.LoopN
import Derived.Lib.IndexBytes
import Derived.Defers
import Derived.Recover
namespace Go.Proofs.YtlpfgiegapelmaaDoor
open Go.RowKit

theorem hid {p : Prop} (h : p) : Hid p := h

theorem ret_int {k : IntKind} {a b : Int} (h : a = b) : Ending.returned (.int k a) = .returned (.int k b) := by rw [h]
theorem ret_bool {a b : Bool} (h : a = b) : Ending.returned (.bool a) = .returned (.bool b) := by rw [h]

/-- The index of a byte in a list of bytes, -1 if it is none. -/
def findI (l : List UInt8) (c : UInt8) : Int :=
  match l.findIdx? (· == c) with
  | some k => k
  | none => -1

theorem findI_at {l : List UInt8} {c : UInt8} {k : Nat} (hk : k < l.length) (h : l[k] = c) (hno : ∀ j, (hj : j < k) → (hk : j < l.length) → l[j] ≠ c) : findI l c = k := by
  have e : l.findIdx? (· == c) = some k := by
    rw [List.findIdx?_eq_some_iff_getElem]
    refine ⟨hk, by simpa using h, fun j hj => ?_⟩
    simpa using hno j hj (by omega)
  unfold findI
  rw [e]
theorem findI_no {l : List UInt8} {c : UInt8} (hno : ∀ j, (hk : j < l.length) → l[j] ≠ c) : findI l c = -1 := by
  have e : l.findIdx? (· == c) = none := by
    rw [List.findIdx?_eq_none_iff]
    intro x hx
    obtain ⟨j, hj, rfl⟩ := List.mem_iff_getElem.1 hx
    simpa using hno j hj
  unfold findI
  rw [e]

theorem u8_eq {a b : UInt8} (h : ((a.toNat : Int) == (b.toNat : Int)) = true) : a = b := by
  rw [beq_iff_eq] at h
  exact UInt8.toNat_inj.1 (by omega)
theorem u8_ne {a b : UInt8} (h : ((a.toNat : Int) == (b.toNat : Int)) = false) : a ≠ b := by
  rintro rfl
  simp at h

set_option maxHeartbeats 400000 in
theorem l13Find_any (s : ByteArray) (c : UInt8) (w : World) (hs : s.size ≤ maxLen) :
    Calls Tryd.prog 57 #[.string s, .int .u8 c.toNat] w fun e w' => e = .returned (.int .i64 (findI s.data.toList c)) ∧ w' = w := by
  unfold maxLen at hs
  go_enter Tryd.func57, Tryd.ntmps57
  go_wp2
  go_loop [5] (fun i => ∃ k : Nat, k ≤ s.size ∧ i = .int .i64 k ∧ ∀ j, (hj : j < k) → (hk : j < s.data.toList.length) → s.data.toList[j] ≠ c) (fun i => s.size - (intOf i).toNat)
  case atStart => exact ⟨0, Nat.zero_le _, rfl, fun j hj => by omega⟩
  case round =>
    obtain ⟨k, hk, rfl, hno⟩ := hrel
    have HN := hid hno
    clear hno
    by_cases hlt : k < s.size
    · go_wp2
      · go_ret
        have h : (↑s[k].toNat == (c.toNat : Int)) = true := by assumption
        exact ⟨ret_int (findI_at (by simpa using hlt) (u8_eq h) HN.out).symm, rfl⟩
      · have h : (↑s[k].toNat == (c.toNat : Int)) = false := by assumption
        go_round
        case rel =>
          refine ⟨k + 1, by omega, by go_num, fun j hj hk' => ?_⟩
          by_cases e : j = k
          · subst e; exact u8_ne h
          · exact HN.out j (by omega) hk'
        case measure => simp [intOf]; omega
    · go_wp2
      go_ret
      exact ⟨ret_int (findI_no (fun j hj => HN.out j (by simp at hj; omega) hj)).symm, rfl⟩

theorem l13Find_at (s : ByteArray) (c : UInt8) (w : World) (hs : s.size ≤ maxLen) (k : Int) (hk : Hid (findI s.data.toList c = k)) :
    Calls Tryd.prog 57 #[.string s, .int .u8 c.toNat] w fun e w' => e = .returned (.int .i64 k) ∧ w' = w := by
  rw [← hk.out]
  exact l13Find_any s c w hs

/-- The letters of types, in the model's order. -/
def letters : List UInt8 := [105, 98, 117, 108, 109, 112, 120, 121, 122, 88, 89, 90]
theorem u8_all {p : UInt8 → Prop} (h : ∀ n, n < 256 → p (UInt8.ofNat n)) (c : UInt8) : p c := by
  have := h c.toNat c.toNat_lt
  rwa [UInt8.ofNat_toNat] at this
def idxAr (k : Int) : Int := if k < 0 then -1 else if k = 3 ∨ k = 4 then 1 else if k = 5 then 2 else 0
theorem arity_find (c : UInt8) : idxAr (findI letters c) = ar c := by
  refine u8_all (p := fun c => idxAr (findI letters c) = ar c) ?_ c
  decide +kernel
/-- A letter that is a variable. -/
def isVarB (c : UInt8) : Bool := c == 88 || c == 89 || c == 90 || c == 120 || c == 121 || c == 122
theorem var_find (c : UInt8) : decide (findI letters c ≥ 6) = isVarB c := by
  refine u8_all (p := fun c => decide (findI letters c ≥ 6) = isVarB c) ?_ c
  decide +kernel

theorem index_ge : ∀ c : UInt8, decide (0 ≤ Lib.indexByte [88, 89, 90, 120, 121, 122] c) = isVarB c := by
  intro c
  refine u8_all (p := fun c => decide (0 ≤ Lib.indexByte [88, 89, 90, 120, 121, 122] c) = isVarB c) ?_ c
  decide +kernel

set_option maxHeartbeats 400000 in
set_option maxRecDepth 100000 in
theorem stringslite_IndexByte_any (s : ByteArray) (c : Int) (w : World) :
    Calls Tryd.prog 96 #[.string s, .int .u8 c] w fun e w' => e = .returned (.int .i64 (Lib.indexByte s.data.toList c.toNat.toUInt8)) ∧ w' = w := by
  go_enter Tryd.func96, Tryd.ntmps96
  go_wp2
  rw [run_callFunc_extern Tryd.func103 (by kernel_rfl) (by kernel_rfl) (by kernel_rfl) (e := Extern.BytealgIndexByte.indexByte) (by kernel_rfl), Lib.run_indexByteString]
  simp only [Result.andThen]
  rw [Oper.upon_value]
  go_wp2
  go_ret
  exact ⟨rfl, rfl⟩

end Go.Proofs.YtlpfgiegapelmaaDoor

namespace Go.Proofs.YtlpfgiegapelmaaDoor
open Go.RowKit

/-- Below block number B, but for block rb, w' is as w was. -/
structure But (B rb : Nat) (w w' : World) : Prop where
  os : w'.os = w.os
  tape : w'.tape = w.tape
  output : w'.output = w.output
  size : w.heap.size ≤ w'.heap.size
  block : ∀ k, k < B → k ≠ rb → w'.heap[k]? = w.heap[k]?

theorem But.refl (B rb : Nat) (w : World) : But B rb w w := ⟨rfl, rfl, rfl, Nat.le_refl _, fun _ _ _ => rfl⟩
theorem But.trans {B rb : Nat} {a b c : World} (h : But B rb a b) (k : But B rb b c) : But B rb a c :=
  ⟨k.os.trans h.os, k.tape.trans h.tape, k.output.trans h.output, Nat.le_trans h.size k.size, fun i hi hr => (k.block i hi hr).trans (h.block i hi hr)⟩
theorem But.mono {B B' rb : Nat} {w w' : World} (h : But B rb w w') (hB : B' ≤ B) : But B' rb w w' := ⟨h.os, h.tape, h.output, h.size, fun k hk hr => h.block k (Nat.lt_of_lt_of_le hk hB) hr⟩
theorem But.of_below {B rb : Nat} {w w' : World} (h : Below B w w') : But B rb w w' := ⟨h.os, h.tape, h.output, h.size, fun k hk _ => h.block k hk⟩
theorem But.set {B rb : Nat} {a w : World} (h : But B rb a w) (o : Nat) (u : Value) : But B rb a (w.setCell ⟨rb, o, none⟩ u) :=
  h.trans ⟨rfl, rfl, rfl, by simp [World.setCell], fun _ _ hr => Below.heap_setCell _ _ _ _ hr⟩
theorem But.below {B rb : Nat} {w w' : World} (h : But B rb w w') (hB : B ≤ rb) : Below B w w' := ⟨h.os, h.tape, h.output, h.size, fun k hk => h.block k hk (by omega)⟩
theorem But.drewN {B rb : Nat} {a w : World} (h : But B rb a w) (n : Nat) : But B rb a (w.drewN n) := h.trans ⟨rfl, rfl, rfl, Nat.le_refl _, fun _ _ _ => rfl⟩
theorem But.below' {B B' rb : Nat} {w w' : World} (h : But B rb w w') (hB : B' ≤ B) (hr : B' ≤ rb) : Below B' w w' := (h.mono hB).below hr
theorem But.alloc {B rb : Nat} {a w : World} (h : But B rb a w) (hB : B ≤ w.heap.size) (o : Obj) : But B rb a (w.alloc o) :=
  h.trans (But.of_below ((Below.refl _ _).alloc hB o))

theorem cell_new1 (w : World) (v : Value) (T : TypeId) : (w.alloc (.cells #[v] T)).cell? ⟨w.heap.size, 0, none⟩ = some v := by
  have e : (w.alloc (.cells #[v] T)).heap[w.heap.size]? = some (.cells #[v] T (0, 0)) := by
    show (w.heap.push _)[w.heap.size]? = _
    simp
  unfold World.cell?
  rw [show (w.alloc (.cells #[v] T)).heap[(⟨w.heap.size, 0, none⟩ : Addr).block]? = _ from e]
  rfl
theorem heap_new1 (w : World) (o : Obj) : (w.alloc o).heap[w.heap.size]? = some o := by
  show (w.heap.push _)[w.heap.size]? = _
  simp
theorem own2 {w : World} {base : Nat} {e : TypeId} {v x y : Value} (h : w.ownsRow base e 1 v 2 [x, y]) :
    ∃ g cap, v = .slice (some ⟨g, 0, none⟩) 2 cap ∧ base ≤ g ∧ g < w.heap.size ∧ w.cell? ⟨g, 0, none⟩ = some x ∧ w.cell? ⟨g, 1, none⟩ = some y := by
  rcases h.2 with ⟨_, h0⟩ | ⟨g, cap, cur, rfl, hb, hg, _, _, hz, ht⟩
  · cases h0
  · have c0 : cur[0]? = some x := by
      have := congrArg (·[0]?) ht
      simpa [List.getElem?_take] using this
    have c1 : cur[1]? = some y := by
      have := congrArg (·[1]?) ht
      simpa [List.getElem?_take] using this
    refine ⟨g, cap, rfl, hb, (Array.getElem?_eq_some_iff.1 hg).1, ?_, ?_⟩
    · unfold World.cell?
      rw [show w.heap[(⟨g, 0, none⟩ : Addr).block]? = _ from hg]
      exact c0
    · unfold World.cell?
      rw [show w.heap[(⟨g, 1, none⟩ : Addr).block]? = _ from hg]
      exact c1

theorem var_ar (c : UInt8) (h : isVarB c = true) : ar c = 0 := by
  revert h
  refine u8_all (p := fun c => isVarB c = true → ar c = 0) ?_ c
  decide +kernel

end Go.Proofs.YtlpfgiegapelmaaDoor

namespace Go.Proofs.YtlpfgiegapelmaaDoor
open Go.RowKit

theorem cell_of1 {w : World} {b : Nat} {v : Value} {T : TypeId} (h : w.heap[b]? = some (.cells #[v] T (0, 0))) : w.cell? ⟨b, 0, none⟩ = some v := by
  unfold World.cell?
  rw [show w.heap[(⟨b, 0, none⟩ : Addr).block]? = _ from h]
  rfl
theorem free_of1 {w : World} {b o : Nat} {v : Value} {T : TypeId} (h : w.heap[b]? = some (.cells #[v] T (0, 0))) : w.frozen? ⟨b, o, none⟩ = false := by
  unfold World.frozen?
  rw [show w.heap[(⟨b, o, none⟩ : Addr).block]? = _ from h]
  simp

end Go.Proofs.YtlpfgiegapelmaaDoor
