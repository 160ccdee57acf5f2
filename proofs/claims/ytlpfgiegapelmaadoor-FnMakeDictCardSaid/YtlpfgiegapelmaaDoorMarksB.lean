/- The exact laws' own helpers over lists of strings: eqStringS, markText, markStringS, heldStringS. Marks laid into a row of bindings that the program handed back, and read again. -/
import Derived.Test.YtlpfgiegapelmaaDoorRen
import Derived.Deep.RegionWith
import Derived.Test.YtlpfgiegapelmaaDoorArgsB
namespace Go.Proofs.YtlpfgiegapelmaaDoor
open Go.RowKit

/-- The slice (A, n) reads as the strings xs. -/
def Strs (w : World) (A : Option Addr) (n : Nat) (xs : List ByteArray) : Prop :=
  xs.length = n ∧ (0 < n → ∃ g o, A = some ⟨g, o, none⟩ ∧ g < w.heap.size ∧ ∀ j x, xs[j]? = some x → w.cell? ⟨g, o + j, none⟩ = some (.string x))
theorem Strs.below {w w' : World} {A : Option Addr} {n : Nat} {xs : List ByteArray} (h : Strs w A n xs) (hb : Below w.heap.size w w') : Strs w' A n xs := by
  refine ⟨h.1, fun hn => ?_⟩
  obtain ⟨g, o, e, hg, hc⟩ := h.2 hn
  exact ⟨g, o, e, Nat.lt_of_lt_of_le hg hb.size, fun j x hj => cell_below (hc j x hj) hg hb⟩

set_option maxHeartbeats 1000000 in
set_option maxRecDepth 100000 in
theorem eqStringS_same (A B : Option Addr) (n c d : Nat) (xs : List ByteArray) (w : World) (ha : Strs w A n xs) (hb : Strs w B n xs) (hn : n ≤ 1048576) :
    Calls Tryd.prog 40 #[.slice A n c, .slice B n d] w fun e w' => e = .returned (.bool true) ∧ ∃ m, w' = w.drewN m := by
  have HA := hid ha
  have HB := hid hb
  clear ha hb
  go_enter Tryd.func40, Tryd.ntmps40
  go_wp2_with fail
  go_loopw [5] (fun i wr => ∃ k m : Nat, k ≤ n ∧ i = .int .i64 k ∧ wr = w.drewN m) (fun i _ => n - (intOf i).toNat)
  case atStart => exact ⟨0, 0, Nat.zero_le _, rfl, rfl⟩
  case round =>
    obtain ⟨k, m, hk, rfl, rfl⟩ := hrel
    by_cases hlt : k < n
    · obtain ⟨g, o, rfl, _, hca⟩ := HA.out.2 (by omega)
      obtain ⟨g', o', rfl, _, hcb⟩ := HB.out.2 (by omega)
      have hx : xs[k]? = some (xs[k]'(by have := HA.out.1; omega)) := List.getElem?_eq_getElem _
      have ca := hca k _ hx
      have cb := hcb k _ hx
      obtain ⟨x, ex⟩ : ∃ x, xs[k]'(by have := HA.out.1; omega) = x := ⟨_, rfl⟩
      rw [ex] at ca cb
      clear hca hcb hx ex
      have i1 : (0 : Int) ≤ (k : Int) := by omega
      have i2 : (k : Int) < (n : Int) := by omega
      go_wp2_with fail
      go_quiet (fail)
      go_wp2_with fail
      go_roundw
      case rel => exact ⟨k + 1, _, hlt, by go_num, rfl⟩
      case measure => simp [intOf]; omega
    · go_wp2_with fail
      go_ret
      exact ⟨rfl, m, rfl⟩

/-- The digits of a number ahead of acc. -/
def dg : Nat → Nat → List UInt8 → List UInt8
  | 0, _, acc => acc
  | f + 1, k, acc => if k = 0 then acc else dg f (k / 10) (UInt8.ofNat (48 + k % 10) :: acc)
theorem dg_zero (f : Nat) (acc : List UInt8) : dg f 0 acc = acc := by cases f <;> simp [dg]
def mark (k : Nat) : List UInt8 := 109 :: dg k k []

set_option maxHeartbeats 1000000 in
set_option maxRecDepth 100000 in
theorem markText_any (k : Nat) (hk0 : 0 < k) (hk : k ≤ 4194304) (w : World) :
    Calls Tryd.prog 75 #[.int .i64 k] w fun e w' => e = .returned (.string (strOf (mark k))) ∧ Below w.heap.size w w' := by
  have hne : ¬ (k : Int) ≤ 0 := by omega
  go_enter Tryd.func75, Tryd.ntmps75
  go_wp2_with fail
  go_loopw [0, 3] (fun v o wr => ∃ (k' f : Nat) (b : ByteArray), v = .int .i64 k' ∧ o = .string b ∧ dg f k' b.data.toList = dg k k [] ∧ k' ≤ f ∧ b.size + k' ≤ k ∧ Below w.heap.size w wr) (fun v _ _ => (intOf v).toNat)
  case atStart => exact ⟨k, k, ⟨#[]⟩, rfl, rfl, rfl, Nat.le_refl _, by show 0 + k ≤ k; omega, Below.refl _ _⟩
  case round =>
    obtain ⟨k', f, b, rfl, rfl, hd, hf, hz, hbel⟩ := hrel
    have HD := hid hd
    clear hd
    by_cases h0 : 0 < k'
    · obtain ⟨f', rfl⟩ : ∃ f', f = f' + 1 := ⟨f - 1, by omega⟩
      have hc : (((UInt8.ofNat (48 + k' % 10)).toNat : Nat) : Int) = 48 + (k' : Int) % 10 := by
        have : (48 + k' % 10) < 256 := by omega
        rw [UInt8.toNat_ofNat', Nat.mod_eq_of_lt this]
        omega
      have hcv := conv_one wr (UInt8.ofNat (48 + k' % 10))
      rw [hc] at hcv
      have happ := hid (show (strOf [UInt8.ofNat (48 + k' % 10)] ++ b).data.toList = UInt8.ofNat (48 + k' % 10) :: b.data.toList by rw [ByteArray.data_append, Array.toList_append]; rfl)
      obtain ⟨v, hv⟩ : ∃ v, strOf [UInt8.ofNat (48 + k' % 10)] = v := ⟨_, rfl⟩
      have hvs : v.size = 1 := by rw [← hv]; rfl
      have HVS := hid hvs
      have hvs' : v.size ≤ 1 := by omega
      rw [hv] at hcv happ
      clear hv hc hvs
      have hb10 : (0 : Int) ≤ (k' : Int) % 10 := by omega
      have hb11 : (k' : Int) % 10 ≤ 9 := by omega
      go_wp2_with fail
      go_roundw
      case rel =>
        refine ⟨k' / 10, f', _, by go_num, rfl, ?_, by omega, ?_, hbel.alloc hbel.size _⟩
        · rw [happ.out, ← HD.out]
          simp only [dg, if_neg (show ¬ k' = 0 by omega)]
        · rw [ByteArray.size_append, HVS.out]
          omega
      case measure => simp [intOf]; omega
    · have hk0 : k' = 0 := by omega
      subst hk0
      go_wp2_with fail
      go_ret
      refine ⟨?_, hbel⟩
      show Ending.returned (.string _) = .returned (.string _)
      congr 2
      refine strOf_eq ?_
      have h := HD.out
      rw [dg_zero] at h
      rw [ByteArray.data_append, Array.toList_append, h]
      rfl

/-- The marks k, k+1, .. -/
def marks (k n : Nat) : List ByteArray := (List.range n).map fun j => strOf (mark (k + j))
theorem marks_at (k n j : Nat) (h : j < n) : (marks k n)[j]? = some (strOf (mark (k + j))) := by
  simp [marks, h]

set_option maxHeartbeats 1000000 in
set_option maxRecDepth 100000 in
theorem heldStringS_any (A : Option Addr) (k n c : Nat) (w : World) (ha : Strs w A n (marks k n)) (hk : 0 < k) (hn : k + n ≤ 4194304) :
    Calls Tryd.prog 42 #[.slice A n c, .int .i64 k] w fun e w' => e = .returned (.int .i64 (k + n : Nat)) ∧ Below w.heap.size w w' := by
  have HA := hid ha
  clear ha
  go_enter Tryd.func42, Tryd.ntmps42
  go_wp2_with fail
  go_loopw [1, 5] (fun q i wr => ∃ j : Nat, j ≤ n ∧ i = .int .i64 j ∧ q = .int .i64 (k + j : Nat) ∧ Below w.heap.size w wr) (fun _ i _ => n - (intOf i).toNat)
  case atStart => exact ⟨0, Nat.zero_le _, rfl, rfl, Below.refl _ _⟩
  case round =>
    obtain ⟨j, hj, rfl, rfl, hbel⟩ := hrel
    by_cases hlt : j < n
    · obtain ⟨g, o, rfl, hg, hca⟩ := HA.out.2 (by omega)
      have ca := hca j _ (marks_at k n j hlt)
      obtain ⟨x, ex⟩ : ∃ x, strOf (mark (k + j)) = x := ⟨_, rfl⟩
      have hmt := fun W => markText_any (k + j) (by omega) (by omega) W
      rw [ex] at ca
      simp only [ex] at hmt
      have HMT := hid hmt
      clear hca hmt ex
      have cw := cell_below ca hg hbel
      have CW := hid cw
      have CA := hid ca
      clear ca
      have zg : g < wr.heap.size := by have := hbel.size; omega
      have i1 : (0 : Int) ≤ (j : Int) := by omega
      have i2 : (j : Int) < (n : Int) := by omega
      go_wp2_with fail
      go_region_with (go_at_call 75; refine (HMT.out _).mono ?_; rintro e w2 ⟨rfl, hb2⟩; have c2 := cell_below (w := wr.drew) CW.out zg hb2)
      all_goals
        go_wp2_with fail
        go_roundw
        case rel => exact ⟨j + 1, hlt, by go_num, by go_num, hbel.drew.trans (hb2.mono hbel.size)⟩
        case measure => simp [intOf]; omega
    · go_wp2_with fail
      go_ret
      exact ⟨ret_int (by have : j = n := by omega
                         rw [this]), hbel⟩

/-- Block g is a row of strings of which the first n are xs; none of it frozen. -/
def OwnStrs (w : World) (g n : Nat) (xs : List ByteArray) : Prop :=
  ∃ cur : Array Value, w.heap[g]? = some (.cells cur 9 (0, 0)) ∧ n ≤ cur.size ∧ xs.length = n ∧ ∀ (j : Nat) x, xs[j]? = some x → cur[j]? = some (.string x)
theorem OwnStrs.strs {w : World} {g n : Nat} {xs : List ByteArray} (h : OwnStrs w g n xs) : Strs w (some ⟨g, 0, none⟩) n xs := by
  obtain ⟨cur, hg, hn, hl, hx⟩ := h
  refine ⟨hl, fun _ => ⟨g, 0, rfl, (Array.getElem?_eq_some_iff.1 hg).1, fun j x hj => ?_⟩⟩
  unfold World.cell?
  rw [show w.heap[(⟨g, 0 + j, none⟩ : Addr).block]? = _ from hg]
  simpa using hx j x hj

set_option maxHeartbeats 1000000 in
set_option maxRecDepth 100000 in
theorem markStringS_any (g k n c : Nat) (xs : List ByteArray) (w : World) (ha : OwnStrs w g n xs) (hk : 0 < k) (hn : k + n ≤ 4194304) :
    Calls Tryd.prog 41 #[.slice (some ⟨g, 0, none⟩) n c, .int .i64 k] w fun e w' => e = .returned (.int .i64 (k + n : Nat)) ∧ OwnStrs w' g n (marks k n) ∧ But w.heap.size g w w' := by
  obtain ⟨cur0, hg0, hn0, hl0, hx0⟩ := ha
  have zg : g < w.heap.size := (Array.getElem?_eq_some_iff.1 hg0).1
  have HX0 := hid hx0
  have HG0 := hid hg0
  have HL0 := hid hl0
  clear hx0 hg0 hl0
  go_enter Tryd.func41, Tryd.ntmps41
  go_wp2_with fail
  go_loopw [1, 5] (fun q i wr => ∃ (j : Nat) (cur : Array Value), j ≤ n ∧ i = .int .i64 j ∧ q = .int .i64 (k + j : Nat) ∧ wr.heap[g]? = some (.cells cur 9 (0, 0)) ∧ n ≤ cur.size ∧
      (∀ l, l < n → ∃ x, cur[l]? = some (.string x)) ∧ (∀ l, l < j → cur[l]? = some (.string (strOf (mark (k + l))))) ∧ But w.heap.size g w wr) (fun _ i _ => n - (intOf i).toNat)
  case atStart =>
    refine ⟨0, cur0, Nat.zero_le _, rfl, rfl, HG0.out, hn0, fun l hl => ?_, fun l hl => absurd hl (Nat.not_lt_zero _), But.refl _ _ _⟩
    have hx : xs[l]? = some (xs[l]'(by rw [HL0.out]; exact hl)) := List.getElem?_eq_getElem _
    exact ⟨_, HX0.out l _ hx⟩
  case round =>
    obtain ⟨j, cur, hj, rfl, rfl, hg, hc, hall, hdone, hbut⟩ := hrel
    have HALL := hid hall
    have HDONE := hid hdone
    have HG := hid hg
    clear hall hdone hg
    by_cases hlt : j < n
    · have i1 : (0 : Int) ≤ (j : Int) := by omega
      have i2 : (j : Int) < (n : Int) := by omega
      go_wp2_with fail
      refine (markText_any (k + j) (by omega) (by omega) _).mono ?_
      rintro e w2 ⟨rfl, hb2⟩
      have zr : g < wr.heap.size := (Array.getElem?_eq_some_iff.1 HG.out).1
      have hg2 := (hb2.block g zr).trans HG.out
      obtain ⟨x, hx⟩ := HALL.out j hlt
      have c2 : w2.cell? ⟨g, j, none⟩ = some (.string x) := by
        unfold World.cell?
        rw [show w2.heap[(⟨g, j, none⟩ : Addr).block]? = _ from hg2]
        exact hx
      have f2 : w2.frozen? ⟨g, j, none⟩ = false := by
        unfold World.frozen?
        rw [show w2.heap[(⟨g, j, none⟩ : Addr).block]? = _ from hg2]
        simp
      have HG2 := hid hg2
      clear hg2 hx
      obtain ⟨v, hv⟩ : ∃ v, strOf (mark (k + j)) = v := ⟨_, rfl⟩
      have HV := hid hv
      rw [hv]
      clear hv
      go_wp2_with fail
      go_roundw
      case rel =>
        refine ⟨j + 1, cur.setIfInBounds j (.string v), hlt, by go_num, by go_num, ?_, by simpa using hc, ?_, ?_, (hbut.trans (But.of_below (hb2.mono (by have := hbut.size; omega)))).set _ _⟩
        · have h := HG2.out
          simp [World.setCell, Array.getElem?_modify, h]
        · intro l hl
          by_cases e : l = j
          · subst e
            exact ⟨v, by rw [Array.getElem?_setIfInBounds]; simp; omega⟩
          · obtain ⟨y, hy⟩ := HALL.out l hl
            exact ⟨y, by rw [Array.getElem?_setIfInBounds]; simp [Ne.symm e, hy]⟩
        · intro l hl
          by_cases e : l = j
          · subst e
            rw [HV.out, Array.getElem?_setIfInBounds]; simp; omega
          · rw [Array.getElem?_setIfInBounds]
            simp [Ne.symm e]
            exact HDONE.out l (by omega)
      case measure => simp [intOf]; omega
    · go_wp2_with fail
      go_ret
      refine ⟨ret_int (by have : j = n := by omega
                          rw [this]), ⟨cur, HG.out, hc, by simp [marks], fun l x hl => ?_⟩, hbut⟩
      have hln : l < n := by
        have := (List.getElem?_eq_some_iff.1 hl).1
        simpa [marks] using this
      rw [marks_at k n l hln] at hl
      simp only [Option.some.injEq] at hl
      rw [← hl]
      exact HDONE.out l (by omega)

end Go.Proofs.YtlpfgiegapelmaaDoor

namespace Go.Proofs.YtlpfgiegapelmaaDoor
open Go.RowKit

/-- The marks k, k+1, .. as pairs. -/
def marks2 (k n : Nat) : List (ByteArray × ByteArray) := (List.range n).map fun j => (strOf (mark (k + 2 * j)), strOf (mark (k + 2 * j + 1)))
theorem marks2_at (k n j : Nat) (h : j < n) : (marks2 k n)[j]? = some (strOf (mark (k + 2 * j)), strOf (mark (k + 2 * j + 1))) := by
  simp [marks2, h]

end Go.Proofs.YtlpfgiegapelmaaDoor
