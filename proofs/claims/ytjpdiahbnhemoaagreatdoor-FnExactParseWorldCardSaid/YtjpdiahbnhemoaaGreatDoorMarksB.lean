/- The exact laws' own helpers over lists of strings: eqStringS, markText, markStringS, heldStringS. Marks laid into a row of bindings that the program handed back, and read again. -/
import Derived.Test.YtjpdiahbnhemoaaGreatDoorRen
import Derived.Deep.RegionWith
import Derived.Test.YtjpdiahbnhemoaaGreatDoorArgsB
namespace Go.Proofs.YtjpdiahbnhemoaaGreatDoor
open Go.RowKit

/-- The slice (A, n) reads as the strings xs. -/
def Strs (w : World) (A : Option Addr) (n : Nat) (xs : List ByteArray) : Prop :=
  xs.length = n ∧ (0 < n → ∃ g o, A = some ⟨g, o, none⟩ ∧ g < w.heap.size ∧ ∀ j x, xs[j]? = some x → w.cell? ⟨g, o + j, none⟩ = some (.string x))
theorem Strs.below {w w' : World} {A : Option Addr} {n : Nat} {xs : List ByteArray} (h : Strs w A n xs) (hb : Below w.heap.size w w') : Strs w' A n xs := by
  refine ⟨h.1, fun hn => ?_⟩
  obtain ⟨g, o, e, hg, hc⟩ := h.2 hn
  exact ⟨g, o, e, Nat.lt_of_lt_of_le hg hb.size, fun j x hj => cell_below (hc j x hj) hg hb⟩

/-- The digits of a number ahead of acc. -/
def dg : Nat → Nat → List UInt8 → List UInt8
  | 0, _, acc => acc
  | f + 1, k, acc => if k = 0 then acc else dg f (k / 10) (UInt8.ofNat (48 + k % 10) :: acc)
theorem dg_zero (f : Nat) (acc : List UInt8) : dg f 0 acc = acc := by cases f <;> simp [dg]
def mark (k : Nat) : List UInt8 := 109 :: dg k k []

set_option maxHeartbeats 1000000 in
set_option maxRecDepth 100000 in
theorem markText_any (k : Nat) (hk0 : 0 < k) (hk : k ≤ 4194304) (w : World) :
    Calls Tryz.prog 33 #[.int .i64 k] w fun e w' => e = .returned (.string (strOf (mark k))) ∧ Below w.heap.size w w' := by
  have hne : ¬ (k : Int) ≤ 0 := by omega
  go_enter Tryz.func33, Tryz.ntmps33
  go_wp2_with fail
  go_loopw [0, 3] (fun v o wr => ∃ (k' f : Nat) (b : ByteArray), v = .int .i64 k' ∧ o = .string b ∧ dg f k' b.data.toList = dg k k [] ∧ k' ≤ f ∧ b.size + k' ≤ k ∧ Below w.heap.size w wr) (fun v _ _ => (intOf v).toNat)
  case atStart => exact ⟨k, k, ⟨#[]⟩, rfl, rfl, rfl, Nat.le_refl _, by show 0 + k ≤ k; omega, Below.refl _ _⟩
  case round =>
    obtain ⟨k', f, b, rfl, rfl, hd, hf, hz, hbel⟩ := hrel
    have HD := hid hd
    clear hd
    by_cases h0 : 0 < k'
    · obtain ⟨f', rfl⟩ : ∃ f', f = f' + 1 := ⟨f - 1, by omega⟩
      have hc : (((UInt8.ofNat (48 + k' % 10)).toNat : Nat) : Int) = 48 + (k' : Int) % 10 := by
        have : (48 + k' % 10) < 256 := by omega
        rw [UInt8.toNat_ofNat', Nat.mod_eq_of_lt this]
        omega
      have hcv := conv_one wr (UInt8.ofNat (48 + k' % 10))
      rw [hc] at hcv
      have happ := hid (show (strOf [UInt8.ofNat (48 + k' % 10)] ++ b).data.toList = UInt8.ofNat (48 + k' % 10) :: b.data.toList by rw [ByteArray.data_append, Array.toList_append]; rfl)
      obtain ⟨v, hv⟩ : ∃ v, strOf [UInt8.ofNat (48 + k' % 10)] = v := ⟨_, rfl⟩
      have hvs : v.size = 1 := by rw [← hv]; rfl
      have HVS := hid hvs
      have hvs' : v.size ≤ 1 := by omega
      rw [hv] at hcv happ
      clear hv hc hvs
      have hb10 : (0 : Int) ≤ (k' : Int) % 10 := by omega
      have hb11 : (k' : Int) % 10 ≤ 9 := by omega
      go_wp2_with fail
      go_roundw
      case rel =>
        refine ⟨k' / 10, f', _, by go_num, rfl, ?_, by omega, ?_, hbel.alloc hbel.size _⟩
        · rw [happ.out, ← HD.out]
          simp only [dg, if_neg (show ¬ k' = 0 by omega)]
        · rw [ByteArray.size_append, HVS.out]
          omega
      case measure => simp [intOf]; omega
    · have hk0 : k' = 0 := by omega
      subst hk0
      go_wp2_with fail
      go_ret
      refine ⟨?_, hbel⟩
      show Ending.returned (.string _) = .returned (.string _)
      congr 2
      refine strOf_eq ?_
      have h := HD.out
      rw [dg_zero] at h
      rw [ByteArray.data_append, Array.toList_append, h]
      rfl

/-- The marks k, k+1, .. -/
def marks (k n : Nat) : List ByteArray := (List.range n).map fun j => strOf (mark (k + j))
theorem marks_at (k n j : Nat) (h : j < n) : (marks k n)[j]? = some (strOf (mark (k + j))) := by
  simp [marks, h]

/-- Block g is a row of strings of which the first n are xs; none of it frozen. -/
def OwnStrs (w : World) (g n : Nat) (xs : List ByteArray) : Prop :=
  ∃ cur : Array Value, w.heap[g]? = some (.cells cur 9 (0, 0)) ∧ n ≤ cur.size ∧ xs.length = n ∧ ∀ (j : Nat) x, xs[j]? = some x → cur[j]? = some (.string x)
theorem OwnStrs.strs {w : World} {g n : Nat} {xs : List ByteArray} (h : OwnStrs w g n xs) : Strs w (some ⟨g, 0, none⟩) n xs := by
  obtain ⟨cur, hg, hn, hl, hx⟩ := h
  refine ⟨hl, fun _ => ⟨g, 0, rfl, (Array.getElem?_eq_some_iff.1 hg).1, fun j x hj => ?_⟩⟩
  unfold World.cell?
  rw [show w.heap[(⟨g, 0 + j, none⟩ : Addr).block]? = _ from hg]
  simpa using hx j x hj

end Go.Proofs.YtjpdiahbnhemoaaGreatDoor

namespace Go.Proofs.YtjpdiahbnhemoaaGreatDoor
open Go.RowKit

/-- The marks k, k+1, .. as pairs. -/
def marks2 (k n : Nat) : List (ByteArray × ByteArray) := (List.range n).map fun j => (strOf (mark (k + 2 * j)), strOf (mark (k + 2 * j + 1)))
theorem marks2_at (k n j : Nat) (h : j < n) : (marks2 k n)[j]? = some (strOf (mark (k + 2 * j)), strOf (mark (k + 2 * j + 1))) := by
  simp [marks2, h]

end Go.Proofs.YtjpdiahbnhemoaaGreatDoor
