/- The exact laws' own helpers over an argument of strings: szStringS, toStringS. -/
import Derived.Test.YtlpfgiegapelmaaDoorPartsS
import Derived.Deep.OwnRows
import Derived.SliceStrings
namespace Go.Proofs.YtlpfgiegapelmaaDoor
open Go.RowKit

set_option maxHeartbeats 1000000 in
set_option maxRecDepth 100000 in
theorem szStringS_any (A : Option Addr) (n c : Nat) (xs : List ByteArray) (left : Nat) (w : World) (ha : Strs w A n xs) (hz : ∀ x ∈ xs, x.size ≤ maxLen) (hn : n ≤ maxLen) (hl : left ≤ 1048576) :
    Calls Tryd.prog 43 #[.slice A n c, .int .i64 left] w fun e w' => ∃ (r : Int) (m : Nat), e = .returned (.int .i64 r) ∧ w' = w.drewN m ∧ (r = -1 ∨ (0 ≤ r ∧ r ≤ left ∧ n ≤ left)) := by
  have HA := hid ha
  have HZ := hid hz
  clear ha hz
  unfold maxLen at hn
  by_cases h0 : left < n
  · go_enter Tryd.func43, Tryd.ntmps43
    go_wp2_with fail
    go_ret
    exact ⟨-1, 0, rfl, rfl, .inl rfl⟩
  · go_enter Tryd.func43, Tryd.ntmps43
    go_wp2_with fail
    go_loopw [1, 5] (fun l i wr => ∃ k m l' : Nat, k ≤ n ∧ i = .int .i64 k ∧ l = .int .i64 l' ∧ l' ≤ left ∧ wr = w.drewN m) (fun _ i _ => n - (intOf i).toNat)
    case atStart => exact ⟨0, 0, left - n, Nat.zero_le _, rfl, by go_num, by omega, rfl⟩
    case round =>
      obtain ⟨k, m, l', hk, rfl, rfl, hl', rfl⟩ := hrel
      by_cases hlt : k < n
      · obtain ⟨g, o, rfl, _, hca⟩ := HA.out.2 (by omega)
        have hx : xs[k]? = some (xs[k]'(by have := HA.out.1; omega)) := List.getElem?_eq_getElem _
        have ca := hca k _ hx
        have hsz := HZ.out _ (List.mem_of_getElem? hx)
        obtain ⟨x, ex⟩ : ∃ x, xs[k]'(by have := HA.out.1; omega) = x := ⟨_, rfl⟩
        rw [ex] at ca hsz
        unfold maxLen at hsz
        clear hca hx ex
        have i1 : (0 : Int) ≤ (k : Int) := by omega
        have i2 : (k : Int) < (n : Int) := by omega
        by_cases hle : l' < x.size
        · go_wp2_with fail
          go_ret
          exact ⟨-1, _, rfl, rfl, .inl rfl⟩
        · go_wp2_with fail
          go_roundw
          case rel => exact ⟨k + 1, _, l' - x.size, hlt, by go_num, by go_num, by omega, rfl⟩
          case measure => simp [intOf]; omega
      · go_wp2_with fail
        go_ret
        exact ⟨l', m, rfl, rfl, .inr ⟨by omega, by omega, by omega⟩⟩

set_option maxHeartbeats 1000000 in
set_option maxRecDepth 100000 in
theorem toStringS_any (A : Option Addr) (n c : Nat) (xs : List ByteArray) (w : World) (ha : Strs w A n xs) (hn : n ≤ 1048576) :
    Calls Tryd.prog 44 #[.slice A n c] w fun e w' => e = .returned (.slice (some ⟨w.heap.size, 0, none⟩) n n) ∧ OwnStrs w' w.heap.size n xs ∧ Below w.heap.size w w' := by
  have HA := hid ha
  clear ha
  have hmk := fun W => run_make_row' (P := Tryd.prog) 24 9 (.string ⟨#[]⟩) 16 Tryd.underlying24 stringInfo rfl .i64 .i64 n (by omega) (by omega) W
  go_enter Tryd.func44, Tryd.ntmps44
  go_wp2_with fail
  clear hmk
  have HG0 := hid (heap_new1 w (.cells (madeCells #[.string ⟨#[]⟩] n) 9))
  go_loopw [4] (fun i wr => ∃ (j : Nat) (cur : Array Value), j ≤ n ∧ i = .int .i64 j ∧ wr.heap[w.heap.size]? = some (.cells cur 9 (0, 0)) ∧ cur.size = n ∧
      (∀ l, l < n → ∃ x, cur[l]? = some (.string x)) ∧ (∀ l x, l < j → xs[l]? = some x → cur[l]? = some (.string x)) ∧ Below w.heap.size w wr) (fun i _ => n - (intOf i).toNat)
  case atStart =>
    refine ⟨0, _, Nat.zero_le _, rfl, HG0.out, by simp [madeCells], fun l hl => ⟨⟨#[]⟩, ?_⟩, fun l x hl => absurd hl (Nat.not_lt_zero _), (Below.refl _ _).alloc (Nat.le_refl _) _⟩
    simp [madeCells, hl, Nat.mod_one]
  case round =>
    obtain ⟨j, cur, hj, rfl, hg, hc, hall, hdone, hbel⟩ := hrel
    have HALL := hid hall
    have HDONE := hid hdone
    have HG := hid hg
    clear hall hdone hg
    by_cases hlt : j < n
    · obtain ⟨g, o, rfl, hgl, hca⟩ := HA.out.2 (by omega)
      have hx : xs[j]? = some (xs[j]'(by have := HA.out.1; omega)) := List.getElem?_eq_getElem _
      have ca := cell_below (hca j _ hx) hgl hbel
      obtain ⟨x, ex⟩ : ∃ x, xs[j]'(by have := HA.out.1; omega) = x := ⟨_, rfl⟩
      rw [ex] at ca hx
      have HX := hid hx
      clear hca hx ex
      have i1 : (0 : Int) ≤ (j : Int) := by omega
      have i2 : (j : Int) < (n : Int) := by omega
      obtain ⟨x0, hx0⟩ := HALL.out j hlt
      have c2 : wr.cell? ⟨w.heap.size, j, none⟩ = some (.string x0) := by
        unfold World.cell?
        rw [show wr.heap[(⟨w.heap.size, j, none⟩ : Addr).block]? = _ from HG.out]
        exact hx0
      have f2 : wr.frozen? ⟨w.heap.size, j, none⟩ = false := by
        unfold World.frozen?
        rw [show wr.heap[(⟨w.heap.size, j, none⟩ : Addr).block]? = _ from HG.out]
        simp
      clear hx0
      go_wp2_with fail
      go_roundw
      case rel =>
        refine ⟨j + 1, cur.setIfInBounds j (.string x), hlt, by go_num, ?_, by simpa using hc, ?_, ?_, hbel.setCell (Nat.le_refl _) _⟩
        · have h := HG.out
          simp [World.setCell, Array.getElem?_modify, h]
        · intro l hl
          by_cases e : l = j
          · subst e
            exact ⟨x, by rw [Array.getElem?_setIfInBounds]; simp; omega⟩
          · obtain ⟨y, hy⟩ := HALL.out l hl
            exact ⟨y, by rw [Array.getElem?_setIfInBounds]; simp [Ne.symm e, hy]⟩
        · intro l y hl hy
          by_cases e : l = j
          · subst e
            rw [HX.out] at hy
            simp only [Option.some.injEq] at hy
            subst hy
            rw [Array.getElem?_setIfInBounds]; simp; omega
          · rw [Array.getElem?_setIfInBounds]
            simp [Ne.symm e]
            exact HDONE.out l y (by omega) hy
      case measure => simp [intOf]; omega
    · go_wp2_with fail
      go_ret
      refine ⟨rfl, ⟨cur, HG.out, by omega, HA.out.1, fun l x hl => ?_⟩, hbel⟩
      have hln : l < n := by
        have := (List.getElem?_eq_some_iff.1 hl).1
        have := HA.out.1
        omega
      exact HDONE.out l x (by omega) hl

/-- An argument of strings, opened. -/
theorem strs_of {w : World} {a : Addr} {len : Nat} {ss : List ByteArray} (hl : len ≤ ss.length) (hcell : ∀ i, i < ss.length → w.cell? (a.add i) = some (.string (ss.getD i ByteArray.empty))) : Strs w (some a) len (ss.take len) := by
  refine ⟨by simp [hl], fun hn => ?_⟩
  have h0 := hcell 0 (by omega)
  have e0 : a.add 0 = a := by simp [Addr.add]
  rw [e0] at h0
  obtain ⟨b, o, sp⟩ := a
  have hsp : sp = none := by
    unfold World.cell? at h0
    split at h0
    · cases sp with
      | none => rfl
      | some k => simp at h0
    · cases h0
  subst hsp
  have hb : b < w.heap.size := by
    unfold World.cell? at h0
    split at h0
    · rename_i c _ _ hh
      exact (Array.getElem?_eq_some_iff.1 hh).1
    · cases h0
  refine ⟨b, o, rfl, hb, fun j x hj => ?_⟩
  have hjl : j < len := by
    have := (List.getElem?_eq_some_iff.1 hj).1
    simp at this
    omega
  have hc := hcell j (by omega)
  have ea : (⟨b, o, none⟩ : Addr).add j = ⟨b, o + j, none⟩ := by
    unfold Addr.add
    split
    · rename_i h
      subst h
      rfl
    · rfl
  rw [ea] at hc
  rw [hc]
  rw [List.getElem?_take_of_lt hjl] at hj
  simp [List.getD, hj]

end Go.Proofs.YtlpfgiegapelmaaDoor
