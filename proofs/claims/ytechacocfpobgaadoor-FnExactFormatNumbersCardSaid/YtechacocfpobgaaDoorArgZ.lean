/- Rows of numbers as arguments: their copy; opened. -/
import Derived.Test.YtechacocfpobgaaDoorKeep
import Derived.Test.YtechacocfpobgaaDoorArgsS
import Derived.ChangeSlices
namespace Go.Proofs.YtechacocfpobgaaDoor
open Go.RowKit
set_option linter.unusedVariables false

set_option maxHeartbeats 1000000 in
set_option maxRecDepth 100000 in
theorem toIntS_any (A : Option Addr) (n c : Nat) (xs : List Int) (w : World) (ha : Ints w A n xs) (hn : n ≤ 1048576) :
    Calls Tryd.prog 28 #[.slice A n c] w fun e w' => e = .returned (.slice (some ⟨w.heap.size, 0, none⟩) n n) ∧ OwnZ w' w.heap.size n xs ∧ Below w.heap.size w w' := by
  have HA := hid ha
  clear ha
  have hmk := fun W => run_make_row' (P := Tryd.prog) 30 3 (.int .i64 0) 8 Tryd.underlying30 infoIntK rfl .i64 .i64 n (by omega) (by omega) W
  go_enter Tryd.func28, Tryd.ntmps28
  go_wp2_with fail
  clear hmk
  have HG0 := hid (heap_new1 w (.cells (madeCells #[.int .i64 0] n) 3))
  go_loopw [4] (fun i wr => ∃ (j : Nat) (cur : Array Value), j ≤ n ∧ i = .int .i64 j ∧ wr.heap[w.heap.size]? = some (.cells cur 3 (0, 0)) ∧ cur.size = n ∧
      (∀ l, l < n → ∃ x, cur[l]? = some (.int .i64 x)) ∧ (∀ l x, l < j → xs[l]? = some x → cur[l]? = some (.int .i64 x)) ∧ Below w.heap.size w wr) (fun i _ => n - (intOf i).toNat)
  case atStart =>
    refine ⟨0, _, Nat.zero_le _, rfl, HG0.out, by simp [madeCells], fun l hl => ⟨0, ?_⟩, fun l x hl => absurd hl (Nat.not_lt_zero _), (Below.refl _ _).alloc (Nat.le_refl _) _⟩
    simp [madeCells, hl, Nat.mod_one]
  case round =>
    obtain ⟨j, cur, hj, rfl, hg, hc, hall, hdone, hbel⟩ := hrel
    have HALL := hid hall
    have HDONE := hid hdone
    have HG := hid hg
    clear hall hdone hg
    by_cases hlt : j < n
    · obtain ⟨g, o, rfl, hgl, hca⟩ := HA.out.2 (by omega)
      have hx : xs[j]? = some (xs[j]'(by have := HA.out.1; omega)) := List.getElem?_eq_getElem _
      have ca := cell_below (hca j _ hx) hgl hbel
      obtain ⟨x, ex⟩ : ∃ x, xs[j]'(by have := HA.out.1; omega) = x := ⟨_, rfl⟩
      rw [ex] at ca hx
      have HX := hid hx
      clear hca hx ex
      have i1 : (0 : Int) ≤ (j : Int) := by omega
      have i2 : (j : Int) < (n : Int) := by omega
      obtain ⟨x0, hx0⟩ := HALL.out j hlt
      have c2 : wr.cell? ⟨w.heap.size, j, none⟩ = some (.int .i64 x0) := by
        unfold World.cell?
        rw [show wr.heap[(⟨w.heap.size, j, none⟩ : Addr).block]? = _ from HG.out]
        exact hx0
      have f2 : wr.frozen? ⟨w.heap.size, j, none⟩ = false := by
        unfold World.frozen?
        rw [show wr.heap[(⟨w.heap.size, j, none⟩ : Addr).block]? = _ from HG.out]
        simp
      clear hx0
      go_wp2_with fail
      go_roundw
      case rel =>
        refine ⟨j + 1, cur.setIfInBounds j (.int .i64 x), hlt, by go_num, ?_, by simpa using hc, ?_, ?_, hbel.setCell (Nat.le_refl _) _⟩
        · have h := HG.out
          simp [World.setCell, Array.getElem?_modify, h]
        · intro l hl
          by_cases e : l = j
          · subst e
            exact ⟨x, by rw [Array.getElem?_setIfInBounds]; simp; omega⟩
          · obtain ⟨y, hy⟩ := HALL.out l hl
            exact ⟨y, by rw [Array.getElem?_setIfInBounds]; simp [Ne.symm e, hy]⟩
        · intro l y hl hy
          by_cases e : l = j
          · subst e
            rw [HX.out] at hy
            simp only [Option.some.injEq] at hy
            subst hy
            rw [Array.getElem?_setIfInBounds]; simp; omega
          · rw [Array.getElem?_setIfInBounds]
            simp [Ne.symm e]
            exact HDONE.out l y (by omega) hy
      case measure => simp [intOf]; omega
    · go_wp2_with fail
      go_ret
      refine ⟨rfl, ⟨cur, HG.out, by omega, HA.out.1, fun l x hl => ?_⟩, hbel⟩
      have hln : l < n := by
        have := (List.getElem?_eq_some_iff.1 hl).1
        have := HA.out.1
        omega
      exact HDONE.out l x (by omega) hl

theorem ints_of {w : World} {a : Addr} {len : Nat} {zs : List Int} (hl : len ≤ zs.length) (hcell : ∀ i, i < zs.length → w.cell? (a.add i) = some (.int .i64 (zs.getD i 0))) : Ints w (some a) len (zs.take len) := by
  refine ⟨by simp [hl], fun hn => ?_⟩
  have h0 := hcell 0 (by omega)
  have e0 : a.add 0 = a := by simp [Addr.add]
  rw [e0] at h0
  obtain ⟨b, o, sp⟩ := a
  have hsp : sp = none := by
    unfold World.cell? at h0
    split at h0
    · cases sp with
      | none => rfl
      | some k => simp at h0
    · cases h0
  subst hsp
  have hb : b < w.heap.size := by
    unfold World.cell? at h0
    split at h0
    · rename_i c _ _ hh
      exact (Array.getElem?_eq_some_iff.1 hh).1
    · cases h0
  refine ⟨b, o, rfl, hb, fun j x hj => ?_⟩
  have hjl : j < len := by
    have := (List.getElem?_eq_some_iff.1 hj).1
    simp at this
    omega
  have hc := hcell j (by omega)
  have ea : (⟨b, o, none⟩ : Addr).add j = ⟨b, o + j, none⟩ := by
    unfold Addr.add
    split
    · rename_i h
      subst h
      rfl
    · rfl
  rw [ea] at hc
  rw [hc]
  rw [List.getElem?_take_of_lt hjl] at hj
  simp [List.getD, hj]

end Go.Proofs.YtechacocfpobgaaDoor
