/- Marks laid into a row of needs that the program handed back, and read again. -/
import Derived.Test.YtmpmalcjfckemaaDoorMarks
import Derived.Test.YtmpmalcjfckemaaDoorArgsB
namespace Go.Proofs.YtmpmalcjfckemaaDoor
open Go.RowKit

/-- The marks k, k+1, .. as pairs. -/
def marksN (k n : Nat) : List (ByteArray × ByteArray) := (List.range n).map fun j => (strOf (mark (k + 2 * j)), strOf (mark (k + 2 * j + 1)))
theorem marksN_at (k n j : Nat) (h : j < n) : (marksN k n)[j]? = some (strOf (mark (k + 2 * j)), strOf (mark (k + 2 * j + 1))) := by
  simp [marksN, h]

/-- Block g is a row of bindings of which the first n are zs; none of it frozen. -/
def RowPrN (w : World) (g n : Nat) (zs : List (ByteArray × ByteArray)) : Prop :=
  ∃ cur : Array Value, w.heap[g]? = some (.cells cur 36 (0, 0)) ∧ n * 2 ≤ cur.size ∧ zs.length = n ∧ ∀ (j : Nat) z, zs[j]? = some z → cur[j * 2]? = some (.string z.1) ∧ cur[j * 2 + 1]? = some (.string z.2)
theorem RowPrN.prs {w : World} {g n : Nat} {zs : List (ByteArray × ByteArray)} (h : RowPrN w g n zs) : Prs w (some ⟨g, 0, none⟩) n zs := by
  obtain ⟨cur, h1, h2, h3, h4⟩ := h
  refine ⟨h3, fun _ => ⟨g, 0, rfl, (Array.getElem?_eq_some_iff.1 h1).1, fun j z hj => ?_⟩⟩
  obtain ⟨e1, e2⟩ := h4 j z hj
  constructor
  · unfold World.cell?
    rw [show w.heap[(⟨g, 0 + j * 2, none⟩ : Addr).block]? = _ from h1]
    simpa using e1
  · unfold World.cell?
    rw [show w.heap[(⟨g, 0 + j * 2 + 1, none⟩ : Addr).block]? = _ from h1]
    simpa using e2

set_option maxHeartbeats 1000000 in
set_option maxRecDepth 100000 in
theorem markNeedS_any (g k n c : Nat) (zs : List (ByteArray × ByteArray)) (w : World) (ha : RowPrN w g n zs) (hk : 0 < k) (hn : k + 2 * n ≤ 4194304) :
    Calls Tryd.prog 46 #[.slice (some ⟨g, 0, none⟩) n c, .int .i64 k] w fun e w' => e = .returned (.int .i64 (k + 2 * n : Nat)) ∧ RowPrN w' g n (marksN k n) ∧ But w.heap.size g w w' := by
  obtain ⟨cur0, hg0, hn0, hl0, hx0⟩ := ha
  have zg : g < w.heap.size := (Array.getElem?_eq_some_iff.1 hg0).1
  have HX0 := hid hx0
  have HG0 := hid hg0
  have HL0 := hid hl0
  clear hx0 hg0 hl0
  go_enter Tryd.func46, Tryd.ntmps46
  go_wp2_with fail
  go_loopw [1, 5] (fun q i wr => ∃ (j : Nat) (cur : Array Value), j ≤ n ∧ i = .int .i64 j ∧ q = .int .i64 (k + 2 * j : Nat) ∧ wr.heap[g]? = some (.cells cur 36 (0, 0)) ∧ n * 2 ≤ cur.size ∧
      (∀ l, l < n * 2 → ∃ x, cur[l]? = some (.string x)) ∧ (∀ l, l < j → cur[l * 2]? = some (.string (strOf (mark (k + 2 * l)))) ∧ cur[l * 2 + 1]? = some (.string (strOf (mark (k + 2 * l + 1))))) ∧ But w.heap.size g w wr) (fun _ i _ => n - (intOf i).toNat)
  case atStart =>
    refine ⟨0, cur0, Nat.zero_le _, rfl, rfl, HG0.out, hn0, fun l hl => ?_, fun l hl => absurd hl (Nat.not_lt_zero _), But.refl _ _ _⟩
    have hx : zs[l / 2]? = some (zs[l / 2]'(by rw [HL0.out]; omega)) := List.getElem?_eq_getElem _
    obtain ⟨q0, q1⟩ := HX0.out (l / 2) _ hx
    rcases Nat.mod_two_eq_zero_or_one l with h | h
    · rw [show l / 2 * 2 = l by omega] at q0
      exact ⟨_, q0⟩
    · rw [show l / 2 * 2 + 1 = l by omega] at q1
      exact ⟨_, q1⟩
  case round =>
    obtain ⟨j, cur, hj, rfl, rfl, hg, hc, hall, hdone, hbut⟩ := hrel
    have HALL := hid hall
    have HDONE := hid hdone
    have HG := hid hg
    clear hall hdone hg
    by_cases hlt : j < n
    · have i1 : (0 : Int) ≤ (j : Int) := by omega
      have i2 : (j : Int) < (n : Int) := by omega
      obtain ⟨q, hq⟩ : ∃ q, k + 2 * j = q := ⟨_, rfl⟩
      have hq0 : 0 < q := by omega
      have hq1 : q + 2 ≤ 4194304 := by omega
      have hqi : ((k + 2 * j : Nat) : Int) = (q : Int) := by rw [hq]
      rw [hqi]
      have HQ := hid hq
      clear hq hqi
      have hm1 := hid (fun W => markText_any q (by omega) (by omega) W)
      have hm2' := fun W => markText_any (q + 1) (by omega) (by omega) W
      simp only [show ((q + 1 : Nat) : Int) = (q : Int) + 1 by omega] at hm2'
      have hm2 := hid hm2'
      clear hm2'
      go_wp2_with fail
      refine (hm1.out _).mono ?_
      rintro e w2 ⟨rfl, hb2⟩
      have zr : g < wr.heap.size := (Array.getElem?_eq_some_iff.1 HG.out).1
      have hg2 := (hb2.block g zr).trans HG.out
      obtain ⟨x, hx⟩ := HALL.out (j * 2) (by omega)
      obtain ⟨y, hy⟩ := HALL.out (j * 2 + 1) (by omega)
      have c2 := cell_blk hg2 hx
      have f2 := frz_blk hg2
      have HG2 := hid hg2
      have HY := hid hy
      clear hg2 hx hy
      obtain ⟨v, hv⟩ : ∃ v, strOf (mark q) = v := ⟨_, rfl⟩
      have HV := hid hv
      rw [hv]
      clear hv
      go_wp2_with fail
      obtain ⟨W3, hW3⟩ : ∃ W3, w2.setCell ⟨g, j * 2, none⟩ (.string v) = W3 := ⟨_, rfl⟩
      have hg3 : W3.heap[g]? = some (.cells (cur.setIfInBounds (j * 2) (.string v)) 36 (0, 0)) := by
        have h := HG2.out
        rw [← hW3]
        simp [World.setCell, Array.getElem?_modify, h]
      have hb3 : But w.heap.size g w W3 := by
        rw [← hW3]
        exact (hbut.trans (But.of_below (hb2.mono (by have := hbut.size; omega)))).set _ _
      have hr3 : Below W3.heap.size W3 W3 := Below.refl _ _
      rw [hW3]
      have HG3 := hid hg3
      have HB3 := hid hb3
      have z3 : g < W3.heap.size := (Array.getElem?_eq_some_iff.1 hg3).1
      clear hW3 hg3 hb3 hr3 c2 f2
      refine (hm2.out _).mono ?_
      rintro e w4 ⟨rfl, hb4⟩
      have hg4 := (hb4.block g z3).trans HG3.out
      have c4 := cell_blk hg4 (j := j * 2 + 1) (v := .string y) (by
        rw [Array.getElem?_setIfInBounds, if_neg (by omega)]
        exact HY.out)
      have f4 := frz_blk hg4
      have HG4 := hid hg4
      clear hg4
      obtain ⟨u, hu⟩ : ∃ u, strOf (mark (q + 1)) = u := ⟨_, rfl⟩
      have HU := hid hu
      rw [hu]
      clear hu
      go_wp2_with fail
      go_roundw
      case rel =>
        refine ⟨j + 1, (cur.setIfInBounds (j * 2) (.string v)).setIfInBounds (j * 2 + 1) (.string u), hlt, by go_num, by have := HQ.out; go_num, ?_, by simpa using hc, ?_, ?_, (HB3.out.trans (But.of_below (hb4.mono HB3.out.size))).set _ _⟩
        · have h := HG4.out
          simp [World.setCell, Array.getElem?_modify, h]
        · intro l hl
          rw [Array.getElem?_setIfInBounds]
          by_cases e : j * 2 + 1 = l
          · exact ⟨u, by rw [if_pos e, if_pos (by simp; omega)]⟩
          · rw [if_neg e, Array.getElem?_setIfInBounds]
            by_cases e' : j * 2 = l
            · exact ⟨v, by rw [if_pos e', if_pos (by omega)]⟩
            · rw [if_neg e']
              exact HALL.out l hl
        · intro l hl
          by_cases e : l = j
          · subst e
            constructor
            · rw [Array.getElem?_setIfInBounds, if_neg (by omega), Array.getElem?_setIfInBounds, if_pos rfl, if_pos (by omega), HQ.out, HV.out]
            · rw [Array.getElem?_setIfInBounds, if_pos rfl, if_pos (by simp; omega), HQ.out, HU.out]
          · obtain ⟨q0, q1⟩ := HDONE.out l (by omega)
            constructor
            · rw [Array.getElem?_setIfInBounds, if_neg (by omega), Array.getElem?_setIfInBounds, if_neg (by omega)]
              exact q0
            · rw [Array.getElem?_setIfInBounds, if_neg (by omega), Array.getElem?_setIfInBounds, if_neg (by omega)]
              exact q1
      case measure => simp [intOf]; omega
    · go_wp2_with fail
      go_ret
      refine ⟨ret_int (by have : j = n := by omega
                          rw [this]), ⟨cur, HG.out, hc, by simp [marksN], fun l x hl => ?_⟩, hbut⟩
      have hln : l < n := by
        have := (List.getElem?_eq_some_iff.1 hl).1
        simpa [marksN] using this
      rw [marksN_at k n l hln] at hl
      simp only [Option.some.injEq] at hl
      rw [← hl]
      exact HDONE.out l (by omega)

set_option maxHeartbeats 400000 in
theorem markNeedS_nil (k c : Nat) (w : World) :
    Calls Tryd.prog 46 #[.slice none 0 c, .int .i64 k] w fun e w' => e = .returned (.int .i64 k) ∧ w' = w := by
  go_enter Tryd.func46, Tryd.ntmps46
  go_wp2_with fail
  refine wp_loop_rounds 1 ?_
  rw [rounds_succ]
  go_wp2_with fail
  go_ret
  exact ⟨rfl, rfl⟩

end Go.Proofs.YtmpmalcjfckemaaDoor
