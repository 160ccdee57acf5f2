/- Marks laid into a row of needs that the program handed back, and read again. Marks laid into the needs of an instance that the program handed back, and read again. A row of instances that was handed back: a block of its own, and one for the needs of each. Marks laid into a row of classes that the program handed back, and read again. Marks laid into a world that the program handed back, and read again. Marks laid into a world that the program handed back, and read again: the world. -/
import Derived.Test.YtjpdiahbnhemoaaGreatDoorMarksB
import Derived.Test.YtjpdiahbnhemoaaGreatDoorArgsB
import Derived.Test.YtjpdiahbnhemoaaGreatDoorInsA
import Derived.Deep.Cut
namespace Go.Proofs.YtjpdiahbnhemoaaGreatDoor
open Go.RowKit

/-- The marks k, k+1, .. as pairs. -/
def marksN (k n : Nat) : List (ByteArray × ByteArray) := (List.range n).map fun j => (strOf (mark (k + 2 * j)), strOf (mark (k + 2 * j + 1)))
theorem marksN_at (k n j : Nat) (h : j < n) : (marksN k n)[j]? = some (strOf (mark (k + 2 * j)), strOf (mark (k + 2 * j + 1))) := by
  simp [marksN, h]

set_option maxHeartbeats 1000000 in
set_option maxRecDepth 100000 in
theorem heldNeedS_any (A : Option Addr) (k n c : Nat) (w : World) (ha : Prs w A n (marksN k n)) (hk : 0 < k) (hn : k + 2 * n ≤ 4194304) :
    Calls Tryz.prog 35 #[.slice A n c, .int .i64 k] w fun e w' => e = .returned (.int .i64 (k + 2 * n : Nat)) ∧ Below w.heap.size w w' := by
  have HA := hid ha
  clear ha
  go_enter Tryz.func35, Tryz.ntmps35
  go_wp2_with fail
  go_loopw [1, 5] (fun q i wr => ∃ j : Nat, j ≤ n ∧ i = .int .i64 j ∧ q = .int .i64 (k + 2 * j : Nat) ∧ Below w.heap.size w wr) (fun _ i _ => n - (intOf i).toNat)
  case atStart => exact ⟨0, Nat.zero_le _, rfl, rfl, Below.refl _ _⟩
  case round =>
    obtain ⟨j, hj, rfl, rfl, hbel⟩ := hrel
    by_cases hlt : j < n
    · obtain ⟨g, o, rfl, hg, hca⟩ := HA.out.2 (by omega)
      obtain ⟨ca, cb⟩ := hca j _ (marksN_at k n j hlt)
      obtain ⟨q, hq⟩ : ∃ q, k + 2 * j = q := ⟨_, rfl⟩
      rw [hq] at ca cb
      have hq0 : 0 < q := by omega
      have hq1 : q + 2 ≤ 4194304 := by omega
      have hqi : ((k + 2 * j : Nat) : Int) = (q : Int) := by rw [hq]
      rw [hqi]
      have HQ := hid hq
      clear hq hqi
      obtain ⟨x, ex⟩ : ∃ x, strOf (mark q) = x := ⟨_, rfl⟩
      obtain ⟨y, ey⟩ : ∃ y, strOf (mark (q + 1)) = y := ⟨_, rfl⟩
      have hm1 := fun W => markText_any q (by omega) (by omega) W
      have hm2 := fun W => markText_any (q + 1) (by omega) (by omega) W
      simp only [show ((q + 1 : Nat) : Int) = (q : Int) + 1 by omega] at hm2
      rw [ex] at ca
      rw [ey] at cb
      simp only [ex] at hm1
      simp only [ey] at hm2
      have HM1 := hid hm1
      have HM2 := hid hm2
      have cw := cell_below ca hg hbel
      have dw := cell_below cb hg hbel
      have CW := hid cw
      have DW := hid dw
      clear hca hm1 hm2 ex ey ca cb dw
      have zg : g < wr.heap.size := by have := hbel.size; omega
      have i1 : (0 : Int) ≤ (j : Int) := by omega
      have i2 : (j : Int) < (n : Int) := by omega
      go_wp2_with fail
      go_region_with (go_at_call 33; refine (HM1.out _).mono ?_; rintro e w2 ⟨rfl, hb2⟩; have c2 := cell_below (w := wr.drew) CW.out zg hb2)
      all_goals
        have d2 := cell_below (w := wr.drew) DW.out zg hb2
        have D2 := hid d2
        have zg2 : g < w2.heap.size := Nat.lt_of_lt_of_le zg hb2.size
        have B2 := hid (hbel.drew.trans (hb2.mono hbel.size))
        clear c2 hb2
        go_wp2_with fail
        go_region_with (go_at_call 33; refine (HM2.out _).mono ?_; rintro e w3 ⟨rfl, hb3⟩; have c3 := cell_below (w := w2.drew) D2.out zg2 hb3)
        all_goals
          go_wp2_with fail
          go_roundw
          case rel => exact ⟨j + 1, hlt, by go_num, by have := HQ.out; go_num, B2.out.drew.trans (hb3.mono B2.out.size)⟩
          case measure => simp [intOf]; omega
    · go_wp2_with fail
      go_ret
      exact ⟨ret_int (by have : j = n := by omega
                         rw [this]), hbel⟩

/-- Block g is a row of bindings of which the first n are zs; none of it frozen. -/
def RowPrN (w : World) (g n : Nat) (zs : List (ByteArray × ByteArray)) : Prop :=
  ∃ cur : Array Value, w.heap[g]? = some (.cells cur 49 (0, 0)) ∧ n * 2 ≤ cur.size ∧ zs.length = n ∧ ∀ (j : Nat) z, zs[j]? = some z → cur[j * 2]? = some (.string z.1) ∧ cur[j * 2 + 1]? = some (.string z.2)
theorem RowPrN.prs {w : World} {g n : Nat} {zs : List (ByteArray × ByteArray)} (h : RowPrN w g n zs) : Prs w (some ⟨g, 0, none⟩) n zs := by
  obtain ⟨cur, h1, h2, h3, h4⟩ := h
  refine ⟨h3, fun _ => ⟨g, 0, rfl, (Array.getElem?_eq_some_iff.1 h1).1, fun j z hj => ?_⟩⟩
  obtain ⟨e1, e2⟩ := h4 j z hj
  constructor
  · unfold World.cell?
    rw [show w.heap[(⟨g, 0 + j * 2, none⟩ : Addr).block]? = _ from h1]
    simpa using e1
  · unfold World.cell?
    rw [show w.heap[(⟨g, 0 + j * 2 + 1, none⟩ : Addr).block]? = _ from h1]
    simpa using e2

set_option maxHeartbeats 1000000 in
set_option maxRecDepth 100000 in
theorem markNeedS_any (g k n c : Nat) (zs : List (ByteArray × ByteArray)) (w : World) (ha : RowPrN w g n zs) (hk : 0 < k) (hn : k + 2 * n ≤ 4194304) :
    Calls Tryz.prog 34 #[.slice (some ⟨g, 0, none⟩) n c, .int .i64 k] w fun e w' => e = .returned (.int .i64 (k + 2 * n : Nat)) ∧ RowPrN w' g n (marksN k n) ∧ But w.heap.size g w w' := by
  obtain ⟨cur0, hg0, hn0, hl0, hx0⟩ := ha
  have zg : g < w.heap.size := (Array.getElem?_eq_some_iff.1 hg0).1
  have HX0 := hid hx0
  have HG0 := hid hg0
  have HL0 := hid hl0
  clear hx0 hg0 hl0
  go_enter Tryz.func34, Tryz.ntmps34
  go_wp2_with fail
  go_loopw [1, 5] (fun q i wr => ∃ (j : Nat) (cur : Array Value), j ≤ n ∧ i = .int .i64 j ∧ q = .int .i64 (k + 2 * j : Nat) ∧ wr.heap[g]? = some (.cells cur 49 (0, 0)) ∧ n * 2 ≤ cur.size ∧
      (∀ l, l < n * 2 → ∃ x, cur[l]? = some (.string x)) ∧ (∀ l, l < j → cur[l * 2]? = some (.string (strOf (mark (k + 2 * l)))) ∧ cur[l * 2 + 1]? = some (.string (strOf (mark (k + 2 * l + 1))))) ∧ But w.heap.size g w wr) (fun _ i _ => n - (intOf i).toNat)
  case atStart =>
    refine ⟨0, cur0, Nat.zero_le _, rfl, rfl, HG0.out, hn0, fun l hl => ?_, fun l hl => absurd hl (Nat.not_lt_zero _), But.refl _ _ _⟩
    have hx : zs[l / 2]? = some (zs[l / 2]'(by rw [HL0.out]; omega)) := List.getElem?_eq_getElem _
    obtain ⟨q0, q1⟩ := HX0.out (l / 2) _ hx
    rcases Nat.mod_two_eq_zero_or_one l with h | h
    · rw [show l / 2 * 2 = l by omega] at q0
      exact ⟨_, q0⟩
    · rw [show l / 2 * 2 + 1 = l by omega] at q1
      exact ⟨_, q1⟩
  case round =>
    obtain ⟨j, cur, hj, rfl, rfl, hg, hc, hall, hdone, hbut⟩ := hrel
    have HALL := hid hall
    have HDONE := hid hdone
    have HG := hid hg
    clear hall hdone hg
    by_cases hlt : j < n
    · have i1 : (0 : Int) ≤ (j : Int) := by omega
      have i2 : (j : Int) < (n : Int) := by omega
      obtain ⟨q, hq⟩ : ∃ q, k + 2 * j = q := ⟨_, rfl⟩
      have hq0 : 0 < q := by omega
      have hq1 : q + 2 ≤ 4194304 := by omega
      have hqi : ((k + 2 * j : Nat) : Int) = (q : Int) := by rw [hq]
      rw [hqi]
      have HQ := hid hq
      clear hq hqi
      have hm1 := hid (fun W => markText_any q (by omega) (by omega) W)
      have hm2' := fun W => markText_any (q + 1) (by omega) (by omega) W
      simp only [show ((q + 1 : Nat) : Int) = (q : Int) + 1 by omega] at hm2'
      have hm2 := hid hm2'
      clear hm2'
      go_wp2_with fail
      refine (hm1.out _).mono ?_
      rintro e w2 ⟨rfl, hb2⟩
      have zr : g < wr.heap.size := (Array.getElem?_eq_some_iff.1 HG.out).1
      have hg2 := (hb2.block g zr).trans HG.out
      obtain ⟨x, hx⟩ := HALL.out (j * 2) (by omega)
      obtain ⟨y, hy⟩ := HALL.out (j * 2 + 1) (by omega)
      have c2 := cell_blk hg2 hx
      have f2 := frz_blk hg2
      have HG2 := hid hg2
      have HY := hid hy
      clear hg2 hx hy
      obtain ⟨v, hv⟩ : ∃ v, strOf (mark q) = v := ⟨_, rfl⟩
      have HV := hid hv
      rw [hv]
      clear hv
      go_wp2_with fail
      obtain ⟨W3, hW3⟩ : ∃ W3, w2.setCell ⟨g, j * 2, none⟩ (.string v) = W3 := ⟨_, rfl⟩
      have hg3 : W3.heap[g]? = some (.cells (cur.setIfInBounds (j * 2) (.string v)) 49 (0, 0)) := by
        have h := HG2.out
        rw [← hW3]
        simp [World.setCell, Array.getElem?_modify, h]
      have hb3 : But w.heap.size g w W3 := by
        rw [← hW3]
        exact (hbut.trans (But.of_below (hb2.mono (by have := hbut.size; omega)))).set _ _
      have hr3 : Below W3.heap.size W3 W3 := Below.refl _ _
      rw [hW3]
      have HG3 := hid hg3
      have HB3 := hid hb3
      have z3 : g < W3.heap.size := (Array.getElem?_eq_some_iff.1 hg3).1
      clear hW3 hg3 hb3 hr3 c2 f2
      refine (hm2.out _).mono ?_
      rintro e w4 ⟨rfl, hb4⟩
      have hg4 := (hb4.block g z3).trans HG3.out
      have c4 := cell_blk hg4 (j := j * 2 + 1) (v := .string y) (by
        rw [Array.getElem?_setIfInBounds, if_neg (by omega)]
        exact HY.out)
      have f4 := frz_blk hg4
      have HG4 := hid hg4
      clear hg4
      obtain ⟨u, hu⟩ : ∃ u, strOf (mark (q + 1)) = u := ⟨_, rfl⟩
      have HU := hid hu
      rw [hu]
      clear hu
      go_wp2_with fail
      go_roundw
      case rel =>
        refine ⟨j + 1, (cur.setIfInBounds (j * 2) (.string v)).setIfInBounds (j * 2 + 1) (.string u), hlt, by go_num, by have := HQ.out; go_num, ?_, by simpa using hc, ?_, ?_, (HB3.out.trans (But.of_below (hb4.mono HB3.out.size))).set _ _⟩
        · have h := HG4.out
          simp [World.setCell, Array.getElem?_modify, h]
        · intro l hl
          rw [Array.getElem?_setIfInBounds]
          by_cases e : j * 2 + 1 = l
          · exact ⟨u, by rw [if_pos e, if_pos (by simp; omega)]⟩
          · rw [if_neg e, Array.getElem?_setIfInBounds]
            by_cases e' : j * 2 = l
            · exact ⟨v, by rw [if_pos e', if_pos (by omega)]⟩
            · rw [if_neg e']
              exact HALL.out l hl
        · intro l hl
          by_cases e : l = j
          · subst e
            constructor
            · rw [Array.getElem?_setIfInBounds, if_neg (by omega), Array.getElem?_setIfInBounds, if_pos rfl, if_pos (by omega), HQ.out, HV.out]
            · rw [Array.getElem?_setIfInBounds, if_pos rfl, if_pos (by simp; omega), HQ.out, HU.out]
          · obtain ⟨q0, q1⟩ := HDONE.out l (by omega)
            constructor
            · rw [Array.getElem?_setIfInBounds, if_neg (by omega), Array.getElem?_setIfInBounds, if_neg (by omega)]
              exact q0
            · rw [Array.getElem?_setIfInBounds, if_neg (by omega), Array.getElem?_setIfInBounds, if_neg (by omega)]
              exact q1
      case measure => simp [intOf]; omega
    · go_wp2_with fail
      go_ret
      refine ⟨ret_int (by have : j = n := by omega
                          rw [this]), ⟨cur, HG.out, hc, by simp [marksN], fun l x hl => ?_⟩, hbut⟩
      have hln : l < n := by
        have := (List.getElem?_eq_some_iff.1 hl).1
        simpa [marksN] using this
      rw [marksN_at k n l hln] at hl
      simp only [Option.some.injEq] at hl
      rw [← hl]
      exact HDONE.out l (by omega)

set_option maxHeartbeats 400000 in
theorem markNeedS_nil (k c : Nat) (w : World) :
    Calls Tryz.prog 34 #[.slice none 0 c, .int .i64 k] w fun e w' => e = .returned (.int .i64 k) ∧ w' = w := by
  go_enter Tryz.func34, Tryz.ntmps34
  go_wp2_with fail
  refine wp_loop_rounds 1 ?_
  rw [rounds_succ]
  go_wp2_with fail
  go_ret
  exact ⟨rfl, rfl⟩

end Go.Proofs.YtjpdiahbnhemoaaGreatDoor

namespace Go.Proofs.YtjpdiahbnhemoaaGreatDoor
open Go.RowKit
set_option linter.unusedVariables false

/-- A slice of needs of one's own (or none). -/
def OwnN (w : World) (lo : Nat) (A : Option Addr) (n : Nat) (zs : List (ByteArray × ByteArray)) : Prop :=
  (A = none ∧ n = 0 ∧ zs = []) ∨ ∃ g, A = some ⟨g, 0, none⟩ ∧ lo ≤ g ∧ g < w.heap.size ∧ RowPrN w g n zs
theorem OwnN.prs {w : World} {lo n : Nat} {A : Option Addr} {zs : List (ByteArray × ByteArray)} (h : OwnN w lo A n zs) : Prs w A n zs := by
  rcases h with ⟨rfl, rfl, rfl⟩ | ⟨g, rfl, _, _, h⟩
  · exact ⟨rfl, fun h => absurd h (Nat.lt_irrefl 0)⟩
  · exact h.prs
theorem OwnN.of {w : World} {lo n c : Nat} {A : Option Addr} {zs : List (ByteArray × ByteArray)} (h : w.ownsRow lo 49 2 (.slice A n c) n (cells2 zs)) : OwnN w lo A n zs := by
  have hl : zs.length = n := by
    have h1 := h.1
    rw [cells2_len] at h1
    omega
  rcases h.2 with ⟨hA, rfl⟩ | ⟨g, cap, cur, hA, hb, hg, hc, hm, hs, ht⟩
  · injection hA with h1 h2 h3
    exact .inl ⟨h1, rfl, List.eq_nil_of_length_eq_zero hl⟩
  · injection hA with h1 h2 h3
    subst h1
    refine .inr ⟨g, rfl, hb, (Array.getElem?_eq_some_iff.1 hg).1, cur, hg, by rw [hs]; exact Nat.mul_le_mul_right 2 hc, hl, fun j z hj => ?_⟩
    obtain ⟨e1, e2⟩ := cells2_at zs j z hj
    have hjn : j < n := by rw [← hl]; exact (List.getElem?_eq_some_iff.1 hj).1
    rw [← ht] at e1 e2
    rw [List.getElem?_take, if_pos (by omega)] at e1 e2
    exact ⟨by simpa using e1, by simpa using e2⟩
theorem RowPrN.keep {w w' : World} {g n : Nat} {zs : List (ByteArray × ByteArray)} (h : RowPrN w g n zs) (e : w'.heap[g]? = w.heap[g]?) : RowPrN w' g n zs := by
  obtain ⟨cur, h1, h2⟩ := h
  exact ⟨cur, e.trans h1, h2⟩
theorem OwnN.below {w w' : World} {lo n : Nat} {A : Option Addr} {zs : List (ByteArray × ByteArray)} (h : OwnN w lo A n zs) (hb : Below w.heap.size w w') : OwnN w' lo A n zs := by
  rcases h with h | ⟨g, rfl, h1, h2, h3⟩
  · exact .inl h
  · exact .inr ⟨g, rfl, h1, Nat.lt_of_lt_of_le h2 hb.size, h3.keep (hb.block g h2)⟩

end Go.Proofs.YtjpdiahbnhemoaaGreatDoor

namespace Go.Proofs.YtjpdiahbnhemoaaGreatDoor
open Go.RowKit
set_option linter.unusedVariables false

/-- An instance, and where its needs lie. -/
abbrev InP := Ins × (Option Addr × Nat)
def cells3 (ps : List InP) : List Value := ps.flatMap fun p => [.string p.1.c, .string p.1.t, .slice p.2.1 p.1.ns.length p.2.2]
theorem cells3_len (ps : List InP) : (cells3 ps).length = ps.length * 3 := by
  induction ps with
  | nil => rfl
  | cons p ps ih =>
    unfold cells3 at ih ⊢
    rw [List.flatMap_cons, List.length_append, ih]
    simp only [List.length_cons, List.length_nil]
    omega
theorem cells3_at : ∀ (ps : List InP) (j : Nat) (p : InP), ps[j]? = some p → (cells3 ps)[j * 3]? = some (.string p.1.c) ∧ (cells3 ps)[j * 3 + 1]? = some (.string p.1.t) ∧ (cells3 ps)[j * 3 + 2]? = some (.slice p.2.1 p.1.ns.length p.2.2)
  | [], j, p, h => by simp at h
  | q :: ps, 0, p, h => by
    simp only [List.getElem?_cons_zero, Option.some.injEq] at h
    subst h
    exact ⟨rfl, rfl, rfl⟩
  | q :: ps, j + 1, p, h => by
    have h' : ps[j]? = some p := by simpa using h
    obtain ⟨h1, h2, h3⟩ := cells3_at ps j p h'
    have e : cells3 (q :: ps) = .string q.1.c :: .string q.1.t :: .slice q.2.1 q.1.ns.length q.2.2 :: cells3 ps := rfl
    rw [e, show (j + 1) * 3 = j * 3 + 1 + 1 + 1 by omega]
    exact ⟨by simpa using h1, by simpa using h2, by simpa using h3⟩
theorem cells3_snoc (ps : List InP) (p : InP) : cells3 (ps ++ [p]) = cells3 ps ++ [.string p.1.c, .string p.1.t, .slice p.2.1 p.1.ns.length p.2.2] := by
  unfold cells3
  rw [List.flatMap_append, List.flatMap_cons, List.flatMap_nil, List.append_nil]
/-- Block g is a row of instances of which the first m are those. -/
def RowI (w : World) (g m : Nat) (ps : List InP) : Prop :=
  ∃ cur : Array Value, w.heap[g]? = some (.cells cur 52 (0, 0)) ∧ m * 3 ≤ cur.size ∧ ps.length = m ∧ ∀ (j : Nat) p, ps[j]? = some p → cur[j * 3]? = some (.string p.1.c) ∧ cur[j * 3 + 1]? = some (.string p.1.t) ∧ cur[j * 3 + 2]? = some (.slice p.2.1 p.1.ns.length p.2.2)
theorem RowI.keep {w w' : World} {g m : Nat} {ps : List InP} (h : RowI w g m ps) (e : w'.heap[g]? = w.heap[g]?) : RowI w' g m ps := by
  obtain ⟨cur, h1, h2⟩ := h
  exact ⟨cur, e.trans h1, h2⟩
theorem RowI.lt {w : World} {g m : Nat} {ps : List InP} (h : RowI w g m ps) : g < w.heap.size := by
  obtain ⟨cur, h1, _⟩ := h
  exact (Array.getElem?_eq_some_iff.1 h1).1
theorem RowI.of {w : World} {base m g c : Nat} {ps : List InP} (h : w.ownsRow base 52 3 (.slice (some ⟨g, 0, none⟩) m c) m (cells3 ps)) : RowI w g m ps := by
  have hl : ps.length = m := by
    have h1 := h.1
    rw [cells3_len] at h1
    omega
  rcases h.2 with ⟨hA, rfl⟩ | ⟨g', cap, cur, hA, hb, hg, hc, hm, hs, ht⟩
  · cases hA
  · injection hA with h1 h2 h3
    injection h1 with h1
    injection h1 with h1
    subst h1
    refine ⟨cur, hg, by rw [hs]; exact Nat.mul_le_mul_right 3 hc, hl, fun j p hj => ?_⟩
    obtain ⟨e1, e2, e3⟩ := cells3_at ps j p hj
    have hjn : j < m := by rw [← hl]; exact (List.getElem?_eq_some_iff.1 hj).1
    rw [← ht] at e1 e2 e3
    rw [List.getElem?_take, if_pos (by omega)] at e1 e2 e3
    exact ⟨by simpa using e1, by simpa using e2, by simpa using e3⟩
theorem at_mid {A B : List InP} {p : InP} {j : Nat} {q : InP} (h : (A ++ p :: B)[j]? = some q) : (j < A.length ∧ ∀ x, (A ++ x :: B)[j]? = some q) ∨ (j = A.length ∧ q = p) ∨ (A.length < j ∧ ∀ x, (A ++ x :: B)[j]? = some q) := by
  rcases Nat.lt_trichotomy j A.length with hj | hj | hj
  · refine .inl ⟨hj, fun x => ?_⟩
    rw [List.getElem?_append_left hj] at h ⊢
    exact h
  · subst hj
    rw [List.getElem?_append_right (Nat.le_refl _)] at h
    simp at h
    exact .inr (.inl ⟨rfl, h.symm⟩)
  · refine .inr (.inr ⟨hj, fun x => ?_⟩)
    rw [List.getElem?_append_right (by omega)] at h ⊢
    obtain ⟨k, hk⟩ : ∃ k, j - A.length = k + 1 := ⟨j - A.length - 1, by omega⟩
    rw [hk] at h ⊢
    simpa using h
theorem RowI.set0 {w : World} {g m : Nat} {A B : List InP} {p : InP} (h : RowI w g m (A ++ p :: B)) (x : ByteArray) : RowI (w.setCell ⟨g, A.length * 3, none⟩ (.string x)) g m (A ++ (⟨x, p.1.t, p.1.ns⟩, p.2) :: B) := by
  obtain ⟨cur, h1, h2, h3, h4⟩ := h
  have hb : A.length < m := by rw [← h3]; simp
  refine ⟨cur.setIfInBounds (A.length * 3) (.string x), by simp [World.setCell, Array.getElem?_modify, h1], by simpa using h2, by rw [← h3]; simp, fun j q hj => ?_⟩
  rcases at_mid hj with ⟨hl, hq⟩ | ⟨rfl, rfl⟩ | ⟨hl, hq⟩
  · obtain ⟨e1, e2, e3⟩ := h4 j q (hq p)
    refine ⟨?_, ?_, ?_⟩ <;> rw [Array.getElem?_setIfInBounds, if_neg (by omega)] <;> assumption
  · obtain ⟨e1, e2, e3⟩ := h4 A.length p (by simp)
    refine ⟨by rw [Array.getElem?_setIfInBounds, if_pos rfl, if_pos (by omega)], ?_, ?_⟩ <;> rw [Array.getElem?_setIfInBounds, if_neg (by omega)] <;> assumption
  · obtain ⟨e1, e2, e3⟩ := h4 j q (hq p)
    refine ⟨?_, ?_, ?_⟩ <;> rw [Array.getElem?_setIfInBounds, if_neg (by omega)] <;> assumption
theorem RowI.set1 {w : World} {g m : Nat} {A B : List InP} {p : InP} (h : RowI w g m (A ++ p :: B)) (x : ByteArray) : RowI (w.setCell ⟨g, A.length * 3 + 1, none⟩ (.string x)) g m (A ++ (⟨p.1.c, x, p.1.ns⟩, p.2) :: B) := by
  obtain ⟨cur, h1, h2, h3, h4⟩ := h
  have hb : A.length < m := by rw [← h3]; simp
  refine ⟨cur.setIfInBounds (A.length * 3 + 1) (.string x), by simp [World.setCell, Array.getElem?_modify, h1], by simpa using h2, by rw [← h3]; simp, fun j q hj => ?_⟩
  rcases at_mid hj with ⟨hl, hq⟩ | ⟨rfl, rfl⟩ | ⟨hl, hq⟩
  · obtain ⟨e1, e2, e3⟩ := h4 j q (hq p)
    refine ⟨?_, ?_, ?_⟩ <;> rw [Array.getElem?_setIfInBounds, if_neg (by omega)] <;> assumption
  · obtain ⟨e1, e2, e3⟩ := h4 A.length p (by simp)
    refine ⟨?_, by rw [Array.getElem?_setIfInBounds, if_pos rfl, if_pos (by omega)], ?_⟩ <;> rw [Array.getElem?_setIfInBounds, if_neg (by omega)] <;> assumption
  · obtain ⟨e1, e2, e3⟩ := h4 j q (hq p)
    refine ⟨?_, ?_, ?_⟩ <;> rw [Array.getElem?_setIfInBounds, if_neg (by omega)] <;> assumption
theorem RowI.ns {w : World} {g m : Nat} {A B : List InP} {p : InP} (h : RowI w g m (A ++ p :: B)) (ns : List (ByteArray × ByteArray)) (hn : ns.length = p.1.ns.length) : RowI w g m (A ++ (⟨p.1.c, p.1.t, ns⟩, p.2) :: B) := by
  obtain ⟨cur, h1, h2, h3, h4⟩ := h
  refine ⟨cur, h1, h2, by rw [← h3]; simp, fun j q hj => ?_⟩
  rcases at_mid hj with ⟨hl, hq⟩ | ⟨rfl, rfl⟩ | ⟨hl, hq⟩
  · exact h4 j q (hq p)
  · obtain ⟨e1, e2, e3⟩ := h4 A.length p (by simp)
    exact ⟨e1, e2, by rw [hn]; exact e3⟩
  · exact h4 j q (hq p)

/-- The needs lie in blocks of their own. -/
def InR (w : World) (lo g : Nat) (ps : List InP) : Prop :=
  (∀ (j : Nat) p, ps[j]? = some p → OwnN w lo p.2.1 p.1.ns.length p.1.ns ∧ ∀ a, p.2.1 = some a → a.block ≠ g) ∧
  ∀ (j k : Nat) p q a b, j ≠ k → ps[j]? = some p → ps[k]? = some q → p.2.1 = some a → q.2.1 = some b → a.block ≠ b.block
theorem OwnN.keep {w w' : World} {lo n : Nat} {A : Option Addr} {zs : List (ByteArray × ByteArray)} (h : OwnN w lo A n zs) (hz : w.heap.size ≤ w'.heap.size) (hk : ∀ a, A = some a → lo ≤ a.block → a.block < w.heap.size → w'.heap[a.block]? = w.heap[a.block]?) : OwnN w' lo A n zs := by
  rcases h with h | ⟨g, rfl, h1, h2, h3⟩
  · exact .inl h
  · exact .inr ⟨g, rfl, h1, Nat.lt_of_lt_of_le h2 hz, h3.keep (hk _ rfl h1 h2)⟩
theorem OwnN.mono {w : World} {lo lo' n : Nat} {A : Option Addr} {zs : List (ByteArray × ByteArray)} (h : OwnN w lo A n zs) (hl : lo' ≤ lo) : OwnN w lo' A n zs := by
  rcases h with h | ⟨g, rfl, h1, h2, h3⟩
  · exact .inl h
  · exact .inr ⟨g, rfl, Nat.le_trans hl h1, h2, h3⟩
theorem OwnN.at {w : World} {lo n : Nat} {A : Option Addr} {zs : List (ByteArray × ByteArray)} (h : OwnN w lo A n zs) : ∀ a, A = some a → lo ≤ a.block ∧ a.block < w.heap.size := by
  rcases h with ⟨rfl, _⟩ | ⟨g, rfl, h1, h2, h3⟩
  · intro a h; cases h
  · intro a h; injection h with h; rw [← h]; exact ⟨h1, h2⟩
theorem InR.keep {w w' : World} {lo g : Nat} {ps : List InP} (h : InR w lo g ps) (hz : w.heap.size ≤ w'.heap.size) (hk : ∀ k, lo ≤ k → k < w.heap.size → k ≠ g → w'.heap[k]? = w.heap[k]?) : InR w' lo g ps :=
  ⟨fun j p hj => ⟨(h.1 j p hj).1.keep hz fun a ha h1 h2 => hk _ h1 h2 ((h.1 j p hj).2 a ha), (h.1 j p hj).2⟩, h.2⟩
/-- The row moves: its new block is none of the needs'. -/
theorem InR.move {w : World} {lo g g' : Nat} {ps : List InP} (h : InR w lo g ps) (hg : g' = g ∨ w.heap.size ≤ g') : InR w lo g' ps := by
  refine ⟨fun j p hj => ⟨(h.1 j p hj).1, fun a ha => ?_⟩, h.2⟩
  rcases hg with rfl | hg
  · exact (h.1 j p hj).2 a ha
  · have := (h.1 j p hj).1.at a ha
    omega
theorem InR.move2 {w : World} {lo g g' b : Nat} {ps : List InP} (h : InR w lo g ps) (hb : ∀ (j : Nat) q a, ps[j]? = some q → q.2.1 = some a → a.block < b) (hg : g' = g ∨ b ≤ g') : InR w lo g' ps := by
  refine ⟨fun j p hj => ⟨(h.1 j p hj).1, fun a ha => ?_⟩, h.2⟩
  rcases hg with rfl | hg
  · exact (h.1 j p hj).2 a ha
  · have := hb j p a hj ha
    omega
theorem InR.snoc {w : World} {lo lo2 g : Nat} {ps : List InP} {p : InP} (h : InR w lo g ps) (hp : OwnN w lo2 p.2.1 p.1.ns.length p.1.ns) (hlo : lo ≤ lo2) (hgp : ∀ a, p.2.1 = some a → a.block ≠ g) (hold : ∀ (j : Nat) q a, ps[j]? = some q → q.2.1 = some a → a.block < lo2) : InR w lo g (ps ++ [p]) := by
  have hat : ∀ (j : Nat) q, (ps ++ [p])[j]? = some q → ps[j]? = some q ∨ (j = ps.length ∧ q = p) := by
    intro j q hj
    rcases Nat.lt_or_ge j ps.length with hl | hl
    · rw [List.getElem?_append_left hl] at hj
      exact .inl hj
    · rw [List.getElem?_append_right hl] at hj
      have hjl : j - ps.length = 0 := by
        have := (List.getElem?_eq_some_iff.1 hj).1
        simp at this
        omega
      rw [hjl] at hj
      simp at hj
      exact .inr ⟨by omega, hj.symm⟩
  refine ⟨fun j q hj => ?_, fun j k q r a b hjk hj hk ha hb => ?_⟩
  · rcases hat j q hj with h1 | ⟨_, rfl⟩
    · exact h.1 j q h1
    · exact ⟨hp.mono hlo, hgp⟩
  · rcases hat j q hj with h1 | ⟨e1, rfl⟩ <;> rcases hat k r hk with h2 | ⟨e2, rfl⟩
    · exact h.2 j k q r a b hjk h1 h2 ha hb
    · have h3 := hold j q a h1 ha
      have h4 := hp.at b hb
      omega
    · have h3 := hold k r b h2 hb
      have h4 := hp.at a ha
      omega
    · exact absurd (e1.trans e2.symm) hjk
theorem InR.lt {w : World} {lo g : Nat} {ps : List InP} (h : InR w lo g ps) : ∀ (j : Nat) q a, ps[j]? = some q → q.2.1 = some a → a.block < w.heap.size := fun j q a hj ha => ((h.1 j q hj).1.at a ha).2

/-- A slice of instances that was handed back. -/
def OwnW (w : World) (lo : Nat) (B : Option Addr) (m : Nat) (is : List Ins) : Prop :=
  (B = none ∧ m = 0 ∧ is = []) ∨ ∃ g ps, B = some ⟨g, 0, none⟩ ∧ lo ≤ g ∧ ps.map Prod.fst = is ∧ RowI w g m ps ∧ InR w lo g ps
theorem OwnW.keep {w w' : World} {lo m : Nat} {B : Option Addr} {is : List Ins} (h : OwnW w lo B m is) (hz : w.heap.size ≤ w'.heap.size) (hk : ∀ k, lo ≤ k → k < w.heap.size → w'.heap[k]? = w.heap[k]?) : OwnW w' lo B m is := by
  rcases h with h | ⟨g, ps, rfl, h1, h2, h3, h4⟩
  · exact .inl h
  · exact .inr ⟨g, ps, rfl, h1, h2, h3.keep (hk g h1 h3.lt), h4.keep hz fun k h5 h6 _ => hk k h5 h6⟩
theorem OwnW.below {w w' : World} {lo m : Nat} {B : Option Addr} {is : List Ins} (h : OwnW w lo B m is) (hb : Below w.heap.size w w') : OwnW w' lo B m is := h.keep hb.size fun k _ hk => hb.block k hk
theorem OwnW.inss {w : World} {lo m : Nat} {B : Option Addr} {is : List Ins} (h : OwnW w lo B m is) (hn : ∀ i ∈ is, i.ns.length ≤ maxLen) : Inss w B m is := by
  rcases h with ⟨rfl, rfl, rfl⟩ | ⟨g, ps, rfl, h1, rfl, ⟨cur, h3, h4, h5, h6⟩, h7⟩
  · exact ⟨rfl, fun h => absurd h (Nat.lt_irrefl 0)⟩
  · refine ⟨by rw [List.length_map]; exact h5, fun _ => ⟨g, 0, rfl, (Array.getElem?_eq_some_iff.1 h3).1, fun j i hj => ?_⟩⟩
    rw [List.getElem?_map] at hj
    rcases hp : ps[j]? with _ | p
    · rw [hp] at hj; cases hj
    · rw [hp] at hj
      have hi : p.1 = i := by simpa using hj
      subst hi
      obtain ⟨e1, e2, e3⟩ := h6 j p hp
      have c : ∀ (l : Nat) v, cur[l]? = some v → w.cell? ⟨g, 0 + l, none⟩ = some v := fun l v hv => by rw [Nat.zero_add]; exact cell_blk h3 hv
      exact ⟨c _ _ e1, c _ _ e2, p.2.1, p.1.ns.length, p.2.2, c _ _ e3, hn _ (List.mem_map.2 ⟨p, List.mem_of_getElem? hp, rfl⟩), (h7.1 j p hp).1.prs⟩

end Go.Proofs.YtjpdiahbnhemoaaGreatDoor

namespace Go.Proofs.YtjpdiahbnhemoaaGreatDoor
open Go.RowKit

set_option maxHeartbeats 1000000 in
set_option maxRecDepth 100000 in
theorem heldClassS_any (A : Option Addr) (k n c : Nat) (w : World) (ha : Prs w A n (marksN k n)) (hk : 0 < k) (hn : k + 2 * n ≤ 4194304) :
    Calls Tryz.prog 19 #[.slice A n c, .int .i64 k] w fun e w' => e = .returned (.int .i64 (k + 2 * n : Nat)) ∧ Below w.heap.size w w' := by
  have HA := hid ha
  clear ha
  go_enter Tryz.func19, Tryz.ntmps19
  go_wp2_with fail
  go_loopw [1, 5] (fun q i wr => ∃ j : Nat, j ≤ n ∧ i = .int .i64 j ∧ q = .int .i64 (k + 2 * j : Nat) ∧ Below w.heap.size w wr) (fun _ i _ => n - (intOf i).toNat)
  case atStart => exact ⟨0, Nat.zero_le _, rfl, rfl, Below.refl _ _⟩
  case round =>
    obtain ⟨j, hj, rfl, rfl, hbel⟩ := hrel
    by_cases hlt : j < n
    · obtain ⟨g, o, rfl, hg, hca⟩ := HA.out.2 (by omega)
      obtain ⟨ca, cb⟩ := hca j _ (marksN_at k n j hlt)
      obtain ⟨q, hq⟩ : ∃ q, k + 2 * j = q := ⟨_, rfl⟩
      rw [hq] at ca cb
      have hq0 : 0 < q := by omega
      have hq1 : q + 2 ≤ 4194304 := by omega
      have hqi : ((k + 2 * j : Nat) : Int) = (q : Int) := by rw [hq]
      rw [hqi]
      have HQ := hid hq
      clear hq hqi
      obtain ⟨x, ex⟩ : ∃ x, strOf (mark q) = x := ⟨_, rfl⟩
      obtain ⟨y, ey⟩ : ∃ y, strOf (mark (q + 1)) = y := ⟨_, rfl⟩
      have hm1 := fun W => markText_any q (by omega) (by omega) W
      have hm2 := fun W => markText_any (q + 1) (by omega) (by omega) W
      simp only [show ((q + 1 : Nat) : Int) = (q : Int) + 1 by omega] at hm2
      rw [ex] at ca
      rw [ey] at cb
      simp only [ex] at hm1
      simp only [ey] at hm2
      have HM1 := hid hm1
      have HM2 := hid hm2
      have cw := cell_below ca hg hbel
      have dw := cell_below cb hg hbel
      have CW := hid cw
      have DW := hid dw
      clear hca hm1 hm2 ex ey ca cb dw
      have zg : g < wr.heap.size := by have := hbel.size; omega
      have i1 : (0 : Int) ≤ (j : Int) := by omega
      have i2 : (j : Int) < (n : Int) := by omega
      go_wp2_with fail
      go_region_with (go_at_call 33; refine (HM1.out _).mono ?_; rintro e w2 ⟨rfl, hb2⟩; have c2 := cell_below (w := wr.drew) CW.out zg hb2)
      all_goals
        have d2 := cell_below (w := wr.drew) DW.out zg hb2
        have D2 := hid d2
        have zg2 : g < w2.heap.size := Nat.lt_of_lt_of_le zg hb2.size
        have B2 := hid (hbel.drew.trans (hb2.mono hbel.size))
        clear c2 hb2
        go_wp2_with fail
        go_region_with (go_at_call 33; refine (HM2.out _).mono ?_; rintro e w3 ⟨rfl, hb3⟩; have c3 := cell_below (w := w2.drew) D2.out zg2 hb3)
        all_goals
          go_wp2_with fail
          go_roundw
          case rel => exact ⟨j + 1, hlt, by go_num, by have := HQ.out; go_num, B2.out.drew.trans (hb3.mono B2.out.size)⟩
          case measure => simp [intOf]; omega
    · go_wp2_with fail
      go_ret
      exact ⟨ret_int (by have : j = n := by omega
                         rw [this]), hbel⟩

/-- Block g is a row of classes of which the first n are zs; none of it frozen. -/
def RowPrC (w : World) (g n : Nat) (zs : List (ByteArray × ByteArray)) : Prop :=
  ∃ cur : Array Value, w.heap[g]? = some (.cells cur 47 (0, 0)) ∧ n * 2 ≤ cur.size ∧ zs.length = n ∧ ∀ (j : Nat) z, zs[j]? = some z → cur[j * 2]? = some (.string z.1) ∧ cur[j * 2 + 1]? = some (.string z.2)
theorem RowPrC.prs {w : World} {g n : Nat} {zs : List (ByteArray × ByteArray)} (h : RowPrC w g n zs) : Prs w (some ⟨g, 0, none⟩) n zs := by
  obtain ⟨cur, h1, h2, h3, h4⟩ := h
  refine ⟨h3, fun _ => ⟨g, 0, rfl, (Array.getElem?_eq_some_iff.1 h1).1, fun j z hj => ?_⟩⟩
  obtain ⟨e1, e2⟩ := h4 j z hj
  constructor
  · unfold World.cell?
    rw [show w.heap[(⟨g, 0 + j * 2, none⟩ : Addr).block]? = _ from h1]
    simpa using e1
  · unfold World.cell?
    rw [show w.heap[(⟨g, 0 + j * 2 + 1, none⟩ : Addr).block]? = _ from h1]
    simpa using e2

set_option maxHeartbeats 1000000 in
set_option maxRecDepth 100000 in
theorem markClassS_any (g k n c : Nat) (zs : List (ByteArray × ByteArray)) (w : World) (ha : RowPrC w g n zs) (hk : 0 < k) (hn : k + 2 * n ≤ 4194304) :
    Calls Tryz.prog 17 #[.slice (some ⟨g, 0, none⟩) n c, .int .i64 k] w fun e w' => e = .returned (.int .i64 (k + 2 * n : Nat)) ∧ RowPrC w' g n (marksN k n) ∧ But w.heap.size g w w' := by
  obtain ⟨cur0, hg0, hn0, hl0, hx0⟩ := ha
  have zg : g < w.heap.size := (Array.getElem?_eq_some_iff.1 hg0).1
  have HX0 := hid hx0
  have HG0 := hid hg0
  have HL0 := hid hl0
  clear hx0 hg0 hl0
  go_enter Tryz.func17, Tryz.ntmps17
  go_wp2_with fail
  go_loopw [1, 5] (fun q i wr => ∃ (j : Nat) (cur : Array Value), j ≤ n ∧ i = .int .i64 j ∧ q = .int .i64 (k + 2 * j : Nat) ∧ wr.heap[g]? = some (.cells cur 47 (0, 0)) ∧ n * 2 ≤ cur.size ∧
      (∀ l, l < n * 2 → ∃ x, cur[l]? = some (.string x)) ∧ (∀ l, l < j → cur[l * 2]? = some (.string (strOf (mark (k + 2 * l)))) ∧ cur[l * 2 + 1]? = some (.string (strOf (mark (k + 2 * l + 1))))) ∧ But w.heap.size g w wr) (fun _ i _ => n - (intOf i).toNat)
  case atStart =>
    refine ⟨0, cur0, Nat.zero_le _, rfl, rfl, HG0.out, hn0, fun l hl => ?_, fun l hl => absurd hl (Nat.not_lt_zero _), But.refl _ _ _⟩
    have hx : zs[l / 2]? = some (zs[l / 2]'(by rw [HL0.out]; omega)) := List.getElem?_eq_getElem _
    obtain ⟨q0, q1⟩ := HX0.out (l / 2) _ hx
    rcases Nat.mod_two_eq_zero_or_one l with h | h
    · rw [show l / 2 * 2 = l by omega] at q0
      exact ⟨_, q0⟩
    · rw [show l / 2 * 2 + 1 = l by omega] at q1
      exact ⟨_, q1⟩
  case round =>
    obtain ⟨j, cur, hj, rfl, rfl, hg, hc, hall, hdone, hbut⟩ := hrel
    have HALL := hid hall
    have HDONE := hid hdone
    have HG := hid hg
    clear hall hdone hg
    by_cases hlt : j < n
    · have i1 : (0 : Int) ≤ (j : Int) := by omega
      have i2 : (j : Int) < (n : Int) := by omega
      obtain ⟨q, hq⟩ : ∃ q, k + 2 * j = q := ⟨_, rfl⟩
      have hq0 : 0 < q := by omega
      have hq1 : q + 2 ≤ 4194304 := by omega
      have hqi : ((k + 2 * j : Nat) : Int) = (q : Int) := by rw [hq]
      rw [hqi]
      have HQ := hid hq
      clear hq hqi
      have hm1 := hid (fun W => markText_any q (by omega) (by omega) W)
      have hm2' := fun W => markText_any (q + 1) (by omega) (by omega) W
      simp only [show ((q + 1 : Nat) : Int) = (q : Int) + 1 by omega] at hm2'
      have hm2 := hid hm2'
      clear hm2'
      go_wp2_with fail
      refine (hm1.out _).mono ?_
      rintro e w2 ⟨rfl, hb2⟩
      have zr : g < wr.heap.size := (Array.getElem?_eq_some_iff.1 HG.out).1
      have hg2 := (hb2.block g zr).trans HG.out
      obtain ⟨x, hx⟩ := HALL.out (j * 2) (by omega)
      obtain ⟨y, hy⟩ := HALL.out (j * 2 + 1) (by omega)
      have c2 := cell_blk hg2 hx
      have f2 := frz_blk hg2
      have HG2 := hid hg2
      have HY := hid hy
      clear hg2 hx hy
      obtain ⟨v, hv⟩ : ∃ v, strOf (mark q) = v := ⟨_, rfl⟩
      have HV := hid hv
      rw [hv]
      clear hv
      go_wp2_with fail
      obtain ⟨W3, hW3⟩ : ∃ W3, w2.setCell ⟨g, j * 2, none⟩ (.string v) = W3 := ⟨_, rfl⟩
      have hg3 : W3.heap[g]? = some (.cells (cur.setIfInBounds (j * 2) (.string v)) 47 (0, 0)) := by
        have h := HG2.out
        rw [← hW3]
        simp [World.setCell, Array.getElem?_modify, h]
      have hb3 : But w.heap.size g w W3 := by
        rw [← hW3]
        exact (hbut.trans (But.of_below (hb2.mono (by have := hbut.size; omega)))).set _ _
      have hr3 : Below W3.heap.size W3 W3 := Below.refl _ _
      rw [hW3]
      have HG3 := hid hg3
      have HB3 := hid hb3
      have z3 : g < W3.heap.size := (Array.getElem?_eq_some_iff.1 hg3).1
      clear hW3 hg3 hb3 hr3 c2 f2
      refine (hm2.out _).mono ?_
      rintro e w4 ⟨rfl, hb4⟩
      have hg4 := (hb4.block g z3).trans HG3.out
      have c4 := cell_blk hg4 (j := j * 2 + 1) (v := .string y) (by
        rw [Array.getElem?_setIfInBounds, if_neg (by omega)]
        exact HY.out)
      have f4 := frz_blk hg4
      have HG4 := hid hg4
      clear hg4
      obtain ⟨u, hu⟩ : ∃ u, strOf (mark (q + 1)) = u := ⟨_, rfl⟩
      have HU := hid hu
      rw [hu]
      clear hu
      go_wp2_with fail
      go_roundw
      case rel =>
        refine ⟨j + 1, (cur.setIfInBounds (j * 2) (.string v)).setIfInBounds (j * 2 + 1) (.string u), hlt, by go_num, by have := HQ.out; go_num, ?_, by simpa using hc, ?_, ?_, (HB3.out.trans (But.of_below (hb4.mono HB3.out.size))).set _ _⟩
        · have h := HG4.out
          simp [World.setCell, Array.getElem?_modify, h]
        · intro l hl
          rw [Array.getElem?_setIfInBounds]
          by_cases e : j * 2 + 1 = l
          · exact ⟨u, by rw [if_pos e, if_pos (by simp; omega)]⟩
          · rw [if_neg e, Array.getElem?_setIfInBounds]
            by_cases e' : j * 2 = l
            · exact ⟨v, by rw [if_pos e', if_pos (by omega)]⟩
            · rw [if_neg e']
              exact HALL.out l hl
        · intro l hl
          by_cases e : l = j
          · subst e
            constructor
            · rw [Array.getElem?_setIfInBounds, if_neg (by omega), Array.getElem?_setIfInBounds, if_pos rfl, if_pos (by omega), HQ.out, HV.out]
            · rw [Array.getElem?_setIfInBounds, if_pos rfl, if_pos (by simp; omega), HQ.out, HU.out]
          · obtain ⟨q0, q1⟩ := HDONE.out l (by omega)
            constructor
            · rw [Array.getElem?_setIfInBounds, if_neg (by omega), Array.getElem?_setIfInBounds, if_neg (by omega)]
              exact q0
            · rw [Array.getElem?_setIfInBounds, if_neg (by omega), Array.getElem?_setIfInBounds, if_neg (by omega)]
              exact q1
      case measure => simp [intOf]; omega
    · go_wp2_with fail
      go_ret
      refine ⟨ret_int (by have : j = n := by omega
                          rw [this]), ⟨cur, HG.out, hc, by simp [marksN], fun l x hl => ?_⟩, hbut⟩
      have hln : l < n := by
        have := (List.getElem?_eq_some_iff.1 hl).1
        simpa [marksN] using this
      rw [marksN_at k n l hln] at hl
      simp only [Option.some.injEq] at hl
      rw [← hl]
      exact HDONE.out l (by omega)

set_option maxHeartbeats 400000 in
theorem markClassS_nil (k c : Nat) (w : World) :
    Calls Tryz.prog 17 #[.slice none 0 c, .int .i64 k] w fun e w' => e = .returned (.int .i64 k) ∧ w' = w := by
  go_enter Tryz.func17, Tryz.ntmps17
  go_wp2_with fail
  refine wp_loop_rounds 1 ?_
  rw [rounds_succ]
  go_wp2_with fail
  go_ret
  exact ⟨rfl, rfl⟩

end Go.Proofs.YtjpdiahbnhemoaaGreatDoor

namespace Go.Proofs.YtjpdiahbnhemoaaGreatDoor
open Go.RowKit
set_option linter.unusedVariables false

/-- An instance of marks. -/
def mkI (k n : Nat) : Ins := ⟨strOf (mark k), strOf (mark (k + 1)), marksN (k + 2) n⟩
theorem marksN_len (k n : Nat) : (marksN k n).length = n := by simp [marksN]
/-- How many marks the needs take. -/
def cntN : List Nat → Nat
  | [] => 0
  | n :: ns => 2 + 2 * n + cntN ns
def mkIs : Nat → List Nat → List Ins
  | _, [] => []
  | k, n :: ns => mkI k n :: mkIs (k + (2 + 2 * n)) ns
def mkPs : Nat → List InP → List InP
  | _, [] => []
  | k, p :: ps => (mkI k p.1.ns.length, p.2) :: mkPs (k + (2 + 2 * p.1.ns.length)) ps
def nsOf (is : List Ins) : List Nat := is.map fun i => i.ns.length
theorem cntN_append (a b : List Nat) : cntN (a ++ b) = cntN a + cntN b := by
  induction a with
  | nil => simp [cntN]
  | cons n a ih => show 2 + 2 * n + cntN (a ++ b) = 2 + 2 * n + cntN a + cntN b; omega
theorem cntN_ge (l : List Nat) : 2 * l.length ≤ cntN l := by
  induction l with
  | nil => exact Nat.zero_le _
  | cons n l ih => show 2 * (l.length + 1) ≤ 2 + 2 * n + cntN l; omega
theorem cntN_take_le (l : List Nat) (j : Nat) : cntN (l.take j) ≤ cntN l := by
  have h := congrArg cntN (List.take_append_drop j l)
  rw [cntN_append] at h
  omega
theorem mkPs_len (k : Nat) (ps : List InP) : (mkPs k ps).length = ps.length := by
  induction ps generalizing k with
  | nil => rfl
  | cons p ps ih => simp only [mkPs, List.length_cons, ih]
theorem mkPs_snoc (k : Nat) (ps : List InP) (p : InP) : mkPs k (ps ++ [p]) = mkPs k ps ++ [(mkI (k + cntN (nsOf (ps.map Prod.fst))) p.1.ns.length, p.2)] := by
  induction ps generalizing k with
  | nil => rfl
  | cons q ps ih =>
    show (mkI k q.1.ns.length, q.2) :: mkPs _ (ps ++ [p]) = _
    rw [ih]
    show _ = (mkI k q.1.ns.length, q.2) :: (mkPs _ ps ++ _)
    congr 3
    show (mkI _ _, p.2) = (mkI (k + (2 + 2 * q.1.ns.length + cntN (nsOf (ps.map Prod.fst)))) _, p.2)
    rw [Nat.add_assoc k]
theorem mkPs_fst (k : Nat) (ps : List InP) : (mkPs k ps).map Prod.fst = mkIs k (nsOf (ps.map Prod.fst)) := by
  induction ps generalizing k with
  | nil => rfl
  | cons p ps ih =>
    show mkI k p.1.ns.length :: (mkPs _ ps).map Prod.fst = mkI k p.1.ns.length :: mkIs _ _
    rw [ih]
    rfl
theorem mkIs_len (k : Nat) (ns : List Nat) : (mkIs k ns).length = ns.length := by
  induction ns generalizing k with
  | nil => rfl
  | cons n ns ih => simp only [mkIs, List.length_cons, ih]
theorem mkIs_at : ∀ (k : Nat) (ns : List Nat) (j n : Nat), ns[j]? = some n → (mkIs k ns)[j]? = some (mkI (k + cntN (ns.take j)) n)
  | k, m :: ns, 0, n, h => by
    simp only [List.getElem?_cons_zero, Option.some.injEq] at h
    subst h
    rfl
  | k, m :: ns, j + 1, n, h => by
    have h' : ns[j]? = some n := by simpa using h
    have ih := mkIs_at (k + (2 + 2 * m)) ns j n h'
    show (mkIs _ ns)[j]? = _
    rw [ih]
    show some (mkI (k + (2 + 2 * m) + _) n) = some (mkI (k + (2 + 2 * m + cntN (ns.take j))) n)
    rw [Nat.add_assoc k]
theorem cntN_snoc {ns : List Nat} {j n : Nat} (h : ns[j]? = some n) : cntN (ns.take (j + 1)) = cntN (ns.take j) + (2 + 2 * n) := by
  rw [List.take_add_one, h, cntN_append]
  rfl

set_option maxHeartbeats 2000000 in
set_option maxRecDepth 100000 in
theorem heldInstanceS_any (B : Option Addr) (k m c : Nat) (ns : List Nat) (w : World) (ha : Inss w B m (mkIs k ns)) (hm : ns.length = m) (hk : 0 < k) (hn : k + cntN ns ≤ 4194304) :
    Calls Tryz.prog 20 #[.slice B m c, .int .i64 k] w fun e w' => e = .returned (.int .i64 (k + cntN ns : Nat)) ∧ Below w.heap.size w w' := by
  have HA := hid ha
  have hml : m ≤ 2097152 := by have := cntN_ge ns; omega
  clear ha
  go_enter Tryz.func20, Tryz.ntmps20
  go_wp2_with fail
  go_loopw [1, 5] (fun q i wr => ∃ j : Nat, j ≤ m ∧ i = .int .i64 j ∧ q = .int .i64 (k + cntN (ns.take j) : Nat) ∧ Below w.heap.size w wr) (fun _ i _ => m - (intOf i).toNat)
  case atStart => exact ⟨0, Nat.zero_le _, rfl, by rw [List.take_zero]; rfl, Below.refl _ _⟩
  case round =>
    obtain ⟨j, hj, rfl, rfl, hbel⟩ := hrel
    by_cases hlt : j < m
    · obtain ⟨g, o, rfl, hg, hca⟩ := HA.out.2 (by omega)
      obtain ⟨n, hnj⟩ : ∃ n, ns[j]? = some n := ⟨ns[j]'(by omega), List.getElem?_eq_getElem _⟩
      obtain ⟨q, hq⟩ : ∃ q, k + cntN (ns.take j) = q := ⟨_, rfl⟩
      have hat := mkIs_at k ns j n hnj
      rw [hq] at hat
      obtain ⟨ca, cb, D, m', cap, cc, hm', hp⟩ := hca j _ hat
      obtain rfl : n = m' := (marksN_len (q + 2) n).symm.trans hp.1
      have hsn := cntN_snoc hnj
      have hle := cntN_take_le ns (j + 1)
      have hq0 : 0 < q := by omega
      have hq1 : q + (2 + 2 * n) ≤ 4194304 := by omega
      have HSN := hid (show k + cntN (ns.take (j + 1)) = q + 1 + 1 + 2 * n by omega)
      have hqi : ((k + cntN (ns.take j) : Nat) : Int) = (q : Int) := by rw [hq]
      rw [hqi]
      obtain ⟨x, ex⟩ : ∃ x, strOf (mark q) = x := ⟨_, rfl⟩
      obtain ⟨y, ey⟩ : ∃ y, strOf (mark (q + 1)) = y := ⟨_, rfl⟩
      have hm1 := fun W => markText_any q (by omega) (by omega) W
      have hm2 := fun W => markText_any (q + 1) (by omega) (by omega) W
      simp only [show ((q + 1 : Nat) : Int) = (q : Int) + 1 by omega] at hm2
      have ca' : w.cell? ⟨g, o + j * 3, none⟩ = some (.string x) := by rw [← ex]; exact ca
      have cb' : w.cell? ⟨g, o + j * 3 + 1, none⟩ = some (.string y) := by rw [← ey]; exact cb
      have hp' : Prs w D n (marksN (q + 1 + 1) n) := hp
      simp only [ex] at hm1
      simp only [ey] at hm2
      have HM1 := hid hm1
      have HM2 := hid hm2
      have HN := hid (fun (W : World) (hW : Below w.heap.size w W) => heldNeedS_any D (q + 1 + 1) n cap W (hp'.below hW) (by omega) (by omega))
      simp only [show ((q + 1 + 1 : Nat) : Int) = (q : Int) + 1 + 1 by omega] at HN
      obtain ⟨r, hr⟩ : ∃ r, q + 1 + 1 + 2 * n = r := ⟨_, rfl⟩
      rw [hr] at HN HSN
      have hr0 : ¬ (r : Int) < 0 := by omega
      have cw := cell_below ca' hg hbel
      have CW := hid cw
      have DW := hid (cell_below cb' hg hbel)
      have EW := hid (cell_below cc hg hbel)
      clear hca hm1 hm2 ex ey ca cb cc ca' cb' hp hp' hnj hat hq hqi hsn hle hr
      have zg : g < wr.heap.size := by have := hbel.size; omega
      have i1 : (0 : Int) ≤ (j : Int) := by omega
      have i2 : (j : Int) < (m : Int) := by omega
      go_wp2_with fail
      go_region_with (go_at_call 33; refine (HM1.out _).mono ?_; rintro e w2 ⟨rfl, hb2⟩; have c2 := cell_below (w := wr.drew) CW.out zg hb2)
      all_goals
        have D2 := hid (cell_below (w := wr.drew) DW.out zg hb2)
        have E2 := hid (cell_below (w := wr.drew) EW.out zg hb2)
        have d2 := D2.out
        have zg2 : g < w2.heap.size := Nat.lt_of_lt_of_le zg hb2.size
        have B2 := hid (hbel.drew.trans (hb2.mono hbel.size))
        clear c2 hb2
        go_wp2_with fail
        go_region_with (go_at_call 33; refine (HM2.out _).mono ?_; rintro e w3 ⟨rfl, hb3⟩; have c3 := cell_below (w := w2.drew) D2.out zg2 hb3)
        all_goals
          have B3 := hid (B2.out.drew.trans (hb3.mono B2.out.size))
          have e3 := cell_below (w := w2.drew) E2.out zg2 hb3
          clear c3 hb3
          go_wp2_with fail
          refine (HN.out w3 B3.out).mono ?_
          rintro e w4 ⟨rfl, hb4⟩
          go_wp2_with fail
          go_roundw
          case rel => exact ⟨j + 1, hlt, by go_num, by rw [HSN.out], B3.out.trans (hb4.mono B3.out.size)⟩
          case measure => simp [intOf]; omega
    · go_wp2_with fail
      go_ret
      exact ⟨ret_int (by have : j = ns.length := by omega
                         rw [this, List.take_length]), hbel⟩

theorem RowI.cell {w : World} {g m : Nat} {A B : List InP} {p : InP} (h : RowI w g m (A ++ p :: B)) : w.cell? ⟨g, A.length * 3, none⟩ = some (.string p.1.c) ∧ w.cell? ⟨g, A.length * 3 + 1, none⟩ = some (.string p.1.t) ∧ w.cell? ⟨g, A.length * 3 + 2, none⟩ = some (.slice p.2.1 p.1.ns.length p.2.2) ∧ ∀ j, w.frozen? ⟨g, j, none⟩ = false := by
  obtain ⟨cur, h1, h2, h3, h4⟩ := h
  obtain ⟨e1, e2, e3⟩ := h4 A.length p (by simp)
  exact ⟨cell_blk h1 e1, cell_blk h1 e2, cell_blk h1 e3, frz_blk h1⟩
theorem InR.mark {w w' : World} {lo g rb : Nat} {A B : List InP} {p : InP} {i : Ins} (h : InR w lo g (A ++ p :: B)) (hb : But w.heap.size rb w w') (hdis : ∀ (l : Nat) q a, l ≠ A.length → (A ++ p :: B)[l]? = some q → q.2.1 = some a → a.block ≠ rb) (hp : OwnN w' lo p.2.1 i.ns.length i.ns) : InR w' lo g (A ++ (i, p.2) :: B) := by
  have key : ∀ (j : Nat) q, (A ++ (i, p.2) :: B)[j]? = some q → (j = A.length ∧ q = (i, p.2)) ∨ (j ≠ A.length ∧ (A ++ p :: B)[j]? = some q) := by
    intro j q hj
    rcases at_mid hj with ⟨hl, hq⟩ | ⟨rfl, rfl⟩ | ⟨hl, hq⟩
    · exact .inr ⟨by omega, hq p⟩
    · exact .inl ⟨rfl, rfl⟩
    · exact .inr ⟨by omega, hq p⟩
  have hmid : (A ++ p :: B)[A.length]? = some p := by simp
  refine ⟨fun j q hj => ?_, fun j k q r a b hjk hj hk ha hb' => ?_⟩
  · rcases key j q hj with ⟨rfl, rfl⟩ | ⟨hne, hq⟩
    · exact ⟨hp, (h.1 _ _ hmid).2⟩
    · obtain ⟨h1, h2⟩ := h.1 j q hq
      exact ⟨h1.keep hb.size fun a ha hlo hlt => hb.block _ hlt (hdis j q a hne hq ha), h2⟩
  · rcases key j q hj with ⟨rfl, rfl⟩ | ⟨hne, hq⟩ <;> rcases key k r hk with ⟨rfl, rfl⟩ | ⟨hne2, hr⟩
    · exact absurd rfl hjk
    · exact h.2 A.length k p r a b hjk hmid hr ha hb'
    · exact h.2 j A.length q p a b hjk hq hmid ha hb'
    · exact h.2 j k q r a b hjk hq hr ha hb'
theorem InR.names {w : World} {lo g : Nat} {A B : List InP} {p : InP} {x y : ByteArray} (h : InR w lo g (A ++ (⟨x, y, p.1.ns⟩, p.2) :: B)) (i : Ins) (hi : i.ns = p.1.ns := by rfl) : InR w lo g (A ++ (i, p.2) :: B) := by
  refine InR.mark (rb := w.heap.size) (p := (⟨x, y, p.1.ns⟩, p.2)) h (But.refl _ _ _) (fun l q a _ hq ha => by have := h.lt l q a hq ha; omega) ?_
  have h1 := (h.1 A.length (⟨x, y, p.1.ns⟩, p.2) (by simp)).1
  rw [hi]
  exact h1
theorem markNeeds_own (A : Option Addr) (k n c lo rb : Nat) (zs : List (ByteArray × ByteArray)) (w : World) (ha : OwnN w lo A n zs) (hrb : ∀ a, A = some a → a.block = rb) (hk : 0 < k) (hn : k + 2 * n ≤ 4194304) :
    Calls Tryz.prog 34 #[.slice A n c, .int .i64 k] w fun e w' => e = .returned (.int .i64 (k + 2 * n : Nat)) ∧ OwnN w' lo A n (marksN k n) ∧ But w.heap.size rb w w' := by
  rcases ha with ⟨rfl, rfl, rfl⟩ | ⟨g, rfl, h1, h2, h3⟩
  · refine (markNeedS_nil k c w).mono ?_
    rintro e w1 ⟨rfl, rfl⟩
    exact ⟨rfl, .inl ⟨rfl, rfl, rfl⟩, But.refl _ _ _⟩
  · obtain rfl : g = rb := hrb _ rfl
    refine (markNeedS_any g k n c zs w h3 hk hn).mono ?_
    rintro e w1 ⟨rfl, h4, b1⟩
    exact ⟨rfl, .inr ⟨g, rfl, h1, Nat.lt_of_lt_of_le h2 b1.size, h4⟩, b1⟩

/-- A round of the loop that lays marks. -/
def MkR (w : World) (g k m lo hi : Nat) (ps : List InP) (q i : Value) (wr : World) : Prop :=
  ∃ j : Nat, j ≤ m ∧ i = .int .i64 j ∧ q = .int .i64 (k + cntN ((nsOf (ps.map Prod.fst)).take j) : Nat) ∧ RowI wr g m (mkPs k (ps.take j) ++ ps.drop j) ∧ InR wr lo g (mkPs k (ps.take j) ++ ps.drop j) ∧ Below lo w wr ∧ w.heap.size ≤ wr.heap.size ∧ ∀ l, hi ≤ l → l < w.heap.size → wr.heap[l]? = w.heap[l]?

set_option maxHeartbeats 4000000 in
set_option maxRecDepth 100000 in
theorem markInstanceS_any (g k m c lo hi : Nat) (ps : List InP) (w : World) (ha : RowI w g m ps) (hr : InR w lo g ps) (hk : 0 < k) (hn : k + cntN (nsOf (ps.map Prod.fst)) ≤ 4194304) (hlo : lo ≤ g) (hgi : g < hi) (hpi : ∀ (l : Nat) p a, ps[l]? = some p → p.2.1 = some a → a.block < hi) :
    Calls Tryz.prog 18 #[.slice (some ⟨g, 0, none⟩) m c, .int .i64 k] w fun e w' => e = .returned (.int .i64 (k + cntN (nsOf (ps.map Prod.fst)) : Nat)) ∧ RowI w' g m (mkPs k ps) ∧ InR w' lo g (mkPs k ps) ∧ Below lo w w' ∧ ∀ l, hi ≤ l → l < w.heap.size → w'.heap[l]? = w.heap[l]? := by
  have HA := hid ha
  have HI := hid hr
  have HPI := hid hpi
  have hl : ps.length = m := by obtain ⟨_, _, _, h, _⟩ := ha; exact h
  have hml : m ≤ 2097152 := by
    have := cntN_ge (nsOf (ps.map Prod.fst))
    unfold nsOf at this
    rw [List.length_map, List.length_map] at this
    unfold nsOf at hn
    omega
  clear ha hr hpi
  go_enter Tryz.func18, Tryz.ntmps18
  go_wp2_with fail
  go_loopw [1, 5] (fun q i wr => MkR w g k m lo hi ps q i wr) (fun _ i _ => m - (intOf i).toNat)
  case atStart => exact ⟨0, Nat.zero_le _, rfl, by rw [List.take_zero]; rfl, HA.out, HI.out, Below.refl _ _, Nat.le_refl _, fun _ _ _ => rfl⟩
  case round =>
    obtain ⟨j, hj, rfl, rfl, hrow, hinr, hbel, hsz, hfr⟩ := hrel
    have HFR := hid hfr
    clear hfr
    by_cases hlt : j < m
    · obtain ⟨p, hp⟩ : ∃ p, ps[j]? = some p := ⟨ps[j]'(by omega), List.getElem?_eq_getElem _⟩
      have hdrop : ps.drop j = p :: ps.drop (j + 1) := by
        rw [List.drop_eq_getElem_cons (by omega)]
        congr 1
        have := List.getElem?_eq_getElem (l := ps) (i := j) (by omega)
        rw [hp] at this
        injection this with this
        exact this.symm
      have HPA := hid (fun a (h : p.2.1 = some a) => HPI.out j p a hp h)
      have htake : ps.take (j + 1) = ps.take j ++ [p] := by rw [List.take_add_one, hp]; rfl
      obtain ⟨A0, hA0⟩ : ∃ A0, mkPs k (ps.take j) = A0 := ⟨_, rfl⟩
      have hA0l : A0.length = j := by rw [← hA0, mkPs_len, List.length_take]; omega
      obtain ⟨B0, hB0⟩ : ∃ B0, ps.drop (j + 1) = B0 := ⟨_, rfl⟩
      rw [hA0, hdrop, hB0] at hrow hinr
      obtain ⟨q, hq⟩ : ∃ q, k + cntN ((nsOf (ps.map Prod.fst)).take j) = q := ⟨_, rfl⟩
      obtain ⟨n, hnn⟩ : ∃ n, p.1.ns.length = n := ⟨_, rfl⟩
      have hnj : (nsOf (ps.map Prod.fst))[j]? = some n := by
        unfold nsOf
        rw [List.getElem?_map, List.getElem?_map, hp]
        show some p.1.ns.length = some n
        rw [hnn]
      have hsn := cntN_snoc hnj
      have hle := cntN_take_le (nsOf (ps.map Prod.fst)) (j + 1)
      have hq0 : 0 < q := by omega
      have hq1 : q + (2 + 2 * n) ≤ 4194304 := by omega
      have HSN := hid (show k + cntN ((nsOf (ps.map Prod.fst)).take (j + 1)) = q + 1 + 1 + 2 * n by omega)
      have HMK := hid (show mkPs k (ps.take (j + 1)) ++ B0 = A0 ++ (mkI q n, p.2) :: B0 by
        rw [htake, mkPs_snoc, hA0, hnn]
        have : k + cntN (nsOf ((ps.take j).map Prod.fst)) = q := by
          rw [← hq]
          unfold nsOf
          rw [List.map_take, List.map_take]
        rw [this]
        simp)
      have hqi : ((k + cntN ((nsOf (ps.map Prod.fst)).take j) : Nat) : Int) = (q : Int) := by rw [hq]
      rw [hqi]
      have HM1 := hid (fun W => markText_any q (by omega) (by omega) W)
      have hm2 := fun W => markText_any (q + 1) (by omega) (by omega) W
      simp only [show ((q + 1 : Nat) : Int) = (q : Int) + 1 by omega] at hm2
      have HM2 := hid hm2
      have HROW := hid hrow
      have HINR := hid hinr
      have HB0 := hid hB0
      have hzg : g < wr.heap.size := hrow.lt
      subst hA0l
      clear hrow hinr hq hqi hsn hle hm2 hnj hdrop htake hA0 hp hB0
      have i1 : (0 : Int) ≤ (A0.length : Int) := by omega
      have i2 : (A0.length : Int) < (m : Int) := by omega
      have i3 : IntKind.i64.wrap ((A0.length : Int) + 1) = (A0.length : Int) + 1 := by rw [IntKind.wrap_i64]; omega
      go_wp2_with fail
      refine (HM1.out _).mono ?_
      rintro e w2 ⟨rfl, hb2⟩
      have z2 := hb2.size
      have R2 := hid (HROW.out.keep (hb2.block g hzg))
      have J2 := hid (HINR.out.keep hb2.size fun k _ hk _ => hb2.block k hk)
      have c2 := R2.out.cell.1
      have f2 := R2.out.cell.2.2.2
      obtain ⟨v, hv⟩ : ∃ v, strOf (mark q) = v := ⟨_, rfl⟩
      have HV := hid hv
      rw [hv]
      have L2 := hid (show Below lo w w2 from hbel.trans (hb2.mono (by omega)))
      have U2 := hid (fun (l : Nat) (h1 : hi ≤ l) (h2 : l < w.heap.size) => show w2.heap[l]? = w.heap[l]? from (hb2.block l (by omega)).trans (HFR.out l h1 h2))
      clear hv hb2
      go_wp2_with fail
      obtain ⟨w3, hw3⟩ : ∃ w3, w2.setCell ⟨g, A0.length * 3, none⟩ (.string v) = w3 := ⟨_, rfl⟩
      have R3 := hid (show RowI w3 g m (A0 ++ (⟨v, p.1.t, p.1.ns⟩, p.2) :: B0) by rw [← hw3]; exact R2.out.set0 v)
      have h3 : ∀ k, k ≠ g → w3.heap[k]? = w2.heap[k]? := fun k hk => by rw [← hw3]; exact set1_other hk _
      have z3 : w3.heap.size = w2.heap.size := by rw [← hw3]; simp [World.setCell]
      have J3 := hid (J2.out.keep (w' := w3) (by omega) fun k _ _ hk => h3 k hk)
      have U3 := hid (fun (l : Nat) (h1 : hi ≤ l) (h2 : l < w.heap.size) => show w3.heap[l]? = w.heap[l]? from (h3 l (by omega)).trans (U2.out l h1 h2))
      have L3 := hid (show Below lo w w3 by rw [← hw3]; exact L2.out.setCell (show lo ≤ g by omega) _)
      rw [hw3]
      clear hw3 c2 f2 h3
      refine (HM2.out _).mono ?_
      rintro e w4 ⟨rfl, hb4⟩
      have z4 := hb4.size
      have R4 := hid (R3.out.keep (hb4.block g (by omega)))
      have J4 := hid (J3.out.keep (w' := w4) z4 fun k _ hk _ => hb4.block k hk)
      have U4 := hid (fun (l : Nat) (h1 : hi ≤ l) (h2 : l < w.heap.size) => show w4.heap[l]? = w.heap[l]? from (hb4.block l (by omega)).trans (U3.out l h1 h2))
      have L4 := hid (show Below lo w w4 from L3.out.trans (hb4.mono (by omega)))
      have c4 := R4.out.cell.2.1
      have f4 := R4.out.cell.2.2.2
      obtain ⟨v2, hv2⟩ : ∃ v, strOf (mark (q + 1)) = v := ⟨_, rfl⟩
      have HV2 := hid hv2
      rw [hv2]
      obtain ⟨w5, hw5⟩ : ∃ w5, w4.setCell ⟨g, A0.length * 3 + 1, none⟩ (.string v2) = w5 := ⟨_, rfl⟩
      have R5 := hid (show RowI w5 g m (A0 ++ (⟨v, v2, p.1.ns⟩, p.2) :: B0) by rw [← hw5]; exact R4.out.set1 v2)
      have h5 : ∀ k, k ≠ g → w5.heap[k]? = w4.heap[k]? := fun k hk => by rw [← hw5]; exact set1_other hk _
      have z5 : w5.heap.size = w4.heap.size := by rw [← hw5]; simp [World.setCell]
      have J5 := hid (J4.out.keep (w' := w5) (by omega) fun k _ _ hk => h5 k hk)
      have U5 := hid (fun (l : Nat) (h1 : hi ≤ l) (h2 : l < w.heap.size) => show w5.heap[l]? = w.heap[l]? from (h5 l (by omega)).trans (U4.out l h1 h2))
      have L5 := hid (show Below lo w w5 by rw [← hw5]; exact L4.out.setCell (show lo ≤ g by omega) _)
      have HW5 := hid hw5
      have Z5 := hid (show w5.heap.size = w4.heap.size ∧ w3.heap.size = w2.heap.size from ⟨z5, z3⟩)
      clear hv2 hw5 h5 hb4 z5 z3
      go_upto_region 8 with fail
      rw [HW5.out]
      obtain ⟨rb, hrb, hrlo, hrg, hrh, hdis⟩ : ∃ rb, (∀ a, p.2.1 = some a → a.block = rb) ∧ lo ≤ rb ∧ rb ≠ g ∧ (rb < hi ∨ w5.heap.size ≤ rb) ∧ ∀ (l : Nat) x a, l ≠ A0.length → (A0 ++ (⟨v, v2, p.1.ns⟩, p.2) :: B0)[l]? = some x → x.2.1 = some a → a.block ≠ rb := by
        have hmid : (A0 ++ ((⟨v, v2, p.1.ns⟩ : Ins), p.2) :: B0)[A0.length]? = some (⟨v, v2, p.1.ns⟩, p.2) := by simp
        have hj5 : InR w5 lo g (A0 ++ (⟨v, v2, p.1.ns⟩, p.2) :: B0) := InR.names J5.out _
        have hzg5 : g < w5.heap.size := R5.out.lt
        rcases hpa : p.2.1 with _ | a
        · exact ⟨w5.heap.size, fun a h => (by cases h), by omega, by omega, .inr (Nat.le_refl _), fun l x b _ hx hb => by have := hj5.lt l x b hx hb; omega⟩
        · have h1 := hj5.1 _ _ hmid
          exact ⟨a.block, fun b h => by injection h with h; rw [h], (h1.1.at a hpa).1, h1.2 a hpa, .inl (HPA.out a hpa), fun l x b hl hx hb => hj5.2 l A0.length x _ b a hl hx hmid hb hpa⟩
      have c5 := R5.out.cell.2.2.1
      have hown := ((InR.names J5.out ⟨v, v2, p.1.ns⟩).1 A0.length (⟨v, v2, p.1.ns⟩, p.2) (by simp)).1
      have HDIS := hid hdis
      have HRB := hid hrb
      have HMN := hid (markNeeds_own p.2.1 (q + 1 + 1) n p.2.2 lo rb p.1.ns w5 (by rw [← hnn]; exact hown) hrb (by omega) (by omega))
      simp only [show ((q + 1 + 1 : Nat) : Int) = (q : Int) + 1 + 1 by omega] at HMN
      have HNN := hid hnn
      clear hdis hrb hown hnn
      rw [HNN.out] at c5
      go_wp2_with fail
      refine HMN.out.mono ?_
      rintro e w6 ⟨rfl, ho6, b6⟩
      have HO6 := hid ho6
      have B6 := hid b6
      have z6 := b6.size
      clear ho6 b6 c5
      go_wp2_with fail
      go_roundw
      case rel =>
        have e1 : (⟨v, v2, marksN (q + 1 + 1) n⟩ : Ins) = mkI q n := by rw [← HV.out, ← HV2.out]; rfl
        have hr6 := (R5.out.keep (B6.out.block g R5.out.lt (Ne.symm hrg))).ns (marksN (q + 1 + 1) n) (by rw [marksN_len, HNN.out])
        have hj6 : InR w6 lo g (A0 ++ (⟨v, v2, marksN (q + 1 + 1) n⟩, p.2) :: B0) := by
          have := InR.mark (i := ⟨v, v2, marksN (q + 1 + 1) n⟩) (InR.names J5.out ⟨v, v2, p.1.ns⟩) B6.out HDIS.out (by rw [marksN_len]; exact HO6.out)
          exact this
        rw [e1, ← HMK.out, ← HB0.out] at hr6 hj6
        exact ⟨A0.length + 1, hlt, by go_num, by rw [HSN.out]; exact congrArg (Value.int IntKind.i64) (by omega), hr6, hj6, L5.out.trans (B6.out.below' (by have := R5.out.lt; omega) hrlo), by have := Z5.out; omega, fun l h1 h2 => (B6.out.block l (by have := Z5.out; omega) (by have := Z5.out; omega)).trans (U5.out l h1 h2)⟩
      case measure => simp [intOf]; omega
    · obtain rfl : j = m := by omega
      go_wp2_with fail
      go_ret
      have h1 : ps.take j = ps := List.take_of_length_le (by omega)
      have h2 : ps.drop j = [] := List.drop_eq_nil_of_le (by omega)
      rw [h1, h2, List.append_nil] at hrow hinr
      exact ⟨ret_int (by rw [List.take_of_length_le (by unfold nsOf; rw [List.length_map, List.length_map]; omega)]), hrow, hinr, hbel, HFR.out⟩

end Go.Proofs.YtjpdiahbnhemoaaGreatDoor

namespace Go.Proofs.YtjpdiahbnhemoaaGreatDoor
open Go.RowKit
set_option linter.unusedVariables false

/-- A slice of classes that was handed back. -/
def OwnC (w : World) (lo : Nat) (A : Option Addr) (n : Nat) (zs : List (ByteArray × ByteArray)) : Prop :=
  (A = none ∧ n = 0 ∧ zs = []) ∨ ∃ g, A = some ⟨g, 0, none⟩ ∧ lo ≤ g ∧ g < w.heap.size ∧ RowPrC w g n zs
theorem RowPrC.keep {w w' : World} {g n : Nat} {zs : List (ByteArray × ByteArray)} (h : RowPrC w g n zs) (e : w'.heap[g]? = w.heap[g]?) : RowPrC w' g n zs := by
  obtain ⟨cur, h1, h2⟩ := h
  exact ⟨cur, e.trans h1, h2⟩
theorem OwnC.prs {w : World} {lo n : Nat} {A : Option Addr} {zs : List (ByteArray × ByteArray)} (h : OwnC w lo A n zs) : Prs w A n zs := by
  rcases h with ⟨rfl, rfl, rfl⟩ | ⟨g, rfl, _, _, h⟩
  · exact ⟨rfl, fun h => absurd h (Nat.lt_irrefl 0)⟩
  · exact h.prs
theorem OwnC.below {w w' : World} {lo n : Nat} {A : Option Addr} {zs : List (ByteArray × ByteArray)} (h : OwnC w lo A n zs) (hb : Below w.heap.size w w') : OwnC w' lo A n zs := by
  rcases h with h | ⟨g, rfl, h1, h2, h3⟩
  · exact .inl h
  · exact .inr ⟨g, rfl, h1, Nat.lt_of_lt_of_le h2 hb.size, h3.keep (hb.block g h2)⟩
theorem OwnC.of {w : World} {lo n c : Nat} {A : Option Addr} {zs : List (ByteArray × ByteArray)} (h : w.ownsRow lo 47 2 (.slice A n c) n (cells2 zs)) : OwnC w lo A n zs := by
  have hl : zs.length = n := by
    have h1 := h.1
    rw [cells2_len] at h1
    omega
  rcases h.2 with ⟨hA, rfl⟩ | ⟨g, cap, cur, hA, hb, hg, hc, hm, hs, ht⟩
  · injection hA with h1 h2 h3
    exact .inl ⟨h1, rfl, List.eq_nil_of_length_eq_zero hl⟩
  · injection hA with h1 h2 h3
    subst h1
    refine .inr ⟨g, rfl, hb, (Array.getElem?_eq_some_iff.1 hg).1, cur, hg, by rw [hs]; exact Nat.mul_le_mul_right 2 hc, hl, fun j z hj => ?_⟩
    obtain ⟨e1, e2⟩ := cells2_at zs j z hj
    have hjn : j < n := by rw [← hl]; exact (List.getElem?_eq_some_iff.1 hj).1
    rw [← ht] at e1 e2
    rw [List.getElem?_take, if_pos (by omega)] at e1 e2
    exact ⟨by simpa using e1, by simpa using e2⟩
theorem markClass_own (A : Option Addr) (k n c lo rb : Nat) (zs : List (ByteArray × ByteArray)) (w : World) (ha : OwnC w lo A n zs) (hrb : ∀ a, A = some a → a.block = rb) (hk : 0 < k) (hn : k + 2 * n ≤ 4194304) :
    Calls Tryz.prog 17 #[.slice A n c, .int .i64 k] w fun e w' => e = .returned (.int .i64 (k + 2 * n : Nat)) ∧ OwnC w' lo A n (marksN k n) ∧ But w.heap.size rb w w' := by
  rcases ha with ⟨rfl, rfl, rfl⟩ | ⟨g, rfl, h1, h2, h3⟩
  · refine (markClassS_nil k c w).mono ?_
    rintro e w1 ⟨rfl, rfl⟩
    exact ⟨rfl, .inl ⟨rfl, rfl, rfl⟩, But.refl _ _ _⟩
  · obtain rfl : g = rb := hrb _ rfl
    refine (markClassS_any g k n c zs w h3 hk hn).mono ?_
    rintro e w1 ⟨rfl, h4, b1⟩
    exact ⟨rfl, .inr ⟨g, rfl, h1, Nat.lt_of_lt_of_le h2 b1.size, h4⟩, b1⟩
set_option maxHeartbeats 400000 in
theorem markInstanceS_nil (k c : Nat) (w : World) :
    Calls Tryz.prog 18 #[.slice none 0 c, .int .i64 k] w fun e w' => e = .returned (.int .i64 k) ∧ w' = w := by
  go_enter Tryz.func18, Tryz.ntmps18
  go_wp2_with fail
  refine wp_loop_rounds 1 ?_
  rw [rounds_succ]
  go_wp2_with fail
  go_ret
  exact ⟨rfl, rfl⟩
/-- A slice of instances that was handed back, all of it below a block. -/
def OwnH (w : World) (lo hi : Nat) (B : Option Addr) (m : Nat) (is : List Ins) : Prop :=
  (B = none ∧ m = 0 ∧ is = []) ∨ ∃ g ps, B = some ⟨g, 0, none⟩ ∧ lo ≤ g ∧ ps.map Prod.fst = is ∧ RowI w g m ps ∧ InR w lo g ps ∧ g < hi ∧ ∀ (l : Nat) p a, ps[l]? = some p → p.2.1 = some a → a.block < hi
theorem OwnH.of {w : World} {lo m : Nat} {B : Option Addr} {is : List Ins} (h : OwnW w lo B m is) : OwnH w lo w.heap.size B m is := by
  rcases h with h | ⟨g, ps, rfl, h1, h2, h3, h4⟩
  · exact .inl h
  · exact .inr ⟨g, ps, rfl, h1, h2, h3, h4, h3.lt, fun l p a hl ha => h4.lt l p a hl ha⟩
theorem OwnH.own {w : World} {lo hi m : Nat} {B : Option Addr} {is : List Ins} (h : OwnH w lo hi B m is) : OwnW w lo B m is := by
  rcases h with h | ⟨g, ps, rfl, h1, h2, h3, h4, _⟩
  · exact .inl h
  · exact .inr ⟨g, ps, rfl, h1, h2, h3, h4⟩
theorem OwnH.keep {w w' : World} {lo hi m : Nat} {B : Option Addr} {is : List Ins} (h : OwnH w lo hi B m is) (hz : w.heap.size ≤ w'.heap.size) (hk : ∀ k, lo ≤ k → k < w.heap.size → w'.heap[k]? = w.heap[k]?) : OwnH w' lo hi B m is := by
  rcases h with h | ⟨g, ps, rfl, h1, h2, h3, h4, h5⟩
  · exact .inl h
  · exact .inr ⟨g, ps, rfl, h1, h2, h3.keep (hk g h1 h3.lt), h4.keep hz fun k h5 h6 _ => hk k h5 h6, h5⟩
theorem OwnH.below {w w' : World} {lo hi m : Nat} {B : Option Addr} {is : List Ins} (h : OwnH w lo hi B m is) (hb : Below w.heap.size w w') : OwnH w' lo hi B m is := h.keep hb.size fun k _ hk => hb.block k hk
theorem markInst_own (B : Option Addr) (k m c lo hi : Nat) (is : List Ins) (w : World) (hb : OwnH w lo hi B m is) (hk : 0 < k) (hn : k + cntN (nsOf is) ≤ 4194304) :
    Calls Tryz.prog 18 #[.slice B m c, .int .i64 k] w fun e w' => e = .returned (.int .i64 (k + cntN (nsOf is) : Nat)) ∧ OwnW w' lo B m (mkIs k (nsOf is)) ∧ Below lo w w' ∧ ∀ l, hi ≤ l → l < w.heap.size → w'.heap[l]? = w.heap[l]? := by
  rcases hb with ⟨rfl, rfl, rfl⟩ | ⟨g, ps, rfl, h1, rfl, h3, h4, h5, h6⟩
  · refine (markInstanceS_nil k c w).mono ?_
    rintro e w1 ⟨rfl, rfl⟩
    exact ⟨rfl, .inl ⟨rfl, rfl, rfl⟩, Below.refl _ _, fun _ _ _ => rfl⟩
  · refine (markInstanceS_any g k m c lo hi ps w h3 h4 hk hn h1 h5 h6).mono ?_
    rintro e w1 ⟨rfl, h5, h6, b1, h7⟩
    exact ⟨rfl, .inr ⟨g, mkPs k ps, rfl, h1, mkPs_fst k ps, h5, h6⟩, b1, h7⟩

set_option maxHeartbeats 1000000 in
theorem heldWorld_any (A : Option Addr) (n c : Nat) (B : Option Addr) (m d k : Nat) (ns : List Nat) (w : World) (ha : Prs w A n (marksN k n)) (hb : Inss w B m (mkIs (k + 2 * n) ns)) (hm : ns.length = m) (hk : 0 < k) (hn : k + 2 * n + cntN ns ≤ 4194304) :
    Calls Tryz.prog 8 #[.agg #[.slice A n c, .slice B m d], .int .i64 k] w fun e w' => e = .returned (.int .i64 (k + 2 * n + cntN ns : Nat)) ∧ Below w.heap.size w w' := by
  have HA := hid ha
  have HB := hid hb
  have hbw : ∀ o, Below w.heap.size w (w.alloc o) := fun o => (Below.refl _ _).alloc (Nat.le_refl _) o
  have HC0 := hid (show (w.alloc (.cells #[.slice A n c, .slice B m d] 25)).heap[w.heap.size]? = some (.cells #[.slice A n c, .slice B m d] 25 (0, 0)) from heap_new1 w _)
  obtain ⟨q, hq⟩ : ∃ q, k + 2 * n = q := ⟨_, rfl⟩
  obtain ⟨r, hr⟩ : ∃ r, q + cntN ns = r := ⟨_, rfl⟩
  have h0 : ¬ (q : Int) < 0 := by omega
  have h1 : ¬ (r : Int) < 0 := by omega
  have HQ := hid hq
  have HR := hid hr
  clear ha hb hq hr
  go_enter Tryz.func8, Tryz.ntmps8
  go_wp2_with fail
  refine (heldClassS_any A k n c _ (HA.out.below (hbw _)) hk (by have := HQ.out; omega)).mono ?_
  rintro e w1 ⟨rfl, b1⟩
  rw [HQ.out]
  have B1 := hid ((hbw (.cells #[.slice A n c, .slice B m d] 25)).trans (b1.mono (hbw _).size))
  have q1 := cell_blk ((b1.block w.heap.size (by simp only [World.size_alloc]; omega)).trans HC0.out) (j := 1) rfl
  clear b1
  go_wp2_with fail
  refine (heldInstanceS_any B q m d ns w1 (by rw [← HQ.out]; exact HB.out.below B1.out) hm (by have := HQ.out; omega) (by have := HQ.out; omega)).mono ?_
  rintro e w2 ⟨rfl, b2⟩
  rw [HR.out]
  go_wp2_with fail
  go_ret
  exact ⟨ret_int (by rw [HQ.out, HR.out]), B1.out.trans (b2.mono B1.out.size)⟩

set_option maxHeartbeats 1000000 in
theorem markWorld_any (A : Option Addr) (n c : Nat) (zs : List (ByteArray × ByteArray)) (B : Option Addr) (m d : Nat) (is : List Ins) (k lo0 lo hi : Nat) (w : World) (ha : OwnC w lo0 A n zs) (hal : ∀ a, A = some a → a.block < lo) (h0 : lo0 ≤ lo) (hlw : lo ≤ w.heap.size) (hlh : lo ≤ hi) (hb : OwnH w lo hi B m is) (hk : 0 < k) (hn : k + 2 * n + cntN (nsOf is) ≤ 4194304) :
    Calls Tryz.prog 7 #[.agg #[.slice A n c, .slice B m d], .int .i64 k] w fun e w' => e = .returned (.int .i64 (k + 2 * n + cntN (nsOf is) : Nat)) ∧ OwnC w' lo0 A n (marksN k n) ∧ OwnW w' lo B m (mkIs (k + 2 * n) (nsOf is)) ∧ Below lo0 w w' ∧ ∀ l, hi ≤ l → l < w.heap.size → w'.heap[l]? = w.heap[l]? := by
  have HA := hid ha
  have HB := hid hb
  have hbw : ∀ o, Below w.heap.size w (w.alloc o) := fun o => (Below.refl _ _).alloc (Nat.le_refl _) o
  have HC0 := hid (show (w.alloc (.cells #[.slice A n c, .slice B m d] 25)).heap[w.heap.size]? = some (.cells #[.slice A n c, .slice B m d] 25 (0, 0)) from heap_new1 w _)
  obtain ⟨q, hq⟩ : ∃ q, k + 2 * n = q := ⟨_, rfl⟩
  have HQ := hid hq
  obtain ⟨rb, hrb, hrlo, hrl⟩ : ∃ rb, (∀ a, A = some a → a.block = rb) ∧ lo0 ≤ rb ∧ (rb < lo ∨ w.heap.size < rb) := by
    rcases A with _ | a
    · exact ⟨w.heap.size + 1, fun a h => (by cases h), by omega, .inr (by omega)⟩
    · refine ⟨a.block, fun b h => by injection h with h; rw [h], ?_, .inl (hal a rfl)⟩
      rcases ha with ⟨h, _⟩ | ⟨g, h, h1, _⟩
      · cases h
      · injection h with h; rw [h]; exact h1
  have HRB := hid hrb
  clear ha hb hq hrb
  go_enter Tryz.func7, Tryz.ntmps7
  go_wp2_with fail
  refine (markClass_own A k n c lo0 rb zs _ (HA.out.below (hbw _)) HRB.out hk (by have := HQ.out; omega)).mono ?_
  rintro e w1 ⟨rfl, h1, b1⟩
  rw [HQ.out]
  have H1 := hid h1
  have z1 := b1.size
  simp only [World.size_alloc] at z1
  have K1 := hid (fun (j : Nat) (hj : j < w.heap.size) (hne : j ≠ rb) => show w1.heap[j]? = w.heap[j]? from (b1.block j (by simp only [World.size_alloc]; omega) hne).trans (Below.heap_alloc _ _ _ hj))
  have B1 := hid (show Below lo0 w w1 from ((hbw _).mono (by omega)).trans (b1.below' (by simp only [World.size_alloc]; omega) hrlo))
  have W1 := hid (HB.out.keep (w' := w1) (by omega) fun j h1 h2 => K1.out j h2 (by omega))
  have q1 := cell_blk ((b1.block w.heap.size (by simp only [World.size_alloc]; omega) (by omega)).trans HC0.out) (j := 1) rfl
  clear b1 h1
  go_wp2_with fail
  refine (markInst_own B q m d lo hi is w1 W1.out (by have := HQ.out; omega) (by have := HQ.out; omega)).mono ?_
  rintro e w2 ⟨rfl, h2, b2, u2⟩
  go_wp2_with fail
  go_ret
  refine ⟨ret_int (by have := HQ.out; omega), ?_, by rw [HQ.out]; exact h2, B1.out.trans (b2.mono h0), fun l h5 h6 => (u2 l h5 (by omega)).trans (K1.out l h6 (by omega))⟩
  rcases H1.out with h | ⟨g, rfl, h3, h4, h5⟩
  · exact .inl h
  · exact .inr ⟨g, rfl, h3, Nat.lt_of_lt_of_le h4 b2.size, h5.keep (b2.block g (hal _ rfl))⟩

theorem cntN_ins (is : List Ins) : cntN (nsOf is) ≤ 2 * (is.length + inssTot is) := by
  induction is with
  | nil => exact Nat.zero_le _
  | cons i is ih =>
    have e : inssTot (i :: is) = insTot i + inssTot is := by simp [inssTot]
    have e2 : i.ns.length ≤ insTot i := by unfold insTot; omega
    show 2 + 2 * i.ns.length + cntN (nsOf is) ≤ _
    rw [List.length_cons, e]
    omega

end Go.Proofs.YtjpdiahbnhemoaaGreatDoor
