/- Marks laid into a row of needs that the program handed back, and read again. Marks laid into the needs of an instance that the program handed back, and read again. A row of instances that was handed back: a block of its own, and one for the needs of each. Marks laid into a row of classes that the program handed back, and read again. Marks laid into a world that the program handed back, and read again. Marks laid into a world that the program handed back, and read again: the world. -/
import Derived.Test.YtmbfahpljgdeaaaDoorMarksB
import Derived.Test.YtmbfahpljgdeaaaDoorArgsB
import Derived.Test.YtmbfahpljgdeaaaDoorInsA
import Derived.Deep.Cut
namespace Go.Proofs.YtmbfahpljgdeaaaDoor
open Go.RowKit

/-- The marks k, k+1, .. as pairs. -/
def marksN (k n : Nat) : List (ByteArray × ByteArray) := (List.range n).map fun j => (strOf (mark (k + 2 * j)), strOf (mark (k + 2 * j + 1)))
theorem marksN_at (k n j : Nat) (h : j < n) : (marksN k n)[j]? = some (strOf (mark (k + 2 * j)), strOf (mark (k + 2 * j + 1))) := by
  simp [marksN, h]

set_option maxHeartbeats 1000000 in
set_option maxRecDepth 100000 in
theorem heldNeedS_any (A : Option Addr) (k n c : Nat) (w : World) (ha : Prs w A n (marksN k n)) (hk : 0 < k) (hn : k + 2 * n ≤ 4194304) :
    Calls Tryd.prog 35 #[.slice A n c, .int .i64 k] w fun e w' => e = .returned (.int .i64 (k + 2 * n : Nat)) ∧ Below w.heap.size w w' := by
  have HA := hid ha
  clear ha
  go_enter Tryd.func35, Tryd.ntmps35
  go_wp2_with fail
  go_loopw [1, 5] (fun q i wr => ∃ j : Nat, j ≤ n ∧ i = .int .i64 j ∧ q = .int .i64 (k + 2 * j : Nat) ∧ Below w.heap.size w wr) (fun _ i _ => n - (intOf i).toNat)
  case atStart => exact ⟨0, Nat.zero_le _, rfl, rfl, Below.refl _ _⟩
  case round =>
    obtain ⟨j, hj, rfl, rfl, hbel⟩ := hrel
    by_cases hlt : j < n
    · obtain ⟨g, o, rfl, hg, hca⟩ := HA.out.2 (by omega)
      obtain ⟨ca, cb⟩ := hca j _ (marksN_at k n j hlt)
      obtain ⟨q, hq⟩ : ∃ q, k + 2 * j = q := ⟨_, rfl⟩
      rw [hq] at ca cb
      have hq0 : 0 < q := by omega
      have hq1 : q + 2 ≤ 4194304 := by omega
      have hqi : ((k + 2 * j : Nat) : Int) = (q : Int) := by rw [hq]
      rw [hqi]
      have HQ := hid hq
      clear hq hqi
      obtain ⟨x, ex⟩ : ∃ x, strOf (mark q) = x := ⟨_, rfl⟩
      obtain ⟨y, ey⟩ : ∃ y, strOf (mark (q + 1)) = y := ⟨_, rfl⟩
      have hm1 := fun W => markText_any q (by omega) (by omega) W
      have hm2 := fun W => markText_any (q + 1) (by omega) (by omega) W
      simp only [show ((q + 1 : Nat) : Int) = (q : Int) + 1 by omega] at hm2
      rw [ex] at ca
      rw [ey] at cb
      simp only [ex] at hm1
      simp only [ey] at hm2
      have HM1 := hid hm1
      have HM2 := hid hm2
      have cw := cell_below ca hg hbel
      have dw := cell_below cb hg hbel
      have CW := hid cw
      have DW := hid dw
      clear hca hm1 hm2 ex ey ca cb dw
      have zg : g < wr.heap.size := by have := hbel.size; omega
      have i1 : (0 : Int) ≤ (j : Int) := by omega
      have i2 : (j : Int) < (n : Int) := by omega
      go_wp2_with fail
      go_region_with (go_at_call 67; refine (HM1.out _).mono ?_; rintro e w2 ⟨rfl, hb2⟩; have c2 := cell_below (w := wr.drew) CW.out zg hb2)
      all_goals
        have d2 := cell_below (w := wr.drew) DW.out zg hb2
        have D2 := hid d2
        have zg2 : g < w2.heap.size := Nat.lt_of_lt_of_le zg hb2.size
        have B2 := hid (hbel.drew.trans (hb2.mono hbel.size))
        clear c2 hb2
        go_wp2_with fail
        go_region_with (go_at_call 67; refine (HM2.out _).mono ?_; rintro e w3 ⟨rfl, hb3⟩; have c3 := cell_below (w := w2.drew) D2.out zg2 hb3)
        all_goals
          go_wp2_with fail
          go_roundw
          case rel => exact ⟨j + 1, hlt, by go_num, by have := HQ.out; go_num, B2.out.drew.trans (hb3.mono B2.out.size)⟩
          case measure => simp [intOf]; omega
    · go_wp2_with fail
      go_ret
      exact ⟨ret_int (by have : j = n := by omega
                         rw [this]), hbel⟩

/-- Block g is a row of bindings of which the first n are zs; none of it frozen. -/
def RowPrN (w : World) (g n : Nat) (zs : List (ByteArray × ByteArray)) : Prop :=
  ∃ cur : Array Value, w.heap[g]? = some (.cells cur 42 (0, 0)) ∧ n * 2 ≤ cur.size ∧ zs.length = n ∧ ∀ (j : Nat) z, zs[j]? = some z → cur[j * 2]? = some (.string z.1) ∧ cur[j * 2 + 1]? = some (.string z.2)
theorem RowPrN.prs {w : World} {g n : Nat} {zs : List (ByteArray × ByteArray)} (h : RowPrN w g n zs) : Prs w (some ⟨g, 0, none⟩) n zs := by
  obtain ⟨cur, h1, h2, h3, h4⟩ := h
  refine ⟨h3, fun _ => ⟨g, 0, rfl, (Array.getElem?_eq_some_iff.1 h1).1, fun j z hj => ?_⟩⟩
  obtain ⟨e1, e2⟩ := h4 j z hj
  constructor
  · unfold World.cell?
    rw [show w.heap[(⟨g, 0 + j * 2, none⟩ : Addr).block]? = _ from h1]
    simpa using e1
  · unfold World.cell?
    rw [show w.heap[(⟨g, 0 + j * 2 + 1, none⟩ : Addr).block]? = _ from h1]
    simpa using e2

set_option maxHeartbeats 1000000 in
set_option maxRecDepth 100000 in
theorem markNeedS_any (g k n c : Nat) (zs : List (ByteArray × ByteArray)) (w : World) (ha : RowPrN w g n zs) (hk : 0 < k) (hn : k + 2 * n ≤ 4194304) :
    Calls Tryd.prog 34 #[.slice (some ⟨g, 0, none⟩) n c, .int .i64 k] w fun e w' => e = .returned (.int .i64 (k + 2 * n : Nat)) ∧ RowPrN w' g n (marksN k n) ∧ But w.heap.size g w w' := by
  obtain ⟨cur0, hg0, hn0, hl0, hx0⟩ := ha
  have zg : g < w.heap.size := (Array.getElem?_eq_some_iff.1 hg0).1
  have HX0 := hid hx0
  have HG0 := hid hg0
  have HL0 := hid hl0
  clear hx0 hg0 hl0
  go_enter Tryd.func34, Tryd.ntmps34
  go_wp2_with fail
  go_loopw [1, 5] (fun q i wr => ∃ (j : Nat) (cur : Array Value), j ≤ n ∧ i = .int .i64 j ∧ q = .int .i64 (k + 2 * j : Nat) ∧ wr.heap[g]? = some (.cells cur 42 (0, 0)) ∧ n * 2 ≤ cur.size ∧
      (∀ l, l < n * 2 → ∃ x, cur[l]? = some (.string x)) ∧ (∀ l, l < j → cur[l * 2]? = some (.string (strOf (mark (k + 2 * l)))) ∧ cur[l * 2 + 1]? = some (.string (strOf (mark (k + 2 * l + 1))))) ∧ But w.heap.size g w wr) (fun _ i _ => n - (intOf i).toNat)
  case atStart =>
    refine ⟨0, cur0, Nat.zero_le _, rfl, rfl, HG0.out, hn0, fun l hl => ?_, fun l hl => absurd hl (Nat.not_lt_zero _), But.refl _ _ _⟩
    have hx : zs[l / 2]? = some (zs[l / 2]'(by rw [HL0.out]; omega)) := List.getElem?_eq_getElem _
    obtain ⟨q0, q1⟩ := HX0.out (l / 2) _ hx
    rcases Nat.mod_two_eq_zero_or_one l with h | h
    · rw [show l / 2 * 2 = l by omega] at q0
      exact ⟨_, q0⟩
    · rw [show l / 2 * 2 + 1 = l by omega] at q1
      exact ⟨_, q1⟩
  case round =>
    obtain ⟨j, cur, hj, rfl, rfl, hg, hc, hall, hdone, hbut⟩ := hrel
    have HALL := hid hall
    have HDONE := hid hdone
    have HG := hid hg
    clear hall hdone hg
    by_cases hlt : j < n
    · have i1 : (0 : Int) ≤ (j : Int) := by omega
      have i2 : (j : Int) < (n : Int) := by omega
      obtain ⟨q, hq⟩ : ∃ q, k + 2 * j = q := ⟨_, rfl⟩
      have hq0 : 0 < q := by omega
      have hq1 : q + 2 ≤ 4194304 := by omega
      have hqi : ((k + 2 * j : Nat) : Int) = (q : Int) := by rw [hq]
      rw [hqi]
      have HQ := hid hq
      clear hq hqi
      have hm1 := hid (fun W => markText_any q (by omega) (by omega) W)
      have hm2' := fun W => markText_any (q + 1) (by omega) (by omega) W
      simp only [show ((q + 1 : Nat) : Int) = (q : Int) + 1 by omega] at hm2'
      have hm2 := hid hm2'
      clear hm2'
      go_wp2_with fail
      refine (hm1.out _).mono ?_
      rintro e w2 ⟨rfl, hb2⟩
      have zr : g < wr.heap.size := (Array.getElem?_eq_some_iff.1 HG.out).1
      have hg2 := (hb2.block g zr).trans HG.out
      obtain ⟨x, hx⟩ := HALL.out (j * 2) (by omega)
      obtain ⟨y, hy⟩ := HALL.out (j * 2 + 1) (by omega)
      have c2 := cell_blk hg2 hx
      have f2 := frz_blk hg2
      have HG2 := hid hg2
      have HY := hid hy
      clear hg2 hx hy
      obtain ⟨v, hv⟩ : ∃ v, strOf (mark q) = v := ⟨_, rfl⟩
      have HV := hid hv
      rw [hv]
      clear hv
      go_wp2_with fail
      obtain ⟨W3, hW3⟩ : ∃ W3, w2.setCell ⟨g, j * 2, none⟩ (.string v) = W3 := ⟨_, rfl⟩
      have hg3 : W3.heap[g]? = some (.cells (cur.setIfInBounds (j * 2) (.string v)) 42 (0, 0)) := by
        have h := HG2.out
        rw [← hW3]
        simp [World.setCell, Array.getElem?_modify, h]
      have hb3 : But w.heap.size g w W3 := by
        rw [← hW3]
        exact (hbut.trans (But.of_below (hb2.mono (by have := hbut.size; omega)))).set _ _
      have hr3 : Below W3.heap.size W3 W3 := Below.refl _ _
      rw [hW3]
      have HG3 := hid hg3
      have HB3 := hid hb3
      have z3 : g < W3.heap.size := (Array.getElem?_eq_some_iff.1 hg3).1
      clear hW3 hg3 hb3 hr3 c2 f2
      refine (hm2.out _).mono ?_
      rintro e w4 ⟨rfl, hb4⟩
      have hg4 := (hb4.block g z3).trans HG3.out
      have c4 := cell_blk hg4 (j := j * 2 + 1) (v := .string y) (by
        rw [Array.getElem?_setIfInBounds, if_neg (by omega)]
        exact HY.out)
      have f4 := frz_blk hg4
      have HG4 := hid hg4
      clear hg4
      obtain ⟨u, hu⟩ : ∃ u, strOf (mark (q + 1)) = u := ⟨_, rfl⟩
      have HU := hid hu
      rw [hu]
      clear hu
      go_wp2_with fail
      go_roundw
      case rel =>
        refine ⟨j + 1, (cur.setIfInBounds (j * 2) (.string v)).setIfInBounds (j * 2 + 1) (.string u), hlt, by go_num, by have := HQ.out; go_num, ?_, by simpa using hc, ?_, ?_, (HB3.out.trans (But.of_below (hb4.mono HB3.out.size))).set _ _⟩
        · have h := HG4.out
          simp [World.setCell, Array.getElem?_modify, h]
        · intro l hl
          rw [Array.getElem?_setIfInBounds]
          by_cases e : j * 2 + 1 = l
          · exact ⟨u, by rw [if_pos e, if_pos (by simp; omega)]⟩
          · rw [if_neg e, Array.getElem?_setIfInBounds]
            by_cases e' : j * 2 = l
            · exact ⟨v, by rw [if_pos e', if_pos (by omega)]⟩
            · rw [if_neg e']
              exact HALL.out l hl
        · intro l hl
          by_cases e : l = j
          · subst e
            constructor
            · rw [Array.getElem?_setIfInBounds, if_neg (by omega), Array.getElem?_setIfInBounds, if_pos rfl, if_pos (by omega), HQ.out, HV.out]
            · rw [Array.getElem?_setIfInBounds, if_pos rfl, if_pos (by simp; omega), HQ.out, HU.out]
          · obtain ⟨q0, q1⟩ := HDONE.out l (by omega)
            constructor
            · rw [Array.getElem?_setIfInBounds, if_neg (by omega), Array.getElem?_setIfInBounds, if_neg (by omega)]
              exact q0
            · rw [Array.getElem?_setIfInBounds, if_neg (by omega), Array.getElem?_setIfInBounds, if_neg (by omega)]
              exact q1
      case measure => simp [intOf]; omega
    · go_wp2_with fail
      go_ret
      refine ⟨ret_int (by have : j = n := by omega
                          rw [this]), ⟨cur, HG.out, hc, by simp [marksN], fun l x hl => ?_⟩, hbut⟩
      have hln : l < n := by
        have := (List.getElem?_eq_some_iff.1 hl).1
        simpa [marksN] using this
      rw [marksN_at k n l hln] at hl
      simp only [Option.some.injEq] at hl
      rw [← hl]
      exact HDONE.out l (by omega)

set_option maxHeartbeats 400000 in
theorem markNeedS_nil (k c : Nat) (w : World) :
    Calls Tryd.prog 34 #[.slice none 0 c, .int .i64 k] w fun e w' => e = .returned (.int .i64 k) ∧ w' = w := by
  go_enter Tryd.func34, Tryd.ntmps34
  go_wp2_with fail
  refine wp_loop_rounds 1 ?_
  rw [rounds_succ]
  go_wp2_with fail
  go_ret
  exact ⟨rfl, rfl⟩

end Go.Proofs.YtmbfahpljgdeaaaDoor

namespace Go.Proofs.YtmbfahpljgdeaaaDoor
open Go.RowKit
set_option linter.unusedVariables false

/-- A slice of needs of one's own (or none). -/
def OwnN (w : World) (lo : Nat) (A : Option Addr) (n : Nat) (zs : List (ByteArray × ByteArray)) : Prop :=
  (A = none ∧ n = 0 ∧ zs = []) ∨ ∃ g, A = some ⟨g, 0, none⟩ ∧ lo ≤ g ∧ g < w.heap.size ∧ RowPrN w g n zs
theorem OwnN.prs {w : World} {lo n : Nat} {A : Option Addr} {zs : List (ByteArray × ByteArray)} (h : OwnN w lo A n zs) : Prs w A n zs := by
  rcases h with ⟨rfl, rfl, rfl⟩ | ⟨g, rfl, _, _, h⟩
  · exact ⟨rfl, fun h => absurd h (Nat.lt_irrefl 0)⟩
  · exact h.prs
theorem OwnN.of {w : World} {lo n c : Nat} {A : Option Addr} {zs : List (ByteArray × ByteArray)} (h : w.ownsRow lo 42 2 (.slice A n c) n (cells2 zs)) : OwnN w lo A n zs := by
  have hl : zs.length = n := by
    have h1 := h.1
    rw [cells2_len] at h1
    omega
  rcases h.2 with ⟨hA, rfl⟩ | ⟨g, cap, cur, hA, hb, hg, hc, hm, hs, ht⟩
  · injection hA with h1 h2 h3
    exact .inl ⟨h1, rfl, List.eq_nil_of_length_eq_zero hl⟩
  · injection hA with h1 h2 h3
    subst h1
    refine .inr ⟨g, rfl, hb, (Array.getElem?_eq_some_iff.1 hg).1, cur, hg, by rw [hs]; exact Nat.mul_le_mul_right 2 hc, hl, fun j z hj => ?_⟩
    obtain ⟨e1, e2⟩ := cells2_at zs j z hj
    have hjn : j < n := by rw [← hl]; exact (List.getElem?_eq_some_iff.1 hj).1
    rw [← ht] at e1 e2
    rw [List.getElem?_take, if_pos (by omega)] at e1 e2
    exact ⟨by simpa using e1, by simpa using e2⟩
theorem RowPrN.keep {w w' : World} {g n : Nat} {zs : List (ByteArray × ByteArray)} (h : RowPrN w g n zs) (e : w'.heap[g]? = w.heap[g]?) : RowPrN w' g n zs := by
  obtain ⟨cur, h1, h2⟩ := h
  exact ⟨cur, e.trans h1, h2⟩
theorem OwnN.below {w w' : World} {lo n : Nat} {A : Option Addr} {zs : List (ByteArray × ByteArray)} (h : OwnN w lo A n zs) (hb : Below w.heap.size w w') : OwnN w' lo A n zs := by
  rcases h with h | ⟨g, rfl, h1, h2, h3⟩
  · exact .inl h
  · exact .inr ⟨g, rfl, h1, Nat.lt_of_lt_of_le h2 hb.size, h3.keep (hb.block g h2)⟩

set_option maxHeartbeats 1000000 in
theorem heldInstance_any (x y : ByteArray) (A : Option Addr) (k n c : Nat) (w : World) (ha : Prs w A n (marksN k n)) (hk : 0 < k) (hn : k + 2 * n ≤ 4194304) :
    Calls Tryd.prog 26 #[.agg #[.string x, .string y, .slice A n c], .int .i64 k] w fun e w' => e = .returned (.int .i64 (k + 2 * n : Nat)) ∧ Below w.heap.size w w' := by
  have HA := hid ha
  have hb : ∀ o, Below w.heap.size w (w.alloc o) := fun o => (Below.refl _ _).alloc (Nat.le_refl _) o
  have h0 : ¬ ((k + 2 * n : Nat) : Int) < 0 := by omega
  clear ha
  go_enter Tryd.func26, Tryd.ntmps26
  go_wp2_with fail
  refine (heldNeedS_any A k n c _ (HA.out.below (hb _)) hk hn).mono ?_
  rintro e w1 ⟨rfl, b1⟩
  have B1 := hid ((hb (.cells #[.string x, .string y, .slice A n c] 45)).trans (b1.mono (hb _).size))
  clear b1
  go_wp2_with fail
  go_ret
  exact ⟨rfl, B1.out⟩

set_option maxHeartbeats 1000000 in
theorem markInstance_any (x y : ByteArray) (A : Option Addr) (k n c lo : Nat) (zs : List (ByteArray × ByteArray)) (w : World) (ha : OwnN w lo A n zs) (hk : 0 < k) (hn : k + 2 * n ≤ 4194304) (rb : Nat) (hrb : ∀ a, A = some a → a.block = rb) :
    Calls Tryd.prog 25 #[.agg #[.string x, .string y, .slice A n c], .int .i64 k] w fun e w' => e = .returned (.int .i64 (k + 2 * n : Nat)) ∧ OwnN w' lo A n (marksN k n) ∧ But w.heap.size rb w w' := by
  have hb : ∀ o, Below w.heap.size w (w.alloc o) := fun o => (Below.refl _ _).alloc (Nat.le_refl _) o
  have HB := hid hb
  rcases ha with ⟨rfl, rfl, rfl⟩ | ⟨g, rfl, h1, h2, h3⟩
  · clear hb
    go_enter Tryd.func25, Tryd.ntmps25
    go_wp2_with fail
    refine (markNeedS_nil k c _).mono ?_
    rintro e w1 ⟨rfl, rfl⟩
    go_wp2_with fail
    go_ret
    exact ⟨rfl, .inl ⟨rfl, rfl, rfl⟩, But.of_below (HB.out _)⟩
  · obtain rfl : g = rb := hrb _ rfl
    have H3 := hid h3
    clear hb h3
    go_enter Tryd.func25, Tryd.ntmps25
    go_wp2_with fail
    refine (markNeedS_any g k n c zs _ (H3.out.keep ((HB.out _).block g h2)) hk hn).mono ?_
    rintro e w1 ⟨rfl, h4, b1⟩
    have H4 := hid h4
    have B1 := hid ((But.of_below (HB.out (.cells #[.string x, .string y, .slice (some ⟨g, 0, none⟩) n c] 45))).trans (b1.mono (HB.out _).size))
    have z1 := B1.out.size
    clear h4 b1
    go_wp2_with fail
    go_ret
    exact ⟨rfl, .inr ⟨g, rfl, h1, by omega, H4.out⟩, B1.out⟩

end Go.Proofs.YtmbfahpljgdeaaaDoor

namespace Go.Proofs.YtmbfahpljgdeaaaDoor
open Go.RowKit
set_option linter.unusedVariables false

/-- An instance, and where its needs lie. -/
abbrev InP := Ins × (Option Addr × Nat)
def cells3 (ps : List InP) : List Value := ps.flatMap fun p => [.string p.1.c, .string p.1.t, .slice p.2.1 p.1.ns.length p.2.2]
theorem cells3_len (ps : List InP) : (cells3 ps).length = ps.length * 3 := by
  induction ps with
  | nil => rfl
  | cons p ps ih =>
    unfold cells3 at ih ⊢
    rw [List.flatMap_cons, List.length_append, ih]
    simp only [List.length_cons, List.length_nil]
    omega
theorem cells3_at : ∀ (ps : List InP) (j : Nat) (p : InP), ps[j]? = some p → (cells3 ps)[j * 3]? = some (.string p.1.c) ∧ (cells3 ps)[j * 3 + 1]? = some (.string p.1.t) ∧ (cells3 ps)[j * 3 + 2]? = some (.slice p.2.1 p.1.ns.length p.2.2)
  | [], j, p, h => by simp at h
  | q :: ps, 0, p, h => by
    simp only [List.getElem?_cons_zero, Option.some.injEq] at h
    subst h
    exact ⟨rfl, rfl, rfl⟩
  | q :: ps, j + 1, p, h => by
    have h' : ps[j]? = some p := by simpa using h
    obtain ⟨h1, h2, h3⟩ := cells3_at ps j p h'
    have e : cells3 (q :: ps) = .string q.1.c :: .string q.1.t :: .slice q.2.1 q.1.ns.length q.2.2 :: cells3 ps := rfl
    rw [e, show (j + 1) * 3 = j * 3 + 1 + 1 + 1 by omega]
    exact ⟨by simpa using h1, by simpa using h2, by simpa using h3⟩
theorem cells3_snoc (ps : List InP) (p : InP) : cells3 (ps ++ [p]) = cells3 ps ++ [.string p.1.c, .string p.1.t, .slice p.2.1 p.1.ns.length p.2.2] := by
  unfold cells3
  rw [List.flatMap_append, List.flatMap_cons, List.flatMap_nil, List.append_nil]
/-- Block g is a row of instances of which the first m are those. -/
def RowI (w : World) (g m : Nat) (ps : List InP) : Prop :=
  ∃ cur : Array Value, w.heap[g]? = some (.cells cur 45 (0, 0)) ∧ m * 3 ≤ cur.size ∧ ps.length = m ∧ ∀ (j : Nat) p, ps[j]? = some p → cur[j * 3]? = some (.string p.1.c) ∧ cur[j * 3 + 1]? = some (.string p.1.t) ∧ cur[j * 3 + 2]? = some (.slice p.2.1 p.1.ns.length p.2.2)
theorem RowI.keep {w w' : World} {g m : Nat} {ps : List InP} (h : RowI w g m ps) (e : w'.heap[g]? = w.heap[g]?) : RowI w' g m ps := by
  obtain ⟨cur, h1, h2⟩ := h
  exact ⟨cur, e.trans h1, h2⟩
theorem RowI.lt {w : World} {g m : Nat} {ps : List InP} (h : RowI w g m ps) : g < w.heap.size := by
  obtain ⟨cur, h1, _⟩ := h
  exact (Array.getElem?_eq_some_iff.1 h1).1
theorem RowI.of {w : World} {base m g c : Nat} {ps : List InP} (h : w.ownsRow base 45 3 (.slice (some ⟨g, 0, none⟩) m c) m (cells3 ps)) : RowI w g m ps := by
  have hl : ps.length = m := by
    have h1 := h.1
    rw [cells3_len] at h1
    omega
  rcases h.2 with ⟨hA, rfl⟩ | ⟨g', cap, cur, hA, hb, hg, hc, hm, hs, ht⟩
  · cases hA
  · injection hA with h1 h2 h3
    injection h1 with h1
    injection h1 with h1
    subst h1
    refine ⟨cur, hg, by rw [hs]; exact Nat.mul_le_mul_right 3 hc, hl, fun j p hj => ?_⟩
    obtain ⟨e1, e2, e3⟩ := cells3_at ps j p hj
    have hjn : j < m := by rw [← hl]; exact (List.getElem?_eq_some_iff.1 hj).1
    rw [← ht] at e1 e2 e3
    rw [List.getElem?_take, if_pos (by omega)] at e1 e2 e3
    exact ⟨by simpa using e1, by simpa using e2, by simpa using e3⟩
theorem at_mid {A B : List InP} {p : InP} {j : Nat} {q : InP} (h : (A ++ p :: B)[j]? = some q) : (j < A.length ∧ ∀ x, (A ++ x :: B)[j]? = some q) ∨ (j = A.length ∧ q = p) ∨ (A.length < j ∧ ∀ x, (A ++ x :: B)[j]? = some q) := by
  rcases Nat.lt_trichotomy j A.length with hj | hj | hj
  · refine .inl ⟨hj, fun x => ?_⟩
    rw [List.getElem?_append_left hj] at h ⊢
    exact h
  · subst hj
    rw [List.getElem?_append_right (Nat.le_refl _)] at h
    simp at h
    exact .inr (.inl ⟨rfl, h.symm⟩)
  · refine .inr (.inr ⟨hj, fun x => ?_⟩)
    rw [List.getElem?_append_right (by omega)] at h ⊢
    obtain ⟨k, hk⟩ : ∃ k, j - A.length = k + 1 := ⟨j - A.length - 1, by omega⟩
    rw [hk] at h ⊢
    simpa using h
theorem RowI.set0 {w : World} {g m : Nat} {A B : List InP} {p : InP} (h : RowI w g m (A ++ p :: B)) (x : ByteArray) : RowI (w.setCell ⟨g, A.length * 3, none⟩ (.string x)) g m (A ++ (⟨x, p.1.t, p.1.ns⟩, p.2) :: B) := by
  obtain ⟨cur, h1, h2, h3, h4⟩ := h
  have hb : A.length < m := by rw [← h3]; simp
  refine ⟨cur.setIfInBounds (A.length * 3) (.string x), by simp [World.setCell, Array.getElem?_modify, h1], by simpa using h2, by rw [← h3]; simp, fun j q hj => ?_⟩
  rcases at_mid hj with ⟨hl, hq⟩ | ⟨rfl, rfl⟩ | ⟨hl, hq⟩
  · obtain ⟨e1, e2, e3⟩ := h4 j q (hq p)
    refine ⟨?_, ?_, ?_⟩ <;> rw [Array.getElem?_setIfInBounds, if_neg (by omega)] <;> assumption
  · obtain ⟨e1, e2, e3⟩ := h4 A.length p (by simp)
    refine ⟨by rw [Array.getElem?_setIfInBounds, if_pos rfl, if_pos (by omega)], ?_, ?_⟩ <;> rw [Array.getElem?_setIfInBounds, if_neg (by omega)] <;> assumption
  · obtain ⟨e1, e2, e3⟩ := h4 j q (hq p)
    refine ⟨?_, ?_, ?_⟩ <;> rw [Array.getElem?_setIfInBounds, if_neg (by omega)] <;> assumption
theorem RowI.set1 {w : World} {g m : Nat} {A B : List InP} {p : InP} (h : RowI w g m (A ++ p :: B)) (x : ByteArray) : RowI (w.setCell ⟨g, A.length * 3 + 1, none⟩ (.string x)) g m (A ++ (⟨p.1.c, x, p.1.ns⟩, p.2) :: B) := by
  obtain ⟨cur, h1, h2, h3, h4⟩ := h
  have hb : A.length < m := by rw [← h3]; simp
  refine ⟨cur.setIfInBounds (A.length * 3 + 1) (.string x), by simp [World.setCell, Array.getElem?_modify, h1], by simpa using h2, by rw [← h3]; simp, fun j q hj => ?_⟩
  rcases at_mid hj with ⟨hl, hq⟩ | ⟨rfl, rfl⟩ | ⟨hl, hq⟩
  · obtain ⟨e1, e2, e3⟩ := h4 j q (hq p)
    refine ⟨?_, ?_, ?_⟩ <;> rw [Array.getElem?_setIfInBounds, if_neg (by omega)] <;> assumption
  · obtain ⟨e1, e2, e3⟩ := h4 A.length p (by simp)
    refine ⟨?_, by rw [Array.getElem?_setIfInBounds, if_pos rfl, if_pos (by omega)], ?_⟩ <;> rw [Array.getElem?_setIfInBounds, if_neg (by omega)] <;> assumption
  · obtain ⟨e1, e2, e3⟩ := h4 j q (hq p)
    refine ⟨?_, ?_, ?_⟩ <;> rw [Array.getElem?_setIfInBounds, if_neg (by omega)] <;> assumption
theorem RowI.ns {w : World} {g m : Nat} {A B : List InP} {p : InP} (h : RowI w g m (A ++ p :: B)) (ns : List (ByteArray × ByteArray)) (hn : ns.length = p.1.ns.length) : RowI w g m (A ++ (⟨p.1.c, p.1.t, ns⟩, p.2) :: B) := by
  obtain ⟨cur, h1, h2, h3, h4⟩ := h
  refine ⟨cur, h1, h2, by rw [← h3]; simp, fun j q hj => ?_⟩
  rcases at_mid hj with ⟨hl, hq⟩ | ⟨rfl, rfl⟩ | ⟨hl, hq⟩
  · exact h4 j q (hq p)
  · obtain ⟨e1, e2, e3⟩ := h4 A.length p (by simp)
    exact ⟨e1, e2, by rw [hn]; exact e3⟩
  · exact h4 j q (hq p)

/-- The needs lie in blocks of their own. -/
def InR (w : World) (lo g : Nat) (ps : List InP) : Prop :=
  (∀ (j : Nat) p, ps[j]? = some p → OwnN w lo p.2.1 p.1.ns.length p.1.ns ∧ ∀ a, p.2.1 = some a → a.block ≠ g) ∧
  ∀ (j k : Nat) p q a b, j ≠ k → ps[j]? = some p → ps[k]? = some q → p.2.1 = some a → q.2.1 = some b → a.block ≠ b.block
theorem OwnN.keep {w w' : World} {lo n : Nat} {A : Option Addr} {zs : List (ByteArray × ByteArray)} (h : OwnN w lo A n zs) (hz : w.heap.size ≤ w'.heap.size) (hk : ∀ a, A = some a → lo ≤ a.block → a.block < w.heap.size → w'.heap[a.block]? = w.heap[a.block]?) : OwnN w' lo A n zs := by
  rcases h with h | ⟨g, rfl, h1, h2, h3⟩
  · exact .inl h
  · exact .inr ⟨g, rfl, h1, Nat.lt_of_lt_of_le h2 hz, h3.keep (hk _ rfl h1 h2)⟩
theorem OwnN.mono {w : World} {lo lo' n : Nat} {A : Option Addr} {zs : List (ByteArray × ByteArray)} (h : OwnN w lo A n zs) (hl : lo' ≤ lo) : OwnN w lo' A n zs := by
  rcases h with h | ⟨g, rfl, h1, h2, h3⟩
  · exact .inl h
  · exact .inr ⟨g, rfl, Nat.le_trans hl h1, h2, h3⟩
theorem OwnN.at {w : World} {lo n : Nat} {A : Option Addr} {zs : List (ByteArray × ByteArray)} (h : OwnN w lo A n zs) : ∀ a, A = some a → lo ≤ a.block ∧ a.block < w.heap.size := by
  rcases h with ⟨rfl, _⟩ | ⟨g, rfl, h1, h2, h3⟩
  · intro a h; cases h
  · intro a h; injection h with h; rw [← h]; exact ⟨h1, h2⟩
theorem InR.keep {w w' : World} {lo g : Nat} {ps : List InP} (h : InR w lo g ps) (hz : w.heap.size ≤ w'.heap.size) (hk : ∀ k, lo ≤ k → k < w.heap.size → k ≠ g → w'.heap[k]? = w.heap[k]?) : InR w' lo g ps :=
  ⟨fun j p hj => ⟨(h.1 j p hj).1.keep hz fun a ha h1 h2 => hk _ h1 h2 ((h.1 j p hj).2 a ha), (h.1 j p hj).2⟩, h.2⟩
/-- The row moves: its new block is none of the needs'. -/
theorem InR.move {w : World} {lo g g' : Nat} {ps : List InP} (h : InR w lo g ps) (hg : g' = g ∨ w.heap.size ≤ g') : InR w lo g' ps := by
  refine ⟨fun j p hj => ⟨(h.1 j p hj).1, fun a ha => ?_⟩, h.2⟩
  rcases hg with rfl | hg
  · exact (h.1 j p hj).2 a ha
  · have := (h.1 j p hj).1.at a ha
    omega
theorem InR.move2 {w : World} {lo g g' b : Nat} {ps : List InP} (h : InR w lo g ps) (hb : ∀ (j : Nat) q a, ps[j]? = some q → q.2.1 = some a → a.block < b) (hg : g' = g ∨ b ≤ g') : InR w lo g' ps := by
  refine ⟨fun j p hj => ⟨(h.1 j p hj).1, fun a ha => ?_⟩, h.2⟩
  rcases hg with rfl | hg
  · exact (h.1 j p hj).2 a ha
  · have := hb j p a hj ha
    omega
theorem InR.snoc {w : World} {lo lo2 g : Nat} {ps : List InP} {p : InP} (h : InR w lo g ps) (hp : OwnN w lo2 p.2.1 p.1.ns.length p.1.ns) (hlo : lo ≤ lo2) (hgp : ∀ a, p.2.1 = some a → a.block ≠ g) (hold : ∀ (j : Nat) q a, ps[j]? = some q → q.2.1 = some a → a.block < lo2) : InR w lo g (ps ++ [p]) := by
  have hat : ∀ (j : Nat) q, (ps ++ [p])[j]? = some q → ps[j]? = some q ∨ (j = ps.length ∧ q = p) := by
    intro j q hj
    rcases Nat.lt_or_ge j ps.length with hl | hl
    · rw [List.getElem?_append_left hl] at hj
      exact .inl hj
    · rw [List.getElem?_append_right hl] at hj
      have hjl : j - ps.length = 0 := by
        have := (List.getElem?_eq_some_iff.1 hj).1
        simp at this
        omega
      rw [hjl] at hj
      simp at hj
      exact .inr ⟨by omega, hj.symm⟩
  refine ⟨fun j q hj => ?_, fun j k q r a b hjk hj hk ha hb => ?_⟩
  · rcases hat j q hj with h1 | ⟨_, rfl⟩
    · exact h.1 j q h1
    · exact ⟨hp.mono hlo, hgp⟩
  · rcases hat j q hj with h1 | ⟨e1, rfl⟩ <;> rcases hat k r hk with h2 | ⟨e2, rfl⟩
    · exact h.2 j k q r a b hjk h1 h2 ha hb
    · have h3 := hold j q a h1 ha
      have h4 := hp.at b hb
      omega
    · have h3 := hold k r b h2 hb
      have h4 := hp.at a ha
      omega
    · exact absurd (e1.trans e2.symm) hjk
theorem InR.lt {w : World} {lo g : Nat} {ps : List InP} (h : InR w lo g ps) : ∀ (j : Nat) q a, ps[j]? = some q → q.2.1 = some a → a.block < w.heap.size := fun j q a hj ha => ((h.1 j q hj).1.at a ha).2

/-- A slice of instances that was handed back. -/
def OwnW (w : World) (lo : Nat) (B : Option Addr) (m : Nat) (is : List Ins) : Prop :=
  (B = none ∧ m = 0 ∧ is = []) ∨ ∃ g ps, B = some ⟨g, 0, none⟩ ∧ lo ≤ g ∧ ps.map Prod.fst = is ∧ RowI w g m ps ∧ InR w lo g ps
theorem OwnW.keep {w w' : World} {lo m : Nat} {B : Option Addr} {is : List Ins} (h : OwnW w lo B m is) (hz : w.heap.size ≤ w'.heap.size) (hk : ∀ k, lo ≤ k → k < w.heap.size → w'.heap[k]? = w.heap[k]?) : OwnW w' lo B m is := by
  rcases h with h | ⟨g, ps, rfl, h1, h2, h3, h4⟩
  · exact .inl h
  · exact .inr ⟨g, ps, rfl, h1, h2, h3.keep (hk g h1 h3.lt), h4.keep hz fun k h5 h6 _ => hk k h5 h6⟩
theorem OwnW.below {w w' : World} {lo m : Nat} {B : Option Addr} {is : List Ins} (h : OwnW w lo B m is) (hb : Below w.heap.size w w') : OwnW w' lo B m is := h.keep hb.size fun k _ hk => hb.block k hk
theorem OwnW.inss {w : World} {lo m : Nat} {B : Option Addr} {is : List Ins} (h : OwnW w lo B m is) (hn : ∀ i ∈ is, i.ns.length ≤ maxLen) : Inss w B m is := by
  rcases h with ⟨rfl, rfl, rfl⟩ | ⟨g, ps, rfl, h1, rfl, ⟨cur, h3, h4, h5, h6⟩, h7⟩
  · exact ⟨rfl, fun h => absurd h (Nat.lt_irrefl 0)⟩
  · refine ⟨by rw [List.length_map]; exact h5, fun _ => ⟨g, 0, rfl, (Array.getElem?_eq_some_iff.1 h3).1, fun j i hj => ?_⟩⟩
    rw [List.getElem?_map] at hj
    rcases hp : ps[j]? with _ | p
    · rw [hp] at hj; cases hj
    · rw [hp] at hj
      have hi : p.1 = i := by simpa using hj
      subst hi
      obtain ⟨e1, e2, e3⟩ := h6 j p hp
      have c : ∀ (l : Nat) v, cur[l]? = some v → w.cell? ⟨g, 0 + l, none⟩ = some v := fun l v hv => by rw [Nat.zero_add]; exact cell_blk h3 hv
      exact ⟨c _ _ e1, c _ _ e2, p.2.1, p.1.ns.length, p.2.2, c _ _ e3, hn _ (List.mem_map.2 ⟨p, List.mem_of_getElem? hp, rfl⟩), (h7.1 j p hp).1.prs⟩

end Go.Proofs.YtmbfahpljgdeaaaDoor

namespace Go.Proofs.YtmbfahpljgdeaaaDoor
open Go.RowKit

/-- Block g is a row of classes of which the first n are zs; none of it frozen. -/
def RowPrC (w : World) (g n : Nat) (zs : List (ByteArray × ByteArray)) : Prop :=
  ∃ cur : Array Value, w.heap[g]? = some (.cells cur 91 (0, 0)) ∧ n * 2 ≤ cur.size ∧ zs.length = n ∧ ∀ (j : Nat) z, zs[j]? = some z → cur[j * 2]? = some (.string z.1) ∧ cur[j * 2 + 1]? = some (.string z.2)
theorem RowPrC.prs {w : World} {g n : Nat} {zs : List (ByteArray × ByteArray)} (h : RowPrC w g n zs) : Prs w (some ⟨g, 0, none⟩) n zs := by
  obtain ⟨cur, h1, h2, h3, h4⟩ := h
  refine ⟨h3, fun _ => ⟨g, 0, rfl, (Array.getElem?_eq_some_iff.1 h1).1, fun j z hj => ?_⟩⟩
  obtain ⟨e1, e2⟩ := h4 j z hj
  constructor
  · unfold World.cell?
    rw [show w.heap[(⟨g, 0 + j * 2, none⟩ : Addr).block]? = _ from h1]
    simpa using e1
  · unfold World.cell?
    rw [show w.heap[(⟨g, 0 + j * 2 + 1, none⟩ : Addr).block]? = _ from h1]
    simpa using e2

end Go.Proofs.YtmbfahpljgdeaaaDoor

namespace Go.Proofs.YtmbfahpljgdeaaaDoor
open Go.RowKit
set_option linter.unusedVariables false

/-- An instance of marks. -/
def mkI (k n : Nat) : Ins := ⟨strOf (mark k), strOf (mark (k + 1)), marksN (k + 2) n⟩
theorem marksN_len (k n : Nat) : (marksN k n).length = n := by simp [marksN]
/-- How many marks the needs take. -/
def cntN : List Nat → Nat
  | [] => 0
  | n :: ns => 2 + 2 * n + cntN ns
def mkIs : Nat → List Nat → List Ins
  | _, [] => []
  | k, n :: ns => mkI k n :: mkIs (k + (2 + 2 * n)) ns
def mkPs : Nat → List InP → List InP
  | _, [] => []
  | k, p :: ps => (mkI k p.1.ns.length, p.2) :: mkPs (k + (2 + 2 * p.1.ns.length)) ps
def nsOf (is : List Ins) : List Nat := is.map fun i => i.ns.length
theorem cntN_append (a b : List Nat) : cntN (a ++ b) = cntN a + cntN b := by
  induction a with
  | nil => simp [cntN]
  | cons n a ih => show 2 + 2 * n + cntN (a ++ b) = 2 + 2 * n + cntN a + cntN b; omega
theorem cntN_ge (l : List Nat) : 2 * l.length ≤ cntN l := by
  induction l with
  | nil => exact Nat.zero_le _
  | cons n l ih => show 2 * (l.length + 1) ≤ 2 + 2 * n + cntN l; omega
theorem cntN_take_le (l : List Nat) (j : Nat) : cntN (l.take j) ≤ cntN l := by
  have h := congrArg cntN (List.take_append_drop j l)
  rw [cntN_append] at h
  omega
theorem mkPs_len (k : Nat) (ps : List InP) : (mkPs k ps).length = ps.length := by
  induction ps generalizing k with
  | nil => rfl
  | cons p ps ih => simp only [mkPs, List.length_cons, ih]
theorem mkPs_snoc (k : Nat) (ps : List InP) (p : InP) : mkPs k (ps ++ [p]) = mkPs k ps ++ [(mkI (k + cntN (nsOf (ps.map Prod.fst))) p.1.ns.length, p.2)] := by
  induction ps generalizing k with
  | nil => rfl
  | cons q ps ih =>
    show (mkI k q.1.ns.length, q.2) :: mkPs _ (ps ++ [p]) = _
    rw [ih]
    show _ = (mkI k q.1.ns.length, q.2) :: (mkPs _ ps ++ _)
    congr 3
    show (mkI _ _, p.2) = (mkI (k + (2 + 2 * q.1.ns.length + cntN (nsOf (ps.map Prod.fst)))) _, p.2)
    rw [Nat.add_assoc k]
theorem mkPs_fst (k : Nat) (ps : List InP) : (mkPs k ps).map Prod.fst = mkIs k (nsOf (ps.map Prod.fst)) := by
  induction ps generalizing k with
  | nil => rfl
  | cons p ps ih =>
    show mkI k p.1.ns.length :: (mkPs _ ps).map Prod.fst = mkI k p.1.ns.length :: mkIs _ _
    rw [ih]
    rfl
theorem mkIs_len (k : Nat) (ns : List Nat) : (mkIs k ns).length = ns.length := by
  induction ns generalizing k with
  | nil => rfl
  | cons n ns ih => simp only [mkIs, List.length_cons, ih]
theorem mkIs_at : ∀ (k : Nat) (ns : List Nat) (j n : Nat), ns[j]? = some n → (mkIs k ns)[j]? = some (mkI (k + cntN (ns.take j)) n)
  | k, m :: ns, 0, n, h => by
    simp only [List.getElem?_cons_zero, Option.some.injEq] at h
    subst h
    rfl
  | k, m :: ns, j + 1, n, h => by
    have h' : ns[j]? = some n := by simpa using h
    have ih := mkIs_at (k + (2 + 2 * m)) ns j n h'
    show (mkIs _ ns)[j]? = _
    rw [ih]
    show some (mkI (k + (2 + 2 * m) + _) n) = some (mkI (k + (2 + 2 * m + cntN (ns.take j))) n)
    rw [Nat.add_assoc k]
theorem cntN_snoc {ns : List Nat} {j n : Nat} (h : ns[j]? = some n) : cntN (ns.take (j + 1)) = cntN (ns.take j) + (2 + 2 * n) := by
  rw [List.take_add_one, h, cntN_append]
  rfl

theorem RowI.cell {w : World} {g m : Nat} {A B : List InP} {p : InP} (h : RowI w g m (A ++ p :: B)) : w.cell? ⟨g, A.length * 3, none⟩ = some (.string p.1.c) ∧ w.cell? ⟨g, A.length * 3 + 1, none⟩ = some (.string p.1.t) ∧ w.cell? ⟨g, A.length * 3 + 2, none⟩ = some (.slice p.2.1 p.1.ns.length p.2.2) ∧ ∀ j, w.frozen? ⟨g, j, none⟩ = false := by
  obtain ⟨cur, h1, h2, h3, h4⟩ := h
  obtain ⟨e1, e2, e3⟩ := h4 A.length p (by simp)
  exact ⟨cell_blk h1 e1, cell_blk h1 e2, cell_blk h1 e3, frz_blk h1⟩
theorem InR.mark {w w' : World} {lo g rb : Nat} {A B : List InP} {p : InP} {i : Ins} (h : InR w lo g (A ++ p :: B)) (hb : But w.heap.size rb w w') (hdis : ∀ (l : Nat) q a, l ≠ A.length → (A ++ p :: B)[l]? = some q → q.2.1 = some a → a.block ≠ rb) (hp : OwnN w' lo p.2.1 i.ns.length i.ns) : InR w' lo g (A ++ (i, p.2) :: B) := by
  have key : ∀ (j : Nat) q, (A ++ (i, p.2) :: B)[j]? = some q → (j = A.length ∧ q = (i, p.2)) ∨ (j ≠ A.length ∧ (A ++ p :: B)[j]? = some q) := by
    intro j q hj
    rcases at_mid hj with ⟨hl, hq⟩ | ⟨rfl, rfl⟩ | ⟨hl, hq⟩
    · exact .inr ⟨by omega, hq p⟩
    · exact .inl ⟨rfl, rfl⟩
    · exact .inr ⟨by omega, hq p⟩
  have hmid : (A ++ p :: B)[A.length]? = some p := by simp
  refine ⟨fun j q hj => ?_, fun j k q r a b hjk hj hk ha hb' => ?_⟩
  · rcases key j q hj with ⟨rfl, rfl⟩ | ⟨hne, hq⟩
    · exact ⟨hp, (h.1 _ _ hmid).2⟩
    · obtain ⟨h1, h2⟩ := h.1 j q hq
      exact ⟨h1.keep hb.size fun a ha hlo hlt => hb.block _ hlt (hdis j q a hne hq ha), h2⟩
  · rcases key j q hj with ⟨rfl, rfl⟩ | ⟨hne, hq⟩ <;> rcases key k r hk with ⟨rfl, rfl⟩ | ⟨hne2, hr⟩
    · exact absurd rfl hjk
    · exact h.2 A.length k p r a b hjk hmid hr ha hb'
    · exact h.2 j A.length q p a b hjk hq hmid ha hb'
    · exact h.2 j k q r a b hjk hq hr ha hb'
theorem InR.names {w : World} {lo g : Nat} {A B : List InP} {p : InP} {x y : ByteArray} (h : InR w lo g (A ++ (⟨x, y, p.1.ns⟩, p.2) :: B)) (i : Ins) (hi : i.ns = p.1.ns := by rfl) : InR w lo g (A ++ (i, p.2) :: B) := by
  refine InR.mark (rb := w.heap.size) (p := (⟨x, y, p.1.ns⟩, p.2)) h (But.refl _ _ _) (fun l q a _ hq ha => by have := h.lt l q a hq ha; omega) ?_
  have h1 := (h.1 A.length (⟨x, y, p.1.ns⟩, p.2) (by simp)).1
  rw [hi]
  exact h1
theorem markNeeds_own (A : Option Addr) (k n c lo rb : Nat) (zs : List (ByteArray × ByteArray)) (w : World) (ha : OwnN w lo A n zs) (hrb : ∀ a, A = some a → a.block = rb) (hk : 0 < k) (hn : k + 2 * n ≤ 4194304) :
    Calls Tryd.prog 34 #[.slice A n c, .int .i64 k] w fun e w' => e = .returned (.int .i64 (k + 2 * n : Nat)) ∧ OwnN w' lo A n (marksN k n) ∧ But w.heap.size rb w w' := by
  rcases ha with ⟨rfl, rfl, rfl⟩ | ⟨g, rfl, h1, h2, h3⟩
  · refine (markNeedS_nil k c w).mono ?_
    rintro e w1 ⟨rfl, rfl⟩
    exact ⟨rfl, .inl ⟨rfl, rfl, rfl⟩, But.refl _ _ _⟩
  · obtain rfl : g = rb := hrb _ rfl
    refine (markNeedS_any g k n c zs w h3 hk hn).mono ?_
    rintro e w1 ⟨rfl, h4, b1⟩
    exact ⟨rfl, .inr ⟨g, rfl, h1, Nat.lt_of_lt_of_le h2 b1.size, h4⟩, b1⟩

/-- A round of the loop that lays marks. -/
def MkR (w : World) (g k m lo hi : Nat) (ps : List InP) (q i : Value) (wr : World) : Prop :=
  ∃ j : Nat, j ≤ m ∧ i = .int .i64 j ∧ q = .int .i64 (k + cntN ((nsOf (ps.map Prod.fst)).take j) : Nat) ∧ RowI wr g m (mkPs k (ps.take j) ++ ps.drop j) ∧ InR wr lo g (mkPs k (ps.take j) ++ ps.drop j) ∧ Below lo w wr ∧ w.heap.size ≤ wr.heap.size ∧ ∀ l, hi ≤ l → l < w.heap.size → wr.heap[l]? = w.heap[l]?

end Go.Proofs.YtmbfahpljgdeaaaDoor

namespace Go.Proofs.YtmbfahpljgdeaaaDoor
open Go.RowKit
set_option linter.unusedVariables false

/-- A slice of classes that was handed back. -/
def OwnC (w : World) (lo : Nat) (A : Option Addr) (n : Nat) (zs : List (ByteArray × ByteArray)) : Prop :=
  (A = none ∧ n = 0 ∧ zs = []) ∨ ∃ g, A = some ⟨g, 0, none⟩ ∧ lo ≤ g ∧ g < w.heap.size ∧ RowPrC w g n zs
theorem RowPrC.keep {w w' : World} {g n : Nat} {zs : List (ByteArray × ByteArray)} (h : RowPrC w g n zs) (e : w'.heap[g]? = w.heap[g]?) : RowPrC w' g n zs := by
  obtain ⟨cur, h1, h2⟩ := h
  exact ⟨cur, e.trans h1, h2⟩
theorem OwnC.prs {w : World} {lo n : Nat} {A : Option Addr} {zs : List (ByteArray × ByteArray)} (h : OwnC w lo A n zs) : Prs w A n zs := by
  rcases h with ⟨rfl, rfl, rfl⟩ | ⟨g, rfl, _, _, h⟩
  · exact ⟨rfl, fun h => absurd h (Nat.lt_irrefl 0)⟩
  · exact h.prs
theorem OwnC.below {w w' : World} {lo n : Nat} {A : Option Addr} {zs : List (ByteArray × ByteArray)} (h : OwnC w lo A n zs) (hb : Below w.heap.size w w') : OwnC w' lo A n zs := by
  rcases h with h | ⟨g, rfl, h1, h2, h3⟩
  · exact .inl h
  · exact .inr ⟨g, rfl, h1, Nat.lt_of_lt_of_le h2 hb.size, h3.keep (hb.block g h2)⟩
theorem OwnC.of {w : World} {lo n c : Nat} {A : Option Addr} {zs : List (ByteArray × ByteArray)} (h : w.ownsRow lo 91 2 (.slice A n c) n (cells2 zs)) : OwnC w lo A n zs := by
  have hl : zs.length = n := by
    have h1 := h.1
    rw [cells2_len] at h1
    omega
  rcases h.2 with ⟨hA, rfl⟩ | ⟨g, cap, cur, hA, hb, hg, hc, hm, hs, ht⟩
  · injection hA with h1 h2 h3
    exact .inl ⟨h1, rfl, List.eq_nil_of_length_eq_zero hl⟩
  · injection hA with h1 h2 h3
    subst h1
    refine .inr ⟨g, rfl, hb, (Array.getElem?_eq_some_iff.1 hg).1, cur, hg, by rw [hs]; exact Nat.mul_le_mul_right 2 hc, hl, fun j z hj => ?_⟩
    obtain ⟨e1, e2⟩ := cells2_at zs j z hj
    have hjn : j < n := by rw [← hl]; exact (List.getElem?_eq_some_iff.1 hj).1
    rw [← ht] at e1 e2
    rw [List.getElem?_take, if_pos (by omega)] at e1 e2
    exact ⟨by simpa using e1, by simpa using e2⟩
/-- A slice of instances that was handed back, all of it below a block. -/
def OwnH (w : World) (lo hi : Nat) (B : Option Addr) (m : Nat) (is : List Ins) : Prop :=
  (B = none ∧ m = 0 ∧ is = []) ∨ ∃ g ps, B = some ⟨g, 0, none⟩ ∧ lo ≤ g ∧ ps.map Prod.fst = is ∧ RowI w g m ps ∧ InR w lo g ps ∧ g < hi ∧ ∀ (l : Nat) p a, ps[l]? = some p → p.2.1 = some a → a.block < hi
theorem OwnH.of {w : World} {lo m : Nat} {B : Option Addr} {is : List Ins} (h : OwnW w lo B m is) : OwnH w lo w.heap.size B m is := by
  rcases h with h | ⟨g, ps, rfl, h1, h2, h3, h4⟩
  · exact .inl h
  · exact .inr ⟨g, ps, rfl, h1, h2, h3, h4, h3.lt, fun l p a hl ha => h4.lt l p a hl ha⟩
theorem OwnH.own {w : World} {lo hi m : Nat} {B : Option Addr} {is : List Ins} (h : OwnH w lo hi B m is) : OwnW w lo B m is := by
  rcases h with h | ⟨g, ps, rfl, h1, h2, h3, h4, _⟩
  · exact .inl h
  · exact .inr ⟨g, ps, rfl, h1, h2, h3, h4⟩
theorem OwnH.keep {w w' : World} {lo hi m : Nat} {B : Option Addr} {is : List Ins} (h : OwnH w lo hi B m is) (hz : w.heap.size ≤ w'.heap.size) (hk : ∀ k, lo ≤ k → k < w.heap.size → w'.heap[k]? = w.heap[k]?) : OwnH w' lo hi B m is := by
  rcases h with h | ⟨g, ps, rfl, h1, h2, h3, h4, h5⟩
  · exact .inl h
  · exact .inr ⟨g, ps, rfl, h1, h2, h3.keep (hk g h1 h3.lt), h4.keep hz fun k h5 h6 _ => hk k h5 h6, h5⟩
theorem OwnH.below {w w' : World} {lo hi m : Nat} {B : Option Addr} {is : List Ins} (h : OwnH w lo hi B m is) (hb : Below w.heap.size w w') : OwnH w' lo hi B m is := h.keep hb.size fun k _ hk => hb.block k hk
theorem cntN_ins (is : List Ins) : cntN (nsOf is) ≤ 2 * (is.length + inssTot is) := by
  induction is with
  | nil => exact Nat.zero_le _
  | cons i is ih =>
    have e : inssTot (i :: is) = insTot i + inssTot is := by simp [inssTot]
    have e2 : i.ns.length ≤ insTot i := by unfold insTot; omega
    show 2 + 2 * i.ns.length + cntN (nsOf is) ≤ _
    rw [List.length_cons, e]
    omega

end Go.Proofs.YtmbfahpljgdeaaaDoor
