/- Rows of gaps (a number, a text) as arguments of the exact laws: their helpers; opened. -/
import Derived.Test.YtlpfgiegapelmaaDoorArgsB
import Derived.Test.YtlpfgiegapelmaaDoorKeep
import Derived.Deep.OwnRows
import Derived.Deep.SlicePairs
import Derived.Deep.RegionWith
namespace Go.Proofs.YtlpfgiegapelmaaDoor
open Go.RowKit
set_option linter.unusedVariables false

/-- Pairs of a number and a text in memory. -/
def Gps (w : World) (A : Option Addr) (n : Nat) (zs : List (Int × ByteArray)) : Prop :=
  zs.length = n ∧ (0 < n → ∃ g o, A = some ⟨g, o, none⟩ ∧ g < w.heap.size ∧ ∀ (j : Nat) z, zs[j]? = some z → w.cell? ⟨g, o + j * 2, none⟩ = some (.int .i64 z.1) ∧ w.cell? ⟨g, o + j * 2 + 1, none⟩ = some (.string z.2))
theorem Gps.below {w w' : World} {A : Option Addr} {n : Nat} {zs : List (Int × ByteArray)} (h : Gps w A n zs) (hb : Below w.heap.size w w') : Gps w' A n zs := by
  refine ⟨h.1, fun hn => ?_⟩
  obtain ⟨g, o, rfl, hg, hc⟩ := h.2 hn
  exact ⟨g, o, rfl, Nat.lt_of_lt_of_le hg hb.size, fun j z hj => ⟨cell_below (hc j z hj).1 hg hb, cell_below (hc j z hj).2 hg hb⟩⟩
def totG (zs : List (Int × ByteArray)) : Nat := (zs.map fun z => z.2.size).sum
theorem totG_snoc {zs : List (Int × ByteArray)} {k : Nat} {z : Int × ByteArray} (h : zs[k]? = some z) : totG (zs.take (k + 1)) = totG (zs.take k) + z.2.size := by
  rw [List.take_add_one, h]
  simp [totG]

set_option maxHeartbeats 400000 in
set_option maxRecDepth 100000 in
theorem szGap_any (x : Int) (y : ByteArray) (left : Nat) (w : World) (hy : y.size ≤ maxLen) (hl : left ≤ 1048576) :
    Calls Tryd.prog 70 #[.agg #[.int .i64 x, .string y], .int .i64 left] w fun e w' => ∃ r : Int, e = .returned (.int .i64 r) ∧ Below w.heap.size w w' ∧
      ((r = -1 ∧ left < y.size) ∨ (y.size ≤ left ∧ r = ((left - y.size : Nat) : Int))) := by
  unfold maxLen at hy
  by_cases h2 : left < y.size
  · go_enter Tryd.func70, Tryd.ntmps70
    go_wp2_with fail
    go_ret
    exact ⟨-1, rfl, (Below.refl _ _).alloc (Nat.le_refl _) _, .inl ⟨rfl, by omega⟩⟩
  · go_enter Tryd.func70, Tryd.ntmps70
    go_wp2_with fail
    go_ret
    exact ⟨_, rfl, (Below.refl _ _).alloc (Nat.le_refl _) _, .inr ⟨by omega, by omega⟩⟩

set_option maxHeartbeats 1000000 in
set_option maxRecDepth 100000 in
theorem szGapS_any (A : Option Addr) (n c : Nat) (zs : List (Int × ByteArray)) (left : Nat) (w : World) (ha : Gps w A n zs) (hz : ∀ z ∈ zs, z.2.size ≤ maxLen) (hn : n ≤ maxLen) (hl : left ≤ 1048576) :
    Calls Tryd.prog 35 #[.slice A n c, .int .i64 left] w fun e w' => ∃ r : Int, e = .returned (.int .i64 r) ∧ Below w.heap.size w w' ∧ (r = -1 ∨ ∃ r' : Nat, r = (r' : Int) ∧ r' + n + totG zs = left) := by
  have HA := hid ha
  have HZ := hid hz
  clear ha hz
  unfold maxLen at hn
  by_cases h0 : left < n
  · go_enter Tryd.func35, Tryd.ntmps35
    go_wp2_with fail
    go_ret
    exact ⟨-1, rfl, Below.refl _ _, .inl rfl⟩
  · go_enter Tryd.func35, Tryd.ntmps35
    go_wp2_with fail
    go_loopw [1, 5] (fun l i wr => ∃ k l' : Nat, k ≤ n ∧ i = .int .i64 k ∧ l = .int .i64 l' ∧ l' + n + totG (zs.take k) = left ∧ Below w.heap.size w wr) (fun _ i _ => n - (intOf i).toNat)
    case atStart => exact ⟨0, left - n, Nat.zero_le _, rfl, by go_num, by simp [totG]; omega, Below.refl _ _⟩
    case round =>
      obtain ⟨k, l', hk, rfl, rfl, hl', hbel⟩ := hrel
      have HL := hid hl'
      have hll : l' ≤ left := by omega
      clear hl'
      by_cases hlt : k < n
      · obtain ⟨g, o, rfl, hg, hca⟩ := HA.out.2 (by omega)
        have hx : zs[k]? = some (zs[k]'(by have := HA.out.1; omega)) := List.getElem?_eq_getElem _
        obtain ⟨ca, cb⟩ := hca k _ hx
        have hsz := HZ.out _ (List.mem_of_getElem? hx)
        obtain ⟨⟨x, y⟩, ex⟩ : ∃ z, zs[k]'(by have := HA.out.1; omega) = z := ⟨_, rfl⟩
        rw [ex] at ca cb hsz hx
        have HX := hid hx
        have ca' := cell_below ca hg hbel
        have cb' := cell_below cb hg hbel
        clear hca hx ex ca cb
        have i1 : (0 : Int) ≤ (k : Int) := by omega
        have i2 : (k : Int) < (n : Int) := by omega
        go_wp2_with (go_at_call 70; refine (szGap_any x y l' _ hsz (by omega)).mono ?_; rintro e w1 ⟨r, rfl, hb1, hr⟩; rcases hr with ⟨rfl, hr⟩ | ⟨hr, rfl⟩)
        · go_ret
          exact ⟨-1, rfl, hbel.trans (hb1.mono hbel.size), .inl rfl⟩
        · go_roundw
          case rel => exact ⟨k + 1, l' - y.size, hlt, by go_num, rfl, by rw [totG_snoc HX.out]; have := HL.out; dsimp only; omega, hbel.trans (hb1.mono hbel.size)⟩
          case measure => simp [intOf]; omega
      · go_wp2_with fail
        go_ret
        refine ⟨l', rfl, hbel, .inr ⟨l', rfl, ?_⟩⟩
        have h1 := HL.out
        have h2 : zs.take k = zs := List.take_of_length_le (by have := HA.out.1; omega)
        rw [h2] at h1
        omega

set_option maxHeartbeats 400000 in
set_option maxRecDepth 100000 in
theorem toGap_any (x : Int) (y : ByteArray) (w : World) :
    Calls Tryd.prog 71 #[.agg #[.int .i64 x, .string y]] w fun e w' => e = .returned (.agg #[.int .i64 x, .string y]) ∧ Below w.heap.size w w' := by
  go_enter Tryd.func71, Tryd.ntmps71
  go_wp2_with fail
  refine bodyPost_ret (v := .agg #[.int .i64 x, .string y]) (by simp [results, Tryd.results71, go_sem]) rfl ⟨rfl, ?_⟩
  exact (((Below.refl _ _).alloc (Nat.le_refl _) _).alloc (by simp only [World.size_alloc]; omega) _).alloc (by simp only [World.size_alloc]; omega) _

theorem madeG_get (n l : Nat) (h : l < n) : (madeCells #[.int .i64 0, .string ⟨#[]⟩] (n * 2))[l * 2]? = some (Value.int .i64 0) ∧ (madeCells #[.int .i64 0, .string ⟨#[]⟩] (n * 2))[l * 2 + 1]? = some (Value.string ⟨#[]⟩) := by
  have h1 : l * 2 < n * 2 := by omega
  have h2 : l * 2 + 1 < n * 2 := by omega
  have e1 : l * 2 % 2 = 0 := by omega
  have e2 : (l * 2 + 1) % 2 = 1 := by omega
  constructor
  · simp [madeCells, h1, e1]
  · simp [madeCells, h2, e2]

/-- A block of the pairs alone. -/
def OwnGps (w : World) (g n : Nat) (zs : List (Int × ByteArray)) : Prop :=
  ∃ cur : Array Value, w.heap[g]? = some (.cells cur 82 (0, 0)) ∧ cur.size = n * 2 ∧ zs.length = n ∧ ∀ (j : Nat) z, zs[j]? = some z → cur[j * 2]? = some (.int .i64 z.1) ∧ cur[j * 2 + 1]? = some (.string z.2)

theorem OwnGps.gps {w : World} {g n : Nat} {zs : List (Int × ByteArray)} (h : OwnGps w g n zs) : Gps w (some ⟨g, 0, none⟩) n zs := by
  obtain ⟨cur, h1, h2, h3, h4⟩ := h
  refine ⟨h3, fun _ => ⟨g, 0, rfl, (Array.getElem?_eq_some_iff.1 h1).1, fun j z hj => ?_⟩⟩
  obtain ⟨e1, e2⟩ := h4 j z hj
  constructor
  · unfold World.cell?
    rw [show w.heap[(⟨g, 0 + j * 2, none⟩ : Addr).block]? = _ from h1]
    simpa using e1
  · unfold World.cell?
    rw [show w.heap[(⟨g, 0 + j * 2 + 1, none⟩ : Addr).block]? = _ from h1]
    simpa using e2

theorem gapInfo : (Tryd.prog.info? 82).map (fun i => (i.zero, i.size, i.bytes)) = some (some (.agg #[.int .i64 0, .string ⟨#[]⟩]), 2, 24) := by kernel_rfl

theorem run_makeGap (n : Nat) (hn : n ≤ 1048576) (w : World) :
    (Instr.makeSlice 44 (.int .i64 (n : Int)) (.int .i64 (n : Int))).run Tryd.prog w = .ok (.slice (some ⟨w.heap.size, 0, none⟩) n n) (w.alloc (.cells (madeCells #[.int .i64 0, .string ⟨#[]⟩] (n * 2)) 82)) := by
  obtain ⟨i, hi, hz, hs, hb⟩ := info_parts gapInfo
  have := run_make (P := Tryd.prog) w 44 82 i _ Tryd.underlying44 hi hz .i64 .i64 n n (by omega) (Int.le_refl _) (by rw [hb]; omega) (by omega)
  rw [this, hs]
  rfl

set_option maxHeartbeats 1000000 in
set_option maxRecDepth 100000 in
theorem toGapS_any (A : Option Addr) (n c : Nat) (zs : List (Int × ByteArray)) (w : World) (ha : Gps w A n zs) (hn : n ≤ 1048576) :
    Calls Tryd.prog 37 #[.slice A n c] w fun e w' => e = .returned (.slice (some ⟨w.heap.size, 0, none⟩) n n) ∧ OwnGps w' w.heap.size n zs ∧ Below w.heap.size w w' := by
  have HA := hid ha
  clear ha
  have hmk := run_makeGap n hn
  go_enter Tryd.func37, Tryd.ntmps37
  go_wp2_with fail
  clear hmk
  have HG0 := hid (heap_new1 w (.cells (madeCells #[.int .i64 0, .string ⟨#[]⟩] (n * 2)) 82))
  go_loopw [4] (fun i wr => ∃ (j : Nat) (cur : Array Value), j ≤ n ∧ i = .int .i64 j ∧ wr.heap[w.heap.size]? = some (.cells cur 82 (0, 0)) ∧ cur.size = n * 2 ∧
      (∀ l, l < n → ∃ (x : Int) (y : ByteArray), cur[l * 2]? = some (.int .i64 x) ∧ cur[l * 2 + 1]? = some (.string y)) ∧ (∀ l z, l < j → zs[l]? = some z → cur[l * 2]? = some (.int .i64 z.1) ∧ cur[l * 2 + 1]? = some (.string z.2)) ∧ Below w.heap.size w wr) (fun i _ => n - (intOf i).toNat)
  case atStart =>
    exact ⟨0, _, Nat.zero_le _, rfl, HG0.out, by simp [madeCells], fun l hl => ⟨0, ⟨#[]⟩, madeG_get n l hl⟩, fun l x hl => absurd hl (Nat.not_lt_zero _), (Below.refl _ _).alloc (Nat.le_refl _) _⟩
  case round =>
    obtain ⟨j, cur, hj, rfl, hg, hc, hall, hdone, hbel⟩ := hrel
    have HALL := hid hall
    have HDONE := hid hdone
    have HG := hid hg
    clear hall hdone hg
    by_cases hlt : j < n
    · obtain ⟨g, o, rfl, hgl, hca⟩ := HA.out.2 (by omega)
      have hx : zs[j]? = some (zs[j]'(by have := HA.out.1; omega)) := List.getElem?_eq_getElem _
      obtain ⟨ca, cb⟩ := hca j _ hx
      obtain ⟨⟨x, y⟩, ex⟩ : ∃ z, zs[j]'(by have := HA.out.1; omega) = z := ⟨_, rfl⟩
      rw [ex] at ca cb hx
      have ca' := cell_below ca hgl hbel
      have cb' := cell_below cb hgl hbel
      have HX := hid hx
      clear hca hx ex ca cb
      have i1 : (0 : Int) ≤ (j : Int) := by omega
      have i2 : (j : Int) < (n : Int) := by omega
      have zr := hbel.size
      have zg : w.heap.size < wr.heap.size := (Array.getElem?_eq_some_iff.1 HG.out).1
      go_wp2_with fail
      refine (toGap_any x y _).mono ?_
      rintro e w1 ⟨rfl, hb1⟩
      have hg1 := (hb1.block w.heap.size zg).trans HG.out
      obtain ⟨x0, y0, hx0, hy0⟩ := HALL.out j hlt
      have q0 := cell_blk hg1 hx0
      have q1 := cell_blk hg1 hy0
      have f0 := frz_blk hg1
      have HG1 := hid hg1
      clear hx0 hy0 hg1
      go_wp2_with fail
      go_roundw
      case rel =>
        refine ⟨j + 1, (cur.setIfInBounds (j * 2) (.int .i64 x)).setIfInBounds (j * 2 + 1) (.string y), hlt, by go_num, ?_, by simpa using hc, ?_, ?_, ((hbel.trans (hb1.mono zr)).setCell (Nat.le_refl _) _).setCell (Nat.le_refl _) _⟩
        · have h := HG1.out
          simp [World.setCell, Array.getElem?_modify, h]
        · intro l hl
          obtain ⟨x1, y1, hx1, hy1⟩ := HALL.out l hl
          by_cases e : l = j
          · subst e
            exact ⟨x, y, by rw [Array.getElem?_setIfInBounds, if_neg (by omega), Array.getElem?_setIfInBounds, if_pos rfl, if_pos (by omega)], by rw [Array.getElem?_setIfInBounds, if_pos rfl, if_pos (by simp; omega)]⟩
          · exact ⟨x1, y1, by rw [Array.getElem?_setIfInBounds, if_neg (by omega), Array.getElem?_setIfInBounds, if_neg (by omega)]; exact hx1, by rw [Array.getElem?_setIfInBounds, if_neg (by omega), Array.getElem?_setIfInBounds, if_neg (by omega)]; exact hy1⟩
        · intro l z hl hz
          by_cases e : l = j
          · subst e
            rw [HX.out] at hz
            simp only [Option.some.injEq] at hz
            subst hz
            constructor
            · rw [Array.getElem?_setIfInBounds, if_neg (by omega), Array.getElem?_setIfInBounds, if_pos rfl, if_pos (by omega)]
            · rw [Array.getElem?_setIfInBounds, if_pos rfl, if_pos (by simp; omega)]
          · obtain ⟨e1, e2⟩ := HDONE.out l z (by omega) hz
            constructor
            · rw [Array.getElem?_setIfInBounds, if_neg (by omega), Array.getElem?_setIfInBounds, if_neg (by omega)]
              exact e1
            · rw [Array.getElem?_setIfInBounds, if_neg (by omega), Array.getElem?_setIfInBounds, if_neg (by omega)]
              exact e2
      case measure => simp [intOf]; omega
    · go_wp2_with fail
      go_ret
      refine ⟨rfl, ⟨cur, HG.out, hc, HA.out.1, fun l x hl => ?_⟩, hbel⟩
      have hln : l < n := by
        have := (List.getElem?_eq_some_iff.1 hl).1
        have := HA.out.1
        omega
      exact HDONE.out l x (by omega) hl

set_option maxHeartbeats 400000 in
set_option maxRecDepth 100000 in
theorem eqGap_same (x : Int) (y : ByteArray) (w : World) :
    Calls Tryd.prog 74 #[.agg #[.int .i64 x, .string y], .agg #[.int .i64 x, .string y]] w fun e w' => e = .returned (.bool true) ∧ Below w.heap.size w w' := by
  go_enter Tryd.func74, Tryd.ntmps74
  go_wp2_with fail
  go_ret
  exact ⟨rfl, ((Below.refl _ _).alloc (Nat.le_refl _) _).alloc (by simp only [World.size_alloc]; omega) _⟩

set_option maxHeartbeats 1000000 in
set_option maxRecDepth 100000 in
theorem eqGapS_same (A B : Option Addr) (n c d : Nat) (zs : List (Int × ByteArray)) (w : World) (ha : Gps w A n zs) (hb : Gps w B n zs) (hn : n ≤ 1048576) :
    Calls Tryd.prog 39 #[.slice A n c, .slice B n d] w fun e w' => e = .returned (.bool true) ∧ Below w.heap.size w w' := by
  have HA := hid ha
  have HB := hid hb
  clear ha hb
  go_enter Tryd.func39, Tryd.ntmps39
  go_wp2_with fail
  go_loopw [5] (fun i wr => ∃ j : Nat, j ≤ n ∧ i = .int .i64 j ∧ Below w.heap.size w wr) (fun i _ => n - (intOf i).toNat)
  case atStart => exact ⟨0, Nat.zero_le _, rfl, Below.refl _ _⟩
  case round =>
    obtain ⟨j, hj, rfl, hbel⟩ := hrel
    by_cases hlt : j < n
    · obtain ⟨g, o, rfl, hgl, hca⟩ := HA.out.2 (by omega)
      obtain ⟨g', o', rfl, hgl', hca'⟩ := HB.out.2 (by omega)
      have hx : zs[j]? = some (zs[j]'(by have := HA.out.1; omega)) := List.getElem?_eq_getElem _
      obtain ⟨ca, cb⟩ := hca j _ hx
      obtain ⟨da, db⟩ := hca' j _ hx
      obtain ⟨⟨x, y⟩, ex⟩ : ∃ z, zs[j]'(by have := HA.out.1; omega) = z := ⟨_, rfl⟩
      rw [ex] at ca cb da db
      have ca1 := cell_below ca hgl hbel
      have cb1 := cell_below cb hgl hbel
      have da1 := cell_below da hgl' hbel
      have db1 := cell_below db hgl' hbel
      clear hca hca' hx ex ca cb da db
      have i1 : (0 : Int) ≤ (j : Int) := by omega
      have i2 : (j : Int) < (n : Int) := by omega
      go_wp2_with fail
      go_region_with (go_at_call 74; refine (eqGap_same x y _).mono ?_; rintro e w1 ⟨rfl, hb1⟩)
      all_goals
        go_wp2_with fail
        go_roundw
        case rel => exact ⟨j + 1, hlt, by go_num, hbel.drew.trans (hb1.mono hbel.size)⟩
        case measure => simp [intOf]; omega
    · go_wp2_with fail
      go_ret
      exact ⟨rfl, hbel⟩

def gvi (v : Value) : Int := match v with | .int _ i => i | _ => 0
theorem gps_of {w : World} {a : Addr} {len m : Nat} {V0 V1 : Nat → Value} (hl : len ≤ m) (h : ∀ i, i < m → w.cell? (a.add (i * 2)) = some (V0 i) ∧ w.cell? (a.add (i * 2 + 1)) = some (V1 i))
    (hs : ∀ i, i < m → (∃ s, V0 i = .int .i64 s ∧ -9223372036854775808 ≤ s ∧ s ≤ 9223372036854775807) ∧ ∃ s, V1 i = .string s ∧ s.size ≤ maxLen) :
    ∃ zs, Gps w (some a) len zs ∧ ∀ z ∈ zs, (-9223372036854775808 ≤ z.1 ∧ z.1 ≤ 9223372036854775807) ∧ z.2.size ≤ maxLen := by
  refine ⟨(List.range len).map fun i => (gvi (V0 i), sv (V1 i)), ⟨by simp, fun hn => ?_⟩, fun z hz => ?_⟩
  · have h0 := (h 0 (by omega)).1
    rw [(hs 0 (by omega)).1.choose_spec.1] at h0
    have e0 : a.add (0 * 2) = a := by simp [Addr.add]
    rw [e0] at h0
    obtain ⟨b, o, sp⟩ := a
    have hsp : sp = none := by
      unfold World.cell? at h0
      split at h0
      · cases sp with
        | none => rfl
        | some k => simp at h0
      · cases h0
    subst hsp
    have hb : b < w.heap.size := by
      unfold World.cell? at h0
      split at h0
      · rename_i c _ _ hh
        exact (Array.getElem?_eq_some_iff.1 hh).1
      · cases h0
    have ea : ∀ j, (⟨b, o, none⟩ : Addr).add j = ⟨b, o + j, none⟩ := fun j => by
      unfold Addr.add
      split
      · rename_i h
        subst h
        rfl
      · rfl
    refine ⟨b, o, rfl, hb, fun j z hj => ?_⟩
    have hjl : j < len := by
      have := (List.getElem?_eq_some_iff.1 hj).1
      simpa using this
    simp only [List.getElem?_map, List.getElem?_range hjl, Option.map_some, Option.some.injEq] at hj
    subst hj
    obtain ⟨h1, h2⟩ := h j (by omega)
    obtain ⟨⟨s1, e1, _⟩, s2, e2, _⟩ := hs j (by omega)
    rw [ea] at h1 h2
    rw [h1, show o + j * 2 + 1 = o + (j * 2 + 1) by omega, h2, e1, e2]
    exact ⟨rfl, rfl⟩
  · obtain ⟨i, hi, rfl⟩ := List.mem_map.1 hz
    have hi' := List.mem_range.1 hi
    obtain ⟨⟨s1, e1, h1⟩, s2, e2, h2⟩ := hs i (by omega)
    rw [e1, e2]
    exact ⟨h1, h2⟩

end Go.Proofs.YtlpfgiegapelmaaDoor
