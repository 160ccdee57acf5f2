/- The exact laws' own helpers over an argument of []Class: szClassS, toClassS, eqClassS. -/
import Derived.Test.YtgbbobjkhpplkaaDoorArgsB
import Derived.Deep.OwnRows
import Derived.Deep.SlicePairs
import Derived.Deep.RegionWith
namespace Go.Proofs.YtgbbobjkhpplkaaDoor
open Go.RowKit

set_option maxHeartbeats 400000 in
set_option maxRecDepth 100000 in
theorem szClass_any (x y : ByteArray) (left : Nat) (w : World) (hx : x.size ≤ maxLen) (hy : y.size ≤ maxLen) (hl : left ≤ 1048576) :
    Calls Tryd.prog 27 #[.agg #[.string x, .string y], .int .i64 left] w fun e w' => ∃ r : Int, e = .returned (.int .i64 r) ∧ Below w.heap.size w w' ∧
      ((r = -1 ∧ left < x.size + y.size) ∨ (x.size + y.size ≤ left ∧ r = ((left - (x.size + y.size) : Nat) : Int))) := by
  unfold maxLen at hx hy
  by_cases h1 : left < x.size
  · go_enter Tryd.func27, Tryd.ntmps27
    go_wp2_with fail
    go_ret
    exact ⟨-1, rfl, (Below.refl _ _).alloc (Nat.le_refl _) _, .inl ⟨rfl, by omega⟩⟩
  · by_cases h2 : left < x.size + y.size
    · go_enter Tryd.func27, Tryd.ntmps27
      go_wp2_with fail
      go_ret
      exact ⟨-1, rfl, (Below.refl _ _).alloc (Nat.le_refl _) _, .inl ⟨rfl, by omega⟩⟩
    · go_enter Tryd.func27, Tryd.ntmps27
      go_wp2_with fail
      go_ret
      exact ⟨_, rfl, (Below.refl _ _).alloc (Nat.le_refl _) _, .inr ⟨by omega, by omega⟩⟩

set_option maxHeartbeats 1000000 in
set_option maxRecDepth 100000 in
theorem szClassS_any (A : Option Addr) (n c : Nat) (zs : List (ByteArray × ByteArray)) (left : Nat) (w : World) (ha : Prs w A n zs) (hz : ∀ z ∈ zs, z.1.size ≤ maxLen ∧ z.2.size ≤ maxLen) (hn : n ≤ maxLen) (hl : left ≤ 1048576) :
    Calls Tryd.prog 12 #[.slice A n c, .int .i64 left] w fun e w' => ∃ r : Int, e = .returned (.int .i64 r) ∧ Below w.heap.size w w' ∧ (r = -1 ∨ ∃ r' : Nat, r = (r' : Int) ∧ r' + n + tot zs = left) := by
  have HA := hid ha
  have HZ := hid hz
  clear ha hz
  unfold maxLen at hn
  by_cases h0 : left < n
  · go_enter Tryd.func12, Tryd.ntmps12
    go_wp2_with fail
    go_ret
    exact ⟨-1, rfl, Below.refl _ _, .inl rfl⟩
  · go_enter Tryd.func12, Tryd.ntmps12
    go_wp2_with fail
    go_loopw [1, 5] (fun l i wr => ∃ k l' : Nat, k ≤ n ∧ i = .int .i64 k ∧ l = .int .i64 l' ∧ l' + n + tot (zs.take k) = left ∧ Below w.heap.size w wr) (fun _ i _ => n - (intOf i).toNat)
    case atStart => exact ⟨0, left - n, Nat.zero_le _, rfl, by go_num, by simp [tot]; omega, Below.refl _ _⟩
    case round =>
      obtain ⟨k, l', hk, rfl, rfl, hl', hbel⟩ := hrel
      have HL := hid hl'
      have hll : l' ≤ left := by omega
      clear hl'
      by_cases hlt : k < n
      · obtain ⟨g, o, rfl, hg, hca⟩ := HA.out.2 (by omega)
        have hx : zs[k]? = some (zs[k]'(by have := HA.out.1; omega)) := List.getElem?_eq_getElem _
        obtain ⟨ca, cb⟩ := hca k _ hx
        have hsz := HZ.out _ (List.mem_of_getElem? hx)
        obtain ⟨⟨x, y⟩, ex⟩ : ∃ z, zs[k]'(by have := HA.out.1; omega) = z := ⟨_, rfl⟩
        rw [ex] at ca cb hsz hx
        have HX := hid hx
        have ca' := cell_below ca hg hbel
        have cb' := cell_below cb hg hbel
        clear hca hx ex ca cb
        have i1 : (0 : Int) ≤ (k : Int) := by omega
        have i2 : (k : Int) < (n : Int) := by omega
        go_wp2_with (go_at_call 27; refine (szClass_any x y l' _ hsz.1 hsz.2 (by omega)).mono ?_; rintro e w1 ⟨r, rfl, hb1, hr⟩; rcases hr with ⟨rfl, hr⟩ | ⟨hr, rfl⟩)
        · go_ret
          exact ⟨-1, rfl, hbel.trans (hb1.mono hbel.size), .inl rfl⟩
        · go_roundw
          case rel => exact ⟨k + 1, l' - (x.size + y.size), hlt, by go_num, rfl, by rw [tot_snoc HX.out]; have := HL.out; dsimp only; omega, hbel.trans (hb1.mono hbel.size)⟩
          case measure => simp [intOf]; omega
      · go_wp2_with fail
        go_ret
        refine ⟨l', rfl, hbel, .inr ⟨l', rfl, ?_⟩⟩
        have h1 := HL.out
        have h2 : zs.take k = zs := List.take_of_length_le (by have := HA.out.1; omega)
        rw [h2] at h1
        omega

set_option maxHeartbeats 400000 in
set_option maxRecDepth 100000 in
theorem toClass_any (x y : ByteArray) (w : World) :
    Calls Tryd.prog 32 #[.agg #[.string x, .string y]] w fun e w' => e = .returned (.agg #[.string x, .string y]) ∧ Below w.heap.size w w' := by
  go_enter Tryd.func32, Tryd.ntmps32
  go_wp2_with fail
  refine bodyPost_ret (v := .agg #[.string x, .string y]) (by simp [results, Tryd.results32, go_sem]) rfl ⟨rfl, ?_⟩
  exact (((Below.refl _ _).alloc (Nat.le_refl _) _).alloc (by simp only [World.size_alloc]; omega) _).alloc (by simp only [World.size_alloc]; omega) _

/-- A block of the pairs alone. -/
def OwnPrsClass (w : World) (g n : Nat) (zs : List (ByteArray × ByteArray)) : Prop :=
  ∃ cur : Array Value, w.heap[g]? = some (.cells cur 66 (0, 0)) ∧ cur.size = n * 2 ∧ zs.length = n ∧ ∀ (j : Nat) z, zs[j]? = some z → cur[j * 2]? = some (.string z.1) ∧ cur[j * 2 + 1]? = some (.string z.2)

theorem OwnPrsClass.prs {w : World} {g n : Nat} {zs : List (ByteArray × ByteArray)} (h : OwnPrsClass w g n zs) : Prs w (some ⟨g, 0, none⟩) n zs := by
  obtain ⟨cur, h1, h2, h3, h4⟩ := h
  refine ⟨h3, fun _ => ⟨g, 0, rfl, (Array.getElem?_eq_some_iff.1 h1).1, fun j z hj => ?_⟩⟩
  obtain ⟨e1, e2⟩ := h4 j z hj
  constructor
  · unfold World.cell?
    rw [show w.heap[(⟨g, 0 + j * 2, none⟩ : Addr).block]? = _ from h1]
    simpa using e1
  · unfold World.cell?
    rw [show w.heap[(⟨g, 0 + j * 2 + 1, none⟩ : Addr).block]? = _ from h1]
    simpa using e2

theorem classInfo : (Tryd.prog.info? 66).map (fun i => (i.zero, i.size, i.bytes)) = some (some (.agg #[.string ⟨#[]⟩, .string ⟨#[]⟩]), 2, 32) := by kernel_rfl

theorem run_makeClass (n : Nat) (hn : n ≤ 1048576) (w : World) :
    (Instr.makeSlice 30 (.int .i64 (n : Int)) (.int .i64 (n : Int))).run Tryd.prog w = .ok (.slice (some ⟨w.heap.size, 0, none⟩) n n) (w.alloc (.cells (madeCells #[.string ⟨#[]⟩, .string ⟨#[]⟩] (n * 2)) 66)) := by
  obtain ⟨i, hi, hz, hs, hb⟩ := info_parts classInfo
  have := run_make (P := Tryd.prog) w 30 66 i _ Tryd.underlying30 hi hz .i64 .i64 n n (by omega) (Int.le_refl _) (by rw [hb]; omega) (by omega)
  rw [this, hs]
  rfl

set_option maxHeartbeats 1000000 in
set_option maxRecDepth 100000 in
theorem toClassS_any (A : Option Addr) (n c : Nat) (zs : List (ByteArray × ByteArray)) (w : World) (ha : Prs w A n zs) (hn : n ≤ 1048576) :
    Calls Tryd.prog 17 #[.slice A n c] w fun e w' => e = .returned (.slice (some ⟨w.heap.size, 0, none⟩) n n) ∧ OwnPrsClass w' w.heap.size n zs ∧ Below w.heap.size w w' := by
  have HA := hid ha
  clear ha
  have hmk := run_makeClass n hn
  go_enter Tryd.func17, Tryd.ntmps17
  go_wp2_with fail
  clear hmk
  have HG0 := hid (heap_new1 w (.cells (madeCells #[.string ⟨#[]⟩, .string ⟨#[]⟩] (n * 2)) 66))
  go_loopw [4] (fun i wr => ∃ (j : Nat) (cur : Array Value), j ≤ n ∧ i = .int .i64 j ∧ wr.heap[w.heap.size]? = some (.cells cur 66 (0, 0)) ∧ cur.size = n * 2 ∧
      (∀ l, l < n * 2 → ∃ x, cur[l]? = some (.string x)) ∧ (∀ l z, l < j → zs[l]? = some z → cur[l * 2]? = some (.string z.1) ∧ cur[l * 2 + 1]? = some (.string z.2)) ∧ Below w.heap.size w wr) (fun i _ => n - (intOf i).toNat)
  case atStart =>
    exact ⟨0, _, Nat.zero_le _, rfl, HG0.out, by simp [madeCells], fun l hl => ⟨⟨#[]⟩, made2_get n l hl⟩, fun l x hl => absurd hl (Nat.not_lt_zero _), (Below.refl _ _).alloc (Nat.le_refl _) _⟩
  case round =>
    obtain ⟨j, cur, hj, rfl, hg, hc, hall, hdone, hbel⟩ := hrel
    have HALL := hid hall
    have HDONE := hid hdone
    have HG := hid hg
    clear hall hdone hg
    by_cases hlt : j < n
    · obtain ⟨g, o, rfl, hgl, hca⟩ := HA.out.2 (by omega)
      have hx : zs[j]? = some (zs[j]'(by have := HA.out.1; omega)) := List.getElem?_eq_getElem _
      obtain ⟨ca, cb⟩ := hca j _ hx
      obtain ⟨⟨x, y⟩, ex⟩ : ∃ z, zs[j]'(by have := HA.out.1; omega) = z := ⟨_, rfl⟩
      rw [ex] at ca cb hx
      have ca' := cell_below ca hgl hbel
      have cb' := cell_below cb hgl hbel
      have HX := hid hx
      clear hca hx ex ca cb
      have i1 : (0 : Int) ≤ (j : Int) := by omega
      have i2 : (j : Int) < (n : Int) := by omega
      have zr := hbel.size
      have zg : w.heap.size < wr.heap.size := (Array.getElem?_eq_some_iff.1 HG.out).1
      go_wp2_with fail
      refine (toClass_any x y _).mono ?_
      rintro e w1 ⟨rfl, hb1⟩
      have hg1 := (hb1.block w.heap.size zg).trans HG.out
      obtain ⟨x0, hx0⟩ := HALL.out (j * 2) (by omega)
      obtain ⟨y0, hy0⟩ := HALL.out (j * 2 + 1) (by omega)
      have q0 := cell_blk hg1 hx0
      have q1 := cell_blk hg1 hy0
      have f0 := frz_blk hg1
      have HG1 := hid hg1
      clear hx0 hy0 hg1
      go_wp2_with fail
      go_roundw
      case rel =>
        refine ⟨j + 1, (cur.setIfInBounds (j * 2) (.string x)).setIfInBounds (j * 2 + 1) (.string y), hlt, by go_num, ?_, by simpa using hc, ?_, ?_, ((hbel.trans (hb1.mono zr)).setCell (Nat.le_refl _) _).setCell (Nat.le_refl _) _⟩
        · have h := HG1.out
          simp [World.setCell, Array.getElem?_modify, h]
        · intro l hl
          obtain ⟨z, hz⟩ := HALL.out l hl
          rw [Array.getElem?_setIfInBounds]
          split
          · exact ⟨y, by simp; omega⟩
          · rw [Array.getElem?_setIfInBounds]
            split
            · exact ⟨x, by simp; omega⟩
            · exact ⟨z, hz⟩
        · intro l z hl hz
          by_cases e : l = j
          · subst e
            rw [HX.out] at hz
            simp only [Option.some.injEq] at hz
            subst hz
            constructor
            · rw [Array.getElem?_setIfInBounds, if_neg (by omega), Array.getElem?_setIfInBounds, if_pos rfl, if_pos (by omega)]
            · rw [Array.getElem?_setIfInBounds, if_pos rfl, if_pos (by simp; omega)]
          · obtain ⟨e1, e2⟩ := HDONE.out l z (by omega) hz
            constructor
            · rw [Array.getElem?_setIfInBounds, if_neg (by omega), Array.getElem?_setIfInBounds, if_neg (by omega)]
              exact e1
            · rw [Array.getElem?_setIfInBounds, if_neg (by omega), Array.getElem?_setIfInBounds, if_neg (by omega)]
              exact e2
      case measure => simp [intOf]; omega
    · go_wp2_with fail
      go_ret
      refine ⟨rfl, ⟨cur, HG.out, hc, HA.out.1, fun l x hl => ?_⟩, hbel⟩
      have hln : l < n := by
        have := (List.getElem?_eq_some_iff.1 hl).1
        have := HA.out.1
        omega
      exact HDONE.out l x (by omega) hl

set_option maxHeartbeats 400000 in
set_option maxRecDepth 100000 in
theorem eqClass_same (x y : ByteArray) (w : World) :
    Calls Tryd.prog 38 #[.agg #[.string x, .string y], .agg #[.string x, .string y]] w fun e w' => e = .returned (.bool true) ∧ Below w.heap.size w w' := by
  go_enter Tryd.func38, Tryd.ntmps38
  go_wp2_with fail
  go_ret
  exact ⟨rfl, ((Below.refl _ _).alloc (Nat.le_refl _) _).alloc (by simp only [World.size_alloc]; omega) _⟩

set_option maxHeartbeats 1000000 in
set_option maxRecDepth 100000 in
theorem eqClassS_same (A B : Option Addr) (n c d : Nat) (zs : List (ByteArray × ByteArray)) (w : World) (ha : Prs w A n zs) (hb : Prs w B n zs) (hn : n ≤ 1048576) :
    Calls Tryd.prog 24 #[.slice A n c, .slice B n d] w fun e w' => e = .returned (.bool true) ∧ Below w.heap.size w w' := by
  have HA := hid ha
  have HB := hid hb
  clear ha hb
  go_enter Tryd.func24, Tryd.ntmps24
  go_wp2_with fail
  go_loopw [5] (fun i wr => ∃ j : Nat, j ≤ n ∧ i = .int .i64 j ∧ Below w.heap.size w wr) (fun i _ => n - (intOf i).toNat)
  case atStart => exact ⟨0, Nat.zero_le _, rfl, Below.refl _ _⟩
  case round =>
    obtain ⟨j, hj, rfl, hbel⟩ := hrel
    by_cases hlt : j < n
    · obtain ⟨g, o, rfl, hgl, hca⟩ := HA.out.2 (by omega)
      obtain ⟨g', o', rfl, hgl', hca'⟩ := HB.out.2 (by omega)
      have hx : zs[j]? = some (zs[j]'(by have := HA.out.1; omega)) := List.getElem?_eq_getElem _
      obtain ⟨ca, cb⟩ := hca j _ hx
      obtain ⟨da, db⟩ := hca' j _ hx
      obtain ⟨⟨x, y⟩, ex⟩ : ∃ z, zs[j]'(by have := HA.out.1; omega) = z := ⟨_, rfl⟩
      rw [ex] at ca cb da db
      have ca1 := cell_below ca hgl hbel
      have cb1 := cell_below cb hgl hbel
      have da1 := cell_below da hgl' hbel
      have db1 := cell_below db hgl' hbel
      clear hca hca' hx ex ca cb da db
      have i1 : (0 : Int) ≤ (j : Int) := by omega
      have i2 : (j : Int) < (n : Int) := by omega
      go_wp2_with fail
      go_region_with (go_at_call 38; refine (eqClass_same x y _).mono ?_; rintro e w1 ⟨rfl, hb1⟩)
      all_goals
        go_wp2_with fail
        go_roundw
        case rel => exact ⟨j + 1, hlt, by go_num, hbel.drew.trans (hb1.mono hbel.size)⟩
        case measure => simp [intOf]; omega
    · go_wp2_with fail
      go_ret
      exact ⟨rfl, hbel⟩

end Go.Proofs.YtgbbobjkhpplkaaDoor
