/- The exact laws' own helpers over an argument of bindings: szBindingS, toBindingS, eqBindingS. Rows of pairs of strings that a call has built. -/
import Derived.Test.YtjpdiahbnhemoaaPartsI
import Derived.Deep.OwnRows
import Derived.Deep.SlicePairs
import Derived.Deep.RegionWith
import Derived.Deep.AppendLies
import Derived.OwnWalk
namespace Go.Proofs.Ytjpdiahbnhemoaa
open Go.RowKit

/-- A slice of n pairs of strings. -/
def Prs (w : World) (A : Option Addr) (n : Nat) (zs : List (ByteArray × ByteArray)) : Prop :=
  zs.length = n ∧ (0 < n → ∃ g o, A = some ⟨g, o, none⟩ ∧ g < w.heap.size ∧ ∀ (j : Nat) z, zs[j]? = some z → w.cell? ⟨g, o + j * 2, none⟩ = some (.string z.1) ∧ w.cell? ⟨g, o + j * 2 + 1, none⟩ = some (.string z.2))
theorem Prs.below {w w' : World} {A : Option Addr} {n : Nat} {zs : List (ByteArray × ByteArray)} (h : Prs w A n zs) (hb : Below w.heap.size w w') : Prs w' A n zs := by
  refine ⟨h.1, fun hn => ?_⟩
  obtain ⟨g, o, rfl, hg, hc⟩ := h.2 hn
  exact ⟨g, o, rfl, Nat.lt_of_lt_of_le hg hb.size, fun j z hj => ⟨cell_below (hc j z hj).1 hg hb, cell_below (hc j z hj).2 hg hb⟩⟩
theorem Prs.drewN {w : World} {A : Option Addr} {n : Nat} {zs : List (ByteArray × ByteArray)} (h : Prs w A n zs) (m : Nat) : Prs (w.drewN m) A n zs := h

/-- How many bytes all strings have. -/
def tot (zs : List (ByteArray × ByteArray)) : Nat := (zs.map fun z => z.1.size + z.2.size).sum
theorem tot_snoc {zs : List (ByteArray × ByteArray)} {k : Nat} {z : ByteArray × ByteArray} (h : zs[k]? = some z) : tot (zs.take (k + 1)) = tot (zs.take k) + (z.1.size + z.2.size) := by
  rw [List.take_add_one, h]
  simp [tot]
theorem tot_take_le (zs : List (ByteArray × ByteArray)) (k : Nat) : tot (zs.take k) ≤ tot zs := by
  have h : tot zs = tot (zs.take k) + tot (zs.drop k) := by
    have := congrArg (fun l => (List.map (fun z : ByteArray × ByteArray => z.1.size + z.2.size) l).sum) (List.take_append_drop k zs)
    simp only [List.map_append, List.sum_append] at this
    exact this.symm
  omega
theorem tot_mem {zs : List (ByteArray × ByteArray)} {z : ByteArray × ByteArray} (h : z ∈ zs) : z.1.size + z.2.size ≤ tot zs := by
  induction zs with
  | nil => cases h
  | cons y ys ih =>
    rcases List.mem_cons.1 h with rfl | h
    · simp [tot]
    · have := ih h
      simp [tot] at this ⊢
      omega

set_option maxHeartbeats 400000 in
set_option maxRecDepth 100000 in
theorem szBinding_any (x y : ByteArray) (left : Nat) (w : World) (hx : x.size ≤ maxLen) (hy : y.size ≤ maxLen) (hl : left ≤ 1048576) :
    Calls Try.prog 52 #[.agg #[.string x, .string y], .int .i64 left] w fun e w' => ∃ r : Int, e = .returned (.int .i64 r) ∧ Below w.heap.size w w' ∧
      ((r = -1 ∧ left < x.size + y.size) ∨ (x.size + y.size ≤ left ∧ r = ((left - (x.size + y.size) : Nat) : Int))) := by
  unfold maxLen at hx hy
  by_cases h1 : left < x.size
  · go_enter Try.func52, Try.ntmps52
    go_wp2_with fail
    go_ret
    exact ⟨-1, rfl, (Below.refl _ _).alloc (Nat.le_refl _) _, .inl ⟨rfl, by omega⟩⟩
  · by_cases h2 : left < x.size + y.size
    · go_enter Try.func52, Try.ntmps52
      go_wp2_with fail
      go_ret
      exact ⟨-1, rfl, (Below.refl _ _).alloc (Nat.le_refl _) _, .inl ⟨rfl, by omega⟩⟩
    · go_enter Try.func52, Try.ntmps52
      go_wp2_with fail
      go_ret
      exact ⟨_, rfl, (Below.refl _ _).alloc (Nat.le_refl _) _, .inr ⟨by omega, by omega⟩⟩

set_option maxHeartbeats 1000000 in
set_option maxRecDepth 100000 in
theorem szBindingS_any (A : Option Addr) (n c : Nat) (zs : List (ByteArray × ByteArray)) (left : Nat) (w : World) (ha : Prs w A n zs) (hz : ∀ z ∈ zs, z.1.size ≤ maxLen ∧ z.2.size ≤ maxLen) (hn : n ≤ maxLen) (hl : left ≤ 1048576) :
    Calls Try.prog 19 #[.slice A n c, .int .i64 left] w fun e w' => ∃ r : Int, e = .returned (.int .i64 r) ∧ Below w.heap.size w w' ∧ (r = -1 ∨ (0 ≤ r ∧ n + tot zs ≤ left)) := by
  have HA := hid ha
  have HZ := hid hz
  clear ha hz
  unfold maxLen at hn
  by_cases h0 : left < n
  · go_enter Try.func19, Try.ntmps19
    go_wp2_with fail
    go_ret
    exact ⟨-1, rfl, Below.refl _ _, .inl rfl⟩
  · go_enter Try.func19, Try.ntmps19
    go_wp2_with fail
    go_loopw [1, 5] (fun l i wr => ∃ k l' : Nat, k ≤ n ∧ i = .int .i64 k ∧ l = .int .i64 l' ∧ l' + n + tot (zs.take k) = left ∧ Below w.heap.size w wr) (fun _ i _ => n - (intOf i).toNat)
    case atStart => exact ⟨0, left - n, Nat.zero_le _, rfl, by go_num, by simp [tot]; omega, Below.refl _ _⟩
    case round =>
      obtain ⟨k, l', hk, rfl, rfl, hl', hbel⟩ := hrel
      have HL := hid hl'
      have hll : l' ≤ left := by omega
      clear hl'
      by_cases hlt : k < n
      · obtain ⟨g, o, rfl, hg, hca⟩ := HA.out.2 (by omega)
        have hx : zs[k]? = some (zs[k]'(by have := HA.out.1; omega)) := List.getElem?_eq_getElem _
        obtain ⟨ca, cb⟩ := hca k _ hx
        have hsz := HZ.out _ (List.mem_of_getElem? hx)
        obtain ⟨⟨x, y⟩, ex⟩ : ∃ z, zs[k]'(by have := HA.out.1; omega) = z := ⟨_, rfl⟩
        rw [ex] at ca cb hsz hx
        have HX := hid hx
        have ca' := cell_below ca hg hbel
        have cb' := cell_below cb hg hbel
        clear hca hx ex ca cb
        have i1 : (0 : Int) ≤ (k : Int) := by omega
        have i2 : (k : Int) < (n : Int) := by omega
        go_wp2_with (go_at_call 52; refine (szBinding_any x y l' _ hsz.1 hsz.2 (by omega)).mono ?_; rintro e w1 ⟨r, rfl, hb1, hr⟩; rcases hr with ⟨rfl, hr⟩ | ⟨hr, rfl⟩)
        · go_ret
          exact ⟨-1, rfl, hbel.trans (hb1.mono hbel.size), .inl rfl⟩
        · go_roundw
          case rel => exact ⟨k + 1, l' - (x.size + y.size), hlt, by go_num, rfl, by rw [tot_snoc HX.out]; have := HL.out; dsimp only; omega, hbel.trans (hb1.mono hbel.size)⟩
          case measure => simp [intOf]; omega
      · go_wp2_with fail
        go_ret
        refine ⟨l', rfl, hbel, .inr ⟨by omega, ?_⟩⟩
        have h1 := HL.out
        have h2 : zs.take k = zs := List.take_of_length_le (by have := HA.out.1; omega)
        rw [h2] at h1
        omega

set_option maxHeartbeats 400000 in
set_option maxRecDepth 100000 in
theorem toBinding_any (x y : ByteArray) (w : World) :
    Calls Try.prog 53 #[.agg #[.string x, .string y]] w fun e w' => e = .returned (.agg #[.string x, .string y]) ∧ Below w.heap.size w w' := by
  go_enter Try.func53, Try.ntmps53
  go_wp2_with fail
  refine bodyPost_ret (v := .agg #[.string x, .string y]) (by simp [results, Try.results53, go_sem]) rfl ⟨rfl, ?_⟩
  exact (((Below.refl _ _).alloc (Nat.le_refl _) _).alloc (by simp only [World.size_alloc]; omega) _).alloc (by simp only [World.size_alloc]; omega) _

/-- A block of the pairs alone. -/
def OwnPrs (w : World) (g n : Nat) (zs : List (ByteArray × ByteArray)) : Prop :=
  ∃ cur : Array Value, w.heap[g]? = some (.cells cur 80 (0, 0)) ∧ cur.size = n * 2 ∧ zs.length = n ∧ ∀ (j : Nat) z, zs[j]? = some z → cur[j * 2]? = some (.string z.1) ∧ cur[j * 2 + 1]? = some (.string z.2)
theorem OwnPrs.prs {w : World} {g n : Nat} {zs : List (ByteArray × ByteArray)} (h : OwnPrs w g n zs) : Prs w (some ⟨g, 0, none⟩) n zs := by
  obtain ⟨cur, h1, h2, h3, h4⟩ := h
  refine ⟨h3, fun _ => ⟨g, 0, rfl, (Array.getElem?_eq_some_iff.1 h1).1, fun j z hj => ?_⟩⟩
  obtain ⟨e1, e2⟩ := h4 j z hj
  constructor
  · unfold World.cell?
    rw [show w.heap[(⟨g, 0 + j * 2, none⟩ : Addr).block]? = _ from h1]
    simpa using e1
  · unfold World.cell?
    rw [show w.heap[(⟨g, 0 + j * 2 + 1, none⟩ : Addr).block]? = _ from h1]
    simpa using e2

theorem bindingInfo : (Try.prog.info? 80).map (fun i => (i.zero, i.size, i.bytes)) = some (some (.agg #[.string ⟨#[]⟩, .string ⟨#[]⟩]), 2, 32) := by kernel_rfl

theorem run_make2 (n : Nat) (hn : n ≤ 1048576) (w : World) :
    (Instr.makeSlice 22 (.int .i64 (n : Int)) (.int .i64 (n : Int))).run Try.prog w = .ok (.slice (some ⟨w.heap.size, 0, none⟩) n n) (w.alloc (.cells (madeCells #[.string ⟨#[]⟩, .string ⟨#[]⟩] (n * 2)) 80)) := by
  obtain ⟨i, hi, hz, hs, hb⟩ := info_parts bindingInfo
  have := run_make (P := Try.prog) w 22 80 i _ Try.underlying22 hi hz .i64 .i64 n n (by omega) (Int.le_refl _) (by rw [hb]; omega) (by omega)
  rw [this, hs]
  rfl

theorem made2_get (n l : Nat) (h : l < n * 2) : (madeCells #[.string ⟨#[]⟩, .string ⟨#[]⟩] (n * 2))[l]? = some (Value.string ⟨#[]⟩) := by
  have h2 : l % 2 = 0 ∨ l % 2 = 1 := by omega
  rcases h2 with h2 | h2 <;> simp [madeCells, h, h2]

theorem cell_blk {w : World} {g j : Nat} {cur : Array Value} {T : TypeId} {v : Value} (h : w.heap[g]? = some (.cells cur T (0, 0))) (hv : cur[j]? = some v) : w.cell? ⟨g, j, none⟩ = some v := by
  unfold World.cell?
  rw [show w.heap[(⟨g, j, none⟩ : Addr).block]? = _ from h]
  exact hv
theorem frz_blk {w : World} {g : Nat} {cur : Array Value} {T : TypeId} (h : w.heap[g]? = some (.cells cur T (0, 0))) (j : Nat) : w.frozen? ⟨g, j, none⟩ = false := by
  unfold World.frozen?
  rw [show w.heap[(⟨g, j, none⟩ : Addr).block]? = _ from h]
  simp

set_option maxHeartbeats 1000000 in
set_option maxRecDepth 100000 in
theorem toBindingS_any (A : Option Addr) (n c : Nat) (zs : List (ByteArray × ByteArray)) (w : World) (ha : Prs w A n zs) (hn : n ≤ 1048576) :
    Calls Try.prog 21 #[.slice A n c] w fun e w' => e = .returned (.slice (some ⟨w.heap.size, 0, none⟩) n n) ∧ OwnPrs w' w.heap.size n zs ∧ Below w.heap.size w w' := by
  have HA := hid ha
  clear ha
  have hmk := run_make2 n hn
  go_enter Try.func21, Try.ntmps21
  go_wp2_with fail
  clear hmk
  have HG0 := hid (heap_new1 w (.cells (madeCells #[.string ⟨#[]⟩, .string ⟨#[]⟩] (n * 2)) 80))
  go_loopw [4] (fun i wr => ∃ (j : Nat) (cur : Array Value), j ≤ n ∧ i = .int .i64 j ∧ wr.heap[w.heap.size]? = some (.cells cur 80 (0, 0)) ∧ cur.size = n * 2 ∧
      (∀ l, l < n * 2 → ∃ x, cur[l]? = some (.string x)) ∧ (∀ l z, l < j → zs[l]? = some z → cur[l * 2]? = some (.string z.1) ∧ cur[l * 2 + 1]? = some (.string z.2)) ∧ Below w.heap.size w wr) (fun i _ => n - (intOf i).toNat)
  case atStart =>
    exact ⟨0, _, Nat.zero_le _, rfl, HG0.out, by simp [madeCells], fun l hl => ⟨⟨#[]⟩, made2_get n l hl⟩, fun l x hl => absurd hl (Nat.not_lt_zero _), (Below.refl _ _).alloc (Nat.le_refl _) _⟩
  case round =>
    obtain ⟨j, cur, hj, rfl, hg, hc, hall, hdone, hbel⟩ := hrel
    have HALL := hid hall
    have HDONE := hid hdone
    have HG := hid hg
    clear hall hdone hg
    by_cases hlt : j < n
    · obtain ⟨g, o, rfl, hgl, hca⟩ := HA.out.2 (by omega)
      have hx : zs[j]? = some (zs[j]'(by have := HA.out.1; omega)) := List.getElem?_eq_getElem _
      obtain ⟨ca, cb⟩ := hca j _ hx
      obtain ⟨⟨x, y⟩, ex⟩ : ∃ z, zs[j]'(by have := HA.out.1; omega) = z := ⟨_, rfl⟩
      rw [ex] at ca cb hx
      have ca' := cell_below ca hgl hbel
      have cb' := cell_below cb hgl hbel
      have HX := hid hx
      clear hca hx ex ca cb
      have i1 : (0 : Int) ≤ (j : Int) := by omega
      have i2 : (j : Int) < (n : Int) := by omega
      have zr := hbel.size
      have zg : w.heap.size < wr.heap.size := (Array.getElem?_eq_some_iff.1 HG.out).1
      go_wp2_with fail
      refine (toBinding_any x y _).mono ?_
      rintro e w1 ⟨rfl, hb1⟩
      have hg1 := (hb1.block w.heap.size zg).trans HG.out
      obtain ⟨x0, hx0⟩ := HALL.out (j * 2) (by omega)
      obtain ⟨y0, hy0⟩ := HALL.out (j * 2 + 1) (by omega)
      have q0 := cell_blk hg1 hx0
      have q1 := cell_blk hg1 hy0
      have f0 := frz_blk hg1
      have HG1 := hid hg1
      clear hx0 hy0 hg1
      go_wp2_with fail
      go_roundw
      case rel =>
        refine ⟨j + 1, (cur.setIfInBounds (j * 2) (.string x)).setIfInBounds (j * 2 + 1) (.string y), hlt, by go_num, ?_, by simpa using hc, ?_, ?_, ((hbel.trans (hb1.mono zr)).setCell (Nat.le_refl _) _).setCell (Nat.le_refl _) _⟩
        · have h := HG1.out
          simp [World.setCell, Array.getElem?_modify, h]
        · intro l hl
          obtain ⟨z, hz⟩ := HALL.out l hl
          rw [Array.getElem?_setIfInBounds]
          split
          · exact ⟨y, by simp; omega⟩
          · rw [Array.getElem?_setIfInBounds]
            split
            · exact ⟨x, by simp; omega⟩
            · exact ⟨z, hz⟩
        · intro l z hl hz
          by_cases e : l = j
          · subst e
            rw [HX.out] at hz
            simp only [Option.some.injEq] at hz
            subst hz
            constructor
            · rw [Array.getElem?_setIfInBounds, if_neg (by omega), Array.getElem?_setIfInBounds, if_pos rfl, if_pos (by omega)]
            · rw [Array.getElem?_setIfInBounds, if_pos rfl, if_pos (by simp; omega)]
          · obtain ⟨e1, e2⟩ := HDONE.out l z (by omega) hz
            constructor
            · rw [Array.getElem?_setIfInBounds, if_neg (by omega), Array.getElem?_setIfInBounds, if_neg (by omega)]
              exact e1
            · rw [Array.getElem?_setIfInBounds, if_neg (by omega), Array.getElem?_setIfInBounds, if_neg (by omega)]
              exact e2
      case measure => simp [intOf]; omega
    · go_wp2_with fail
      go_ret
      refine ⟨rfl, ⟨cur, HG.out, hc, HA.out.1, fun l x hl => ?_⟩, hbel⟩
      have hln : l < n := by
        have := (List.getElem?_eq_some_iff.1 hl).1
        have := HA.out.1
        omega
      exact HDONE.out l x (by omega) hl

set_option maxHeartbeats 400000 in
set_option maxRecDepth 100000 in
theorem eqBinding_same (x y : ByteArray) (w : World) :
    Calls Try.prog 45 #[.agg #[.string x, .string y], .agg #[.string x, .string y]] w fun e w' => e = .returned (.bool true) ∧ Below w.heap.size w w' := by
  go_enter Try.func45, Try.ntmps45
  go_wp2_with fail
  go_ret
  exact ⟨rfl, ((Below.refl _ _).alloc (Nat.le_refl _) _).alloc (by simp only [World.size_alloc]; omega) _⟩

set_option maxHeartbeats 1000000 in
set_option maxRecDepth 100000 in
theorem eqBindingS_same (A B : Option Addr) (n c d : Nat) (zs : List (ByteArray × ByteArray)) (w : World) (ha : Prs w A n zs) (hb : Prs w B n zs) (hn : n ≤ 1048576) :
    Calls Try.prog 12 #[.slice A n c, .slice B n d] w fun e w' => e = .returned (.bool true) ∧ Below w.heap.size w w' := by
  have HA := hid ha
  have HB := hid hb
  clear ha hb
  go_enter Try.func12, Try.ntmps12
  go_wp2_with fail
  go_loopw [5] (fun i wr => ∃ j : Nat, j ≤ n ∧ i = .int .i64 j ∧ Below w.heap.size w wr) (fun i _ => n - (intOf i).toNat)
  case atStart => exact ⟨0, Nat.zero_le _, rfl, Below.refl _ _⟩
  case round =>
    obtain ⟨j, hj, rfl, hbel⟩ := hrel
    by_cases hlt : j < n
    · obtain ⟨g, o, rfl, hgl, hca⟩ := HA.out.2 (by omega)
      obtain ⟨g', o', rfl, hgl', hca'⟩ := HB.out.2 (by omega)
      have hx : zs[j]? = some (zs[j]'(by have := HA.out.1; omega)) := List.getElem?_eq_getElem _
      obtain ⟨ca, cb⟩ := hca j _ hx
      obtain ⟨da, db⟩ := hca' j _ hx
      obtain ⟨⟨x, y⟩, ex⟩ : ∃ z, zs[j]'(by have := HA.out.1; omega) = z := ⟨_, rfl⟩
      rw [ex] at ca cb da db
      have ca1 := cell_below ca hgl hbel
      have cb1 := cell_below cb hgl hbel
      have da1 := cell_below da hgl' hbel
      have db1 := cell_below db hgl' hbel
      clear hca hca' hx ex ca cb da db
      have i1 : (0 : Int) ≤ (j : Int) := by omega
      have i2 : (j : Int) < (n : Int) := by omega
      go_wp2_with fail
      go_region_with (go_at_call 45; refine (eqBinding_same x y _).mono ?_; rintro e w1 ⟨rfl, hb1⟩)
      all_goals
        go_wp2_with fail
        go_roundw
        case rel => exact ⟨j + 1, hlt, by go_num, hbel.drew.trans (hb1.mono hbel.size)⟩
        case measure => simp [intOf]; omega
    · go_wp2_with fail
      go_ret
      exact ⟨rfl, hbel⟩

/-- The string of a value that is one. -/
def sv (v : Value) : ByteArray := match v with | .string s => s | _ => ⟨#[]⟩

/-- An argument of pairs of strings, opened. -/
theorem prs_of {w : World} {a : Addr} {len m : Nat} {V0 V1 : Nat → Value} (hl : len ≤ m) (h : ∀ i, i < m → w.cell? (a.add (i * 2)) = some (V0 i) ∧ w.cell? (a.add (i * 2 + 1)) = some (V1 i))
    (hs : ∀ i, i < m → (∃ s, V0 i = .string s ∧ s.size ≤ maxLen) ∧ ∃ s, V1 i = .string s ∧ s.size ≤ maxLen) :
    ∃ zs, Prs w (some a) len zs ∧ ∀ z ∈ zs, z.1.size ≤ maxLen ∧ z.2.size ≤ maxLen := by
  refine ⟨(List.range len).map fun i => (sv (V0 i), sv (V1 i)), ⟨by simp, fun hn => ?_⟩, fun z hz => ?_⟩
  · have h0 := (h 0 (by omega)).1
    rw [(hs 0 (by omega)).1.choose_spec.1] at h0
    have e0 : a.add (0 * 2) = a := by simp [Addr.add]
    rw [e0] at h0
    obtain ⟨b, o, sp⟩ := a
    have hsp : sp = none := by
      unfold World.cell? at h0
      split at h0
      · cases sp with
        | none => rfl
        | some k => simp at h0
      · cases h0
    subst hsp
    have hb : b < w.heap.size := by
      unfold World.cell? at h0
      split at h0
      · rename_i c _ _ hh
        exact (Array.getElem?_eq_some_iff.1 hh).1
      · cases h0
    have ea : ∀ j, (⟨b, o, none⟩ : Addr).add j = ⟨b, o + j, none⟩ := fun j => by
      unfold Addr.add
      split
      · rename_i h
        subst h
        rfl
      · rfl
    refine ⟨b, o, rfl, hb, fun j z hj => ?_⟩
    have hjl : j < len := by
      have := (List.getElem?_eq_some_iff.1 hj).1
      simpa using this
    simp only [List.getElem?_map, List.getElem?_range hjl, Option.map_some, Option.some.injEq] at hj
    subst hj
    obtain ⟨h1, h2⟩ := h j (by omega)
    obtain ⟨⟨s1, e1, _⟩, s2, e2, _⟩ := hs j (by omega)
    rw [ea] at h1 h2
    rw [h1, show o + j * 2 + 1 = o + (j * 2 + 1) by omega, h2, e1, e2]
    exact ⟨rfl, rfl⟩
  · obtain ⟨i, hi, rfl⟩ := List.mem_map.1 hz
    have hi' := List.mem_range.1 hi
    obtain ⟨⟨s1, e1, h1⟩, s2, e2, h2⟩ := hs i (by omega)
    rw [e1, e2]
    exact ⟨h1, h2⟩

end Go.Proofs.Ytjpdiahbnhemoaa

namespace Go.Proofs.Ytjpdiahbnhemoaa
open Go.RowKit

/-- The cells of pairs of strings. -/
def cells2 (zs : List (ByteArray × ByteArray)) : List Value := zs.flatMap fun z => [.string z.1, .string z.2]
theorem cells2_len (zs : List (ByteArray × ByteArray)) : (cells2 zs).length = zs.length * 2 := by
  induction zs with
  | nil => rfl
  | cons z zs ih =>
    show ([Value.string z.1, .string z.2] ++ cells2 zs).length = _
    rw [List.length_append, ih]
    simp
    omega
theorem cells2_at : ∀ (zs : List (ByteArray × ByteArray)) (j : Nat) (z : ByteArray × ByteArray), zs[j]? = some z → (cells2 zs)[j * 2]? = some (.string z.1) ∧ (cells2 zs)[j * 2 + 1]? = some (.string z.2) := by
  intro zs
  induction zs with
  | nil => intro j z h; simp at h
  | cons y ys ih =>
    intro j z h
    show ([Value.string y.1, .string y.2] ++ cells2 ys)[j * 2]? = _ ∧ ([Value.string y.1, .string y.2] ++ cells2 ys)[j * 2 + 1]? = _
    cases j with
    | zero =>
      simp only [List.getElem?_cons_zero, Option.some.injEq] at h
      subst h
      exact ⟨rfl, rfl⟩
    | succ j =>
      simp only [List.getElem?_cons_succ] at h
      obtain ⟨h1, h2⟩ := ih j z h
      rw [show (j + 1) * 2 = j * 2 + 2 by omega, show j * 2 + 2 + 1 = j * 2 + 1 + 2 by omega]
      exact ⟨h1, h2⟩
theorem cells2_snoc (zs : List (ByteArray × ByteArray)) (x y : ByteArray) : cells2 (zs ++ [(x, y)]) = cells2 zs ++ [.string x, .string y] := by
  unfold cells2
  rw [List.flatMap_append]
  rfl

theorem own_pairs {w : World} {base n : Nat} {T : TypeId} {v : Value} {zs : List (ByteArray × ByteArray)} (h : w.ownsRow base T 2 v n (cells2 zs)) : ∃ B c, v = .slice B n c ∧ n ≤ c ∧ Prs w B n zs := by
  have hl : zs.length = n := by
    have h1 := h.1
    rw [cells2_len] at h1
    omega
  rcases h.2 with ⟨rfl, rfl⟩ | ⟨g, cap, cur, rfl, hb, hg, hc, hm, hs, ht⟩
  · exact ⟨none, 0, rfl, Nat.le_refl _, hl, fun h => absurd h (Nat.lt_irrefl 0)⟩
  · refine ⟨some ⟨g, 0, none⟩, cap, rfl, hc, hl, fun _ => ⟨g, 0, rfl, (Array.getElem?_eq_some_iff.1 hg).1, fun j z hj => ?_⟩⟩
    obtain ⟨e1, e2⟩ := cells2_at zs j z hj
    have hadd : ∀ k, (⟨g, 0, none⟩ : Addr).add k = ⟨g, 0 + k, none⟩ := fun k => by unfold Addr.add; split <;> simp_all
    have q1 := h.cells (g := g) rfl (j * 2) _ e1
    have q2 := h.cells (g := g) rfl (j * 2 + 1) _ e2
    rw [hadd] at q1 q2
    exact ⟨q1, q2⟩

end Go.Proofs.Ytjpdiahbnhemoaa
