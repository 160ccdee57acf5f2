/- Drawn lists of numbers and of texts; lists held against each other; texts of lists tell them apart. -/
import Derived.Test.YtlpfgiegapelmaaDoorDrawE
import Derived.Test.YtlpfgiegapelmaaDoorFnu
namespace Go.Proofs.YtlpfgiegapelmaaDoor
open Go.RowKit
set_option linter.unusedVariables false

def drN : List Int := [0, 1, -1, 12, 3, -9223372036854775808, 9]
def drT : List ByteArray := [⟨#[105]⟩, ⟨#[108, 40, 120, 41]⟩, ⟨#[49, 40, 48, 41]⟩, ⟨#[98]⟩]

theorem own_madeI {w : World} {base n : Nat} {v : Value} {xs : List Int} (h : w.ownsRow base 3 1 v n (xs.map (Value.int .i64))) : ∃ B c, v = .slice B n c ∧ n ≤ c ∧ Ints w B n xs := by
  have hl : xs.length = n := by simpa using h.1
  by_cases h0 : n = 0
  · subst h0
    obtain ⟨_, ⟨rfl, _⟩ | ⟨g, cap, cur, rfl, _⟩⟩ := h
    · exact ⟨none, 0, rfl, Nat.le_refl _, hl, fun h => absurd h (Nat.lt_irrefl 0)⟩
    · exact ⟨_, cap, rfl, Nat.zero_le _, hl, fun h => absurd h (Nat.lt_irrefl 0)⟩
  · obtain ⟨g, cap, rfl, _, hg, hc, hcell⟩ := own_row h (by omega)
    refine ⟨_, cap, rfl, hc, hl, fun _ => ⟨g, 0, rfl, hg, fun j x hj => ?_⟩⟩
    rw [Nat.zero_add]
    exact hcell j _ (by rw [List.getElem?_map, hj]; rfl)

set_option maxHeartbeats 1000000 in
set_option maxRecDepth 100000 in
theorem drawFormatTexts_any (A : Option Addr) (len cap : Nat) (w : World) (hl : len ≤ cap) (hm : cap ≤ maxLen) (hb : Bts w A len) :
    Calls Tryd.prog 30 #[.slice A len cap] w fun e w' => ∃ (B : Option Addr) (n c : Nat) (xs : List ByteArray), e = .returned (.slice B n c) ∧ n ≤ c ∧ n ≤ 4 ∧ Strs w' B n xs ∧ (∀ x ∈ xs, x ∈ drT) ∧ Below w.heap.size w w' := by
  obtain ⟨i0, hi0, hz0, hz1, hz2⟩ := info_parts stringInfo
  have HB := hid hb
  clear hb
  go_enter Tryd.func30, Tryd.ntmps30
  go_wp2_with fail
  refine (l13Open_any A len cap w hl hm HB.out).mono ?_
  rintro e u1 ⟨rb, rfl, hrb, hr1, hb1⟩
  have z1 := hb1.size
  have hrb1 := hr1.lt
  have HR1 := hid (hr1.keep ((Below.refl u1.heap.size u1).alloc (Nat.le_refl _) (.cells #[] 9)))
  have HB1 := hid hb1
  clear hr1 hb1
  go_wp2_with fail
  refine (pick_any rb 0 4 (u1.alloc (.cells #[] 9)) HR1.out (by omega) (by omega) (by omega)).mono ?_
  rintro e u2 ⟨m, rfl, hm0, hm1, hG⟩
  obtain ⟨M, rfl⟩ : ∃ M : Nat, m = (M : Int) := ⟨m.toNat, by omega⟩
  have hM : M ≤ 4 := by omega
  have z2 := hG.2.size
  simp only [World.size_alloc] at z2
  have hown0 : u2.ownsRow u1.heap.size 9 1 (.slice (some ⟨u1.heap.size, 0, none⟩) 0 0) 0 [] := by
    refine ⟨rfl, .inr ⟨u1.heap.size, 0, #[], rfl, Nat.le_refl _, ?_, Nat.le_refl _, Nat.zero_le _, rfl, rfl⟩⟩
    rw [hG.2.block u1.heap.size (by simp only [World.size_alloc]; omega) (by omega)]
    exact heap_new1 _ _
  have hbel0 : Below w.heap.size w u2 := HB1.out.trans (((Below.refl _ _).alloc (by omega) _).trans (hG.2.below' (by simp only [World.size_alloc]; omega) hrb))
  have HGR := hid hG.1
  have HOWN := hid hown0
  have HBL := hid hbel0
  clear hown0 hG hbel0
  go_wp2_with fail
  go_loopw [4, 10] (fun v i wr => ∃ (k : Nat) (xs : List ByteArray), k ≤ M ∧ i = .int .i64 k ∧ wr.ownsRow u1.heap.size 9 1 v k (xs.map Value.string) ∧ xs.length = k ∧ (∀ x ∈ xs, x ∈ drT) ∧ Rdr wr rb (0 + 1 + k) ∧ Below w.heap.size w wr ∧ u1.heap.size ≤ wr.heap.size) (fun _ i _ => M - (intOf i).toNat)
  case atStart => exact ⟨0, [], Nat.zero_le _, rfl, HOWN.out, rfl, (fun x hx => by cases hx), HGR.out, HBL.out, by omega⟩
  case round =>
    obtain ⟨k, xs, hk, rfl, hown, hxl, hxs, hrd, hbel, hz⟩ := hrel
    have HW := hid hown
    have HXL := hid hxl
    have HXS := hid hxs
    have HRD := hid hrd
    have HBEL := hid hbel
    have hrbw := hrd.lt
    clear hown hxl hxs hrd hbel
    by_cases hlt : k < M
    · go_wp2_with fail
      refine (of_new rb (0 + 1 + k) 4 _ _ drT wr HRD.out (by omega) rfl rfl (by omega) (by omega)).mono ?_
      rintro e w1 ⟨x, hx, rfl, hG⟩
      have hzw := hG.2.size
      have hown1 : w1.ownsRow u1.heap.size 9 1 _ k (xs.map Value.string) := HW.out.kept (row := some rb) ⟨hG.2.os, hG.2.tape, hG.2.output, hG.2.size, fun k hk hn => hG.2.block k hk (fun e => hn (by rw [e]))⟩ (.inr fun e => by have := (HW.out.lt rb e).1; omega)
      have HW1 := hid hown1
      have HX := hid hx
      have HG := hid hG
      clear hown1 hx hG
      go_wp2_with (at_builtin; refine wpList_append_own _ rfl _ _ 24 rfl u1.heap.size 9 i0 (.string ⟨#[]⟩) 1 16 Tryd.underlying24 hi0 hz0 hz1 hz2 rfl (by decide) _ k _ rfl (HW1.out.alloc _) ⟨w1.heap.size, 0, none⟩ 1 1 [.string x] rfl rfl ?c1 ?c2 ?c3 ?c4 ?c5 ?_)
      case c1 => exact news1 _ _ _
      case c2 =>
        intro u hu
        simp only [List.mem_singleton] at hu
        subst hu
        rfl
      case c3 => unfold maxLen; omega
      case c4 => omega
      case c5 => simp only [World.size_alloc]; omega
      intro v2 w2 hown2 hg2 hv2
      clear hv2
      have HO2 := hid hown2
      have HG2 := hid hg2
      have hzz := hg2.size
      simp only [World.size_alloc] at hzz
      clear hown2 hg2
      have hbw1 : Below w.heap.size w w1 := HBEL.out.trans (HG.out.2.below' (by have := HBEL.out.size; omega) hrb)
      go_wp2_with fail
      go_roundw
      case rel =>
        refine ⟨k + 1, xs ++ [x], hlt, by go_num, ?_, by rw [List.length_append, HXL.out]; rfl, ?_, ?_, ?_, by omega⟩
        · rw [List.map_append]
          exact HO2.out
        · intro y hy
          rcases List.mem_append.1 hy with hy | hy
          · exact HXS.out y hy
          · simp only [List.mem_singleton] at hy
            subst hy
            exact HX.out
        · refine HG.out.1.keep' (by omega) fun j hj => ?_
          rw [HG2.out.block j (by simp only [World.size_alloc]; omega) (fun e => by have := (HW1.out.lt j e.symm).1; omega)]
          exact Below.heap_alloc _ _ _ (by omega)
        · exact (hbw1.alloc (by have := hbw1.size; omega) _).grown HG2.out (by have := hbw1.size; simp only [World.size_alloc]; omega) (fun j hj => by have := (HW1.out.lt j hj).1; omega)
      case measure => simp [intOf]; omega
    · obtain rfl : k = M := by omega
      obtain ⟨B, c, hB, hc, hS⟩ := own_made HW.out
      subst hB
      have HS := hid hS
      clear hS
      go_wp2_with fail
      go_ret
      exact ⟨B, k, c, xs, rfl, hc, hM, HS.out, HXS.out, HBEL.out⟩

set_option maxHeartbeats 1000000 in
set_option maxRecDepth 100000 in
theorem drawFormatNumbers_any (A : Option Addr) (len cap : Nat) (w : World) (hl : len ≤ cap) (hm : cap ≤ maxLen) (hb : Bts w A len) :
    Calls Tryd.prog 29 #[.slice A len cap] w fun e w' => ∃ (B : Option Addr) (n c : Nat) (xs : List Int), e = .returned (.slice B n c) ∧ n ≤ c ∧ n ≤ 5 ∧ Ints w' B n xs ∧ (∀ x ∈ xs, x ∈ drN) ∧ Below w.heap.size w w' := by
  obtain ⟨i0, hi0, hz0, hz1, hz2⟩ := info_parts infoIntK
  have HB := hid hb
  clear hb
  go_enter Tryd.func29, Tryd.ntmps29
  go_wp2_with fail
  refine (l13Open_any A len cap w hl hm HB.out).mono ?_
  rintro e u1 ⟨rb, rfl, hrb, hr1, hb1⟩
  have z1 := hb1.size
  have hrb1 := hr1.lt
  have HR1 := hid (hr1.keep ((Below.refl u1.heap.size u1).alloc (Nat.le_refl _) (.cells #[] 3)))
  have HB1 := hid hb1
  clear hr1 hb1
  go_wp2_with fail
  refine (pick_any rb 0 5 (u1.alloc (.cells #[] 3)) HR1.out (by omega) (by omega) (by omega)).mono ?_
  rintro e u2 ⟨m, rfl, hm0, hm1, hG⟩
  obtain ⟨M, rfl⟩ : ∃ M : Nat, m = (M : Int) := ⟨m.toNat, by omega⟩
  have hM : M ≤ 5 := by omega
  have z2 := hG.2.size
  simp only [World.size_alloc] at z2
  have hown0 : u2.ownsRow u1.heap.size 3 1 (.slice (some ⟨u1.heap.size, 0, none⟩) 0 0) 0 [] := by
    refine ⟨rfl, .inr ⟨u1.heap.size, 0, #[], rfl, Nat.le_refl _, ?_, Nat.le_refl _, Nat.zero_le _, rfl, rfl⟩⟩
    rw [hG.2.block u1.heap.size (by simp only [World.size_alloc]; omega) (by omega)]
    exact heap_new1 _ _
  have hbel0 : Below w.heap.size w u2 := HB1.out.trans (((Below.refl _ _).alloc (by omega) _).trans (hG.2.below' (by simp only [World.size_alloc]; omega) hrb))
  have HGR := hid hG.1
  have HOWN := hid hown0
  have HBL := hid hbel0
  clear hown0 hG hbel0
  go_wp2_with fail
  go_loopw [4, 10] (fun v i wr => ∃ (k : Nat) (xs : List Int), k ≤ M ∧ i = .int .i64 k ∧ wr.ownsRow u1.heap.size 3 1 v k (xs.map (Value.int .i64)) ∧ xs.length = k ∧ (∀ x ∈ xs, x ∈ drN) ∧ Rdr wr rb (0 + 1 + k) ∧ Below w.heap.size w wr ∧ u1.heap.size ≤ wr.heap.size) (fun _ i _ => M - (intOf i).toNat)
  case atStart => exact ⟨0, [], Nat.zero_le _, rfl, HOWN.out, rfl, (fun x hx => by cases hx), HGR.out, HBL.out, by omega⟩
  case round =>
    obtain ⟨k, xs, hk, rfl, hown, hxl, hxs, hrd, hbel, hz⟩ := hrel
    have HW := hid hown
    have HXL := hid hxl
    have HXS := hid hxs
    have HRD := hid hrd
    have HBEL := hid hbel
    have hrbw := hrd.lt
    clear hown hxl hxs hrd hbel
    by_cases hlt : k < M
    · go_wp2_with fail
      refine (num_new rb (0 + 1 + k) 7 _ _ drN wr HRD.out (by omega) rfl rfl (by omega) (by omega)).mono ?_
      rintro e w1 ⟨x, hx, rfl, hG⟩
      have hzw := hG.2.size
      have hown1 : w1.ownsRow u1.heap.size 3 1 _ k (xs.map (Value.int .i64)) := HW.out.kept (row := some rb) ⟨hG.2.os, hG.2.tape, hG.2.output, hG.2.size, fun k hk hn => hG.2.block k hk (fun e => hn (by rw [e]))⟩ (.inr fun e => by have := (HW.out.lt rb e).1; omega)
      have HW1 := hid hown1
      have HX := hid hx
      have HG := hid hG
      clear hown1 hx hG
      go_wp2_with (at_builtin; refine wpList_append_own _ rfl _ _ 30 rfl u1.heap.size 3 i0 (.int .i64 0) 1 8 Tryd.underlying30 hi0 hz0 hz1 hz2 rfl (by decide) _ k _ rfl (HW1.out.alloc _) ⟨w1.heap.size, 0, none⟩ 1 1 [.int .i64 x] rfl rfl (cell_one_new _ _ _) ?c2 ?c3 ?c4 ?c5 ?_)
      case c2 => simp [Value.oneCell']
      case c3 => unfold maxLen; omega
      case c4 => omega
      case c5 => simp only [World.size_alloc]; omega
      intro v2 w2 hown2 hg2 hv2
      clear hv2
      have HO2 := hid hown2
      have HG2 := hid hg2
      have hzz := hg2.size
      simp only [World.size_alloc] at hzz
      clear hown2 hg2
      have hbw1 : Below w.heap.size w w1 := HBEL.out.trans (HG.out.2.below' (by have := HBEL.out.size; omega) hrb)
      go_wp2_with fail
      go_roundw
      case rel =>
        refine ⟨k + 1, xs ++ [x], hlt, by go_num, ?_, by rw [List.length_append, HXL.out]; rfl, ?_, ?_, ?_, by omega⟩
        · rw [List.map_append]
          exact HO2.out
        · intro y hy
          rcases List.mem_append.1 hy with hy | hy
          · exact HXS.out y hy
          · simp only [List.mem_singleton] at hy
            subst hy
            exact HX.out
        · refine HG.out.1.keep' (by omega) fun j hj => ?_
          rw [HG2.out.block j (by simp only [World.size_alloc]; omega) (fun e => by have := (HW1.out.lt j e.symm).1; omega)]
          exact Below.heap_alloc _ _ _ (by omega)
        · exact (hbw1.alloc (by have := hbw1.size; omega) _).grown HG2.out (by have := hbw1.size; simp only [World.size_alloc]; omega) (fun j hj => by have := (HW1.out.lt j hj).1; omega)
      case measure => simp [intOf]; omega
    · obtain rfl : k = M := by omega
      obtain ⟨B, c, hB, hc, hS⟩ := own_madeI HW.out
      subst hB
      have HS := hid hS
      clear hS
      go_wp2_with fail
      go_ret
      exact ⟨B, k, c, xs, rfl, hc, hM, HS.out, HXS.out, HBEL.out⟩

theorem list_ext_k {α : Type} {xs ys : List α} {k : Nat} (h : ∀ j, j < k → xs[j]? = ys[j]?) (hx : xs.length ≤ k) (hy : ys.length ≤ k) : xs = ys := by
  refine List.ext_getElem? fun j => ?_
  by_cases hj : j < k
  · exact h j hj
  · rw [List.getElem?_eq_none (by omega), List.getElem?_eq_none (by omega)]

set_option maxHeartbeats 1000000 in
set_option maxRecDepth 100000 in
theorem inSame_any (A B : Option Addr) (n m c d : Nat) (xs ys : List Int) (w : World) (ha : Ints w A n xs) (hb : Ints w B m ys) (hn : n ≤ 1048576) (hm : m ≤ 1048576) (v : Bool) (hv : Hid (decide (xs = ys) = v)) :
    Calls Tryd.prog 21 #[.slice A n c, .slice B m d] w fun e w' => e = .returned (.bool v) ∧ Below w.heap.size w w' := by
  have HA := hid ha
  have HB := hid hb
  have HNX := hid ha.1
  have HNY := hid hb.1
  clear ha hb
  obtain ⟨q, hq⟩ : ∃ q : Nat, q = min n m := ⟨_, rfl⟩
  have hq1 : q ≤ n := by omega
  have hq2 : q ≤ m := by omega
  have hq3 : q = n ∨ q = m := by omega
  have hqi : min (n : Int) (m : Int) = (q : Int) := by omega
  have hqi1 : n ≤ m → (q : Int) = (n : Int) := by omega
  clear hq
  go_enter Tryd.func21, Tryd.ntmps21
  by_cases hnm : m < n
  all_goals
    go_wp2_with fail
    go_loopw [11] (fun i wr => ∃ k N : Nat, k ≤ q ∧ i = .int .i64 k ∧ (∀ j, j < k → xs[j]? = ys[j]?) ∧ wr = w.drewN N) (fun i _ => q - (intOf i).toNat)
    case atStart => exact ⟨0, 0, Nat.zero_le _, rfl, (fun j h => absurd h (Nat.not_lt_zero _)), rfl⟩
    case round =>
      obtain ⟨k, N, hk, rfl, heq, rfl⟩ := hrel
      have HE := hid heq
      clear heq
      by_cases hlt : k < q
      · obtain ⟨g, o, rfl, hg, hca⟩ := HA.out.2 (by omega)
        obtain ⟨h, p, rfl, hh, hcb⟩ := HB.out.2 (by omega)
        have hx : xs[k]? = some (xs[k]'(by have := HNX.out; omega)) := List.getElem?_eq_getElem _
        have hy : ys[k]? = some (ys[k]'(by have := HNY.out; omega)) := List.getElem?_eq_getElem _
        have ca := hca k _ hx
        have cb := hcb k _ hy
        obtain ⟨x, ex⟩ : ∃ x, xs[k]'(by have := HNX.out; omega) = x := ⟨_, rfl⟩
        obtain ⟨y, ey⟩ : ∃ y, ys[k]'(by have := HNY.out; omega) = y := ⟨_, rfl⟩
        rw [ex] at ca hx
        rw [ey] at cb hy
        have HX := hid hx
        have HY := hid hy
        have i1 : (0 : Int) ≤ (k : Int) := by omega
        have i2 : (k : Int) < (n : Int) := by omega
        have i3 : (k : Int) < (m : Int) := by omega
        clear hca hcb hx hy ex ey
        by_cases e : x = y
        · subst e
          go_wp2_with fail
          go_quiet (fail)
          go_wp2_with fail
          go_roundw
          case rel =>
            refine ⟨k + 1, _, by omega, by go_num, fun j hj => ?_, rfl⟩
            by_cases hjk : j = k
            · rw [hjk, HX.out, HY.out]
            · exact HE.out j (by omega)
          case measure => simp [intOf]; omega
        · have hne : (x == y) = false := by simpa using e
          have hvf : v = false := by
            rw [← hv.out]
            refine decide_eq_false fun h => e ?_
            have h1 := HX.out
            rw [h, HY.out] at h1
            injection h1 with h1
            exact h1.symm
          subst hvf
          clear hv e
          go_wp2_with fail
          go_quiet (fail)
          go_wp2_with fail
          go_ret
          exact ⟨rfl, below_drewN' (below_drewN' (Below.refl _ _) _) _⟩
      · have hkn : k = q := by omega
        by_cases hnn : n = m
        · have hvt : v = true := by
            rw [← hv.out]
            exact decide_eq_true (list_ext_k HE.out (by have := HNX.out; omega) (by have := HNY.out; omega))
          have hi : ((n : Int) == (m : Int)) = true := by simp; omega
          subst hvt
          clear hv
          go_wp2_with fail
          go_ret
          exact ⟨rfl, below_drewN' (Below.refl _ _) _⟩
        · have hvf : v = false := by
            rw [← hv.out]
            refine decide_eq_false fun h => hnn ?_
            have h1 := HNX.out
            rw [h, HNY.out] at h1
            exact h1.symm
          have hi : ((n : Int) == (m : Int)) = false := by simp; omega
          subst hvf
          clear hv
          go_wp2_with fail
          go_ret
          exact ⟨rfl, below_drewN' (Below.refl _ _) _⟩

set_option maxHeartbeats 1000000 in
set_option maxRecDepth 100000 in
theorem inTexts_any (A B : Option Addr) (n m c d : Nat) (xs ys : List ByteArray) (w : World) (ha : Strs w A n xs) (hb : Strs w B m ys) (hn : n ≤ 1048576) (hm : m ≤ 1048576) (v : Bool) (hv : Hid (decide (xs = ys) = v)) :
    Calls Tryd.prog 16 #[.slice A n c, .slice B m d] w fun e w' => e = .returned (.bool v) ∧ Below w.heap.size w w' := by
  have HA := hid ha
  have HB := hid hb
  have HNX := hid ha.1
  have HNY := hid hb.1
  clear ha hb
  obtain ⟨q, hq⟩ : ∃ q : Nat, q = min n m := ⟨_, rfl⟩
  have hq1 : q ≤ n := by omega
  have hq2 : q ≤ m := by omega
  have hq3 : q = n ∨ q = m := by omega
  have hqi : min (n : Int) (m : Int) = (q : Int) := by omega
  have hqi1 : n ≤ m → (q : Int) = (n : Int) := by omega
  clear hq
  go_enter Tryd.func16, Tryd.ntmps16
  by_cases hnm : m < n
  all_goals
    go_wp2_with fail
    go_loopw [11] (fun i wr => ∃ k N : Nat, k ≤ q ∧ i = .int .i64 k ∧ (∀ j, j < k → xs[j]? = ys[j]?) ∧ wr = w.drewN N) (fun i _ => q - (intOf i).toNat)
    case atStart => exact ⟨0, 0, Nat.zero_le _, rfl, (fun j h => absurd h (Nat.not_lt_zero _)), rfl⟩
    case round =>
      obtain ⟨k, N, hk, rfl, heq, rfl⟩ := hrel
      have HE := hid heq
      clear heq
      by_cases hlt : k < q
      · obtain ⟨g, o, rfl, hg, hca⟩ := HA.out.2 (by omega)
        obtain ⟨h, p, rfl, hh, hcb⟩ := HB.out.2 (by omega)
        have hx : xs[k]? = some (xs[k]'(by have := HNX.out; omega)) := List.getElem?_eq_getElem _
        have hy : ys[k]? = some (ys[k]'(by have := HNY.out; omega)) := List.getElem?_eq_getElem _
        have ca := hca k _ hx
        have cb := hcb k _ hy
        obtain ⟨x, ex⟩ : ∃ x, xs[k]'(by have := HNX.out; omega) = x := ⟨_, rfl⟩
        obtain ⟨y, ey⟩ : ∃ y, ys[k]'(by have := HNY.out; omega) = y := ⟨_, rfl⟩
        rw [ex] at ca hx
        rw [ey] at cb hy
        have HX := hid hx
        have HY := hid hy
        have i1 : (0 : Int) ≤ (k : Int) := by omega
        have i2 : (k : Int) < (n : Int) := by omega
        have i3 : (k : Int) < (m : Int) := by omega
        clear hca hcb hx hy ex ey
        by_cases e : x = y
        · subst e
          go_wp2_with fail
          go_quiet (fail)
          go_wp2_with fail
          go_roundw
          case rel =>
            refine ⟨k + 1, _, by omega, by go_num, fun j hj => ?_, rfl⟩
            by_cases hjk : j = k
            · rw [hjk, HX.out, HY.out]
            · exact HE.out j (by omega)
          case measure => simp [intOf]; omega
        · have hne : (x.toList == y.toList) = false := by
            rw [ByteArray.toList_eq, ByteArray.toList_eq, beq_eq_false_iff_ne]
            exact fun h => e (WideShapes.bytes_inj h)
          have hvf : v = false := by
            rw [← hv.out]
            refine decide_eq_false fun h => e ?_
            have h1 := HX.out
            rw [h, HY.out] at h1
            injection h1 with h1
            exact h1.symm
          subst hvf
          clear hv e
          go_wp2_with fail
          go_quiet (fail)
          go_wp2_with fail
          go_ret
          exact ⟨rfl, below_drewN' (below_drewN' (Below.refl _ _) _) _⟩
      · have hkn : k = q := by omega
        by_cases hnn : n = m
        · have hvt : v = true := by
            rw [← hv.out]
            exact decide_eq_true (list_ext_k HE.out (by have := HNX.out; omega) (by have := HNY.out; omega))
          have hi : ((n : Int) == (m : Int)) = true := by simp; omega
          subst hvt
          clear hv
          go_wp2_with fail
          go_ret
          exact ⟨rfl, below_drewN' (Below.refl _ _) _⟩
        · have hvf : v = false := by
            rw [← hv.out]
            refine decide_eq_false fun h => hnn ?_
            have h1 := HNX.out
            rw [h, HNY.out] at h1
            exact h1.symm
          have hi : ((n : Int) == (m : Int)) = false := by simp; omega
          subst hvf
          clear hv
          go_wp2_with fail
          go_ret
          exact ⟨rfl, below_drewN' (Below.refl _ _) _⟩

/-- A text without spaces that is not mistaken for the dash. -/
def Wd (x : ByteArray) : Prop := x.data.toList ≠ [] ∧ (32 : UInt8) ∉ x.data.toList ∧ x.data.toList ≠ [45]
instance (x : ByteArray) : Decidable (Wd x) := inferInstanceAs (Decidable (_ ∧ _ ∧ _))
theorem cut_uniq {c : UInt8} : ∀ (x y r s : List UInt8), c ∉ x → c ∉ y → (r = [] ∨ ∃ t, r = c :: t) → (s = [] ∨ ∃ t, s = c :: t) → x ++ r = y ++ s → x = y ∧ r = s
  | [], [], r, s, _, _, _, _, h => ⟨rfl, by simpa using h⟩
  | [], b :: y, r, s, _, hy, hr, _, h => by
    rcases hr with rfl | ⟨t, rfl⟩
    · simp at h
    · simp at h
      exact absurd (by rw [h.1]; exact List.mem_cons_self ..) hy
  | a :: x, [], r, s, hx, _, _, hs, h => by
    rcases hs with rfl | ⟨t, rfl⟩
    · simp at h
    · simp at h
      exact absurd (by rw [h.1]; exact List.mem_cons_self ..) hx
  | a :: x, b :: y, r, s, hx, hy, hr, hs, h => by
    simp only [List.cons_append, List.cons.injEq] at h
    obtain ⟨h1, h2⟩ := cut_uniq x y r s (fun h => hx (List.mem_cons_of_mem _ h)) (fun h => hy (List.mem_cons_of_mem _ h)) hr hs h.2
    exact ⟨by rw [h.1, h1], h2⟩
theorem jn_nil : jn [] = [] := by simp [jn, Lib.join, List.intercalate]
/-- What stands behind the first text. -/
def jrest (xs : List ByteArray) : List UInt8 := if xs = [] then [] else 32 :: jn xs
theorem jn_cons (x : ByteArray) (xs : List ByteArray) : jn (x :: xs) = x.data.toList ++ jrest xs := by
  rcases xs with _ | ⟨y, ys⟩
  · simp [jn, jrest, Lib.join, List.intercalate]
  · simp [jn, jrest, Lib.join, List.intercalate]
theorem jrest_form (xs : List ByteArray) : jrest xs = [] ∨ ∃ t, jrest xs = 32 :: t := by
  unfold jrest
  split
  · exact .inl rfl
  · exact .inr ⟨_, rfl⟩
theorem jn_ne {xs : List ByteArray} (hx : ∀ x ∈ xs, Wd x) (h : xs ≠ []) : jn xs ≠ [] ∧ jn xs ≠ [45] := by
  rcases xs with _ | ⟨x, xs⟩
  · exact absurd rfl h
  · obtain ⟨h1, h2, h3⟩ := hx x (List.mem_cons_self ..)
    rw [jn_cons]
    refine ⟨by simp [h1], fun e => ?_⟩
    rcases jrest_form xs with hr | ⟨t, hr⟩
    · rw [hr, List.append_nil] at e
      exact h3 e
    · rw [hr] at e
      have h4 := congrArg List.length e
      have h5 : 0 < x.data.toList.length := List.length_pos_iff.2 h1
      simp only [List.length_append, List.length_cons, List.length_nil] at h4
      omega
theorem jn_inj : ∀ (xs ys : List ByteArray), (∀ x ∈ xs, Wd x) → (∀ x ∈ ys, Wd x) → jn xs = jn ys → xs = ys
  | [], [], _, _, _ => rfl
  | [], y :: ys, _, hy, h => absurd (by rw [← h, jn_nil]) (jn_ne hy (by simp)).1
  | x :: xs, [], hx, _, h => absurd (by rw [h, jn_nil]) (jn_ne hx (by simp)).1
  | x :: xs, y :: ys, hx, hy, h => by
    rw [jn_cons, jn_cons] at h
    obtain ⟨h1, h2⟩ := cut_uniq _ _ _ _ (hx x (List.mem_cons_self ..)).2.1 (hy y (List.mem_cons_self ..)).2.1 (jrest_form xs) (jrest_form ys) h
    have hxs : ∀ z ∈ xs, Wd z := fun z hz => hx z (List.mem_cons_of_mem _ hz)
    have hys : ∀ z ∈ ys, Wd z := fun z hz => hy z (List.mem_cons_of_mem _ hz)
    have h3 : xs = ys := by
      unfold jrest at h2
      by_cases a : xs = []
      · by_cases b : ys = []
        · rw [a, b]
        · rw [if_pos a, if_neg b] at h2
          cases h2
      · by_cases b : ys = []
        · rw [if_neg a, if_pos b] at h2
          cases h2
        · rw [if_neg a, if_neg b] at h2
          injection h2 with _ h2
          exact jn_inj xs ys hxs hys h2
    rw [h3, WideShapes.bytes_inj (a := x) (b := y) h1]
theorem orW_list (l : List UInt8) : (orW (strOf l)).data.toList = if l = [] then [45] else l := by
  unfold orW
  rw [strOf_size]
  by_cases h : l = []
  · rw [if_pos h, if_pos (by rw [h]; rfl)]
  · rw [if_neg h, if_neg (fun e => h (List.length_eq_zero_iff.1 e))]
    rfl
theorem ftW_inj {xs ys : List ByteArray} (hx : ∀ x ∈ xs, Wd x) (hy : ∀ x ∈ ys, Wd x) : ftW xs = ftW ys ↔ xs = ys := by
  constructor
  · intro h
    have h1 := congrArg (fun b : ByteArray => b.data.toList) h
    unfold ftW at h1
    simp only [orW_list] at h1
    by_cases a : xs = []
    · by_cases b : ys = []
      · rw [a, b]
      · obtain ⟨n1, n2⟩ := jn_ne hy b
        rw [a, jn_nil, if_pos rfl, if_neg n1] at h1
        exact absurd h1.symm n2
    · obtain ⟨m1, m2⟩ := jn_ne hx a
      by_cases b : ys = []
      · rw [b, jn_nil, if_neg m1, if_pos rfl] at h1
        exact absurd h1 m2
      · obtain ⟨n1, n2⟩ := jn_ne hy b
        rw [if_neg m1, if_neg n1] at h1
        exact jn_inj xs ys hx hy h1
  · rintro rfl; rfl
theorem drT_wd : ∀ x ∈ drT, Wd x := by decide +kernel
theorem drN_wd : ∀ x ∈ drN, Wd (strOf (Lib.itoa x)) := by decide +kernel
theorem drN_inj : ∀ x ∈ drN, ∀ y ∈ drN, strOf (Lib.itoa x) = strOf (Lib.itoa y) → x = y := by decide +kernel
theorem drN_64 : ∀ x ∈ drN, -9223372036854775808 ≤ x ∧ x ≤ 9223372036854775807 := by decide +kernel
theorem drT_sz : ∀ x ∈ drT, x.size ≤ 4 := by decide +kernel
theorem nmL_inj : ∀ (xs ys : List Int), (∀ x ∈ xs, x ∈ drN) → (∀ x ∈ ys, x ∈ drN) → nmL xs = nmL ys → xs = ys
  | [], [], _, _, _ => rfl
  | [], y :: ys, _, _, h => by cases h
  | x :: xs, [], _, _, h => by cases h
  | x :: xs, y :: ys, hx, hy, h => by
    unfold nmL at h
    simp only [List.map_cons, List.cons.injEq] at h
    rw [drN_inj x (hx x (List.mem_cons_self ..)) y (hy y (List.mem_cons_self ..)) h.1, nmL_inj xs ys (fun z hz => hx z (List.mem_cons_of_mem _ hz)) (fun z hz => hy z (List.mem_cons_of_mem _ hz)) h.2]
theorem nmL_wd {xs : List Int} (h : ∀ x ∈ xs, x ∈ drN) : ∀ x ∈ nmL xs, Wd x := by
  intro x hx
  obtain ⟨z, hz, rfl⟩ := List.mem_map.1 hx
  exact drN_wd z (h z hz)
theorem nmW_inj {xs ys : List Int} (hx : ∀ x ∈ xs, x ∈ drN) (hy : ∀ x ∈ ys, x ∈ drN) : nmW xs = nmW ys ↔ xs = ys := by
  unfold nmW
  rw [ftW_inj (nmL_wd hx) (nmL_wd hy)]
  exact ⟨nmL_inj xs ys hx hy, fun h => by rw [h]⟩
theorem sumS_drT {xs : List ByteArray} (h : ∀ x ∈ xs, x ∈ drT) : sumS xs ≤ 4 * xs.length := by
  induction xs with
  | nil => exact Nat.le_refl _
  | cons x xs ih =>
    have h1 := drT_sz x (h x (List.mem_cons_self ..))
    have h2 := ih fun y hy => h y (List.mem_cons_of_mem _ hy)
    unfold sumS at h2 ⊢
    simp only [List.map_cons, List.sum_cons, List.length_cons]
    omega
theorem bytes_dec (a b : ByteArray) : (a.toList == b.toList) = decide (a = b) := by
  by_cases h : a = b
  · rw [h]; simp
  · rw [decide_eq_false h, ByteArray.toList_eq, ByteArray.toList_eq, beq_eq_false_iff_ne]
    exact fun e => h (WideShapes.bytes_inj e)

end Go.Proofs.YtlpfgiegapelmaaDoor
