/- More draws: the arguments of CountVar and MakeType. -/
import Derived.Test.YtechacocfpobgaaDrawB
import Derived.Test.YtechacocfpobgaaParts
import Derived.Test.YtechacocfpobgaaNdI
import Derived.OwnWalk
namespace Go.Proofs.Ytechacocfpobgaa
open Go.RowKit

set_option maxHeartbeats 1000000 in
set_option maxRecDepth 100000 in
theorem drawCountVar_any (A : Option Addr) (len cap : Nat) (w : World) (hl : len ≤ cap) (hm : cap ≤ maxLen) (hb : Bts w A len) :
    Calls Try.prog 29 #[.slice A len cap] w fun e w' => ∃ t v : ByteArray, e = .returned (.tuple #[.string t, .string v]) ∧ t.size ≤ 100 ∧ v.size ≤ 2 ∧ Below w.heap.size w w' := by
  have HB := hid hb
  clear hb
  go_enter Try.func29, Try.ntmps29
  go_wp2_with fail
  refine (l13Open_any A len cap w hl hm HB.out).mono ?_
  rintro e u1 ⟨rb, rfl, hrb, hr1, hb1⟩
  go_wp2_with fail
  refine (l1Any_any rb 0 u1 hr1 (by omega)).mono ?_
  rintro e u2 ⟨t, rfl, ht, hG⟩
  go_wp2_with fail
  refine (of_new rb (0 + 100) 7 _ _ [⟨#[120]⟩, ⟨#[121]⟩, ⟨#[122]⟩, ⟨#[88]⟩, ⟨#[105]⟩, ⟨#[]⟩, ⟨#[120, 121]⟩] u2 hG.1 (by omega) rfl rfl (by omega) (by omega)).mono ?_
  rintro e u3 ⟨v, hv, rfl, hG2⟩
  have hv2 : v.size ≤ 2 := by simpa using List.all_eq_true.1 (show (([⟨#[120]⟩, ⟨#[121]⟩, ⟨#[122]⟩, ⟨#[88]⟩, ⟨#[105]⟩, ⟨#[]⟩, ⟨#[120, 121]⟩] : List ByteArray).all fun x => decide (x.size ≤ 2)) = true from rfl) v hv
  go_wp2_with fail
  exact bodyPost_ret (v := .tuple #[.string t, .string v]) (by simp [results, Try.results29, go_sem]) rfl ⟨t, v, rfl, ht, hv2, hb1.trans ((hG.trans hG2).2.below' hb1.size hrb)⟩

set_option maxHeartbeats 400000 in
set_option maxRecDepth 100000 in
/-- A number of a list. -/
theorem num_any (rb P g o n cap : Nat) (xs : List Int) (w : World) (hr : Rdr w rb P) (hP : P ≤ 1099511627776) (hx : ∀ (j : Nat) x, xs[j]? = some x → w.cell? ⟨g, o + j, none⟩ = some (.int .i64 x)) (hn1 : n = xs.length) (hn : 0 < n) (hn2 : n ≤ 1000) (hg : g < w.heap.size) (hg2 : g ≠ rb) :
    Calls Try.prog 56 #[.pointer (some ⟨rb, 0, none⟩), .slice (some ⟨g, o, none⟩) n cap] w fun e w' => ∃ x, x ∈ xs ∧ e = .returned (.int .i64 x) ∧ Gave rb P 1 w w' := by
  have HX := hid hx
  have HN := hid hn1
  clear hx hn1
  go_enter Try.func56, Try.ntmps56
  go_wp2_with fail
  refine (pick_any rb P n w hr hP (by omega) (by omega)).mono ?_
  rintro e w1 ⟨k, rfl, hk0, hk1, hG⟩
  obtain ⟨j, rfl⟩ : ∃ j : Nat, k = (j : Int) := ⟨k.toNat, by omega⟩
  have hjx : j < xs.length := by have := HN.out; omega
  have hcell : w1.cell? ⟨g, o + j, none⟩ = some (.int .i64 (xs[j]'hjx)) := by
    rw [World.cell?_of_block (w := w) (hG.2.block g hg hg2)]
    exact HX.out j _ (List.getElem?_eq_getElem hjx)
  have hmem := List.getElem_mem hjx
  obtain ⟨x, hx⟩ : ∃ x, xs[j]'hjx = x := ⟨_, rfl⟩
  rw [hx] at hcell hmem
  have HM := hid hmem
  have HG := hid hG
  clear hx hmem hG
  go_wp2_with fail
  go_ret
  exact ⟨x, HM.out, rfl, HG.out⟩

theorem own_made {w : World} {base n : Nat} {v : Value} {xs : List ByteArray} (h : w.ownsRow base 9 1 v n (xs.map Value.string)) : ∃ B c, v = .slice B n c ∧ n ≤ c ∧ Strs w B n xs := by
  have hl : xs.length = n := by simpa using h.1
  by_cases h0 : n = 0
  · subst h0
    obtain ⟨_, ⟨rfl, _⟩ | ⟨g, cap, cur, rfl, _⟩⟩ := h
    · exact ⟨none, 0, rfl, Nat.le_refl _, hl, fun h => absurd h (Nat.lt_irrefl 0)⟩
    · exact ⟨_, cap, rfl, Nat.zero_le _, hl, fun h => absurd h (Nat.lt_irrefl 0)⟩
  · obtain ⟨g, cap, rfl, _, hg, hc, hcell⟩ := own_row h (by omega)
    refine ⟨_, cap, rfl, hc, hl, fun _ => ⟨g, 0, rfl, hg, fun j x hj => ?_⟩⟩
    rw [Nat.zero_add]
    exact hcell j _ (by rw [List.getElem?_map, hj]; rfl)

set_option maxHeartbeats 1000000 in
set_option maxRecDepth 100000 in
theorem drawMakeType_any (A : Option Addr) (len cap : Nat) (w : World) (hl : len ≤ cap) (hm : cap ≤ maxLen) (hb : Bts w A len) :
    Calls Try.prog 17 #[.slice A len cap] w fun e w' => ∃ (h : ByteArray) (B : Option Addr) (n c : Nat) (xs : List ByteArray), e = .returned (.tuple #[.string h, .slice B n c]) ∧ h.size ≤ 2 ∧ n ≤ c ∧ n ≤ 3 ∧ Strs w' B n xs ∧ (∀ x ∈ xs, x.size ≤ 100) ∧ Below w.heap.size w w' := by
  have HB := hid hb
  clear hb
  obtain ⟨i0, hi0, hz0, hz1, hz2⟩ := info_parts stringInfo
  go_enter Try.func17, Try.ntmps17
  go_wp2_with fail
  refine (l13Open_any A len cap w hl hm HB.out).mono ?_
  rintro e u1 ⟨rb, rfl, hrb, hr1, hb1⟩
  go_wp2_with fail
  refine (of_new rb 0 8 _ _ [⟨#[108]⟩, ⟨#[112]⟩, ⟨#[105]⟩, ⟨#[120]⟩, ⟨#[109]⟩, ⟨#[113]⟩, ⟨#[]⟩, ⟨#[108, 112]⟩] u1 hr1 (by omega) rfl rfl (by omega) (by omega)).mono ?_
  rintro e u2 ⟨hd, hh, rfl, hG2⟩
  have hh2 : hd.size ≤ 2 := by simpa using List.all_eq_true.1 (show (([⟨#[108]⟩, ⟨#[112]⟩, ⟨#[105]⟩, ⟨#[120]⟩, ⟨#[109]⟩, ⟨#[113]⟩, ⟨#[]⟩, ⟨#[108, 112]⟩] : List ByteArray).all fun x => decide (x.size ≤ 2)) = true from rfl) hd hh
  clear hh
  go_wp2_with fail
  have z2 := hG2.2.size
  have hr2 : Rdr ((u2.alloc (.cells #[] 9)).alloc (.cells #[.int .i64 1, .int .i64 2, .int .i64 0, .int .i64 1, .int .i64 3] 3)) rb (0 + 1) := (hG2.1.keep ((Below.refl _ _).alloc (Nat.le_refl _) _)).keep ((Below.refl _ _).alloc (Nat.le_refl _) _)
  have hrb2 : rb < u1.heap.size := by obtain ⟨_, _, _, _, _, _, h, _⟩ := hr1; exact h
  have hlit : ∀ (j : Nat) x, ([1, 2, 0, 1, 3] : List Int)[j]? = some x → ((u2.alloc (.cells #[] 9)).alloc (.cells #[.int .i64 1, .int .i64 2, .int .i64 0, .int .i64 1, .int .i64 3] 3)).cell? ⟨u2.heap.size + 1, 0 + j, none⟩ = some (.int .i64 x) := by
    intro j x hj
    have hb5 := heap_new1 (u2.alloc (.cells #[] 9)) (.cells #[.int .i64 1, .int .i64 2, .int .i64 0, .int .i64 1, .int .i64 3] 3)
    rw [World.size_alloc] at hb5
    unfold World.cell?
    rw [show ((u2.alloc _).alloc _).heap[(⟨u2.heap.size + 1, 0 + j, none⟩ : Addr).block]? = _ from hb5]
    have hjl := (List.getElem?_eq_some_iff.1 hj).1
    simp at hjl
    have : j = 0 ∨ j = 1 ∨ j = 2 ∨ j = 3 ∨ j = 4 := by omega
    rcases this with rfl | rfl | rfl | rfl | rfl <;> (simp at hj; subst hj; rfl)
  refine (num_any rb (0 + 1) (u2.heap.size + 1) 0 5 5 [1, 2, 0, 1, 3] _ hr2 (by omega) hlit rfl (by omega) (by omega) (by simp only [World.size_alloc]; omega) (by omega)).mono ?_
  rintro e u3 ⟨m, hm5, rfl, hG3⟩
  have hmr : 0 ≤ m ∧ m ≤ 3 := by simp at hm5; omega
  obtain ⟨M, rfl⟩ : ∃ M : Nat, m = (M : Int) := ⟨m.toNat, by omega⟩
  have hM : M ≤ 3 := by omega
  have z3 := hG3.2.size
  simp only [World.size_alloc] at z3
  have hown0 : u3.ownsRow u2.heap.size 9 1 (.slice (some ⟨u2.heap.size, 0, none⟩) 0 0) 0 [] := by
    refine ⟨rfl, .inr ⟨u2.heap.size, 0, #[], rfl, Nat.le_refl _, ?_, Nat.le_refl _, Nat.zero_le _, rfl, rfl⟩⟩
    rw [hG3.2.block u2.heap.size (by simp only [World.size_alloc]; omega) (by omega), Below.heap_alloc _ _ _ (by simp only [World.size_alloc]; omega)]
    exact heap_new1 _ _
  have hbel0 : Below w.heap.size w u3 := by
    refine hb1.trans ((hG2.2.below' hb1.size hrb).trans (((Below.refl _ _).alloc (by have := hb1.size; omega) _).alloc (by have := hb1.size; simp only [World.size_alloc]; omega) _ |>.trans (hG3.2.below' (by have := hb1.size; simp only [World.size_alloc]; omega) hrb)))
  have hgr := hG3.1
  have HOWN := hid hown0
  clear hown0 hlit hm5 hmr hr2 hr1
  go_wp2_with fail
  go_loopw [6, 16] (fun v i wr => ∃ (k : Nat) (xs : List ByteArray), k ≤ M ∧ i = .int .i64 k ∧ wr.ownsRow u2.heap.size 9 1 v k (xs.map Value.string) ∧ xs.length = k ∧ (∀ x ∈ xs, x.size ≤ 100) ∧ Rdr wr rb (0 + 1 + 1 + 100 * k) ∧ Below w.heap.size w wr ∧ u2.heap.size ≤ wr.heap.size) (fun _ i _ => M - (intOf i).toNat)
  case atStart => exact ⟨0, [], Nat.zero_le _, rfl, HOWN.out, rfl, (fun x hx => by cases hx), hgr, hbel0, by omega⟩
  case round =>
    obtain ⟨k, xs, hk, rfl, hown, hxl, hxs, hrd, hbel, hz⟩ := hrel
    have HW := hid hown
    have HXL := hid hxl
    have HXS := hid hxs
    clear hown hxl hxs
    by_cases hlt : k < M
    · go_wp2_with fail
      refine (l1Any_any rb (0 + 1 + 1 + 100 * k) wr hrd (by omega)).mono ?_
      rintro e w1 ⟨x, rfl, hx, hG⟩
      have hzw := hG.2.size
      have hown1 : w1.ownsRow u2.heap.size 9 1 _ k (xs.map Value.string) := HW.out.kept (row := some rb) ⟨hG.2.os, hG.2.tape, hG.2.output, hG.2.size, fun k hk hn => hG.2.block k hk (fun e => hn (by rw [e]))⟩ (.inr fun e => by have := (HW.out.lt rb e).1; omega)
      have HW1 := hid hown1
      clear hown1
      go_wp2_with (at_builtin; refine wpList_append_own _ rfl _ _ 24 rfl u2.heap.size 9 i0 (.string ⟨#[]⟩) 1 16 Try.underlying24 hi0 hz0 hz1 hz2 rfl (by decide) _ k _ rfl (HW1.out.alloc _) ⟨w1.heap.size, 0, none⟩ 1 1 [.string x] rfl rfl ?c1 ?c2 ?c3 ?c4 ?c5 ?_)
      case c1 => exact news1 _ _ _
      case c2 =>
        intro u hu
        simp only [List.mem_singleton] at hu
        subst hu
        rfl
      case c3 => unfold maxLen; omega
      case c4 => omega
      case c5 => simp only [World.size_alloc]; omega
      intro v2 w2 hown2 hg2 hv2
      clear hv2
      have HO2 := hid hown2
      have HG2 := hid hg2
      have hzz := hg2.size
      simp only [World.size_alloc] at hzz
      clear hown2 hg2
      have hbw1 : Below w.heap.size w w1 := hbel.trans (hG.2.below' (by have := hb1.size; omega) hrb)
      go_wp2_with fail
      go_roundw
      case rel =>
        refine ⟨k + 1, xs ++ [x], hlt, by go_num, ?_, by rw [List.length_append, HXL.out]; rfl, ?_, ?_, ?_, by omega⟩
        · rw [List.map_append]
          exact HO2.out
        · intro y hy
          rcases List.mem_append.1 hy with hy | hy
          · exact HXS.out y hy
          · simp only [List.mem_singleton] at hy
            subst hy
            exact hx
        · have hle : (0 + 1 + 1 + 100 * k + 100) = 0 + 1 + 1 + 100 * (k + 1) := by omega
          rw [← hle]
          refine hG.1.keep' (by omega) fun j hj => ?_
          rw [HG2.out.block j (by simp only [World.size_alloc]; omega) (fun e => by have := (HW1.out.lt j e.symm).1; omega)]
          exact Below.heap_alloc _ _ _ (by omega)
        · exact (hbw1.alloc (by have := hbw1.size; omega) _).grown HG2.out (by have := hbw1.size; simp only [World.size_alloc]; omega) (fun j hj => by have := (HW1.out.lt j hj).1; have := hb1.size; omega)
      case measure => simp [intOf]; omega
    · obtain rfl : k = M := by omega
      go_wp2_with fail
      obtain ⟨B, c, hB, hc, hS⟩ := own_made HW.out
      subst hB
      exact bodyPost_ret (v := .tuple #[.string hd, .slice B k c]) (by simp [results, Try.results17, go_sem]) rfl ⟨hd, B, k, c, xs, rfl, hh2, hc, hM, hS, HXS.out, hbel⟩

end Go.Proofs.Ytechacocfpobgaa
