/- The model's source of drawn inputs: what a pick, an element of a list and a drawn type come to. -/
import Derived.Test.YteimmgajohimlaaGreatDraw
import Derived.Test.YteimmgajohimlaaGreatMarks
import Derived.Deep.RegionWith
namespace Go.Proofs.YteimmgajohimlaaGreat
open Go.RowKit

/-- The source at block rb, which has given at most P numbers. -/
def Rdr (w : World) (rb : Nat) (P : Nat) : Prop := ∃ A len cap p, Src w rb A len cap p ∧ p ≤ P ∧ rb < w.heap.size ∧ (∀ g o, A = some ⟨g, o, none⟩ → 0 < len → g < rb)
theorem Rdr.le {w : World} {rb P P' : Nat} (h : Rdr w rb P) (hp : P ≤ P') : Rdr w rb P' := by
  obtain ⟨A, len, cap, p, h1, h2, h3, h4⟩ := h
  exact ⟨A, len, cap, p, h1, Nat.le_trans h2 hp, h3, h4⟩
theorem Rdr.keep' {w w' : World} {rb P : Nat} (h : Rdr w rb P) (hz : rb < w'.heap.size) (hb : ∀ k, k ≤ rb → w'.heap[k]? = w.heap[k]?) : Rdr w' rb P := by
  obtain ⟨A, len, cap, p, ⟨h1, h2, h3⟩, h4, h5, h6⟩ := h
  refine ⟨A, len, cap, p, ⟨(hb rb (Nat.le_refl _)).trans h1, h2, fun hl => ?_⟩, h4, hz, h6⟩
  obtain ⟨g, o, e, hg, hc⟩ := h3 hl
  refine ⟨g, o, e, hg, fun i hi => ?_⟩
  obtain ⟨v, hv, h⟩ := hc i hi
  refine ⟨v, ?_, h⟩
  rw [World.cell?_of_block (w := w) (hb g (Nat.le_of_lt (h6 g o e hl)))]
  exact hv
theorem Rdr.lt {w : World} {rb P : Nat} (h : Rdr w rb P) : rb < w.heap.size := by obtain ⟨_, _, _, _, _, _, h, _⟩ := h; exact h
theorem Rdr.keep {w w' : World} {rb P : Nat} (h : Rdr w rb P) (hb : Below w.heap.size w w') : Rdr w' rb P :=
  h.keep' (Nat.lt_of_lt_of_le h.lt hb.size) fun k hk => hb.block k (Nat.lt_of_le_of_lt hk h.lt)

/-- What a number drawn comes to: at most K more numbers given, nothing else of old memory written. -/
def Gave (rb P K : Nat) (w w' : World) : Prop := Rdr w' rb (P + K) ∧ But w.heap.size rb w w'
theorem Gave.trans {rb P K K' : Nat} {a b c : World} (h : Gave rb P K a b) (h' : Gave rb (P + K) K' b c) : Gave rb P (K + K') a c :=
  ⟨by rw [← Nat.add_assoc]; exact h'.1, h.2.trans (h'.2.mono h.2.size)⟩

theorem pick_any (rb P : Nat) (n : Int) (w : World) (hr : Rdr w rb P) (hP : P ≤ 1099511627776) (hn : 1 ≤ n) (hn2 : n ≤ 9223372036854775807) :
    Calls Tryz.prog 52 #[.pointer (some ⟨rb, 0, none⟩), .int .i64 n] w fun e w' => ∃ k : Int, e = .returned (.int .i64 k) ∧ 0 ≤ k ∧ k < n ∧ Gave rb P 1 w w' := by
  obtain ⟨A, len, cap, p, hs, hp, hrb, hA⟩ := hr
  have key : ∀ m, Gave rb P 1 w ((w.setCell ⟨rb, 1, none⟩ (.int .i64 (p + 1))).drewN m) := by
    intro m
    refine ⟨⟨A, len, cap, p + 1, ⟨?_, hs.2.1, fun hl => ?_⟩, by omega, by simpa [World.setCell] using hrb, hA⟩, ((But.refl _ _ _).set _ _).drewN m⟩
    · have h := hs.1
      show (w.setCell _ _).heap[rb]? = _
      simp [World.setCell, Array.getElem?_modify, h]
    · obtain ⟨g, o, e, hg, hc⟩ := hs.2.2 hl
      refine ⟨g, o, e, hg, fun i hi => ?_⟩
      obtain ⟨v, hv, h⟩ := hc i hi
      refine ⟨v, ?_, h⟩
      show (w.setCell _ _).cell? _ = _
      rw [World.cell?_of_block (w := w) (Below.heap_setCell _ _ _ _ hg)]
      exact hv
  by_cases h0 : len = 0
  · subst h0
    refine (pick_empty rb A cap p n w hs (by omega) hn).mono ?_
    rintro e w' ⟨rfl, rfl⟩
    exact ⟨0, rfl, Int.le_refl _, by omega, key 0⟩
  · obtain ⟨g, o, rfl, hg, hc⟩ := hs.2.2 (by omega)
    by_cases h1 : p < len
    · obtain ⟨v, hv, v0, v1⟩ := hc p h1
      refine (pick_byte rb g o len cap p v n w hs hg hv v0 v1 h1 hn).mono ?_
      rintro e w' ⟨rfl, rfl⟩
      exact ⟨_, rfl, Int.emod_nonneg _ (by omega), Int.emod_lt_of_pos _ (by omega), key 0⟩
    · obtain ⟨v, hv, v0, v1⟩ := hc (p % len) (Nat.mod_lt _ (by omega))
      obtain ⟨v', hv', v0', v1'⟩ := hc ((p * 7 + 3) % len) (Nat.mod_lt _ (by omega))
      refine (pick_mix rb g o len cap p v v' n w hs hg (by omega) (by omega) hv hv' v0 v1 v0' v1' (by omega) hn hn2).mono ?_
      rintro e w' ⟨k, m, rfl, hk0, hk1, rfl⟩
      exact ⟨k, rfl, hk0, hk1, key m⟩

set_option maxHeartbeats 400000 in
set_option maxRecDepth 100000 in
theorem of_any (rb P g o n cap : Nat) (xs : List ByteArray) (w : World) (hr : Rdr w rb P) (hP : P ≤ 1099511627776) (hx : Strs w (some ⟨g, o, none⟩) n xs) (hn : 0 < n) (hn2 : n ≤ 1000) (hg : g < w.heap.size) (hg2 : g ≠ rb) :
    Calls Tryz.prog 83 #[.pointer (some ⟨rb, 0, none⟩), .slice (some ⟨g, o, none⟩) n cap] w fun e w' => ∃ x, x ∈ xs ∧ e = .returned (.string x) ∧ Gave rb P 1 w w' := by
  have HX := hid hx
  clear hx
  go_enter Tryz.func83, Tryz.ntmps83
  go_wp2_with fail
  refine (pick_any rb P n w hr hP (by omega) (by omega)).mono ?_
  rintro e w1 ⟨k, rfl, hk0, hk1, hG⟩
  obtain ⟨j, rfl⟩ : ∃ j : Nat, k = (j : Int) := ⟨k.toNat, by omega⟩
  obtain ⟨g', o', hgo, _, hc⟩ := HX.out.2 hn
  simp only [Option.some.injEq, Addr.mk.injEq, and_true] at hgo
  obtain ⟨rfl, rfl⟩ := hgo
  have hjx : j < xs.length := by have := HX.out.1; omega
  have hcell : w1.cell? ⟨g, o + j, none⟩ = some (.string (xs[j]'hjx)) := by
    rw [World.cell?_of_block (w := w) (hG.2.block g hg hg2)]
    exact hc j _ (List.getElem?_eq_getElem hjx)
  have hmem := List.getElem_mem hjx
  obtain ⟨x, hx⟩ : ∃ x, xs[j]'hjx = x := ⟨_, rfl⟩
  rw [hx] at hcell hmem
  have HM := hid hmem
  have HG := hid hG
  clear hc hx hmem hG
  go_wp2_with fail
  go_ret
  exact ⟨x, HM.out, rfl, HG.out⟩

/-- Texts of types drawn are short. -/
def dLen : Nat → Nat
  | 0 => 1
  | d + 1 => 4 + 2 * dLen d
def dPick : Nat → Nat
  | 0 => 1
  | d + 1 => 2 + 2 * dPick d
theorem dPick_pos (d : Nat) : 1 ≤ dPick d := by cases d <;> simp [dPick]; omega
theorem dLen_pos (d : Nat) : 1 ≤ dLen d := by cases d <;> simp [dLen]; omega

theorem lit_strs (w : World) (cs : Array Value) (T : TypeId) (xs : List ByteArray) (hcs : cs = (xs.map Value.string).toArray) : Strs (w.alloc (.cells cs T)) (some ⟨w.heap.size, 0, none⟩) xs.length xs := by
  subst hcs
  refine ⟨rfl, fun _ => ⟨w.heap.size, 0, rfl, by simp only [World.size_alloc]; omega, fun j x hj => ?_⟩⟩
  rw [Nat.zero_add]
  unfold World.cell?
  rw [show (w.alloc (.cells _ T)).heap[(⟨w.heap.size, j, none⟩ : Addr).block]? = _ from heap_new1 _ _]
  simp [hj]

theorem one_of {xs : List ByteArray} (h : (xs.all fun x => x.size == 1) = true) {x : ByteArray} (hx : x ∈ xs) : x.size = 1 := by simpa using List.all_eq_true.1 h x hx

/-- An element of a list of strings that is written out. -/
theorem of_new (rb P n : Nat) (cs : Array Value) (T : TypeId) (xs : List ByteArray) (w : World) (hr : Rdr w rb P) (hP : P ≤ 1099511627776) (hcs : cs = (xs.map Value.string).toArray) (hn : n = xs.length) (h0 : 0 < n) (h1 : n ≤ 1000) :
    Calls Tryz.prog 83 #[.pointer (some ⟨rb, 0, none⟩), .slice (some ⟨w.heap.size, 0, none⟩) n n] (w.alloc (.cells cs T)) fun e w' => ∃ x, x ∈ xs ∧ e = .returned (.string x) ∧ Gave rb P 1 w w' := by
  have hb : Below w.heap.size w (w.alloc (.cells cs T)) := (Below.refl _ _).alloc (Nat.le_refl _) _
  have hrb : rb < w.heap.size := by obtain ⟨_, _, _, _, _, _, h, _⟩ := hr; exact h
  subst hn
  refine (of_any rb P w.heap.size 0 xs.length xs.length xs _ (hr.keep hb) hP (lit_strs w cs T xs hcs) h0 h1 (by simp only [World.size_alloc]; omega) (by omega)).mono ?_
  rintro e w' ⟨x, hx, rfl, hG⟩
  exact ⟨x, hx, rfl, hG.1, (But.of_below hb).trans (hG.2.mono hb.size)⟩

theorem z1 : ({ data := #[112, 40] } : ByteArray).size = 2 := rfl
theorem z2 : ({ data := #[109, 40] } : ByteArray).size = 2 := rfl
theorem z3 : ({ data := #[108, 40] } : ByteArray).size = 2 := rfl
theorem z4 : ({ data := #[44] } : ByteArray).size = 1 := rfl
theorem z5 : ({ data := #[41] } : ByteArray).size = 1 := rfl

set_option linter.unusedSimpArgs false in
set_option maxHeartbeats 1000000 in
set_option maxRecDepth 100000 in
theorem l1Draw_any (d : Nat) : ∀ (_ : d ≤ 3) (rb P : Nat) (ground : Bool) (w : World), Rdr w rb P → P + dPick d ≤ 1099511627776 →
    Calls Tryz.prog 82 #[.pointer (some ⟨rb, 0, none⟩), .int .i64 d, .bool ground] w fun e w' => ∃ x : ByteArray, e = .returned (.string x) ∧ 0 < x.size ∧ x.size ≤ dLen d ∧ Gave rb P (dPick d) w w' := by
  induction d with
  | zero =>
    intro hd rb P ground w hr hP
    cases ground
    · go_enter Tryz.func82, Tryz.ntmps82
      go_wp2_with fail
      refine (of_new rb P 7 _ _ [⟨#[120]⟩, ⟨#[105]⟩, ⟨#[121]⟩, ⟨#[98]⟩, ⟨#[120]⟩, ⟨#[122]⟩, ⟨#[117]⟩] w hr (by omega) rfl rfl (by omega) (by omega)).mono ?_
      rintro e w' ⟨x, hx, rfl, hG⟩
      have h1 : x.size = 1 := one_of (by rfl) hx
      go_wp2_with fail
      go_ret
      exact ⟨x, rfl, by omega, by rw [h1]; exact dLen_pos 0, hG⟩
    · go_enter Tryz.func82, Tryz.ntmps82
      go_wp2_with fail
      refine (of_new rb P 4 _ _ [⟨#[105]⟩, ⟨#[98]⟩, ⟨#[105]⟩, ⟨#[117]⟩] w hr (by omega) rfl rfl (by omega) (by omega)).mono ?_
      rintro e w' ⟨x, hx, rfl, hG⟩
      have h1 : x.size = 1 := one_of (by rfl) hx
      go_wp2_with fail
      go_ret
      exact ⟨x, rfl, by omega, by rw [h1]; exact dLen_pos 0, hG⟩
  | succ d ih =>
    intro hd rb P ground w hr hP
    have hd0 : ((d : Int) + 1 == 0) = false := by simp; omega
    have e1 : dLen (d + 1) = 4 + 2 * dLen d := rfl
    have e2 : dPick (d + 1) = 2 + 2 * dPick d := rfl
    have e3 := dPick_pos d
    have e4 := dLen_pos d
    have hdl : dLen d ≤ 100 ∧ dPick d ≤ 100 := by
      have : d = 0 ∨ d = 1 ∨ d = 2 := by omega
      rcases this with rfl | rfl | rfl <;> decide
    go_enter Tryz.func82, Tryz.ntmps82
    go_wp2_with fail
    refine (pick_any rb P 3 w hr (by omega) (by omega) (by omega)).mono ?_
    rintro e w1 ⟨k, rfl, k0, k1, hG1⟩
    have hr1 := hG1.1
    by_cases hk : k = 0
    · subst hk
      cases ground
      · go_wp2_with fail
        refine (of_new rb (P + 1) 7 _ _ [⟨#[120]⟩, ⟨#[105]⟩, ⟨#[121]⟩, ⟨#[98]⟩, ⟨#[120]⟩, ⟨#[122]⟩, ⟨#[117]⟩] w1 hr1 (by omega) rfl rfl (by omega) (by omega)).mono ?_
        rintro e w' ⟨x, hx, rfl, hG⟩
        have h1 : x.size = 1 := one_of (by rfl) hx
        go_wp2_with fail
        go_ret
        exact ⟨x, rfl, by omega, by omega, (hG1.trans hG).1.le (by omega), (hG1.trans hG).2⟩
      · go_wp2_with fail
        refine (of_new rb (P + 1) 4 _ _ [⟨#[105]⟩, ⟨#[98]⟩, ⟨#[105]⟩, ⟨#[117]⟩] w1 hr1 (by omega) rfl rfl (by omega) (by omega)).mono ?_
        rintro e w' ⟨x, hx, rfl, hG⟩
        have h1 : x.size = 1 := one_of (by rfl) hx
        go_wp2_with fail
        go_ret
        exact ⟨x, rfl, by omega, by omega, (hG1.trans hG).1.le (by omega), (hG1.trans hG).2⟩
    · have hk' : (k == 0) = false := by simpa using hk
      go_wp2_with fail
      refine (pick_any rb (P + 1) 4 w1 hr1 (by omega) (by omega) (by omega)).mono ?_
      rintro e w2 ⟨m, rfl, m0, m1, hG2⟩
      have hr2 := hG2.1
      by_cases hm : m = 0
      · subst hm
        go_wp2_with fail
        refine (ih (by omega) rb _ ground w2 hr2 (by omega)).mono ?_
        rintro e w3 ⟨x, rfl, x0, x1, hG3⟩
        go_wp2_with fail
        refine (ih (by omega) rb _ ground w3 hG3.1 (by omega)).mono ?_
        rintro e w4 ⟨y, rfl, y0, y1, hG4⟩
        go_wp2_with fail
        go_ret
        have hG := hG1.trans (hG2.trans (hG3.trans hG4))
        exact ⟨_, rfl, by simp only [ByteArray.size_append, z1, z2, z3, z4, z5]; omega, by simp only [ByteArray.size_append, z1, z2, z3, z4, z5]; omega, hG.1.le (by omega), hG.2⟩
      · by_cases hm1 : m = 1
        · subst hm1
          go_wp2_with fail
          refine (ih (by omega) rb _ ground w2 hr2 (by omega)).mono ?_
          rintro e w3 ⟨x, rfl, x0, x1, hG3⟩
          go_wp2_with fail
          go_ret
          have hG := hG1.trans (hG2.trans hG3)
          exact ⟨_, rfl, by simp only [ByteArray.size_append, z1, z2, z3, z4, z5]; omega, by simp only [ByteArray.size_append, z1, z2, z3, z4, z5]; omega, hG.1.le (by omega), hG.2⟩
        · have hm' : (m == 0) = false := by simpa using hm
          have hm1' : (m == 1) = false := by simpa using hm1
          go_wp2_with fail
          refine (ih (by omega) rb _ ground w2 hr2 (by omega)).mono ?_
          rintro e w3 ⟨x, rfl, x0, x1, hG3⟩
          go_wp2_with fail
          go_ret
          have hG := hG1.trans (hG2.trans hG3)
          exact ⟨_, rfl, by simp only [ByteArray.size_append, z1, z2, z3, z4, z5]; omega, by simp only [ByteArray.size_append, z1, z2, z3, z4, z5]; omega, hG.1.le (by omega), hG.2⟩

end Go.Proofs.YteimmgajohimlaaGreat
