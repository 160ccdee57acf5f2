/- The model's source opened over an input, and a text drawn that is mostly a type. -/
import Derived.Test.YteimmgajohimlaaGreatDrawA
namespace Go.Proofs.YteimmgajohimlaaGreat
open Go.RowKit

/-- A slice of bytes. -/
def Bts (w : World) (A : Option Addr) (len : Nat) : Prop :=
  0 < len → ∃ g o, A = some ⟨g, o, none⟩ ∧ g < w.heap.size ∧ ∀ i, i < len → ∃ v : Int, w.cell? ⟨g, o + i, none⟩ = some (.int .u8 v) ∧ 0 ≤ v ∧ v ≤ 255
theorem Bts.below {w w' : World} {A : Option Addr} {len : Nat} (h : Bts w A len) (hb : Below w.heap.size w w') : Bts w' A len := by
  intro hl
  obtain ⟨g, o, e, hg, hc⟩ := h hl
  refine ⟨g, o, e, Nat.lt_of_lt_of_le hg hb.size, fun i hi => ?_⟩
  obtain ⟨v, hv, h⟩ := hc i hi
  exact ⟨v, cell_below hv hg hb, h⟩

/-- An argument of bytes, opened. -/
theorem bts_of {w : World} {a : Addr} {len : Nat} {zs : List Int} (hl : len ≤ zs.length) (hcell : ∀ i, i < zs.length → w.cell? (a.add i) = some (.int .u8 (zs.getD i 0))) (hws : ∀ n ∈ zs, (Lit.int .u8 n).wf = true) : Bts w (some a) len := by
  intro hn
  have h0 := hcell 0 (by omega)
  have e0 : a.add 0 = a := by simp [Addr.add]
  rw [e0] at h0
  obtain ⟨b, o, sp⟩ := a
  have hsp : sp = none := by
    unfold World.cell? at h0
    split at h0
    · cases sp with
      | none => rfl
      | some k => simp at h0
    · cases h0
  subst hsp
  have hb : b < w.heap.size := by
    unfold World.cell? at h0
    split at h0
    · rename_i c _ _ hh
      exact (Array.getElem?_eq_some_iff.1 hh).1
    · cases h0
  refine ⟨b, o, rfl, hb, fun i hi => ⟨zs.getD i 0, ?_, ?_⟩⟩
  · have hc := hcell i (by omega)
    rwa [show (⟨b, o, none⟩ : Addr).add i = ⟨b, o + i, none⟩ by unfold Addr.add; split <;> simp_all] at hc
  · have hm : zs.getD i 0 ∈ zs := by
      rw [List.getD, List.getElem?_eq_getElem (by omega)]
      exact List.getElem_mem _
    have := hws _ hm
    simp [Lit.wf, IntKind.min, IntKind.max, IntKind.bits, IntKind.signed] at this ⊢
    omega

/-- An opened source. -/
def Opened (w : World) (e : Ending) (w' : World) : Prop := ∃ rb, e = .returned (.pointer (some ⟨rb, 0, none⟩)) ∧ w.heap.size ≤ rb ∧ Rdr w' rb 0 ∧ Below w.heap.size w w'

theorem rdr_new {w w' : World} {A : Option Addr} {len cap : Nat} {rb : Nat} (hb : Bts w A len) (h : Below w.heap.size w w') (hrb : w.heap.size ≤ rb) (hc : w'.heap[rb]? = some (.cells #[.slice A len cap, .int .i64 0] 86 (0, 0))) (hl : len ≤ 2000) : Rdr w' rb 0 := by
  refine ⟨A, len, cap, 0, ⟨hc, hl, fun h0 => ?_⟩, Nat.le_refl _, (Array.getElem?_eq_some_iff.1 hc).1, fun g o e h0 => ?_⟩
  · obtain ⟨g, o, e, hg, hx⟩ := (hb.below h) h0
    obtain ⟨g', o', e', hg', _⟩ := hb h0
    have : g = g' := by rw [e] at e'; simp at e'; exact e'.1
    refine ⟨g, o, e, by omega, hx⟩
  · obtain ⟨g', o', e', hg', _⟩ := hb h0
    rw [e] at e'
    simp at e'
    omega

set_option maxHeartbeats 400000 in
set_option maxRecDepth 100000 in
theorem l13Open_any (A : Option Addr) (len cap : Nat) (w : World) (hl : len ≤ cap) (hm : cap ≤ maxLen) (hb : Bts w A len) :
    Calls Tryz.prog 29 #[.slice A len cap] w (Opened w) := by
  unfold maxLen at hm
  have HB := hid hb
  clear hb
  by_cases h : 2000 < len
  · obtain ⟨g, o, rfl, hg, hc⟩ := HB.out (by omega)
    clear hc
    have h' : (2000 : Int) < (len : Int) := by omega
    go_enter Tryz.func29, Tryz.ntmps29
    go_wp2_with fail
    go_ret
    refine ⟨w.heap.size, rfl, Nat.le_refl _, rdr_new (A := some ⟨g, o, none⟩) (len := 2000) (cap := cap) (w := w) (fun _ => ?_) ((Below.refl _ _).alloc (Nat.le_refl _) _) (Nat.le_refl _) (heap_new1 _ _) (Nat.le_refl _), (Below.refl _ _).alloc (Nat.le_refl _) _⟩
    obtain ⟨g', o', e, hg', hc⟩ := HB.out (by omega)
    exact ⟨g', o', e, hg', fun i hi => hc i (by omega)⟩
  · have h' : ¬ (2000 : Int) < (len : Int) := by omega
    go_enter Tryz.func29, Tryz.ntmps29
    go_wp2_with fail
    go_ret
    exact ⟨w.heap.size, rfl, Nat.le_refl _, rdr_new HB.out ((Below.refl _ _).alloc (Nat.le_refl _) _) (Nat.le_refl _) (heap_new1 _ _) (by omega), (Below.refl _ _).alloc (Nat.le_refl _) _⟩

theorem small_of {xs : List ByteArray} (h : (xs.all fun x => decide (x.size ≤ 1)) = true) {x : ByteArray} (hx : x ∈ xs) : x.size ≤ 1 := by simpa using List.all_eq_true.1 h x hx

set_option maxHeartbeats 4000000 in
set_option maxRecDepth 100000 in
theorem l1Any_any (rb P : Nat) (w : World) (hr : Rdr w rb P) (hP : P ≤ 1000000) :
    Calls Tryz.prog 51 #[.pointer (some ⟨rb, 0, none⟩)] w fun e w' => ∃ x : ByteArray, e = .returned (.string x) ∧ x.size ≤ 100 ∧ Gave rb P 100 w w' := by
  go_enter Tryz.func51, Tryz.ntmps51
  go_wp2_with fail
  refine (pick_any rb P 4 w hr (by omega) (by omega) (by omega)).mono ?_
  rintro e w1 ⟨k, rfl, k0, k1, hG1⟩
  obtain ⟨d, rfl⟩ : ∃ d : Nat, k = (d : Int) := ⟨k.toNat, by omega⟩
  have hd : d ≤ 3 := by omega
  have hdl : dLen d ≤ 76 ∧ dPick d ≤ 50 := by
    have : d = 0 ∨ d = 1 ∨ d = 2 ∨ d = 3 := by omega
    rcases this with rfl | rfl | rfl | rfl <;> decide
  go_wp2_with fail
  refine (pick_any rb (P + 1) 2 w1 hG1.1 (by omega) (by omega) (by omega)).mono ?_
  rintro e w2 ⟨m, rfl, m0, m1, hG2⟩
  obtain ⟨b, hb⟩ : ∃ b, (m == 0) = b := ⟨_, rfl⟩
  go_wp2_with fail
  refine (l1Draw_any d hd rb (P + 1 + 1) b w2 hG2.1 (by omega)).mono ?_
  rintro e w3 ⟨x, rfl, x0, x1, hG3⟩
  go_wp2_with fail
  refine (pick_any rb (P + 1 + 1 + dPick d) 16 w3 hG3.1 (by omega) (by omega) (by omega)).mono ?_
  rintro e w4 ⟨q, rfl, q0, q1, hG4⟩
  by_cases hq : 0 < q
  · go_wp2_with fail
    go_ret
    have hG := hG1.trans (hG2.trans (hG3.trans hG4))
    exact ⟨x, rfl, by omega, hG.1.le (by omega), hG.2⟩
  · have xs : (x.size : Int) ≤ 9223372036854775807 := by omega
    have xs1 : 1 ≤ (x.size : Int) := by omega
    go_wp2_with fail
    refine (pick_any rb (P + 1 + 1 + dPick d + 1) x.size w4 hG4.1 (by omega) xs1 xs).mono ?_
    rintro e w5 ⟨j, rfl, j0, j1, hG5⟩
    obtain ⟨i, rfl⟩ : ∃ i : Nat, j = (i : Int) := ⟨j.toNat, by omega⟩
    have hi : i < x.size := by omega
    have i1 : (i : Int) ≤ (x.size : Int) := by omega
    go_wp2_with fail
    have HG := hid (And.intro hG1 (And.intro hG2 (And.intro hG3 (And.intro hG4 hG5))))
    have hr5 : Rdr w5.drew rb (P + 1 + 1 + dPick d + 1 + 1) := hG5.1
    clear hG1 hG2 hG3 hG4 hG5
    go_region_with (first | (go_at_call 83; refine (of_new rb (P + 1 + 1 + dPick d + 1 + 1) 7 _ _ [⟨#[]⟩, ⟨#[40]⟩, ⟨#[41]⟩, ⟨#[44]⟩, ⟨#[105]⟩, ⟨#[113]⟩, ⟨#[88]⟩] w5.drew hr5 (by omega) rfl rfl (by omega) (by omega)).mono ?_; rintro e w6 ⟨y, hy, rfl, hG6⟩; have hy1 : y.size ≤ 1 := small_of (by rfl) hy; clear hy) | (go_at_call 52; refine (pick_any rb (P + 1 + 1 + dPick d + 1 + 1 + 1) 2 _ hG6.1 (by omega) (by omega) (by omega)).mono ?_; rintro e w7 ⟨t', rfl, t0, t1, hG7⟩; obtain ⟨t, rfl⟩ : ∃ t : Nat, t' = (t : Int) := ⟨t'.toNat, by omega⟩; have t2 : (i : Int) + (t : Int) ≤ (x.size : Int) := (by omega); have t3 : (0 : Int) ≤ (i : Int) + (t : Int) := (by omega); have t4 : IntKind.i64.wrap ((i : Int) + (t : Int)) = (i : Int) + (t : Int) := wrap_in _ (by omega)))
    all_goals
      go_wp2_with fail
      go_ret
      have hG := HG.out.1.trans (HG.out.2.1.trans (HG.out.2.2.1.trans (HG.out.2.2.2.1.trans (HG.out.2.2.2.2.trans (Gave.trans (a := w5) (b := w6) ⟨hG6.1, ((But.refl w5.heap.size rb w5).drewN 1).trans hG6.2⟩ hG7)))))
      exact ⟨_, rfl, by simp; omega, hG.1.le (by omega), hG.2⟩

end Go.Proofs.YteimmgajohimlaaGreat
