/- Matching in the model: l2Match. -/
import Derived.Test.YtpbjkblinenccaaApT
import Derived.Test.YtpbjkblinenccaaMtW
namespace Go.Proofs.Ytpbjkblinenccaa
open Go.RowKit

/-- How l2Match ends. -/
def MtEndN (w : World) (mb : Nat) (S : Nat → Prop) (r : Option (UInt8 → Option Ty)) (e : Ending) (w' : World) : Prop :=
  But w.heap.size mb w w' ∧ match r with
    | none => e = .returned (.bool false)
    | some g => e = .returned (.bool true) ∧ StndN w' mb S g

theorem bel_undrewN {a w : World} (h : Below a.drew.heap.size a.drew w) : Below a.heap.size a w := bel_undrew h
theorem bytes_neN {a b : ByteArray} (h : ¬ a = b) : (a.toList == b.toList) = false := by
  rw [ByteArray.toList_eq, ByteArray.toList_eq, beq_eq_false_iff_ne]
  exact fun e => h (WideShapes.bytes_inj e)
theorem str_injN {l l' : List UInt8} (h : strOf l = strOf l') : l = l' := by
  have := congrArg (fun b : ByteArray => b.data.toList) h
  simpa [strOf_list] using this

set_option maxHeartbeats 800000 in
set_option maxRecDepth 100000 in
theorem matchN_free (c : UInt8) (k : Nat) (hk : Hid (l2ix c = (k : Int))) (t : Ty) (f : UInt8 → Option Ty) (S : Nat → Prop) (mb : Nat) (A0 : Option Addr) (m0 cap0 : Nat) (d : UInt8) (A : Option Addr) (m cap : Nat) (w : World) (hst : StndN w mb S f) (hf : f c = none) (hr : RepN w S t (.int .u8 d.toNat) (.slice A m cap)) (hmS : ¬ S mb) (hS : ∀ g, S g → g < w.heap.size) (hd : d ≠ 0) :
    Calls Try.prog 49 #[.pointer (some ⟨mb, 0, none⟩), .agg #[.int .u8 c.toNat, .slice A0 m0 cap0], .agg #[.int .u8 d.toNat, .slice A m cap]] w (MtEndN w mb S (some (bindT f c t))) := by
  have hk12 : k < 12 := by have := (l2ix_var c).2.2.2; have := hk.out; omega
  have hmb := hst.lt
  obtain ⟨cur, h1, h2, h3⟩ := hst
  have h4 := h3 c k hk.out
  rw [hf] at h4
  have c0 := cell_blk h1 h4.1
  have c1 := cell_blk h1 h4.2
  have ff := frz_blk h1
  have HST := hid (show StndN w mb S f from ⟨cur, h1, h2, h3⟩)
  have HR := hid hr
  have HS := hid hS
  have j1 : (0 : Int) ≤ (k : Int) := by omega
  have j2 : (k : Int) < 12 := by omega
  clear h1 h2 h3 h4 hr hS
  go_enter Try.func49, Try.ntmps49
  go_wp2_with fail
  refine (l2Index_at c k hk _).mono ?_
  rintro e w1 ⟨rfl, rfl⟩
  go_wp2_with fail
  obtain ⟨W9, hW9⟩ : ∃ W9, (w.alloc (.cells #[.int .u8 c.toNat, .slice A0 m0 cap0] 59)).alloc (.cells #[.int .u8 d.toNat, .slice A m cap] 59) = W9 := ⟨_, rfl⟩
  obtain ⟨p0, p1⟩ := blk_cells2 (heap_new1 (w.alloc (.cells #[.int .u8 c.toNat, .slice A0 m0 cap0] 59)) (.cells #[.int .u8 d.toNat, .slice A m cap] 59))
  simp only [World.size_alloc] at p0 p1
  have hb9 : Below w.heap.size w W9 := by rw [← hW9]; exact ((Below.refl _ _).alloc (Nat.le_refl _) _).alloc (by simp only [World.size_alloc]; omega) _
  rw [hW9] at p0 p1 ⊢
  clear hW9
  have e0 := cell_below c0 hmb hb9
  have e1 := cell_below c1 hmb hb9
  obtain ⟨_, _, ff9⟩ := (HST.out.keep (S' := S) (hb9.block mb hmb) fun g hg => ⟨hg, hb9.block g (HS.out g hg)⟩).cells k hk12
  clear c0 c1 ff
  go_region_with fail
  all_goals
    go_wp2_with fail
    go_ret
    refine ⟨((But.of_below hb9).trans ((((But.refl w.heap.size mb W9).set _ _).set _ _).drewN 1)), rfl, ?_⟩
    refine StndN.keep (w := (W9.setCell ⟨mb, k * 2, none⟩ (.int .u8 d.toNat)).setCell ⟨mb, k * 2 + 1, none⟩ (.slice A m cap)) (S := S) ?_ rfl fun g hg => ⟨hg, rfl⟩
    exact StndN.set (w := W9) (HST.out.keep (hb9.block mb hmb) fun g hg => ⟨hg, hb9.block g (HS.out g hg)⟩) hmS hk.out hd (HR.out.keep fun g hg => ⟨hg, hb9.block g (HS.out g hg)⟩)

set_option maxHeartbeats 1600000 in
set_option maxRecDepth 100000 in
theorem matchN_bound (c : UInt8) (k : Nat) (hk : Hid (l2ix c = (k : Int))) (t u : Ty) (f : UInt8 → Option Ty) (S : Nat → Prop) (mb : Nat) (A0 : Option Addr) (m0 cap0 : Nat) (d : UInt8) (A : Option Addr) (m cap : Nat) (w : World) (hst : StndN w mb S f) (hf : f c = some u) (hr : RepN w S t (.int .u8 d.toNat) (.slice A m cap)) (hS : ∀ g, S g → g < w.heap.size) (hl : t.text.length ≤ 60) (hul : u.text.length ≤ 60)
    (o : Option (UInt8 → Option Ty)) (hoo : Hid (o = if u.text = t.text then some f else none)) :
    Calls Try.prog 49 #[.pointer (some ⟨mb, 0, none⟩), .agg #[.int .u8 c.toNat, .slice A0 m0 cap0], .agg #[.int .u8 d.toNat, .slice A m cap]] w (MtEndN w mb S o) := by
  have hk12 : k < 12 := by have := (l2ix_var c).2.2.2; have := hk.out; omega
  have hmb := hst.lt
  obtain ⟨cur, h1, h2, h3⟩ := hst
  have h4 := h3 c k hk.out
  rw [hf] at h4
  obtain ⟨du, Au, mu, capu, hdu, g0, g1, hru⟩ := h4
  have c0 := cell_blk h1 g0
  have c1 := cell_blk h1 g1
  have hdn : ((du.toNat : Int) == 0) = false := by
    rw [beq_eq_false_iff_ne]
    exact fun e => hdu (UInt8.toNat_inj.1 (by rw [show (0 : UInt8).toNat = 0 from rfl]; omega))
  have HST := hid (show StndN w mb S f from ⟨cur, h1, h2, h3⟩)
  have HR := hid hr
  have HRU := hid hru
  have HS := hid hS
  have j1 : (0 : Int) ≤ (k : Int) := by omega
  have j2 : (k : Int) < 12 := by omega
  clear h1 h2 h3 hr hS g0 g1 hru hdu
  go_enter Try.func49, Try.ntmps49
  go_wp2_with fail
  refine (l2Index_at c k hk _).mono ?_
  rintro e w1 ⟨rfl, rfl⟩
  go_wp2_with fail
  obtain ⟨W9, hW9⟩ : ∃ W9, (w.alloc (.cells #[.int .u8 c.toNat, .slice A0 m0 cap0] 59)).alloc (.cells #[.int .u8 d.toNat, .slice A m cap] 59) = W9 := ⟨_, rfl⟩
  obtain ⟨p0, p1⟩ := blk_cells2 (heap_new1 (w.alloc (.cells #[.int .u8 c.toNat, .slice A0 m0 cap0] 59)) (.cells #[.int .u8 d.toNat, .slice A m cap] 59))
  simp only [World.size_alloc] at p0 p1
  have hb9 : Below w.heap.size w W9 := by rw [← hW9]; exact ((Below.refl _ _).alloc (Nat.le_refl _) _).alloc (by simp only [World.size_alloc]; omega) _
  have z9 : W9.heap.size = w.heap.size + 2 := by rw [← hW9]; simp only [World.size_alloc]
  rw [hW9] at p0 p1 ⊢
  clear hW9
  have e0 := cell_below c0 hmb hb9
  have e1 := cell_below c1 hmb hb9
  obtain ⟨q1, hq1⟩ : ∃ q, strOf u.text = q := ⟨_, rfl⟩
  obtain ⟨q2, hq2⟩ : ∃ q, strOf t.text = q := ⟨_, rfl⟩
  have hs9 : w.heap.size ≤ W9.heap.size := by omega
  have HT1 := hid (fun (W : World) (hW : Below W9.heap.size W9 W) => textS_any u S (.int .u8 du.toNat) (.slice Au mu capu) W (HRU.out.keep fun g hg => ⟨hg, (hb9.trans (hW.mono hs9)).block g (HS.out g hg)⟩) (fun g hg => Nat.lt_of_lt_of_le (HS.out g hg) (Nat.le_trans hs9 hW.size)) (by omega))
  have HT2 := hid (fun (W : World) (hW : Below W9.heap.size W9 W) => textS_any t S (.int .u8 d.toNat) (.slice A m cap) W (HR.out.keep fun g hg => ⟨hg, (hb9.trans (hW.mono hs9)).block g (HS.out g hg)⟩) (fun g hg => Nat.lt_of_lt_of_le (HS.out g hg) (Nat.le_trans hs9 hW.size)) (by omega))
  rw [hq1] at HT1
  rw [hq2] at HT2
  have HQ1 := hid hq1
  have HQ2 := hid hq2
  have HK9 := hid (fun (w4 : World) (hb4 : Below W9.heap.size W9 w4) => And.intro (cell_below p0 (by omega) hb4) (And.intro (cell_below p1 (by omega) hb4) (And.intro (cell_below e0 (by show mb < W9.heap.size; omega) hb4) (cell_below e1 (by show mb < W9.heap.size; omega) hb4))))
  clear c0 c1 hq1 hq2 z9
  have fin : ∀ w5, Below W9.heap.size W9 w5 → But w.heap.size mb w w5 ∧ StndN w5 mb S f := fun w5 hb5 =>
    have hb := hb9.trans (hb5.mono hs9)
    ⟨But.of_below hb, HST.out.keep (hb.block mb hmb) fun g hg => ⟨hg, hb.block g (HS.out g hg)⟩⟩
  have HFIN := hid fin
  clear fin
  by_cases he : q1 = q2
  · subst he
    have HTE := hid (show u.text = t.text from str_injN (HQ1.out.trans HQ2.out.symm))
    go_region_with (go_at_call 41; first
      | (with_reducible refine (HT1.out _ (Below.refl _ _).drew).mono ?_; rintro e w4 ⟨rfl, hb4⟩; obtain ⟨k0, k1, k2, k3⟩ := HK9.out w4 (bel_undrewN hb4))
      | (with_reducible refine (HT2.out _ (Below.refl _ _).drew).mono ?_; rintro e w4 ⟨rfl, hb4⟩; obtain ⟨k0, k1, k2, k3⟩ := HK9.out w4 (bel_undrewN hb4))
      | (with_reducible refine (HT1.out _ (bel_undrewN hb4)).mono ?_; rintro e w5 ⟨rfl, hb5⟩)
      | (with_reducible refine (HT2.out _ (bel_undrewN hb4)).mono ?_; rintro e w5 ⟨rfl, hb5⟩))
    all_goals
      go_wp2_with fail
      go_ret
      rw [hoo.out, if_pos HTE.out]
      have h := HFIN.out _ ((bel_undrew hb4).trans (hb5.mono (bel_undrew hb4).size))
      exact ⟨h.1, rfl, h.2⟩
  · have HTE := hid (show ¬ u.text = t.text from fun h => he (by rw [← HQ1.out, ← HQ2.out, h]))
    have hne := bytes_neN he
    clear he
    go_region_with (go_at_call 41; first
      | (with_reducible refine (HT1.out _ (Below.refl _ _).drew).mono ?_; rintro e w4 ⟨rfl, hb4⟩; obtain ⟨k0, k1, k2, k3⟩ := HK9.out w4 (bel_undrewN hb4))
      | (with_reducible refine (HT2.out _ (Below.refl _ _).drew).mono ?_; rintro e w4 ⟨rfl, hb4⟩; obtain ⟨k0, k1, k2, k3⟩ := HK9.out w4 (bel_undrewN hb4))
      | (with_reducible refine (HT1.out _ (bel_undrewN hb4)).mono ?_; rintro e w5 ⟨rfl, hb5⟩)
      | (with_reducible refine (HT2.out _ (bel_undrewN hb4)).mono ?_; rintro e w5 ⟨rfl, hb5⟩))
    all_goals
      go_wp2_with fail
      go_ret
      rw [hoo.out, if_neg HTE.out]
      have h := HFIN.out _ ((bel_undrew hb4).trans (hb5.mono (bel_undrew hb4).size))
      exact ⟨h.1, rfl⟩

end Go.Proofs.Ytpbjkblinenccaa
