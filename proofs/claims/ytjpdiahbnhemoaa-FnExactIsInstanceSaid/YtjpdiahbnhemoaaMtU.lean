/- Matching in the model: l2Match. Matching in the model: a node's parts; l2Match whole. l2Match of the model, whole. -/
import Derived.Test.YtjpdiahbnhemoaaApT
import Derived.Test.YtjpdiahbnhemoaaMtW
import Derived.Test.YtjpdiahbnhemoaaUnW
namespace Go.Proofs.Ytjpdiahbnhemoaa
open Go.RowKit

/-- How l2Match ends. -/
def MtEndN (w : World) (mb : Nat) (S : Nat → Prop) (r : Option (UInt8 → Option Ty)) (e : Ending) (w' : World) : Prop :=
  But w.heap.size mb w w' ∧ match r with
    | none => e = .returned (.bool false)
    | some g => e = .returned (.bool true) ∧ StndN w' mb S g

theorem bel_undrewN {a w : World} (h : Below a.drew.heap.size a.drew w) : Below a.heap.size a w := bel_undrew h
theorem bytes_neN {a b : ByteArray} (h : ¬ a = b) : (a.toList == b.toList) = false := by
  rw [ByteArray.toList_eq, ByteArray.toList_eq, beq_eq_false_iff_ne]
  exact fun e => h (WideShapes.bytes_inj e)
theorem str_injN {l l' : List UInt8} (h : strOf l = strOf l') : l = l' := by
  have := congrArg (fun b : ByteArray => b.data.toList) h
  simpa [strOf_list] using this

set_option maxHeartbeats 800000 in
set_option maxRecDepth 100000 in
theorem matchN_free (c : UInt8) (k : Nat) (hk : Hid (l2ix c = (k : Int))) (t : Ty) (f : UInt8 → Option Ty) (S : Nat → Prop) (mb : Nat) (A0 : Option Addr) (m0 cap0 : Nat) (d : UInt8) (A : Option Addr) (m cap : Nat) (w : World) (hst : StndN w mb S f) (hf : f c = none) (hr : RepN w S t (.int .u8 d.toNat) (.slice A m cap)) (hmS : ¬ S mb) (hS : ∀ g, S g → g < w.heap.size) (hd : d ≠ 0) :
    Calls Try.prog 78 #[.pointer (some ⟨mb, 0, none⟩), .agg #[.int .u8 c.toNat, .slice A0 m0 cap0], .agg #[.int .u8 d.toNat, .slice A m cap]] w (MtEndN w mb S (some (bindT f c t))) := by
  have hk12 : k < 12 := by have := (l2ix_var c).2.2.2; have := hk.out; omega
  have hmb := hst.lt
  obtain ⟨cur, h1, h2, h3⟩ := hst
  have h4 := h3 c k hk.out
  rw [hf] at h4
  have c0 := cell_blk h1 h4.1
  have c1 := cell_blk h1 h4.2
  have ff := frz_blk h1
  have HST := hid (show StndN w mb S f from ⟨cur, h1, h2, h3⟩)
  have HR := hid hr
  have HS := hid hS
  have j1 : (0 : Int) ≤ (k : Int) := by omega
  have j2 : (k : Int) < 12 := by omega
  clear h1 h2 h3 h4 hr hS
  go_enter Try.func78, Try.ntmps78
  go_wp2_with fail
  refine (l2Index_at c k hk _).mono ?_
  rintro e w1 ⟨rfl, rfl⟩
  go_wp2_with fail
  obtain ⟨W9, hW9⟩ : ∃ W9, (w.alloc (.cells #[.int .u8 c.toNat, .slice A0 m0 cap0] 58)).alloc (.cells #[.int .u8 d.toNat, .slice A m cap] 58) = W9 := ⟨_, rfl⟩
  obtain ⟨p0, p1⟩ := blk_cells2 (heap_new1 (w.alloc (.cells #[.int .u8 c.toNat, .slice A0 m0 cap0] 58)) (.cells #[.int .u8 d.toNat, .slice A m cap] 58))
  simp only [World.size_alloc] at p0 p1
  have hb9 : Below w.heap.size w W9 := by rw [← hW9]; exact ((Below.refl _ _).alloc (Nat.le_refl _) _).alloc (by simp only [World.size_alloc]; omega) _
  rw [hW9] at p0 p1 ⊢
  clear hW9
  have e0 := cell_below c0 hmb hb9
  have e1 := cell_below c1 hmb hb9
  obtain ⟨_, _, ff9⟩ := (HST.out.keep (S' := S) (hb9.block mb hmb) fun g hg => ⟨hg, hb9.block g (HS.out g hg)⟩).cells k hk12
  clear c0 c1 ff
  go_region_with fail
  all_goals
    go_wp2_with fail
    go_ret
    refine ⟨((But.of_below hb9).trans ((((But.refl w.heap.size mb W9).set _ _).set _ _).drewN 1)), rfl, ?_⟩
    refine StndN.keep (w := (W9.setCell ⟨mb, k * 2, none⟩ (.int .u8 d.toNat)).setCell ⟨mb, k * 2 + 1, none⟩ (.slice A m cap)) (S := S) ?_ rfl fun g hg => ⟨hg, rfl⟩
    exact StndN.set (w := W9) (HST.out.keep (hb9.block mb hmb) fun g hg => ⟨hg, hb9.block g (HS.out g hg)⟩) hmS hk.out hd (HR.out.keep fun g hg => ⟨hg, hb9.block g (HS.out g hg)⟩)

set_option maxHeartbeats 1600000 in
set_option maxRecDepth 100000 in
theorem matchN_bound (c : UInt8) (k : Nat) (hk : Hid (l2ix c = (k : Int))) (t u : Ty) (f : UInt8 → Option Ty) (S : Nat → Prop) (mb : Nat) (A0 : Option Addr) (m0 cap0 : Nat) (d : UInt8) (A : Option Addr) (m cap : Nat) (w : World) (hst : StndN w mb S f) (hf : f c = some u) (hr : RepN w S t (.int .u8 d.toNat) (.slice A m cap)) (hS : ∀ g, S g → g < w.heap.size) (hl : t.text.length ≤ 60) (hul : u.text.length ≤ 60)
    (o : Option (UInt8 → Option Ty)) (hoo : Hid (o = if u.text = t.text then some f else none)) :
    Calls Try.prog 78 #[.pointer (some ⟨mb, 0, none⟩), .agg #[.int .u8 c.toNat, .slice A0 m0 cap0], .agg #[.int .u8 d.toNat, .slice A m cap]] w (MtEndN w mb S o) := by
  have hk12 : k < 12 := by have := (l2ix_var c).2.2.2; have := hk.out; omega
  have hmb := hst.lt
  obtain ⟨cur, h1, h2, h3⟩ := hst
  have h4 := h3 c k hk.out
  rw [hf] at h4
  obtain ⟨du, Au, mu, capu, hdu, g0, g1, hru⟩ := h4
  have c0 := cell_blk h1 g0
  have c1 := cell_blk h1 g1
  have hdn : ((du.toNat : Int) == 0) = false := by
    rw [beq_eq_false_iff_ne]
    exact fun e => hdu (UInt8.toNat_inj.1 (by rw [show (0 : UInt8).toNat = 0 from rfl]; omega))
  have HST := hid (show StndN w mb S f from ⟨cur, h1, h2, h3⟩)
  have HR := hid hr
  have HRU := hid hru
  have HS := hid hS
  have j1 : (0 : Int) ≤ (k : Int) := by omega
  have j2 : (k : Int) < 12 := by omega
  clear h1 h2 h3 hr hS g0 g1 hru hdu
  go_enter Try.func78, Try.ntmps78
  go_wp2_with fail
  refine (l2Index_at c k hk _).mono ?_
  rintro e w1 ⟨rfl, rfl⟩
  go_wp2_with fail
  obtain ⟨W9, hW9⟩ : ∃ W9, (w.alloc (.cells #[.int .u8 c.toNat, .slice A0 m0 cap0] 58)).alloc (.cells #[.int .u8 d.toNat, .slice A m cap] 58) = W9 := ⟨_, rfl⟩
  obtain ⟨p0, p1⟩ := blk_cells2 (heap_new1 (w.alloc (.cells #[.int .u8 c.toNat, .slice A0 m0 cap0] 58)) (.cells #[.int .u8 d.toNat, .slice A m cap] 58))
  simp only [World.size_alloc] at p0 p1
  have hb9 : Below w.heap.size w W9 := by rw [← hW9]; exact ((Below.refl _ _).alloc (Nat.le_refl _) _).alloc (by simp only [World.size_alloc]; omega) _
  have z9 : W9.heap.size = w.heap.size + 2 := by rw [← hW9]; simp only [World.size_alloc]
  rw [hW9] at p0 p1 ⊢
  clear hW9
  have e0 := cell_below c0 hmb hb9
  have e1 := cell_below c1 hmb hb9
  obtain ⟨q1, hq1⟩ : ∃ q, strOf u.text = q := ⟨_, rfl⟩
  obtain ⟨q2, hq2⟩ : ∃ q, strOf t.text = q := ⟨_, rfl⟩
  have hs9 : w.heap.size ≤ W9.heap.size := by omega
  have HT1 := hid (fun (W : World) (hW : Below W9.heap.size W9 W) => textS_any u S (.int .u8 du.toNat) (.slice Au mu capu) W (HRU.out.keep fun g hg => ⟨hg, (hb9.trans (hW.mono hs9)).block g (HS.out g hg)⟩) (fun g hg => Nat.lt_of_lt_of_le (HS.out g hg) (Nat.le_trans hs9 hW.size)) (by omega))
  have HT2 := hid (fun (W : World) (hW : Below W9.heap.size W9 W) => textS_any t S (.int .u8 d.toNat) (.slice A m cap) W (HR.out.keep fun g hg => ⟨hg, (hb9.trans (hW.mono hs9)).block g (HS.out g hg)⟩) (fun g hg => Nat.lt_of_lt_of_le (HS.out g hg) (Nat.le_trans hs9 hW.size)) (by omega))
  rw [hq1] at HT1
  rw [hq2] at HT2
  have HQ1 := hid hq1
  have HQ2 := hid hq2
  have HK9 := hid (fun (w4 : World) (hb4 : Below W9.heap.size W9 w4) => And.intro (cell_below p0 (by omega) hb4) (And.intro (cell_below p1 (by omega) hb4) (And.intro (cell_below e0 (by show mb < W9.heap.size; omega) hb4) (cell_below e1 (by show mb < W9.heap.size; omega) hb4))))
  clear c0 c1 hq1 hq2 z9
  have fin : ∀ w5, Below W9.heap.size W9 w5 → But w.heap.size mb w w5 ∧ StndN w5 mb S f := fun w5 hb5 =>
    have hb := hb9.trans (hb5.mono hs9)
    ⟨But.of_below hb, HST.out.keep (hb.block mb hmb) fun g hg => ⟨hg, hb.block g (HS.out g hg)⟩⟩
  have HFIN := hid fin
  clear fin
  by_cases he : q1 = q2
  · subst he
    have HTE := hid (show u.text = t.text from str_injN (HQ1.out.trans HQ2.out.symm))
    go_region_with (go_at_call 62; first
      | (with_reducible refine (HT1.out _ (Below.refl _ _).drew).mono ?_; rintro e w4 ⟨rfl, hb4⟩; obtain ⟨k0, k1, k2, k3⟩ := HK9.out w4 (bel_undrewN hb4))
      | (with_reducible refine (HT2.out _ (Below.refl _ _).drew).mono ?_; rintro e w4 ⟨rfl, hb4⟩; obtain ⟨k0, k1, k2, k3⟩ := HK9.out w4 (bel_undrewN hb4))
      | (with_reducible refine (HT1.out _ (bel_undrewN hb4)).mono ?_; rintro e w5 ⟨rfl, hb5⟩)
      | (with_reducible refine (HT2.out _ (bel_undrewN hb4)).mono ?_; rintro e w5 ⟨rfl, hb5⟩))
    all_goals
      go_wp2_with fail
      go_ret
      rw [hoo.out, if_pos HTE.out]
      have h := HFIN.out _ ((bel_undrew hb4).trans (hb5.mono (bel_undrew hb4).size))
      exact ⟨h.1, rfl, h.2⟩
  · have HTE := hid (show ¬ u.text = t.text from fun h => he (by rw [← HQ1.out, ← HQ2.out, h]))
    have hne := bytes_neN he
    clear he
    go_region_with (go_at_call 62; first
      | (with_reducible refine (HT1.out _ (Below.refl _ _).drew).mono ?_; rintro e w4 ⟨rfl, hb4⟩; obtain ⟨k0, k1, k2, k3⟩ := HK9.out w4 (bel_undrewN hb4))
      | (with_reducible refine (HT2.out _ (Below.refl _ _).drew).mono ?_; rintro e w4 ⟨rfl, hb4⟩; obtain ⟨k0, k1, k2, k3⟩ := HK9.out w4 (bel_undrewN hb4))
      | (with_reducible refine (HT1.out _ (bel_undrewN hb4)).mono ?_; rintro e w5 ⟨rfl, hb5⟩)
      | (with_reducible refine (HT2.out _ (bel_undrewN hb4)).mono ?_; rintro e w5 ⟨rfl, hb5⟩))
    all_goals
      go_wp2_with fail
      go_ret
      rw [hoo.out, if_neg HTE.out]
      have h := HFIN.out _ ((bel_undrew hb4).trans (hb5.mono (bel_undrew hb4).size))
      exact ⟨h.1, rfl⟩

end Go.Proofs.Ytjpdiahbnhemoaa

namespace Go.Proofs.Ytjpdiahbnhemoaa
open Go.RowKit

/-- Parts matched side by side. -/
def mtL : List Ty → List Ty → (UInt8 → Option Ty) → Option (UInt8 → Option Ty)
  | [], _, f => some f
  | _ :: _, [], _ => none
  | t :: ts, u :: us, f => match mt t u f with | some g => mtL ts us g | none => none
theorem mtL_snoc {ts us : List Ty} {t u : Ty} (hl : ts.length = us.length) : ∀ {f : UInt8 → Option Ty}, mtL (ts ++ [t]) (us ++ [u]) f = match mtL ts us f with | some g => mt t u g | none => none := by
  induction ts generalizing us with
  | nil =>
    intro f
    obtain rfl : us = [] := List.eq_nil_of_length_eq_zero hl.symm
    show (match mt t u f with | some g => some g | none => none) = mt t u f
    cases mt t u f <;> rfl
  | cons a ts ih =>
    intro f
    cases us with
    | nil => cases hl
    | cons b us =>
      show (match mt a b f with | some g => mtL (ts ++ [t]) (us ++ [u]) g | none => none) = match (match mt a b f with | some g => mtL ts us g | none => none) with | some g => mt t u g | none => none
      cases mt a b f with
      | none => rfl
      | some g => exact ih (by simpa using hl)
theorem mtL_none {ts us : List Ty} {t u : Ty} {f g : UInt8 → Option Ty} (hl : ts.length = us.length) (h1 : mtL ts us f = some g) (h2 : mt t u g = none) (xs ys : List Ty) : mtL (ts ++ t :: xs) (us ++ u :: ys) f = none := by
  induction ts generalizing us f with
  | nil =>
    obtain rfl : us = [] := List.eq_nil_of_length_eq_zero hl.symm
    injection h1 with h1
    subst h1
    show (match mt t u f with | some g => mtL xs ys g | none => none) = none
    rw [h2]
  | cons a ts ih =>
    cases us with
    | nil => cases hl
    | cons b us =>
      show (match mt a b f with | some g => mtL (ts ++ t :: xs) (us ++ u :: ys) g | none => none) = none
      change (match mt a b f with | some g => mtL ts us g | none => none) = some g at h1
      cases h3 : mt a b f with
      | none => rfl
      | some k =>
        rw [h3] at h1
        exact ih (by simpa using hl) h1

/-- The contract of l2Match at a pattern. -/
def MatchN (P : Ty) : Prop := ∀ (t : Ty) (f : UInt8 → Option Ty) (S : Nat → Prop) (mb : Nat) (c : UInt8) (A : Option Addr) (m cap : Nat) (d : UInt8) (B : Option Addr) (m' cap' : Nat) (w : World), StndN w mb S f → RepN w S P (.int .u8 c.toNat) (.slice A m cap) → RepN w S t (.int .u8 d.toNat) (.slice B m' cap') → ¬ S mb → (∀ g, S g → g < w.heap.size) →
  Fine f → P.ok → t.ok → t.text.length ≤ 60 → Calls Try.prog 78 #[.pointer (some ⟨mb, 0, none⟩), .agg #[.int .u8 c.toNat, .slice A m cap], .agg #[.int .u8 d.toNat, .slice B m' cap']] w (MtEndN w mb S (mt P t f))

theorem mtL_fine {ts us : List Ty} : ∀ {f g : UInt8 → Option Ty}, Fine f → (∀ u ∈ us, u.ok ∧ u.text.length ≤ 60) → mtL ts us f = some g → Fine g := by
  induction ts generalizing us with
  | nil =>
    intro f g hf _ h
    injection h with h
    rw [← h]
    exact hf
  | cons a ts ih =>
    intro f g hf hu h
    cases us with
    | nil => cases h
    | cons b us =>
      change (match mt a b f with | some g => mtL ts us g | none => none) = some g at h
      cases h3 : mt a b f with
      | none => rw [h3] at h; cases h
      | some k =>
        rw [h3] at h
        exact ih (mt_fine a b f k hf (hu b (List.mem_cons_self ..)).1 (hu b (List.mem_cons_self ..)).2 h3) (fun u hu' => hu u (List.mem_cons_of_mem _ hu')) h

set_option maxHeartbeats 2000000 in
set_option maxRecDepth 100000 in
theorem matchN_row (c : UInt8) (hc : Hid (l2ix c = -1)) (ts us : List Ty) (n capa capb : Nat) (A B : Option Addr) (hn : ts.length = n) (hu : us.length = n) (h2 : n ≤ 2) (f : UInt8 → Option Ty) (S : Nat → Prop) (mb : Nat) (w : World) (ih : ∀ t ∈ ts, MatchN t) (hst : StndN w mb S f) (ka : KidsAt w S A ts) (kb : KidsAt w S B us) (hmS : ¬ S mb) (hS : ∀ g, S g → g < w.heap.size) (hf : Fine f) (hts : ∀ t ∈ ts, t.ok) (hus : ∀ u ∈ us, u.ok ∧ u.text.length ≤ 60) :
    Calls Try.prog 78 #[.pointer (some ⟨mb, 0, none⟩), .agg #[.int .u8 c.toNat, .slice A n capa], .agg #[.int .u8 c.toNat, .slice B n capb]] w (MtEndN w mb S (mtL ts us f)) := by
  have hmb := hst.lt
  have HST := hid hst
  have KA := hid ka
  have KB := hid kb
  have HN := hid hn
  have HU := hid hu
  have IH := hid ih
  have HS := hid hS
  have HF := hid hf
  have HTS := hid hts
  have HUS := hid hus
  obtain ⟨o, ho⟩ : ∃ o, mtL ts us f = o := ⟨_, rfl⟩
  rw [ho]
  have HO := hid ho
  clear hst ka kb hn hu ih hS hf hts hus ho
  go_enter Try.func78, Try.ntmps78
  go_wp2_with fail
  refine (l2Index_at c (-1) hc _).mono ?_
  rintro e w1 ⟨rfl, rfl⟩
  go_wp2_with fail
  obtain ⟨W9, hW9⟩ : ∃ W9, (w.alloc (.cells #[.int .u8 c.toNat, .slice A n capa] 58)).alloc (.cells #[.int .u8 c.toNat, .slice B n capb] 58) = W9 := ⟨_, rfl⟩
  obtain ⟨p0, p1⟩ := blk_cells2 (heap_new1 (w.alloc (.cells #[.int .u8 c.toNat, .slice A n capa] 58)) (.cells #[.int .u8 c.toNat, .slice B n capb] 58))
  simp only [World.size_alloc] at p0 p1
  have o1 : W9.cell? ⟨w.heap.size, 1, none⟩ = some (.slice A n capa) := by
    rw [← hW9, World.cell?_alloc_lt _ _ _ (by simp only [World.size_alloc]; omega)]
    exact (blk_cells2 (heap_new1 w (.cells #[.int .u8 c.toNat, .slice A n capa] 58))).2
  have hb9 : Below w.heap.size w W9 := by rw [← hW9]; exact ((Below.refl _ _).alloc (Nat.le_refl _) _).alloc (by simp only [World.size_alloc]; omega) _
  have z9 : W9.heap.size = w.heap.size + 2 := by rw [← hW9]; simp only [World.size_alloc]
  rw [hW9] at p0 p1 ⊢
  clear hW9
  have HST9 := hid (show StndN W9 mb S f from HST.out.keep (hb9.block mb hmb) fun g hg => ⟨hg, hb9.block g (HS.out g hg)⟩)
  have P1 := hid p1
  have O1 := hid o1
  have Z9 := hid z9
  clear p0 p1 o1 z9
  go_loopw [43] (fun v wr => ∃ (i : Nat) (fi : UInt8 → Option Ty), i ≤ n ∧ v = .int .i64 i ∧ Hid (mtL (ts.take i) (us.take i) f = some fi) ∧ StndN wr mb S fi ∧ But W9.heap.size mb W9 wr) (fun v _ => n - (intOf v).toNat)
  case atStart => exact ⟨0, f, Nat.zero_le _, rfl, rfl, HST9.out, But.refl _ _ _⟩
  case round =>
    obtain ⟨i, fi, hi, rfl, HM, hst, hbut⟩ := hrel
    have HSTI := hid hst
    have hz := Z9.out
    have zr := hbut.size
    have hball : But w.heap.size mb w wr := (But.of_below hb9).trans (hbut.mono (by omega))
    have HBALL := hid hball
    clear hst
    by_cases hlt : i < n
    · have hti : ts[i]? = some (ts[i]'(by have := HN.out; omega)) := List.getElem?_eq_getElem _
      have hui : us[i]? = some (us[i]'(by have := HU.out; omega)) := List.getElem?_eq_getElem _
      obtain ⟨a, ha⟩ : ∃ a, ts[i]'(by have := HN.out; omega) = a := ⟨_, rfl⟩
      obtain ⟨b, hb⟩ : ∃ b, us[i]'(by have := HU.out; omega) = b := ⟨_, rfl⟩
      rw [ha] at hti
      rw [hb] at hui
      obtain ⟨ga, c1, A1, m1, cap1, rfl, hga, hk1, hk2, hkr⟩ := KA.out i a hti
      obtain ⟨gb, c2, A2, m2, cap2, rfl, hgb, hl1, hl2, hlr⟩ := KB.out i b hui
      have hkS : ∀ k, S k → wr.heap[k]? = w.heap[k]? := fun k hk => hball.block k (HS.out k hk) (by rintro rfl; exact hmS hk)
      have k1 := (World.cell?_of_block (w := w) (w' := wr) (a := ⟨ga, i * 2, none⟩) (hkS ga hga)).trans hk1
      have k2 := (World.cell?_of_block (w := w) (w' := wr) (a := ⟨ga, i * 2 + 1, none⟩) (hkS ga hga)).trans hk2
      have l1 := (World.cell?_of_block (w := w) (w' := wr) (a := ⟨gb, i * 2, none⟩) (hkS gb hgb)).trans hl1
      have l2 := (World.cell?_of_block (w := w) (w' := wr) (a := ⟨gb, i * 2 + 1, none⟩) (hkS gb hgb)).trans hl2
      have p1 := (World.cell?_of_block (w := W9) (w' := wr) (a := ⟨w.heap.size + 1, 1, none⟩) (hbut.block _ (by show w.heap.size + 1 < _; omega) (by show w.heap.size + 1 ≠ _; omega))).trans P1.out
      have o1 := (World.cell?_of_block (w := W9) (w' := wr) (a := ⟨w.heap.size, 1, none⟩) (hbut.block _ (by show w.heap.size < _; omega) (by show w.heap.size ≠ _; omega))).trans O1.out
      have hfi : Fine fi := mtL_fine HF.out (fun u hu' => HUS.out u (List.mem_of_mem_take hu')) HM.out
      have hI := IH.out a (List.mem_of_getElem? hti) b fi S mb c1 A1 m1 cap1 c2 A2 m2 cap2 wr.drew (HSTI.out.keep rfl fun g hg => ⟨hg, rfl⟩) (hkr.keep fun g hg => ⟨hg, hkS g hg⟩) (hlr.keep fun g hg => ⟨hg, hkS g hg⟩) hmS (fun g hg => by have := HS.out g hg; have := hball.size; show g < wr.heap.size; omega) hfi (HTS.out a (List.mem_of_getElem? hti)) (HUS.out b (List.mem_of_getElem? hui)).1 (HUS.out b (List.mem_of_getElem? hui)).2
      have i1 : (0 : Int) ≤ (i : Int) := by omega
      have i2 : (i : Int) < (n : Int) := by omega
      have HTI := hid hti
      have HUI := hid hui
      clear hk1 hk2 hl1 hl2 hkr hlr ha hb hkS hfi hti hui hz
      rcases hmt : mt a b fi with _ | g
      · rw [hmt] at hI
        have hI' : Calls Try.prog 78 #[.pointer (some ⟨mb, 0, none⟩), .agg #[.int .u8 c1.toNat, .slice A1 m1 cap1], .agg #[.int .u8 c2.toNat, .slice A2 m2 cap2]] wr.drew fun e w' => e = .returned (.bool false) ∧ But wr.heap.size mb wr w' := hI.mono fun e w' h => ⟨h.2, ((But.refl _ _ wr).drewN 1).trans h.1⟩
        have HI := hid hI'
        have HMT := hid hmt
        clear hI hI' hmt
        go_wp2_with fail
        go_region_with (go_at_call 78; refine HI.out.mono ?_; rintro e w4 ⟨rfl, hb4⟩)
        all_goals
          go_wp2_with fail
          go_ret
          refine ⟨HBALL.out.trans (hb4.mono HBALL.out.size), ?_⟩
          have hno : o = none := by
            rw [← HO.out]
            have e1 : ts = ts.take i ++ a :: ts.drop (i + 1) := by
              have := List.getElem?_eq_some_iff.1 HTI.out
              obtain ⟨h1, h2⟩ := this
              rw [← h2, List.getElem_cons_drop, List.take_append_drop]
            have e2 : us = us.take i ++ b :: us.drop (i + 1) := by
              have := List.getElem?_eq_some_iff.1 HUI.out
              obtain ⟨h1, h2⟩ := this
              rw [← h2, List.getElem_cons_drop, List.take_append_drop]
            rw [e1, e2]
            exact mtL_none (by rw [List.length_take, List.length_take, HN.out, HU.out]) HM.out HMT.out _ _
          rw [hno]
          rfl
      · rw [hmt] at hI
        have hI' : Calls Try.prog 78 #[.pointer (some ⟨mb, 0, none⟩), .agg #[.int .u8 c1.toNat, .slice A1 m1 cap1], .agg #[.int .u8 c2.toNat, .slice A2 m2 cap2]] wr.drew fun e w' => e = .returned (.bool true) ∧ But wr.heap.size mb wr w' ∧ StndN w' mb S g := hI.mono fun e w' h => ⟨h.2.1, ((But.refl _ _ wr).drewN 1).trans h.1, h.2.2⟩
        have HI := hid hI'
        have HMT := hid hmt
        clear hI hI' hmt
        go_wp2_with fail
        go_region_with (go_at_call 78; refine HI.out.mono ?_; rintro e w4 ⟨rfl, hb4, hst4⟩; have HST4 := hid hst4; clear hst4)
        all_goals
          go_wp2_with fail
          go_roundw
          case rel =>
            refine ⟨i + 1, g, hlt, by go_num, ?_, HST4.out, hbut.trans (hb4.mono zr)⟩
            show mtL _ _ _ = _
            rw [List.take_add_one, List.take_add_one, HTI.out, HUI.out]
            show mtL (ts.take i ++ [a]) (us.take i ++ [b]) f = some g
            rw [mtL_snoc (by rw [List.length_take, List.length_take, HN.out, HU.out]), HM.out]
            exact HMT.out
          case measure => simp [intOf]; omega
    · have HIN := hid (show i = n by omega)
      have HFI := hid (show o = some fi by
        have h := HM.out
        rw [List.take_of_length_le (by have := HN.out; omega), List.take_of_length_le (by have := HU.out; omega), HO.out] at h
        exact h)
      go_wp2_with fail
      go_ret
      rw [HFI.out]
      exact ⟨HBALL.out, rfl, HSTI.out⟩

end Go.Proofs.Ytjpdiahbnhemoaa

namespace Go.Proofs.Ytjpdiahbnhemoaa
open Go.RowKit

set_option maxHeartbeats 800000 in
set_option maxRecDepth 100000 in
theorem matchN_clash (c d : UInt8) (hc : Hid (l2ix c = -1)) (hne : c ≠ d) (A B : Option Addr) (m cap m' cap' mb : Nat) (w : World) (S : Nat → Prop) :
    Calls Try.prog 78 #[.pointer (some ⟨mb, 0, none⟩), .agg #[.int .u8 c.toNat, .slice A m cap], .agg #[.int .u8 d.toNat, .slice B m' cap']] w (MtEndN w mb S none) := by
  have hcd : ((c.toNat : Int) != d.toNat) = true := by
    simp only [bne_iff_ne, ne_eq]
    intro e
    exact hne (UInt8.toNat_inj.1 (by omega))
  go_enter Try.func78, Try.ntmps78
  go_wp2_with fail
  refine (l2Index_at c (-1) hc _).mono ?_
  rintro e w1 ⟨rfl, rfl⟩
  go_wp2_with fail
  go_ret
  exact ⟨But.of_below (((Below.refl _ _).alloc (Nat.le_refl _) _).alloc (by simp only [World.size_alloc]; omega) _), rfl⟩

theorem ar_ix (c : UInt8) : (ar c = 0 → isVarX c = false → l2ix c = -1) ∧ (ar c = 0 → isVarX c = true → 0 ≤ l2ix c) := by
  refine u8_all (p := fun c => (ar c = 0 → isVarX c = false → l2ix c = -1) ∧ (ar c = 0 → isVarX c = true → 0 ≤ l2ix c)) ?_ c
  decide +kernel
theorem repN_head {w : World} {S : Nat → Prop} {t : Ty} {c : UInt8} {p : Value} (h : RepN w S t (.int .u8 c.toNat) p) : c = t.top := by
  have key : ∀ d : UInt8, (Value.int .u8 (c.toNat : Int) = .int .u8 d.toNat) → c = d := by
    intro d e
    simp only [Value.int.injEq, true_and] at e
    exact UInt8.toNat_inj.1 (by omega)
  cases t with
  | lf d => exact key d h.1
  | un d a => exact key d h.1
  | bi d a b => exact key d h.1
theorem mtC_clash {P t : Ty} {f : UInt8 → Option Ty} (hv : ∀ c, P = .lf c → isVarX c = false) (h : P.top ≠ t.top) : mt P t f = none := by
  cases P with
  | lf c =>
    unfold mt
    rw [if_neg (by rw [hv c rfl]; decide)]
    cases t with
    | lf d => exact if_neg h
    | un d a => rfl
    | bi d a a' => rfl
  | un c a =>
    cases t with
    | lf d => rfl
    | un d a => exact if_neg h
    | bi d a a' => rfl
  | bi c a a' =>
    cases t with
    | lf d => rfl
    | un d a => rfl
    | bi d y y' => exact if_neg h

theorem matchN_any (P : Ty) : MatchN P := by
  induction P with
  | lf c0 =>
    intro t f S mb c A m cap d B m' cap' w hst hr1 hr2 hmS hS hf hP ht hl
    obtain rfl : c = c0 := repN_head hr1
    rcases hv : isVarX c with _ | _
    · have hix := (ar_ix c).1 hP hv
      by_cases htop : c = t.top
      · cases t with
        | lf e =>
          obtain rfl : c = e := htop
          obtain rfl : d = c := repN_head hr2
          have hm : mt (.lf d) (.lf d) f = some f := by
            unfold mt
            rw [if_neg (by rw [hv]; decide)]
            exact if_pos rfl
          rw [hm]
          obtain ⟨_, A', cp, hA⟩ := hr1
          obtain ⟨_, B', cp', hB⟩ := hr2
          simp only [Value.slice.injEq] at hA hB
          obtain ⟨rfl, rfl, rfl⟩ := hA
          obtain ⟨rfl, rfl, rfl⟩ := hB
          exact matchN_row d (hid hix) [] [] 0 cap cap' A B rfl rfl (by omega) f S mb w (fun t ht => by cases ht) hst (fun j a h => by simp at h) (fun j a h => by simp at h) hmS hS hf (fun t ht => by cases ht) (fun u hu => by cases hu)
        | un e a =>
          have h1 : ar c = 0 := hP
          rw [show c = e from htop, ht.1] at h1
          cases h1
        | bi e a a' =>
          have h1 : ar c = 0 := hP
          rw [show c = e from htop, ht.1] at h1
          cases h1
      · rw [mtC_clash (P := .lf c) (t := t) (f := f) (fun e he => by injection he with he; rw [← he]; exact hv) htop]
        exact matchN_clash c d (hid hix) (by rw [repN_head hr2]; exact htop) A B m cap m' cap' mb w S
    · obtain ⟨k, hk⟩ : ∃ k : Nat, l2ix c = (k : Int) := ⟨(l2ix c).toNat, by have := (ar_ix c).2 hP hv; omega⟩
      rcases hfc : f c with _ | u
      · have hm : mt (.lf c) t f = some (bindT f c t) := by
          unfold mt
          rw [if_pos hv, hfc]
        rw [hm]
        exact matchN_free c k (hid hk) t f S mb A m cap d B m' cap' w hst hfc hr2 hmS hS (text_ne0 (ok_inner ht) hr2)
      · have hm : mt (.lf c) t f = if u.text = t.text then some f else none := by
          unfold mt
          rw [if_pos hv, hfc]
        exact matchN_bound c k (hid hk) t u f S mb A m cap d B m' cap' w hst hfc hr2 hS hl (hf c u hfc).2 _ (hid hm)
  | un c0 a ih =>
    intro t f S mb c A m cap d B m' cap' w hst hr1 hr2 hmS hS hf hP ht hl
    obtain rfl : c = c0 := repN_head hr1
    have hix := ((ar_inner c).2.1 hP.1).1
    by_cases htop : c = t.top
    · cases t with
      | un e b =>
        obtain rfl : c = e := htop
        obtain rfl : d = c := repN_head hr2
        have hm : mt (.un d a) (.un d b) f = mtL [a] [b] f := by
          show (if d = d then mt a b f else none) = (match mt a b f with | some g => some g | none => none)
          rw [if_pos rfl]
          cases mt a b f <;> rfl
        rw [hm]
        obtain ⟨_, A', cp, hA, ka⟩ := un_kids hr1
        obtain ⟨_, B', cp', hB, kb⟩ := un_kids hr2
        simp only [Value.slice.injEq] at hA hB
        obtain ⟨rfl, rfl, rfl⟩ := hA
        obtain ⟨rfl, rfl, rfl⟩ := hB
        refine matchN_row d (hid hix) [a] [b] 1 cap cap' A B rfl rfl (by omega) f S mb w (fun t ht => ?_) hst ka kb hmS hS hf (fun t ht => ?_) (fun u hu => ?_)
        · obtain rfl : t = a := by simpa using ht
          exact ih
        · obtain rfl : t = a := by simpa using ht
          exact hP.2
        · obtain rfl : u = b := by simpa using hu
          exact ⟨ht.2, by simp [Ty.text] at hl; omega⟩
      | lf e =>
        have h1 : ar c = 1 := hP.1
        rw [show c = e from htop, show ar e = 0 from ht] at h1
        cases h1
      | bi e a1 a' =>
        have h1 : ar c = 1 := hP.1
        rw [show c = e from htop, ht.1] at h1
        cases h1
    · rw [mtC_clash (P := .un c a) (t := t) (f := f) (fun e he => by cases he) htop]
      exact matchN_clash c d (hid hix) (by rw [repN_head hr2]; exact htop) A B m cap m' cap' mb w S
  | bi c0 a a' iha ihb =>
    intro t f S mb c A m cap d B m' cap' w hst hr1 hr2 hmS hS hf hP ht hl
    obtain rfl : c = c0 := repN_head hr1
    have hix := ((ar_inner c).2.2 hP.1).1
    by_cases htop : c = t.top
    · cases t with
      | bi e b b' =>
        obtain rfl : c = e := htop
        obtain rfl : d = c := repN_head hr2
        have hm : mt (.bi d a a') (.bi d b b') f = mtL [a, a'] [b, b'] f := by
          show (if d = d then (match mt a b f with | some g => mt a' b' g | none => none) else none) = (match mt a b f with | some g => (match mt a' b' g with | some h => some h | none => none) | none => none)
          rw [if_pos rfl]
          cases mt a b f with
          | none => rfl
          | some g =>
            show mt a' b' g = (match mt a' b' g with | some h => some h | none => none)
            cases mt a' b' g <;> rfl
        rw [hm]
        obtain ⟨_, A', cp, hA, ka⟩ := bi_kids hr1
        obtain ⟨_, B', cp', hB, kb⟩ := bi_kids hr2
        simp only [Value.slice.injEq] at hA hB
        obtain ⟨rfl, rfl, rfl⟩ := hA
        obtain ⟨rfl, rfl, rfl⟩ := hB
        refine matchN_row d (hid hix) [a, a'] [b, b'] 2 cap cap' A B rfl rfl (by omega) f S mb w (fun t ht => ?_) hst ka kb hmS hS hf (fun t ht => ?_) (fun u hu => ?_)
        · simp only [List.mem_cons, List.not_mem_nil, or_false] at ht
          rcases ht with rfl | rfl
          · exact iha
          · exact ihb
        · simp only [List.mem_cons, List.not_mem_nil, or_false] at ht
          rcases ht with rfl | rfl
          · exact hP.2.1
          · exact hP.2.2
        · simp only [List.mem_cons, List.not_mem_nil, or_false] at hu
          rcases hu with rfl | rfl
          · exact ⟨ht.2.1, by simp [Ty.text] at hl; omega⟩
          · exact ⟨ht.2.2, by simp [Ty.text] at hl; omega⟩
      | lf e =>
        have h1 : ar c = 2 := hP.1
        rw [show c = e from htop, show ar e = 0 from ht] at h1
        cases h1
      | un e a1 =>
        have h1 : ar c = 2 := hP.1
        rw [show c = e from htop, ht.1] at h1
        cases h1
    · rw [mtC_clash (P := .bi c a a') (t := t) (f := f) (fun e he => by cases he) htop]
      exact matchN_clash c d (hid hix) (by rw [repN_head hr2]; exact htop) A B m cap m' cap' mb w S

end Go.Proofs.Ytjpdiahbnhemoaa
