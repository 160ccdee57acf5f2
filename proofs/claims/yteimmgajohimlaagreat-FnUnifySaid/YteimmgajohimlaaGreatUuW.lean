/- l2Unify of the model, whole. -/
import Derived.Test.YteimmgajohimlaaGreatUuV
import Derived.Test.YteimmgajohimlaaGreatUuX
import Derived.Test.YteimmgajohimlaaGreatUuT
namespace Go.Proofs.YteimmgajohimlaaGreat
open Go.RowKit

/-- The model binds the variable that comes first. -/
def ltN (c d : UInt8) : Bool := decide (l2ix c < l2ix d)
theorem inF_bind {f : UInt8 → Option Ty} (h : InF f) {c : UInt8} {t : Ty} (ht : t.inner) : InF (bindU f c t) := by
  intro d u hd
  unfold bindU at hd
  split at hd
  · injection hd with hd
    subst hd
    exact ht
  · exact h d u hd
theorem thr_last {V : UInt8 → Bool} {f : UInt8 → Option Ty} {a b : Ty} (h : Thr V f a b) : ∀ c, b = .lf c → V c = true → f c = none := by
  induction h with
  | stay h => exact h
  | step _ _ _ ih => exact ih
theorem uni_inner {V : UInt8 → Bool} {lt : UInt8 → UInt8 → Bool} {f : UInt8 → Option Ty} {a b : Ty} {o : Option (UInt8 → Option Ty)} (h : Uni V lt f a b o) : InF f → a.inner → b.inner → ∀ g, o = some g → InF g := by
  induction h with
  | same _ _ _ => intro hf _ _ g hg; injection hg with hg; rw [← hg]; exact hf
  | less h1 h2 _ _ _ _ => intro hf ha hb g hg; injection hg with hg; rw [← hg]; exact inF_bind hf (thr_inner hf h2 hb)
  | more h1 h2 _ _ _ _ => intro hf ha hb g hg; injection hg with hg; rw [← hg]; exact inF_bind hf (thr_inner hf h1 ha)
  | left h1 h2 _ _ _ =>
    intro hf ha hb g hg
    split at hg
    · cases hg
    · injection hg with hg; rw [← hg]; exact inF_bind hf (thr_inner hf h2 hb)
  | right h1 h2 _ _ _ =>
    intro hf ha hb g hg
    split at hg
    · cases hg
    · injection hg with hg; rw [← hg]; exact inF_bind hf (thr_inner hf h1 ha)
  | con _ _ _ => intro hf _ _ g hg; injection hg with hg; rw [← hg]; exact hf
  | clash _ _ _ _ _ => intro _ _ _ g hg; cases hg
  | un h1 h2 _ ih => intro hf ha hb g hg; exact ih hf (thr_inner hf h1 ha).2.2 (thr_inner hf h2 hb).2.2 g hg
  | no _ _ _ _ => intro _ _ _ g hg; cases hg
  | bi h1 h2 _ _ iha ihb =>
    intro hf ha hb g hg
    exact ihb (iha hf (thr_inner hf h1 ha).2.2.1 (thr_inner hf h2 hb).2.2.1 _ rfl) (thr_inner hf h1 ha).2.2.2 (thr_inner hf h2 hb).2.2.2 g hg

/-- The contract of l2Unify. -/
def UnifyN (f : UInt8 → Option Ty) (a b : Ty) (o : Option (UInt8 → Option Ty)) : Prop := InF f → a.inner → b.inner → ∀ (mb : Nat) (S : Nat → Prop) (c : UInt8) (A : Option Addr) (m cap : Nat) (d : UInt8) (B : Option Addr) (m' cap' : Nat) (w : World), StndN w mb S f → RepN w S a (.int .u8 c.toNat) (.slice A m cap) → RepN w S b (.int .u8 d.toNat) (.slice B m' cap') → ¬ S mb → (∀ g, S g → g < w.heap.size) →
  Calls Tryz.prog 77 #[.pointer (some ⟨mb, 0, none⟩), .agg #[.int .u8 c.toNat, .slice A m cap], .agg #[.int .u8 d.toNat, .slice B m' cap']] w (MtEndN w mb S o)
theorem mtN_no {w : World} {mb : Nat} {S : Nat → Prop} {e : Ending} {w' : World} (h : e = .returned (.bool false) ∧ Below w.heap.size w w') : MtEndN w mb S none e w' := ⟨But.of_below h.2, h.1⟩

theorem unifyN_left {f : UInt8 → Option Ty} {a b n : Ty} {v : UInt8} {r : Bool} (h1 : Thr isN f a (.lf v)) (h2 : Thr isN f b n) (hv : isN v = true) (hn : NoVar isN n ∨ ∃ u, n = .lf u ∧ isN u = true ∧ ltN v u = true) (ho : Occ isN f v n r) : UnifyN f a b (if r = true then none else some (bindU f v n)) := by
  intro hf ha hb mb S c A m cap d B m' cap' w hst hr1 hr2 hmS hS
  have hmb := hst.lt
  obtain ⟨na, ca, pa, hwa, hra⟩ := wk_of hf h1 mb S w hst ha c _ hr1
  obtain ⟨nb, cb, pb, hwb, hrb⟩ := wk_of hf h2 mb S w hst hb d _ hr2
  obtain rfl : ca = v := repN_head hra
  obtain ⟨_, Aa, capa, rfl⟩ := hra
  obtain ⟨cb', Ab, mbb, capb, hcb, rfl⟩ := hrb.form
  have hin := thr_inner hf h2 hb
  have hO := occN_any hf hv ho mb S w hst hS hin cb Ab mbb capb hrb
  obtain ⟨k, hk, _⟩ := isN_pos hv
  have fin : ∀ e w', (e = .returned (.bool true) ∧ ∃ w4, Below w.heap.size w w4 ∧ w' = ((w4.setCell ⟨mb, k * 2, none⟩ (.int .u8 cb.toNat)).setCell ⟨mb, k * 2 + 1, none⟩ (.slice Ab mbb capb)).drew) → MtEndN w mb S (some (bindU f ca n)) e w' := by
    rintro e w' ⟨rfl, w4, hb4, rfl⟩
    refine ⟨(((But.of_below hb4).set _ _).set _ _).drewN 1, rfl, ?_⟩
    refine StndN.keep (w := (w4.setCell ⟨mb, k * 2, none⟩ (.int .u8 cb.toNat)).setCell ⟨mb, k * 2 + 1, none⟩ (.slice Ab mbb capb)) (S := S) ?_ rfl fun g hg => ⟨hg, rfl⟩
    exact StndN.set (w := w4) (hst.keep (hb4.block mb hmb) fun g hg => ⟨hg, hb4.block g (hS g hg)⟩) hmS hk (text_ne0 hin hrb) (hrb.keep fun g hg => ⟨hg, hb4.block g (hS g hg)⟩)
  have hcbn : cb = n.top := repN_head hrb
  rcases hn with hn | ⟨u, rfl, hu, hlt⟩
  · have hix : l2ix cb = -1 := by
      rw [hcbn]
      cases n with
      | lf e => exact isN_neg (hn e rfl)
      | un e x => exact hin.1
      | bi e x y => exact hin.1
    cases r with
    | true => exact (uN_occ_n mb w na nb c d ca cb A m cap B m' cap' Aa 0 capa Ab mbb capb hwa hwb hmb k hk hix hO).mono fun e w' h => mtN_no h
    | false => exact (uN_bind_n mb w na nb c d ca cb A m cap B m' cap' Aa 0 capa Ab mbb capb hwa hwb hmb S f hst hS k hk hix hO).mono fin
  · obtain ⟨k2, hk2, _⟩ := isN_pos hu
    have hk2' : l2ix cb = (k2 : Int) := by rw [hcbn]; exact hk2
    have hl : k < k2 := by
      have : l2ix ca < l2ix u := by simpa [ltN] using hlt
      omega
    cases r with
    | true => exact (uN_occ_v mb w na nb c d ca cb A m cap B m' cap' Aa 0 capa Ab mbb capb hwa hwb hmb k hk k2 hk2' hl hO).mono fun e w' h => mtN_no h
    | false => exact (uN_bind_v mb w na nb c d ca cb A m cap B m' cap' Aa 0 capa Ab mbb capb hwa hwb hmb S f hst hS k hk k2 hk2' hl hO).mono fin
theorem thr_self {V : UInt8 → Bool} {f : UInt8 → Option Ty} {a b : Ty} (h : Thr V f a b) : Thr V f b b := .stay (thr_last h)
theorem u8_nb {c d : UInt8} (h : c ≠ d) : (c == d) = false := beq_eq_false_iff_ne.2 h

theorem unifyN_any {f : UInt8 → Option Ty} {a b : Ty} {o : Option (UInt8 → Option Ty)} (h : Uni isN ltN f a b o) : UnifyN f a b o := by
  induction h with
  | @same f a b v h1 h2 h3 =>
    intro hf ha hb mb S c A m cap d B m' cap' w hst hr1 hr2 hmS hS
    obtain ⟨na, ca, pa, hwa, hra⟩ := wk_of hf h1 mb S w hst ha c _ hr1
    obtain ⟨nb, cb, pb, hwb, hrb⟩ := wk_of hf h2 mb S w hst hb d _ hr2
    obtain rfl : ca = v := repN_head hra
    obtain rfl : cb = ca := repN_head hrb
    obtain ⟨_, Aa, capa, rfl⟩ := hra
    obtain ⟨_, Ab, capb, rfl⟩ := hrb
    obtain ⟨k, hk, _⟩ := isN_pos h3
    refine (uN_same mb w na nb c d cb cb A m cap B m' cap' Aa 0 capa Ab 0 capb hwa hwb hst.lt k hk hk).mono ?_
    rintro e w' ⟨rfl, hb'⟩
    exact ⟨But.of_below hb', rfl, hst.keep (hb'.block mb hst.lt) fun g hg => ⟨hg, hb'.block g (hS g hg)⟩⟩
  | @less f a b v u h1 h2 h3 h4 h5 h6 =>
    have h := unifyN_left h1 h2 h3 (.inr ⟨u, rfl, h4, h6⟩) (.var (thr_self h2) h4)
    rw [u8_nb (Ne.symm h5)] at h
    exact h
  | @more f a b v u h1 h2 h3 h4 h5 h6 =>
    intro hf ha hb mb S c A m cap d B m' cap' w hst hr1 hr2 hmS hS
    obtain ⟨na, ca, pa, hwa, hra⟩ := wk_of hf h1 mb S w hst ha c _ hr1
    obtain ⟨nb, cb, pb, hwb, hrb⟩ := wk_of hf h2 mb S w hst hb d _ hr2
    obtain rfl : ca = v := repN_head hra
    obtain rfl : cb = u := repN_head hrb
    have hra' := hra
    have hrb' := hrb
    obtain ⟨_, Aa, capa, rfl⟩ := hra
    obtain ⟨_, Ab, capb, rfl⟩ := hrb
    obtain ⟨k, hk, _⟩ := isN_pos h3
    obtain ⟨k2, hk2, _⟩ := isN_pos h4
    have hnl : ¬ l2ix ca < l2ix cb := by simpa [ltN] using h6
    have hne : k ≠ k2 := fun e => h5 (l2ix_inj hk (e ▸ hk2))
    have hl : k2 < k := by omega
    have hL := unifyN_left (a := .lf cb) (b := .lf ca) (thr_self h2) (thr_self h1) h4 (.inr ⟨ca, rfl, h3, by simp [ltN]; omega⟩) (.var (thr_self h1) h3)
    rw [u8_nb h5] at hL
    refine uN_swap_v mb w na nb c d ca cb A m cap B m' cap' Aa 0 capa Ab 0 capb hwa hwb hst.lt k2 hk2 k hk hl S _ fun W hW => ?_
    exact hL hf (thr_inner hf h2 hb) (thr_inner hf h1 ha) mb S cb Ab 0 capb ca Aa 0 capa W (hst.keep (hW.block mb hst.lt) fun g hg => ⟨hg, hW.block g (hS g hg)⟩) (hrb'.keep fun g hg => ⟨hg, hW.block g (hS g hg)⟩) (hra'.keep fun g hg => ⟨hg, hW.block g (hS g hg)⟩) hmS (fun g hg => Nat.lt_of_lt_of_le (hS g hg) hW.size)
  | @left f a b n v r h1 h2 h3 h4 h5 => exact unifyN_left h1 h2 h3 (.inl h4) h5
  | @right f a b n u r h1 h2 h3 h4 h5 =>
    intro hf ha hb mb S c A m cap d B m' cap' w hst hr1 hr2 hmS hS
    obtain ⟨na, ca, pa, hwa, hra⟩ := wk_of hf h1 mb S w hst ha c _ hr1
    obtain ⟨nb, cb, pb, hwb, hrb⟩ := wk_of hf h2 mb S w hst hb d _ hr2
    obtain rfl : cb = u := repN_head hrb
    have hrb' := hrb
    obtain ⟨_, Ab, capb, rfl⟩ := hrb
    obtain ⟨ca', Aa, maa, capa, hca, rfl⟩ := hra.form
    have hin := thr_inner hf h1 ha
    have hix : l2ix ca = -1 := by
      rw [show ca = n.top from repN_head hra]
      cases n with
      | lf e => exact isN_neg (h4 e rfl)
      | un e x => exact hin.1
      | bi e x y => exact hin.1
    obtain ⟨k2, hk2, _⟩ := isN_pos h3
    have hL := unifyN_left (a := .lf cb) (b := n) (thr_self h2) (thr_self h1) h3 (.inl h4) h5
    refine uN_swap_n mb w na nb c d ca cb A m cap B m' cap' Aa maa capa Ab 0 capb hwa hwb hst.lt k2 hk2 hix S _ fun W hW => ?_
    exact hL hf (thr_inner hf h2 hb) hin mb S cb Ab 0 capb ca Aa maa capa W (hst.keep (hW.block mb hst.lt) fun g hg => ⟨hg, hW.block g (hS g hg)⟩) (hrb'.keep fun g hg => ⟨hg, hW.block g (hS g hg)⟩) (hra.keep fun g hg => ⟨hg, hW.block g (hS g hg)⟩) hmS (fun g hg => Nat.lt_of_lt_of_le (hS g hg) hW.size)
  | @con f a b e h1 h2 h3 =>
    intro hf ha hb mb S c A m cap d B m' cap' w hst hr1 hr2 hmS hS
    obtain ⟨na, ca, pa, hwa, hra⟩ := wk_of hf h1 mb S w hst ha c _ hr1
    obtain ⟨nb, cb, pb, hwb, hrb⟩ := wk_of hf h2 mb S w hst hb d _ hr2
    obtain rfl : ca = e := repN_head hra
    obtain rfl : cb = ca := repN_head hrb
    obtain ⟨_, Aa, capa, rfl⟩ := hra
    obtain ⟨_, Ab, capb, rfl⟩ := hrb
    refine (uN_row0 mb w na nb c d cb A m cap B m' cap' Aa capa Ab capb hwa hwb hst.lt (isN_neg h3)).mono ?_
    rintro e w' ⟨rfl, hb'⟩
    exact ⟨But.of_below hb', rfl, hst.keep (hb'.block mb hst.lt) fun g hg => ⟨hg, hb'.block g (hS g hg)⟩⟩
  | @clash f a b p q h1 h2 h3 h4 h5 =>
    intro hf ha hb mb S c A m cap d B m' cap' w hst hr1 hr2 hmS hS
    obtain ⟨na, ca, pa, hwa, hra⟩ := wk_of hf h1 mb S w hst ha c _ hr1
    obtain ⟨nb, cb, pb, hwb, hrb⟩ := wk_of hf h2 mb S w hst hb d _ hr2
    obtain ⟨ca', Aa, maa, capa, hca, rfl⟩ := hra.form
    obtain ⟨cb', Ab, mbb, capb, hcb, rfl⟩ := hrb.form
    have hi1 := thr_inner hf h1 ha
    have hi2 := thr_inner hf h2 hb
    have hx1 : l2ix ca = -1 := by
      rw [show ca = p.top from repN_head hra]
      cases p with
      | lf e => exact isN_neg (h3 e rfl)
      | un e x => exact hi1.1
      | bi e x y => exact hi1.1
    have hx2 : l2ix cb = -1 := by
      rw [show cb = q.top from repN_head hrb]
      cases q with
      | lf e => exact isN_neg (h4 e rfl)
      | un e x => exact hi2.1
      | bi e x y => exact hi2.1
    exact (uN_clash mb w na nb c d ca cb A m cap B m' cap' Aa maa capa Ab mbb capb hwa hwb hst.lt hx1 hx2 (by rw [show ca = p.top from repN_head hra, show cb = q.top from repN_head hrb]; exact h5)).mono fun e w' h => mtN_no h
  | @un f a b x y e o h1 h2 _ ih =>
    intro hf ha hb mb S c A m cap d B m' cap' w hst hr1 hr2 hmS hS
    obtain ⟨na, ca, pa, hwa, hra⟩ := wk_of hf h1 mb S w hst ha c _ hr1
    obtain ⟨nb, cb, pb, hwb, hrb⟩ := wk_of hf h2 mb S w hst hb d _ hr2
    obtain rfl : ca = e := repN_head hra
    obtain rfl : cb = ca := repN_head hrb
    have hi1 := thr_inner hf h1 ha
    have hi2 := thr_inner hf h2 hb
    obtain ⟨_, ga, capa, u, u', rfl, hga, hu, hu', hru⟩ := hra
    obtain ⟨_, gb, capb, z, z', rfl, hgb, hz, hz', hrz⟩ := hrb
    obtain ⟨x1, X1, mx1, cx1, rfl, rfl⟩ := hru.form
    obtain ⟨y1, Y1, my1, cy1, rfl, rfl⟩ := hrz.form
    have hC : ∀ W : World, Below w.heap.size w W → _ := fun W hW => ih hf hi1.2.2 hi2.2.2 mb S x1 X1 mx1 cx1 y1 Y1 my1 cy1 W (hst.keep (hW.block mb hst.lt) fun g hg => ⟨hg, hW.block g (hS g hg)⟩) (hru.keep fun g hg => ⟨hg, hW.block g (hS g hg)⟩) (hrz.keep fun g hg => ⟨hg, hW.block g (hS g hg)⟩) hmS (fun g hg => Nat.lt_of_lt_of_le (hS g hg) hW.size)
    cases o with
    | none => exact uN_row1_none mb w na nb c d cb A m cap B m' cap' ga capa gb capb hwa hwb hst.lt hi1.1 S (hS ga hga) (hS gb hgb) (by rintro rfl; exact hmS hga) (by rintro rfl; exact hmS hgb) x1 X1 mx1 cx1 y1 Y1 my1 cy1 hu hu' hz hz' hC
    | some g => exact uN_row1_yes mb w na nb c d cb A m cap B m' cap' ga capa gb capb hwa hwb hst.lt hi1.1 S (hS ga hga) (hS gb hgb) (by rintro rfl; exact hmS hga) (by rintro rfl; exact hmS hgb) x1 X1 mx1 cx1 y1 Y1 my1 cy1 hu hu' hz hz' g hC
  | @no f a b x x' y y' e h1 h2 _ ih =>
    intro hf ha hb mb S c A m cap d B m' cap' w hst hr1 hr2 hmS hS
    obtain ⟨na, ca, pa, hwa, hra⟩ := wk_of hf h1 mb S w hst ha c _ hr1
    obtain ⟨nb, cb, pb, hwb, hrb⟩ := wk_of hf h2 mb S w hst hb d _ hr2
    obtain rfl : ca = e := repN_head hra
    obtain rfl : cb = ca := repN_head hrb
    have hi1 := thr_inner hf h1 ha
    have hi2 := thr_inner hf h2 hb
    obtain ⟨_, ga, capa, u, u', t, t', rfl, hga, hu, hu', ht, ht', hru, hrt⟩ := hra
    obtain ⟨_, gb, capb, z, z', s, s', rfl, hgb, hz, hz', hs, hs', hrz, hrs⟩ := hrb
    obtain ⟨x1, X1, mx1, cx1, rfl, rfl⟩ := hru.form
    obtain ⟨y1, Y1, my1, cy1, rfl, rfl⟩ := hrz.form
    obtain ⟨x2, X2, mx2, cx2, rfl, rfl⟩ := hrt.form
    obtain ⟨y2, Y2, my2, cy2, rfl, rfl⟩ := hrs.form
    have hC : ∀ W : World, Below w.heap.size w W → _ := fun W hW => ih hf hi1.2.2.1 hi2.2.2.1 mb S x1 X1 mx1 cx1 y1 Y1 my1 cy1 W (hst.keep (hW.block mb hst.lt) fun g hg => ⟨hg, hW.block g (hS g hg)⟩) (hru.keep fun g hg => ⟨hg, hW.block g (hS g hg)⟩) (hrz.keep fun g hg => ⟨hg, hW.block g (hS g hg)⟩) hmS (fun g hg => Nat.lt_of_lt_of_le (hS g hg) hW.size)
    exact uN_row2_none mb w na nb c d cb A m cap B m' cap' ga capa gb capb hwa hwb hst.lt hi1.1 S (hS ga hga) (hS gb hgb) (by rintro rfl; exact hmS hga) (by rintro rfl; exact hmS hgb) x1 X1 mx1 cx1 y1 Y1 my1 cy1 hu hu' hz hz' x2 X2 mx2 cx2 y2 Y2 my2 cy2 ht ht' hs hs' hC
  | @bi f g a b x x' y y' e o h1 h2 hu1 _ iha ihb =>
    intro hf ha hb mb S c A m cap d B m' cap' w hst hr1 hr2 hmS hS
    obtain ⟨na, ca, pa, hwa, hra⟩ := wk_of hf h1 mb S w hst ha c _ hr1
    obtain ⟨nb, cb, pb, hwb, hrb⟩ := wk_of hf h2 mb S w hst hb d _ hr2
    obtain rfl : ca = e := repN_head hra
    obtain rfl : cb = ca := repN_head hrb
    have hi1 := thr_inner hf h1 ha
    have hi2 := thr_inner hf h2 hb
    obtain ⟨_, ga, capa, u, u', t, t', rfl, hga, hu, hu', ht, ht', hru, hrt⟩ := hra
    obtain ⟨_, gb, capb, z, z', s, s', rfl, hgb, hz, hz', hs, hs', hrz, hrs⟩ := hrb
    obtain ⟨x1, X1, mx1, cx1, rfl, rfl⟩ := hru.form
    obtain ⟨y1, Y1, my1, cy1, rfl, rfl⟩ := hrz.form
    obtain ⟨x2, X2, mx2, cx2, rfl, rfl⟩ := hrt.form
    obtain ⟨y2, Y2, my2, cy2, rfl, rfl⟩ := hrs.form
    have hg' := uni_inner hu1 hf hi1.2.2.1 hi2.2.2.1 g rfl
    have hC : ∀ W : World, Below w.heap.size w W → _ := fun W hW => iha hf hi1.2.2.1 hi2.2.2.1 mb S x1 X1 mx1 cx1 y1 Y1 my1 cy1 W (hst.keep (hW.block mb hst.lt) fun g hg => ⟨hg, hW.block g (hS g hg)⟩) (hru.keep fun g hg => ⟨hg, hW.block g (hS g hg)⟩) (hrz.keep fun g hg => ⟨hg, hW.block g (hS g hg)⟩) hmS (fun g hg => Nat.lt_of_lt_of_le (hS g hg) hW.size)
    have hD : ∀ W : World, But w.heap.size mb w W → StndN W mb S g → _ := fun W hW hsW => ihb hg' hi1.2.2.2 hi2.2.2.2 mb S x2 X2 mx2 cx2 y2 Y2 my2 cy2 W hsW (hrt.keep fun j hj => ⟨hj, hW.block j (hS j hj) (by rintro rfl; exact hmS hj)⟩) (hrs.keep fun j hj => ⟨hj, hW.block j (hS j hj) (by rintro rfl; exact hmS hj)⟩) hmS (fun j hj => Nat.lt_of_lt_of_le (hS j hj) hW.size)
    cases o with
    | none => exact uN_row2_sno mb w na nb c d cb A m cap B m' cap' ga capa gb capb hwa hwb hst.lt hi1.1 S (hS ga hga) (hS gb hgb) (by rintro rfl; exact hmS hga) (by rintro rfl; exact hmS hgb) x1 X1 mx1 cx1 y1 Y1 my1 cy1 hu hu' hz hz' x2 X2 mx2 cx2 y2 Y2 my2 cy2 ht ht' hs hs' g hC hD
    | some g2 => exact uN_row2_syes mb w na nb c d cb A m cap B m' cap' ga capa gb capb hwa hwb hst.lt hi1.1 S (hS ga hga) (hS gb hgb) (by rintro rfl; exact hmS hga) (by rintro rfl; exact hmS hgb) x1 X1 mx1 cx1 y1 Y1 my1 cy1 hu hu' hz hz' x2 X2 mx2 cx2 y2 Y2 my2 cy2 ht ht' hs hs' g hC g2 hD

end Go.Proofs.YteimmgajohimlaaGreat
