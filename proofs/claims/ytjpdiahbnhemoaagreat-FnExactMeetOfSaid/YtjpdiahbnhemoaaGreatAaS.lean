/- l2Unify of the model, whole. Types made anew in the model: l2Others, l2Full. l2Others whole, and l2Full, in the model. Types made whole: what every variable in them stands for put in. l2Solve of the model. AreApart of the model. -/
import Derived.Test.YtjpdiahbnhemoaaGreatUuV
import Derived.Test.YtjpdiahbnhemoaaGreatUuX
import Derived.Test.YtjpdiahbnhemoaaGreatUuT
import Derived.Deep.RegionLaw
import Derived.StillTactics
import Derived.Deep.AppendLies
import Derived.Test.YtjpdiahbnhemoaaGreatMtV
import Derived.Test.YtjpdiahbnhemoaaGreatUnF
namespace Go.Proofs.YtjpdiahbnhemoaaGreat
open Go.RowKit

/-- The model binds the variable that comes first. -/
def ltN (c d : UInt8) : Bool := decide (l2ix c < l2ix d)
theorem inF_bind {f : UInt8 → Option Ty} (h : InF f) {c : UInt8} {t : Ty} (ht : t.inner) : InF (bindU f c t) := by
  intro d u hd
  unfold bindU at hd
  split at hd
  · injection hd with hd
    subst hd
    exact ht
  · exact h d u hd
theorem thr_last {V : UInt8 → Bool} {f : UInt8 → Option Ty} {a b : Ty} (h : Thr V f a b) : ∀ c, b = .lf c → V c = true → f c = none := by
  induction h with
  | stay h => exact h
  | step _ _ _ ih => exact ih
theorem uni_inner {V : UInt8 → Bool} {lt : UInt8 → UInt8 → Bool} {f : UInt8 → Option Ty} {a b : Ty} {o : Option (UInt8 → Option Ty)} (h : Uni V lt f a b o) : InF f → a.inner → b.inner → ∀ g, o = some g → InF g := by
  induction h with
  | same _ _ _ => intro hf _ _ g hg; injection hg with hg; rw [← hg]; exact hf
  | less h1 h2 _ _ _ _ => intro hf ha hb g hg; injection hg with hg; rw [← hg]; exact inF_bind hf (thr_inner hf h2 hb)
  | more h1 h2 _ _ _ _ => intro hf ha hb g hg; injection hg with hg; rw [← hg]; exact inF_bind hf (thr_inner hf h1 ha)
  | left h1 h2 _ _ _ =>
    intro hf ha hb g hg
    split at hg
    · cases hg
    · injection hg with hg; rw [← hg]; exact inF_bind hf (thr_inner hf h2 hb)
  | right h1 h2 _ _ _ =>
    intro hf ha hb g hg
    split at hg
    · cases hg
    · injection hg with hg; rw [← hg]; exact inF_bind hf (thr_inner hf h1 ha)
  | con _ _ _ => intro hf _ _ g hg; injection hg with hg; rw [← hg]; exact hf
  | clash _ _ _ _ _ => intro _ _ _ g hg; cases hg
  | un h1 h2 _ ih => intro hf ha hb g hg; exact ih hf (thr_inner hf h1 ha).2.2 (thr_inner hf h2 hb).2.2 g hg
  | no _ _ _ _ => intro _ _ _ g hg; cases hg
  | bi h1 h2 _ _ iha ihb =>
    intro hf ha hb g hg
    exact ihb (iha hf (thr_inner hf h1 ha).2.2.1 (thr_inner hf h2 hb).2.2.1 _ rfl) (thr_inner hf h1 ha).2.2.2 (thr_inner hf h2 hb).2.2.2 g hg

/-- The contract of l2Unify. -/
def UnifyN (f : UInt8 → Option Ty) (a b : Ty) (o : Option (UInt8 → Option Ty)) : Prop := InF f → a.inner → b.inner → ∀ (mb : Nat) (S : Nat → Prop) (c : UInt8) (A : Option Addr) (m cap : Nat) (d : UInt8) (B : Option Addr) (m' cap' : Nat) (w : World), StndN w mb S f → RepN w S a (.int .u8 c.toNat) (.slice A m cap) → RepN w S b (.int .u8 d.toNat) (.slice B m' cap') → ¬ S mb → (∀ g, S g → g < w.heap.size) →
  Calls Tryz.prog 27 #[.pointer (some ⟨mb, 0, none⟩), .agg #[.int .u8 c.toNat, .slice A m cap], .agg #[.int .u8 d.toNat, .slice B m' cap']] w (MtEndN w mb S o)
theorem mtN_no {w : World} {mb : Nat} {S : Nat → Prop} {e : Ending} {w' : World} (h : e = .returned (.bool false) ∧ Below w.heap.size w w') : MtEndN w mb S none e w' := ⟨But.of_below h.2, h.1⟩

theorem unifyN_left {f : UInt8 → Option Ty} {a b n : Ty} {v : UInt8} {r : Bool} (h1 : Thr isN f a (.lf v)) (h2 : Thr isN f b n) (hv : isN v = true) (hn : NoVar isN n ∨ ∃ u, n = .lf u ∧ isN u = true ∧ ltN v u = true) (ho : Occ isN f v n r) : UnifyN f a b (if r = true then none else some (bindU f v n)) := by
  intro hf ha hb mb S c A m cap d B m' cap' w hst hr1 hr2 hmS hS
  have hmb := hst.lt
  obtain ⟨na, ca, pa, hwa, hra⟩ := wk_of hf h1 mb S w hst ha c _ hr1
  obtain ⟨nb, cb, pb, hwb, hrb⟩ := wk_of hf h2 mb S w hst hb d _ hr2
  obtain rfl : ca = v := repN_head hra
  obtain ⟨_, Aa, capa, rfl⟩ := hra
  obtain ⟨cb', Ab, mbb, capb, hcb, rfl⟩ := hrb.form
  have hin := thr_inner hf h2 hb
  have hO := occN_any hf hv ho mb S w hst hS hin cb Ab mbb capb hrb
  obtain ⟨k, hk, _⟩ := isN_pos hv
  have fin : ∀ e w', (e = .returned (.bool true) ∧ ∃ w4, Below w.heap.size w w4 ∧ w' = ((w4.setCell ⟨mb, k * 2, none⟩ (.int .u8 cb.toNat)).setCell ⟨mb, k * 2 + 1, none⟩ (.slice Ab mbb capb)).drew) → MtEndN w mb S (some (bindU f ca n)) e w' := by
    rintro e w' ⟨rfl, w4, hb4, rfl⟩
    refine ⟨(((But.of_below hb4).set _ _).set _ _).drewN 1, rfl, ?_⟩
    refine StndN.keep (w := (w4.setCell ⟨mb, k * 2, none⟩ (.int .u8 cb.toNat)).setCell ⟨mb, k * 2 + 1, none⟩ (.slice Ab mbb capb)) (S := S) ?_ rfl fun g hg => ⟨hg, rfl⟩
    exact StndN.set (w := w4) (hst.keep (hb4.block mb hmb) fun g hg => ⟨hg, hb4.block g (hS g hg)⟩) hmS hk (text_ne0 hin hrb) (hrb.keep fun g hg => ⟨hg, hb4.block g (hS g hg)⟩)
  have hcbn : cb = n.top := repN_head hrb
  rcases hn with hn | ⟨u, rfl, hu, hlt⟩
  · have hix : l2ix cb = -1 := by
      rw [hcbn]
      cases n with
      | lf e => exact isN_neg (hn e rfl)
      | un e x => exact hin.1
      | bi e x y => exact hin.1
    cases r with
    | true => exact (uN_occ_n mb w na nb c d ca cb A m cap B m' cap' Aa 0 capa Ab mbb capb hwa hwb hmb k hk hix hO).mono fun e w' h => mtN_no h
    | false => exact (uN_bind_n mb w na nb c d ca cb A m cap B m' cap' Aa 0 capa Ab mbb capb hwa hwb hmb S f hst hS k hk hix hO).mono fin
  · obtain ⟨k2, hk2, _⟩ := isN_pos hu
    have hk2' : l2ix cb = (k2 : Int) := by rw [hcbn]; exact hk2
    have hl : k < k2 := by
      have : l2ix ca < l2ix u := by simpa [ltN] using hlt
      omega
    cases r with
    | true => exact (uN_occ_v mb w na nb c d ca cb A m cap B m' cap' Aa 0 capa Ab mbb capb hwa hwb hmb k hk k2 hk2' hl hO).mono fun e w' h => mtN_no h
    | false => exact (uN_bind_v mb w na nb c d ca cb A m cap B m' cap' Aa 0 capa Ab mbb capb hwa hwb hmb S f hst hS k hk k2 hk2' hl hO).mono fin
theorem thr_self {V : UInt8 → Bool} {f : UInt8 → Option Ty} {a b : Ty} (h : Thr V f a b) : Thr V f b b := .stay (thr_last h)
theorem u8_nb {c d : UInt8} (h : c ≠ d) : (c == d) = false := beq_eq_false_iff_ne.2 h

theorem unifyN_any {f : UInt8 → Option Ty} {a b : Ty} {o : Option (UInt8 → Option Ty)} (h : Uni isN ltN f a b o) : UnifyN f a b o := by
  induction h with
  | @same f a b v h1 h2 h3 =>
    intro hf ha hb mb S c A m cap d B m' cap' w hst hr1 hr2 hmS hS
    obtain ⟨na, ca, pa, hwa, hra⟩ := wk_of hf h1 mb S w hst ha c _ hr1
    obtain ⟨nb, cb, pb, hwb, hrb⟩ := wk_of hf h2 mb S w hst hb d _ hr2
    obtain rfl : ca = v := repN_head hra
    obtain rfl : cb = ca := repN_head hrb
    obtain ⟨_, Aa, capa, rfl⟩ := hra
    obtain ⟨_, Ab, capb, rfl⟩ := hrb
    obtain ⟨k, hk, _⟩ := isN_pos h3
    refine (uN_same mb w na nb c d cb cb A m cap B m' cap' Aa 0 capa Ab 0 capb hwa hwb hst.lt k hk hk).mono ?_
    rintro e w' ⟨rfl, hb'⟩
    exact ⟨But.of_below hb', rfl, hst.keep (hb'.block mb hst.lt) fun g hg => ⟨hg, hb'.block g (hS g hg)⟩⟩
  | @less f a b v u h1 h2 h3 h4 h5 h6 =>
    have h := unifyN_left h1 h2 h3 (.inr ⟨u, rfl, h4, h6⟩) (.var (thr_self h2) h4)
    rw [u8_nb (Ne.symm h5)] at h
    exact h
  | @more f a b v u h1 h2 h3 h4 h5 h6 =>
    intro hf ha hb mb S c A m cap d B m' cap' w hst hr1 hr2 hmS hS
    obtain ⟨na, ca, pa, hwa, hra⟩ := wk_of hf h1 mb S w hst ha c _ hr1
    obtain ⟨nb, cb, pb, hwb, hrb⟩ := wk_of hf h2 mb S w hst hb d _ hr2
    obtain rfl : ca = v := repN_head hra
    obtain rfl : cb = u := repN_head hrb
    have hra' := hra
    have hrb' := hrb
    obtain ⟨_, Aa, capa, rfl⟩ := hra
    obtain ⟨_, Ab, capb, rfl⟩ := hrb
    obtain ⟨k, hk, _⟩ := isN_pos h3
    obtain ⟨k2, hk2, _⟩ := isN_pos h4
    have hnl : ¬ l2ix ca < l2ix cb := by simpa [ltN] using h6
    have hne : k ≠ k2 := fun e => h5 (l2ix_inj hk (e ▸ hk2))
    have hl : k2 < k := by omega
    have hL := unifyN_left (a := .lf cb) (b := .lf ca) (thr_self h2) (thr_self h1) h4 (.inr ⟨ca, rfl, h3, by simp [ltN]; omega⟩) (.var (thr_self h1) h3)
    rw [u8_nb h5] at hL
    refine uN_swap_v mb w na nb c d ca cb A m cap B m' cap' Aa 0 capa Ab 0 capb hwa hwb hst.lt k2 hk2 k hk hl S _ fun W hW => ?_
    exact hL hf (thr_inner hf h2 hb) (thr_inner hf h1 ha) mb S cb Ab 0 capb ca Aa 0 capa W (hst.keep (hW.block mb hst.lt) fun g hg => ⟨hg, hW.block g (hS g hg)⟩) (hrb'.keep fun g hg => ⟨hg, hW.block g (hS g hg)⟩) (hra'.keep fun g hg => ⟨hg, hW.block g (hS g hg)⟩) hmS (fun g hg => Nat.lt_of_lt_of_le (hS g hg) hW.size)
  | @left f a b n v r h1 h2 h3 h4 h5 => exact unifyN_left h1 h2 h3 (.inl h4) h5
  | @right f a b n u r h1 h2 h3 h4 h5 =>
    intro hf ha hb mb S c A m cap d B m' cap' w hst hr1 hr2 hmS hS
    obtain ⟨na, ca, pa, hwa, hra⟩ := wk_of hf h1 mb S w hst ha c _ hr1
    obtain ⟨nb, cb, pb, hwb, hrb⟩ := wk_of hf h2 mb S w hst hb d _ hr2
    obtain rfl : cb = u := repN_head hrb
    have hrb' := hrb
    obtain ⟨_, Ab, capb, rfl⟩ := hrb
    obtain ⟨ca', Aa, maa, capa, hca, rfl⟩ := hra.form
    have hin := thr_inner hf h1 ha
    have hix : l2ix ca = -1 := by
      rw [show ca = n.top from repN_head hra]
      cases n with
      | lf e => exact isN_neg (h4 e rfl)
      | un e x => exact hin.1
      | bi e x y => exact hin.1
    obtain ⟨k2, hk2, _⟩ := isN_pos h3
    have hL := unifyN_left (a := .lf cb) (b := n) (thr_self h2) (thr_self h1) h3 (.inl h4) h5
    refine uN_swap_n mb w na nb c d ca cb A m cap B m' cap' Aa maa capa Ab 0 capb hwa hwb hst.lt k2 hk2 hix S _ fun W hW => ?_
    exact hL hf (thr_inner hf h2 hb) hin mb S cb Ab 0 capb ca Aa maa capa W (hst.keep (hW.block mb hst.lt) fun g hg => ⟨hg, hW.block g (hS g hg)⟩) (hrb'.keep fun g hg => ⟨hg, hW.block g (hS g hg)⟩) (hra.keep fun g hg => ⟨hg, hW.block g (hS g hg)⟩) hmS (fun g hg => Nat.lt_of_lt_of_le (hS g hg) hW.size)
  | @con f a b e h1 h2 h3 =>
    intro hf ha hb mb S c A m cap d B m' cap' w hst hr1 hr2 hmS hS
    obtain ⟨na, ca, pa, hwa, hra⟩ := wk_of hf h1 mb S w hst ha c _ hr1
    obtain ⟨nb, cb, pb, hwb, hrb⟩ := wk_of hf h2 mb S w hst hb d _ hr2
    obtain rfl : ca = e := repN_head hra
    obtain rfl : cb = ca := repN_head hrb
    obtain ⟨_, Aa, capa, rfl⟩ := hra
    obtain ⟨_, Ab, capb, rfl⟩ := hrb
    refine (uN_row0 mb w na nb c d cb A m cap B m' cap' Aa capa Ab capb hwa hwb hst.lt (isN_neg h3)).mono ?_
    rintro e w' ⟨rfl, hb'⟩
    exact ⟨But.of_below hb', rfl, hst.keep (hb'.block mb hst.lt) fun g hg => ⟨hg, hb'.block g (hS g hg)⟩⟩
  | @clash f a b p q h1 h2 h3 h4 h5 =>
    intro hf ha hb mb S c A m cap d B m' cap' w hst hr1 hr2 hmS hS
    obtain ⟨na, ca, pa, hwa, hra⟩ := wk_of hf h1 mb S w hst ha c _ hr1
    obtain ⟨nb, cb, pb, hwb, hrb⟩ := wk_of hf h2 mb S w hst hb d _ hr2
    obtain ⟨ca', Aa, maa, capa, hca, rfl⟩ := hra.form
    obtain ⟨cb', Ab, mbb, capb, hcb, rfl⟩ := hrb.form
    have hi1 := thr_inner hf h1 ha
    have hi2 := thr_inner hf h2 hb
    have hx1 : l2ix ca = -1 := by
      rw [show ca = p.top from repN_head hra]
      cases p with
      | lf e => exact isN_neg (h3 e rfl)
      | un e x => exact hi1.1
      | bi e x y => exact hi1.1
    have hx2 : l2ix cb = -1 := by
      rw [show cb = q.top from repN_head hrb]
      cases q with
      | lf e => exact isN_neg (h4 e rfl)
      | un e x => exact hi2.1
      | bi e x y => exact hi2.1
    exact (uN_clash mb w na nb c d ca cb A m cap B m' cap' Aa maa capa Ab mbb capb hwa hwb hst.lt hx1 hx2 (by rw [show ca = p.top from repN_head hra, show cb = q.top from repN_head hrb]; exact h5)).mono fun e w' h => mtN_no h
  | @un f a b x y e o h1 h2 _ ih =>
    intro hf ha hb mb S c A m cap d B m' cap' w hst hr1 hr2 hmS hS
    obtain ⟨na, ca, pa, hwa, hra⟩ := wk_of hf h1 mb S w hst ha c _ hr1
    obtain ⟨nb, cb, pb, hwb, hrb⟩ := wk_of hf h2 mb S w hst hb d _ hr2
    obtain rfl : ca = e := repN_head hra
    obtain rfl : cb = ca := repN_head hrb
    have hi1 := thr_inner hf h1 ha
    have hi2 := thr_inner hf h2 hb
    obtain ⟨_, ga, capa, u, u', rfl, hga, hu, hu', hru⟩ := hra
    obtain ⟨_, gb, capb, z, z', rfl, hgb, hz, hz', hrz⟩ := hrb
    obtain ⟨x1, X1, mx1, cx1, rfl, rfl⟩ := hru.form
    obtain ⟨y1, Y1, my1, cy1, rfl, rfl⟩ := hrz.form
    have hC : ∀ W : World, Below w.heap.size w W → _ := fun W hW => ih hf hi1.2.2 hi2.2.2 mb S x1 X1 mx1 cx1 y1 Y1 my1 cy1 W (hst.keep (hW.block mb hst.lt) fun g hg => ⟨hg, hW.block g (hS g hg)⟩) (hru.keep fun g hg => ⟨hg, hW.block g (hS g hg)⟩) (hrz.keep fun g hg => ⟨hg, hW.block g (hS g hg)⟩) hmS (fun g hg => Nat.lt_of_lt_of_le (hS g hg) hW.size)
    cases o with
    | none => exact uN_row1_none mb w na nb c d cb A m cap B m' cap' ga capa gb capb hwa hwb hst.lt hi1.1 S (hS ga hga) (hS gb hgb) (by rintro rfl; exact hmS hga) (by rintro rfl; exact hmS hgb) x1 X1 mx1 cx1 y1 Y1 my1 cy1 hu hu' hz hz' hC
    | some g => exact uN_row1_yes mb w na nb c d cb A m cap B m' cap' ga capa gb capb hwa hwb hst.lt hi1.1 S (hS ga hga) (hS gb hgb) (by rintro rfl; exact hmS hga) (by rintro rfl; exact hmS hgb) x1 X1 mx1 cx1 y1 Y1 my1 cy1 hu hu' hz hz' g hC
  | @no f a b x x' y y' e h1 h2 _ ih =>
    intro hf ha hb mb S c A m cap d B m' cap' w hst hr1 hr2 hmS hS
    obtain ⟨na, ca, pa, hwa, hra⟩ := wk_of hf h1 mb S w hst ha c _ hr1
    obtain ⟨nb, cb, pb, hwb, hrb⟩ := wk_of hf h2 mb S w hst hb d _ hr2
    obtain rfl : ca = e := repN_head hra
    obtain rfl : cb = ca := repN_head hrb
    have hi1 := thr_inner hf h1 ha
    have hi2 := thr_inner hf h2 hb
    obtain ⟨_, ga, capa, u, u', t, t', rfl, hga, hu, hu', ht, ht', hru, hrt⟩ := hra
    obtain ⟨_, gb, capb, z, z', s, s', rfl, hgb, hz, hz', hs, hs', hrz, hrs⟩ := hrb
    obtain ⟨x1, X1, mx1, cx1, rfl, rfl⟩ := hru.form
    obtain ⟨y1, Y1, my1, cy1, rfl, rfl⟩ := hrz.form
    obtain ⟨x2, X2, mx2, cx2, rfl, rfl⟩ := hrt.form
    obtain ⟨y2, Y2, my2, cy2, rfl, rfl⟩ := hrs.form
    have hC : ∀ W : World, Below w.heap.size w W → _ := fun W hW => ih hf hi1.2.2.1 hi2.2.2.1 mb S x1 X1 mx1 cx1 y1 Y1 my1 cy1 W (hst.keep (hW.block mb hst.lt) fun g hg => ⟨hg, hW.block g (hS g hg)⟩) (hru.keep fun g hg => ⟨hg, hW.block g (hS g hg)⟩) (hrz.keep fun g hg => ⟨hg, hW.block g (hS g hg)⟩) hmS (fun g hg => Nat.lt_of_lt_of_le (hS g hg) hW.size)
    exact uN_row2_none mb w na nb c d cb A m cap B m' cap' ga capa gb capb hwa hwb hst.lt hi1.1 S (hS ga hga) (hS gb hgb) (by rintro rfl; exact hmS hga) (by rintro rfl; exact hmS hgb) x1 X1 mx1 cx1 y1 Y1 my1 cy1 hu hu' hz hz' x2 X2 mx2 cx2 y2 Y2 my2 cy2 ht ht' hs hs' hC
  | @bi f g a b x x' y y' e o h1 h2 hu1 _ iha ihb =>
    intro hf ha hb mb S c A m cap d B m' cap' w hst hr1 hr2 hmS hS
    obtain ⟨na, ca, pa, hwa, hra⟩ := wk_of hf h1 mb S w hst ha c _ hr1
    obtain ⟨nb, cb, pb, hwb, hrb⟩ := wk_of hf h2 mb S w hst hb d _ hr2
    obtain rfl : ca = e := repN_head hra
    obtain rfl : cb = ca := repN_head hrb
    have hi1 := thr_inner hf h1 ha
    have hi2 := thr_inner hf h2 hb
    obtain ⟨_, ga, capa, u, u', t, t', rfl, hga, hu, hu', ht, ht', hru, hrt⟩ := hra
    obtain ⟨_, gb, capb, z, z', s, s', rfl, hgb, hz, hz', hs, hs', hrz, hrs⟩ := hrb
    obtain ⟨x1, X1, mx1, cx1, rfl, rfl⟩ := hru.form
    obtain ⟨y1, Y1, my1, cy1, rfl, rfl⟩ := hrz.form
    obtain ⟨x2, X2, mx2, cx2, rfl, rfl⟩ := hrt.form
    obtain ⟨y2, Y2, my2, cy2, rfl, rfl⟩ := hrs.form
    have hg' := uni_inner hu1 hf hi1.2.2.1 hi2.2.2.1 g rfl
    have hC : ∀ W : World, Below w.heap.size w W → _ := fun W hW => iha hf hi1.2.2.1 hi2.2.2.1 mb S x1 X1 mx1 cx1 y1 Y1 my1 cy1 W (hst.keep (hW.block mb hst.lt) fun g hg => ⟨hg, hW.block g (hS g hg)⟩) (hru.keep fun g hg => ⟨hg, hW.block g (hS g hg)⟩) (hrz.keep fun g hg => ⟨hg, hW.block g (hS g hg)⟩) hmS (fun g hg => Nat.lt_of_lt_of_le (hS g hg) hW.size)
    have hD : ∀ W : World, But w.heap.size mb w W → StndN W mb S g → _ := fun W hW hsW => ihb hg' hi1.2.2.2 hi2.2.2.2 mb S x2 X2 mx2 cx2 y2 Y2 my2 cy2 W hsW (hrt.keep fun j hj => ⟨hj, hW.block j (hS j hj) (by rintro rfl; exact hmS hj)⟩) (hrs.keep fun j hj => ⟨hj, hW.block j (hS j hj) (by rintro rfl; exact hmS hj)⟩) hmS (fun j hj => Nat.lt_of_lt_of_le (hS j hj) hW.size)
    cases o with
    | none => exact uN_row2_sno mb w na nb c d cb A m cap B m' cap' ga capa gb capb hwa hwb hst.lt hi1.1 S (hS ga hga) (hS gb hgb) (by rintro rfl; exact hmS hga) (by rintro rfl; exact hmS hgb) x1 X1 mx1 cx1 y1 Y1 my1 cy1 hu hu' hz hz' x2 X2 mx2 cx2 y2 Y2 my2 cy2 ht ht' hs hs' g hC hD
    | some g2 => exact uN_row2_syes mb w na nb c d cb A m cap B m' cap' ga capa gb capb hwa hwb hst.lt hi1.1 S (hS ga hga) (hS gb hgb) (by rintro rfl; exact hmS hga) (by rintro rfl; exact hmS hgb) x1 X1 mx1 cx1 y1 Y1 my1 cy1 hu hu' hz hz' x2 X2 mx2 cx2 y2 Y2 my2 cy2 ht ht' hs hs' g hC g2 hD

end Go.Proofs.YtjpdiahbnhemoaaGreat

namespace Go.Proofs.YtjpdiahbnhemoaaGreat
open Go.RowKit

theorem frz_below {B w' : World} {rc : Nat} (h : ∀ k, B.frozen? ⟨rc, k, none⟩ = false) (hrc : rc < B.heap.size) (hb : Below B.heap.size B w') (k : Nat) : w'.frozen? ⟨rc, k, none⟩ = false := by
  have e := hb.block rc hrc
  have := h k
  unfold World.frozen? at this ⊢
  rw [show w'.heap[(⟨rc, k, none⟩ : Addr).block]? = _ from e]
  exact this
/-- A round of a loop that makes a node anew, part by part, in memory from world B on: the new node at block ob. -/
def NewF (c : UInt8) (us : List Ty) (B : World) (ob i : Nat) (wr : World) : Prop :=
  ∃ (g cap : Nat) (xs : List Value), wr.heap[ob]? = some (.cells #[.int .u8 c.toNat, .slice (some ⟨g, 0, none⟩) i cap] 31 (0, 0)) ∧ wr.ownsRow B.heap.size 31 2 (.slice (some ⟨g, 0, none⟩) i cap) i xs ∧
    g ≠ ob ∧ Below B.heap.size B wr ∧ Kids wr (fun k => B.heap.size ≤ k ∧ k < wr.heap.size ∧ k ≠ g ∧ k ≠ ob) (us.take i) xs
theorem newF_start (c : UInt8) (us : List Ty) (B : World) : NewF c us B (B.heap.size + 1) 0 ((B.alloc (.cells #[] 31)).alloc (.cells #[.int .u8 c.toNat, .slice (some ⟨B.heap.size, 0, none⟩) 0 0] 31)) := by
  refine ⟨B.heap.size, 0, [], ?_, ⟨rfl, .inr ⟨B.heap.size, 0, #[], rfl, Nat.le_refl _, ?_, Nat.le_refl _, Nat.zero_le _, rfl, rfl⟩⟩, by omega, ?_, rfl⟩
  · have := heap_new1 (B.alloc (.cells #[] 31)) (.cells #[.int .u8 c.toNat, .slice (some ⟨B.heap.size, 0, none⟩) 0 0] 31)
    simpa only [World.size_alloc] using this
  · rw [Below.heap_alloc _ _ _ (by simp only [World.size_alloc]; omega)]
    exact heap_new1 B _
  · exact ((Below.refl _ _).alloc (Nat.le_refl _) _).alloc (by simp only [World.size_alloc]; omega) _

end Go.Proofs.YtjpdiahbnhemoaaGreat

namespace Go.Proofs.YtjpdiahbnhemoaaGreat
open Go.RowKit

/-- The model's other letters. -/
def otherN (c : UInt8) : UInt8 := letN ((l2ix c).toNat + 6)
set_option maxRecDepth 100000 in
theorem indexN : ∀ k : Nat, k < 6 → ∀ W : World, (Instr.index 9 (.string ⟨#[88, 89, 90, 120, 121, 122, 49, 50, 51, 52, 53, 54]⟩) (.int .i64 ((k : Int) + 6))).run Tryz.prog W = .ok (.int .u8 (letN (k + 6)).toNat) W := by
  intro k hk
  match k, hk with
  | 0, _ => exact fun W => by kernel_rfl
  | 1, _ => exact fun W => by kernel_rfl
  | 2, _ => exact fun W => by kernel_rfl
  | 3, _ => exact fun W => by kernel_rfl
  | 4, _ => exact fun W => by kernel_rfl
  | 5, _ => exact fun W => by kernel_rfl
theorem varB_ix (c : UInt8) : (ar c = 0 → isN c = true → isVarB c = true) ∧ (isVarB c = true → 0 ≤ l2ix c ∧ l2ix c < 6) := by
  refine u8_all (p := fun c => (ar c = 0 → isN c = true → isVarB c = true) ∧ (isVarB c = true → 0 ≤ l2ix c ∧ l2ix c < 6)) ?_ c
  decide +kernel
/-- A type made whole by l2Full. -/
def FullAt (f : UInt8 → Option Ty) (a u : Ty) : Prop := ∀ (mb : Nat) (S : Nat → Prop) (c : UInt8) (A : Option Addr) (m cap : Nat) (w : World), StndN w mb S f → RepN w S a (.int .u8 c.toNat) (.slice A m cap) → (∀ g, S g → g < w.heap.size) → a.inner →
  Calls Tryz.prog 28 #[.pointer (some ⟨mb, 0, none⟩), .agg #[.int .u8 c.toNat, .slice A m cap]] w fun e w' => ∃ (c' : UInt8) (A' : Option Addr) (m' cap' : Nat), e = .returned (.agg #[.int .u8 c'.toNat, .slice A' m' cap']) ∧ RepN w' (fun g => w.heap.size ≤ g ∧ g < w'.heap.size) u (.int .u8 c'.toNat) (.slice A' m' cap') ∧ Below w.heap.size w w'

set_option maxHeartbeats 1600000 in
set_option maxRecDepth 100000 in
theorem fullRow (mb nn : Nat) (c c' : UInt8) (A : Option Addr) (m cap : Nat) (ts us : List Ty) (n cap0 : Nat) (A0 : Option Addr) (w : World) (hwk : WkN w mb nn c (.slice A m cap) c' (.slice A0 n cap0)) (hmb : mb < w.heap.size) (hn : ts.length = n) (hu : us.length = n) (h2 : n ≤ 2) (f : UInt8 → Option Ty) (S : Nat → Prop) (hst : StndN w mb S f) (ih : ∀ (i : Nat) (a u : Ty), ts[i]? = some a → us[i]? = some u → FullAt f a u ∧ a.inner) (hk : KidsAt w S A0 ts) (hS : ∀ g, S g → g < w.heap.size) :
    Calls Tryz.prog 28 #[.pointer (some ⟨mb, 0, none⟩), .agg #[.int .u8 c.toNat, .slice A m cap]] w fun e w' => ∃ (c1 : UInt8) (A1 : Option Addr) (m1 cap1 : Nat), e = .returned (.agg #[.int .u8 c1.toNat, .slice A1 m1 cap1]) ∧ RepN w' (fun g => w.heap.size ≤ g ∧ g < w'.heap.size) (mkTy c' us) (.int .u8 c1.toNat) (.slice A1 m1 cap1) ∧ Below w.heap.size w w' := by
  have HN := hid hn
  have HU := hid hu
  have HWK := hid (fun W' (h : Below w.heap.size w W') => walkN_by mb w nn c c' A m cap _ hwk hmb W' h)
  have HST := hid hst
  have HKK := hid hk
  have HSS := hid hS
  have IH := hid ih
  clear hn hu hwk hst hk hS ih
  go_enter Tryz.func28, Tryz.ntmps28
  go_wp2_with fail
  obtain ⟨W0, hW0⟩ : ∃ W0, (w.alloc (.cells #[.int .u8 c.toNat, .slice A m cap] 31)).alloc (.cells #[.int .u8 0, .slice none 0 0] 31) = W0 := ⟨_, rfl⟩
  have hb0 : Below w.heap.size w W0 := by rw [← hW0]; exact ((Below.refl _ _).alloc (Nat.le_refl _) _).alloc (by simp only [World.size_alloc]; omega) _
  have h9 := heap_new1 (w.alloc (.cells #[.int .u8 c.toNat, .slice A m cap] 31)) (.cells #[.int .u8 0, .slice none 0 0] 31)
  have h8 : W0.heap[w.heap.size]? = some (.cells #[.int .u8 c.toNat, .slice A m cap] 31 (0, 0)) := by
    rw [← hW0, Below.heap_alloc _ _ _ (by simp only [World.size_alloc]; omega)]
    exact heap_new1 _ _
  simp only [World.size_alloc] at h9
  rw [hW0] at h9 ⊢
  have z0 : W0.heap.size = w.heap.size + 2 := by rw [← hW0]; simp only [World.size_alloc]
  clear hW0
  refine (HWK.out W0 hb0).mono ?_
  rintro e w1 ⟨rfl, hb1⟩
  have z1 := hb1.size
  have q8 := (hb1.block w.heap.size (by omega)).trans h8
  have q9 := (hb1.block (w.heap.size + 1) (by omega)).trans h9
  obtain ⟨n0, n1, nf⟩ := two_cells q8
  have nf0 := nf 0
  have nf1 := nf 1
  obtain ⟨B, hB⟩ : ∃ B, (w1.setCell ⟨w.heap.size, 0, none⟩ (.int .u8 c'.toNat)).setCell ⟨w.heap.size, 1, none⟩ (.slice A0 n cap0) = B := ⟨_, rfl⟩
  have hbB : Below w.heap.size w B := by rw [← hB]; exact ((hb0.trans (hb1.mono (by omega))).setCell (Nat.le_refl _) _).setCell (Nat.le_refl _) _
  have hzB : w1.heap.size = B.heap.size := by rw [← hB]; simp [World.setCell]
  have q9B : B.heap[w.heap.size + 1]? = some (.cells #[.int .u8 0, .slice none 0 0] 31 (0, 0)) := by
    rw [← hB, Below.heap_setCell _ _ _ _ (by show w.heap.size + 1 ≠ w.heap.size; omega), Below.heap_setCell _ _ _ _ (by show w.heap.size + 1 ≠ w.heap.size; omega)]
    exact q9
  obtain ⟨e0, e1, ef⟩ := two_cells q9B
  obtain ⟨rc, hrc0⟩ : ∃ rc, w.heap.size + 1 = rc := ⟨_, rfl⟩
  rw [hrc0] at e0 e1 ef
  have RC := hid (And.intro e0 (And.intro e1 ef))
  have hrc : rc < B.heap.size := by omega
  have hwrc : w.heap.size ≤ rc := by omega
  have HK := hid (HKK.out.keep (S' := S) fun k hk => ⟨hk, hbB.block k (HSS.out k hk)⟩)
  have hSB : ∀ k, S k → k < B.heap.size := fun k hk => by have := HSS.out k hk; omega
  have HIH0 := hid (fun (i : Nat) (a u : Ty) (h1 : ts[i]? = some a) (h2 : us[i]? = some u) (c1 : UInt8) (A1 : Option Addr) (m1 cap1 : Nat) (hr : RepN B S a (.int .u8 c1.toNat) (.slice A1 m1 cap1)) (W : World) (hW : Below B.heap.size B W) =>
    ((IH.out i a u h1 h2).1 mb S c1 A1 m1 cap1 W (HST.out.keep ((hW.block mb (by omega)).trans (hbB.block mb hmb)) fun k hk => ⟨hk, (hW.block k (hSB k hk)).trans (hbB.block k (HSS.out k hk))⟩) (hr.keep fun k hk => ⟨hk, hW.block k (hSB k hk)⟩) (fun k hk => Nat.lt_of_lt_of_le (hSB k hk) hW.size) (IH.out i a u h1 h2).2))
  have HN0 := hid (newF_start c' us B)
  have q8B : B.heap[w.heap.size]? = some (.cells #[.int .u8 c'.toNat, .slice A0 n cap0] 31 (0, 0)) := by
    rw [← hB]
    simp [World.setCell, Array.getElem?_modify, q8]
  have a1 : ∀ o1 o2, ((B.alloc o1).alloc o2).cell? ⟨w.heap.size, 1, none⟩ = some (.slice A0 n cap0) := fun o1 o2 => by
    rw [World.cell?_alloc_lt _ _ _ (by simp only [World.size_alloc]; omega), World.cell?_alloc_lt _ _ _ (by show w.heap.size < _; omega)]
    exact (two_cells q8B).2.1
  rw [← hB] at a1
  have HB := hid hB
  have HZB := hid hzB
  have HRC := hid hrc0
  clear e0 e1 ef h8 h9 q8 q9 q9B q8B nf hB hzB hrc0 hb0 hb1 z0 z1
  go_wp2_with fail
  rw [HB.out, HZB.out, HRC.out]
  go_loopw [18] (fun v wr => ∃ i : Nat, i ≤ n ∧ v = .int .i64 i ∧ NewF c' us B (B.heap.size + 1) i wr) (fun v _ => n - (intOf v).toNat)
  case atStart => exact ⟨0, Nat.zero_le _, rfl, HN0.out⟩
  case round =>
    obtain ⟨i, hi, rfl, g, cap2, xs, hob, hown, hgo, hbel, hkids⟩ := hrel
    have HKD := hid hkids
    have HOB := hid hob
    have HOWN := hid hown
    have zr := hbel.size
    have zo : B.heap.size + 1 < wr.heap.size := (Array.getElem?_eq_some_iff.1 hob).1
    have zg : B.heap.size ≤ g ∧ g < wr.heap.size := by
      obtain ⟨g', cap', e, h1, h2⟩ := own_slice hown (by simp [Value.ownBlock])
      simp only [Value.slice.injEq, Option.some.injEq, Addr.mk.injEq] at e
      obtain ⟨⟨rfl, _⟩, _⟩ := e
      exact ⟨h1, h2⟩
    obtain ⟨n0, n1, nf⟩ := two_cells hob
    have r0 := cell_below RC.out.1 hrc hbel
    have r1 := cell_below RC.out.2.1 hrc hbel
    have rf0 : wr.frozen? ⟨rc, 0, none⟩ = false := frz_below RC.out.2.2 hrc hbel 0
    have rf1 : wr.frozen? ⟨rc, 1, none⟩ = false := frz_below RC.out.2.2 hrc hbel 1
    clear hkids hob hown
    by_cases hlt : i < n
    · have hti : ts[i]? = some (ts[i]'(by have := HN.out; omega)) := List.getElem?_eq_getElem _
      have hui : us[i]? = some (us[i]'(by have := HU.out; omega)) := List.getElem?_eq_getElem _
      obtain ⟨a, ha⟩ : ∃ a, ts[i]'(by have := HN.out; omega) = a := ⟨_, rfl⟩
      obtain ⟨u, hu⟩ : ∃ u, us[i]'(by have := HU.out; omega) = u := ⟨_, rfl⟩
      rw [ha] at hti
      rw [hu] at hui
      obtain ⟨gk, c1, A1, m1, cap1, rfl, hgk, hk1, hk2, hkr⟩ := HK.out i a hti
      have HUI := hid hui
      have hgl := hSB gk hgk
      have k1 := cell_below hk1 hgl hbel
      have k2 := cell_below hk2 hgl hbel
      have HIH := hid (fun (W : World) (hW : Below B.heap.size B W) => HIH0.out i a u hti hui c1 A1 m1 cap1 hkr W hW)
      have i1 : (0 : Int) ≤ (i : Int) := by omega
      have i2 : (i : Int) < (n : Int) := by omega
      clear hti hui ha hu hk1 hk2 hkr
      go_wp2_with fail
      obtain ⟨W9, hW9⟩ : ∃ W9, wr.alloc (.cells #[.int .u8 c1.toNat, .slice A1 m1 cap1] 31) = W9 := ⟨_, rfl⟩
      have p0 : W9.cell? ⟨wr.heap.size, 0, none⟩ = some (.int .u8 c1.toNat) := by rw [← hW9]; exact (two_cells (heap_new1 wr _)).1
      have p1 : W9.cell? ⟨wr.heap.size, 1, none⟩ = some (.slice A1 m1 cap1) := by rw [← hW9]; exact (two_cells (heap_new1 wr _)).2.1
      have hbr9 : Below wr.heap.size wr W9 := by rw [← hW9]; exact (Below.refl _ _).alloc (Nat.le_refl _) _
      have z9 : W9.heap.size = wr.heap.size + 1 := by rw [← hW9]; simp only [World.size_alloc]
      have hb9 : Below B.heap.size B W9 := hbel.trans (hbr9.mono zr)
      have q1 : W9.cell? ⟨B.heap.size + 1, 1, none⟩ = some (.slice (some ⟨g, 0, none⟩) i cap2) := cell_below n1 zo hbr9
      rw [hW9]
      clear hW9 n0 n1 nf r0 r1 rf0 rf1 k1 k2
      have K4 : ∀ w4, Below W9.heap.size W9 w4 → W9.heap.size ≤ w4.heap.size ∧ w4.cell? ⟨B.heap.size + 1, 1, none⟩ = some (.slice (some ⟨g, 0, none⟩) i cap2) ∧
          (∀ o, (w4.alloc o).cell? ⟨B.heap.size + 1, 1, none⟩ = some (.slice (some ⟨g, 0, none⟩) i cap2)) ∧
          w4.ownsRow B.heap.size 31 2 (.slice (some ⟨g, 0, none⟩) i cap2) i xs ∧ w4.heap[B.heap.size + 1]? = some (.cells #[.int .u8 c'.toNat, .slice (some ⟨g, 0, none⟩) i cap2] 31 (0, 0)) := fun w4 hb4 => by
        have z4 : W9.heap.size ≤ w4.heap.size := hb4.size
        have hb4r := hbr9.trans (hb4.mono (by omega))
        have e4 := (hb4r.block (B.heap.size + 1) zo).trans HOB.out
        have q4 : w4.cell? ⟨B.heap.size + 1, 1, none⟩ = some (.slice (some ⟨g, 0, none⟩) i cap2) := (two_cells e4).2.1
        exact ⟨z4, q4, fun o => (World.cell?_alloc_lt _ _ _ (by show B.heap.size + 1 < _; omega)).trans q4, own_kept HOWN.out (hb4r.block g zg.2), e4⟩
      have HK4 := hid K4
      clear K4
      have G5 : ∀ (w4 w5 : World) (o : Obj), (w4.alloc o).grownBy w5 (Value.slice (some ⟨g, 0, none⟩) i cap2).ownBlock → W9.heap.size ≤ w4.heap.size → w4.heap[B.heap.size + 1]? = some (.cells #[.int .u8 c'.toNat, .slice (some ⟨g, 0, none⟩) i cap2] 31 (0, 0)) →
          w5.heap[B.heap.size + 1]? = some (.cells #[.int .u8 c'.toNat, .slice (some ⟨g, 0, none⟩) i cap2] 31 (0, 0)) := fun w4 w5 o hg5 z4 e4 => by
        rw [hg5.block _ (by simp only [World.size_alloc]; omega) (fun h => hgo (by simpa [Value.ownBlock] using h.symm)), Below.heap_alloc _ _ _ (by omega)]
        exact e4
      have HG5 := hid G5
      clear G5
      obtain ⟨i0, hi0, hz0, hz1, hz2⟩ := info_parts nodeInfoS
      go_region_law
        (first
          | (refine step_append_lies _ (by rfl) _ _ _ (by rfl) B.heap.size 31 i0 _ 2 32 Tryz.underlying29 hi0 hz0 hz1 hz2 rfl (by omega) (.slice (some ⟨g, 0, none⟩) i cap2) i xs (by rfl) (hown4.alloc _)
               ⟨w4.heap.size, 0, none⟩ 1 1 [.int .u8 c4.toNat, .slice A4 m4 cap4] (by rfl) (by rfl) (World.news_of_block (cs := #[.int .u8 c4.toNat, .slice A4 m4 cap4]) (t := 31) (fr := (0, 0)) (heap_alloc_new w4 _)) (by simp [Value.oneCell'])
               (by omega) (by simp only [maxLen]; omega) (by omega) (by simp only [World.size_alloc]; omega) (w4.heap.size + 1) (by simp) ?_
             intro gg cap5 w5 hown5 hg5 hat5 hlt5
             have e5 : w5.heap[B.heap.size + 1]? = some (.cells #[.int .u8 c'.toNat, .slice (some ⟨g, 0, none⟩) i cap2] 31 (0, 0)) := HG5.out w4 w5 _ hg5 z4 E4.out
             obtain ⟨_, c5, ff5⟩ := two_cells e5
             have f5 := ff5 1
             have E5 := hid e5
             clear e5 ff5)
          | (go_simp
             go_at_call 28
             refine (HIH.out _ hb9.drew).mono ?_
             intro e w4 hend
             obtain ⟨c4, A4, m4, cap4, rfl, hr4, hb4'⟩ := hend
             have hb4 : Below W9.heap.size W9 w4 := bel_undrew hb4'
             obtain ⟨z4, q4, q5, hown4, e4⟩ := HK4.out w4 hb4
             have E4 := hid e4
             have HR4 := hid hr4
             clear e4 hr4))
      all_goals
        go_wp2_with fail
        go_roundw
        case rel =>
          have zb5 : w4.heap.size + 1 ≤ w5.heap.size := by have := hg5.size; simpa only [World.size_alloc] using this
          have hgg : g = gg ∨ gg = w4.heap.size + 1 := by
            rcases hat5 with h | h
            · simp only [Value.ownBlock, Option.some.injEq] at h; exact .inl h
            · exact .inr h
          have hggn : gg ≠ B.heap.size + 1 := by omega
          have hk5 : ∀ j, j < w4.heap.size → j ≠ g → j ≠ B.heap.size + 1 → (w5.setCell ⟨B.heap.size + 1, 1, none⟩ (.slice (some ⟨gg, 0, none⟩) (i + 1) cap5)).heap[j]? = w4.heap[j]? := fun j h1 h2 h3 => by
            rw [Below.heap_setCell _ _ _ _ h3, hg5.block _ (by simp only [World.size_alloc]; omega) (by simp [Value.ownBlock]; omega), Below.heap_alloc _ _ _ h1]
          have hb4r := hbr9.trans (hb4.mono (by omega))
          refine ⟨i + 1, hlt, by go_num, gg, cap5, xs ++ [.int .u8 c4.toNat, .slice A4 m4 cap4], ?_, own_kept hown5 (Below.heap_setCell _ _ _ _ hggn), hggn, ?_, ?_⟩
          · have h := E5.out
            simp [World.setCell, Array.getElem?_modify, h]
          · exact (((hbel.trans (hb4r.mono zr)).alloc (by omega) _).grown hg5 (by simp only [World.size_alloc]; omega) (by intro k hk; simp [Value.ownBlock] at hk; omega)).setCell (by show B.heap.size ≤ B.heap.size + 1; omega) _
          · have htk : us.take (i + 1) = us.take i ++ [u] := by
              rw [List.take_add_one, HUI.out]
              rfl
            rw [htk]
            refine Kids.snoc (HR4.out.keep fun k hk => ?_) (HKD.out.keep fun k hk => ?_)
            · have h1 : W9.heap.size ≤ k := hk.1
              refine ⟨⟨by omega, by simp [World.setCell]; omega, by omega, by omega⟩, hk5 k hk.2 (by omega) (by omega)⟩
            · have h2 : k < wr.heap.size := hk.2.1
              refine ⟨⟨hk.1, by simp [World.setCell]; omega, by omega, hk.2.2.2⟩, ?_⟩
              rw [hk5 k (by omega) hk.2.2.1 hk.2.2.2, hb4r.block k h2]
        case measure => simp [intOf]; omega
    · obtain rfl : i = n := by omega
      go_wp2_with fail
      have htk : us.take i = us := List.take_of_length_le (by rw [HU.out]; exact Nat.le_refl _)
      have hkd := HKD.out
      rw [htk] at hkd
      refine bodyPost_ret (v := .agg #[.int .u8 c'.toNat, .slice (some ⟨g, 0, none⟩) i cap2]) (by simp [results, Tryz.results28, go_sem, r0, r1]) rfl ⟨c', _, i, cap2, rfl, ?_, ?_⟩
      · have hset : ∀ k, k ≠ rc → ((wr.setCell ⟨rc, 0, none⟩ (.int .u8 c'.toNat)).setCell ⟨rc, 1, none⟩ (.slice (some ⟨g, 0, none⟩) i cap2)).heap[k]? = wr.heap[k]? := fun k hk => by
          rw [Below.heap_setCell _ _ _ _ hk, Below.heap_setCell _ _ _ _ hk]
        have hkd' : Kids ((wr.setCell ⟨rc, 0, none⟩ (.int .u8 c'.toNat)).setCell ⟨rc, 1, none⟩ (.slice (some ⟨g, 0, none⟩) i cap2)) (fun k => w.heap.size ≤ k ∧ k < wr.heap.size) us xs := hkd.keep fun k hk => ⟨⟨by omega, hk.2.1⟩, hset k (by omega)⟩
        have hsz : ((wr.setCell ⟨rc, 0, none⟩ (.int .u8 c'.toNat)).setCell ⟨rc, 1, none⟩ (.slice (some ⟨g, 0, none⟩) i cap2)).heap.size = wr.heap.size := by simp [World.setCell]
        rw [hsz]
        by_cases hi0 : i = 0
        · subst hi0
          have hnil : us = [] := List.eq_nil_of_length_eq_zero HU.out
          rw [hnil]
          exact lf_mk
        · exact rep_mk (by omega) hkd' HU.out (own_kept HOWN.out (hset g (by omega))) ⟨by omega, zg.2⟩
      · exact ((hbB.trans (hbel.mono hbB.size)).setCell (by show w.heap.size ≤ rc; omega) _).setCell (by show w.heap.size ≤ rc; omega) _

end Go.Proofs.YtjpdiahbnhemoaaGreat

namespace Go.Proofs.YtjpdiahbnhemoaaGreat
open Go.RowKit

/-- A type with what its variables stand for put in, again and again. -/
inductive Ful (V : UInt8 → Bool) (f : UInt8 → Option Ty) : Ty → Ty → Prop
  | lf {a : Ty} {c : UInt8} : Thr V f a (.lf c) → Ful V f a (.lf c)
  | un {a x x' : Ty} {c : UInt8} : Thr V f a (.un c x) → Ful V f x x' → Ful V f a (.un c x')
  | bi {a x y x' y' : Ty} {c : UInt8} : Thr V f a (.bi c x y) → Ful V f x x' → Ful V f y y' → Ful V f a (.bi c x' y')
theorem ful_total {V : UInt8 → Bool} {f : UInt8 → Option Ty} {σ : UInt8 → Ty} {ρ : UInt8 → Nat} {M : Nat} (h : Inv V f σ ρ M) : ∀ (k : Nat) (a : Ty), (a.subV V σ).wt < k → a.shp → Ful V f a (a.subV V σ) := by
  intro k
  induction k with
  | zero => intro a ha; omega
  | succ k ih =>
    intro a hk ha
    obtain ⟨b, hb, hs, he, hfree⟩ := thr_total h a ha
    rw [← he]
    cases b with
    | lf c =>
      have hc : (Ty.lf c).subV V σ = .lf c := by
        unfold Ty.subV
        split
        · rename_i hv
          exact h.free c hv (hfree c rfl hv)
        · rfl
      rw [hc]
      exact .lf hb
    | un c x =>
      have hw : (x.subV V σ).wt < k := by
        rw [← he] at hk
        simp only [Ty.subV, Ty.wt] at hk
        omega
      exact .un hb (ih x hw hs.2)
    | bi c x y =>
      have hw : (x.subV V σ).wt < k ∧ (y.subV V σ).wt < k := by
        rw [← he] at hk
        simp only [Ty.subV, Ty.wt] at hk
        omega
      exact .bi hb (ih x hw.1 hs.2.1) (ih y hw.2 hs.2.2)
theorem ful_inner {V : UInt8 → Bool} {f : UInt8 → Option Ty} (hf : InF f) {a u : Ty} (h : Ful V f a u) : a.inner → u.inner := by
  induction h with
  | lf h => exact fun ha => thr_inner hf h ha
  | un h _ ih => exact fun ha => ⟨(thr_inner hf h ha).1, (thr_inner hf h ha).2.1, ih (thr_inner hf h ha).2.2⟩
  | bi h _ _ iha ihb => exact fun ha => ⟨(thr_inner hf h ha).1, (thr_inner hf h ha).2.1, iha (thr_inner hf h ha).2.2.1, ihb (thr_inner hf h ha).2.2.2⟩

theorem fullN_any {f : UInt8 → Option Ty} (hf : InF f) {a u : Ty} (h : Ful isN f a u) : FullAt f a u := by
  induction h with
  | @lf a c0 h =>
    intro mb S c A m cap w hst hr hS ha
    obtain ⟨nn, c', p', hw, hr'⟩ := wk_of hf h mb S w hst ha c _ hr
    obtain rfl : c' = c0 := repN_head hr'
    obtain ⟨_, A', cap', rfl⟩ := hr'
    exact fullRow mb nn c c' A m cap [] [] 0 cap' A' w hw hst.lt rfl rfl (by omega) f S hst (fun i a u h => by simp at h) (fun j a h => by simp at h) hS
  | @un a x x' c0 h _ ih =>
    intro mb S c A m cap w hst hr hS ha
    have hin := thr_inner hf h ha
    obtain ⟨nn, c', p', hw, hr'⟩ := wk_of hf h mb S w hst ha c _ hr
    obtain rfl : c' = c0 := repN_head hr'
    obtain ⟨_, A', cap', rfl, ka⟩ := un_kids hr'
    refine fullRow mb nn c c' A m cap [x] [x'] 1 cap' A' w hw hst.lt rfl rfl (by omega) f S hst (fun i b u h1 h2 => ?_) ka hS
    match i with
    | 0 =>
      simp only [List.getElem?_cons_zero, Option.some.injEq] at h1 h2
      subst h1
      subst h2
      exact ⟨ih, hin.2.2⟩
    | i + 1 => simp at h1
  | @bi a x y x' y' c0 h _ _ iha ihb =>
    intro mb S c A m cap w hst hr hS ha
    have hin := thr_inner hf h ha
    obtain ⟨nn, c', p', hw, hr'⟩ := wk_of hf h mb S w hst ha c _ hr
    obtain rfl : c' = c0 := repN_head hr'
    obtain ⟨_, A', cap', rfl, ka⟩ := bi_kids hr'
    refine fullRow mb nn c c' A m cap [x, y] [x', y'] 2 cap' A' w hw hst.lt rfl rfl (by omega) f S hst (fun i b u h1 h2 => ?_) ka hS
    match i with
    | 0 =>
      simp only [List.getElem?_cons_zero, Option.some.injEq] at h1 h2
      subst h1
      subst h2
      exact ⟨iha, hin.2.2.1⟩
    | 1 =>
      simp only [List.getElem?_cons_succ, List.getElem?_cons_zero, Option.some.injEq] at h1 h2
      subst h1
      subst h2
      exact ⟨ihb, hin.2.2.2⟩
    | i + 2 => simp at h1

end Go.Proofs.YtjpdiahbnhemoaaGreat

namespace Go.Proofs.YtjpdiahbnhemoaaGreat
open Go.RowKit

/-- What the first k variables come to. -/
def hUp (h : UInt8 → Option Ty) (k : Nat) (c : UInt8) : Option Ty := if 0 ≤ l2ix c ∧ l2ix c < (k : Int) then h c else none
theorem hUp_step {h : UInt8 → Option Ty} {k : Nat} {c : UInt8} {u : Ty} (hc : l2ix c = (k : Int)) (hu : h c = some u) : hUp h (k + 1) = fun e => if e = c then some u else hUp h k e := by
  funext e
  unfold hUp
  by_cases he : e = c
  · subst he
    rw [if_pos rfl, if_pos (by omega), hu]
  · rw [if_neg he]
    have hne : l2ix e ≠ (k : Int) := fun h => he (l2ix_inj h hc)
    by_cases h1 : 0 ≤ l2ix e ∧ l2ix e < (k : Int)
    · rw [if_pos h1, if_pos (by omega)]
    · rw [if_neg h1, if_neg (by omega)]
theorem hUp_skip {h : UInt8 → Option Ty} {k : Nat} {c : UInt8} (hc : l2ix c = (k : Int)) (hu : h c = none) : hUp h (k + 1) = hUp h k := by
  funext e
  unfold hUp
  by_cases he : e = c
  · subst he
    rw [hu]
    split <;> split <;> rfl
  · have hne : l2ix e ≠ (k : Int) := fun h => he (l2ix_inj h hc)
    by_cases h1 : 0 ≤ l2ix e ∧ l2ix e < (k : Int)
    · rw [if_pos h1, if_pos (by omega)]
    · rw [if_neg h1, if_neg (by omega)]
theorem hUp_all {h : UInt8 → Option Ty} (hn : ∀ c u, h c = some u → isN c = true) : hUp h 12 = h := by
  funext e
  unfold hUp
  by_cases h1 : 0 ≤ l2ix e ∧ l2ix e < ((12 : Nat) : Int)
  · rw [if_pos h1]
  · rw [if_neg h1]
    rcases hh : h e with _ | u
    · rfl
    · obtain ⟨k, hk, hk2⟩ := isN_pos (hn e u hh)
      omega
theorem hUp_zero (h : UInt8 → Option Ty) : hUp h 0 = fun _ => none := by
  funext e
  unfold hUp
  rw [if_neg (by omega)]

/-- How l2Solve ends. -/
def SolveEnd (w : World) (o : Option (UInt8 → Option Ty)) (h : UInt8 → Option Ty) (e : Ending) (w' : World) : Prop :=
  Below w.heap.size w w' ∧ match o with
    | none => ∃ p, e = .returned (.tuple #[.pointer (some ⟨p, 0, none⟩), .bool false])
    | some _ => ∃ ob, e = .returned (.tuple #[.pointer (some ⟨ob, 0, none⟩), .bool true]) ∧ StndN w' ob (fun j => w.heap.size ≤ j ∧ j < w'.heap.size ∧ j ≠ ob) h

set_option maxHeartbeats 2000000 in
set_option maxRecDepth 100000 in
theorem l2Solve_any (P T : Ty) (hP : P.inner) (hT : T.inner) (S : Nat → Prop) (c : UInt8) (A : Option Addr) (m cap : Nat) (d : UInt8) (B : Option Addr) (m' cap' : Nat) (w : World) (hr1 : RepN w S P (.int .u8 c.toNat) (.slice A m cap)) (hr2 : RepN w S T (.int .u8 d.toNat) (.slice B m' cap')) (hS : ∀ g, S g → g < w.heap.size)
    (o : Option (UInt8 → Option Ty)) (ho : Uni isN ltN (fun _ => none) P T o) (h : UInt8 → Option Ty) (hg : ∀ g, o = some g → InF g ∧ (∀ c, g c = none → h c = none) ∧ (∀ c t, g c = some t → isN c = true ∧ ∃ u, h c = some u ∧ Ful isN g t u)) :
    Calls Tryz.prog 11 #[.agg #[.int .u8 c.toNat, .slice A m cap], .agg #[.int .u8 d.toNat, .slice B m' cap']] w (SolveEnd w o h) := by
  have HR1 := hid hr1
  have HR2 := hid hr2
  have HS := hid hS
  have HU := hid ho
  have HG := hid hg
  clear hr1 hr2 hS ho hg
  go_enter Tryz.func11, Tryz.ntmps11
  go_wp2_with fail
  obtain ⟨W0, hW0⟩ : ∃ W0, (w.alloc (.cells #[.int .u8 c.toNat, .slice A m cap] 31)).alloc (.cells #[.int .u8 d.toNat, .slice B m' cap'] 31) = W0 := ⟨_, rfl⟩
  have hb0 : Below w.heap.size w W0 := by rw [← hW0]; exact ((Below.refl _ _).alloc (Nat.le_refl _) _).alloc (by simp only [World.size_alloc]; omega) _
  have z0 : w.heap.size + 1 + 1 = W0.heap.size := by rw [← hW0]; simp only [World.size_alloc]
  have hst0 := StndN.new W0 S
  obtain ⟨W1, hW1⟩ : ∃ W1, W0.alloc (.cells emptyN 40) = W1 := ⟨_, rfl⟩
  have hb1 : Below W0.heap.size W0 W1 := by rw [← hW1]; exact (Below.refl _ _).alloc (Nat.le_refl _) _
  have z1 : W1.heap.size = W0.heap.size + 1 := by rw [← hW1]; simp only [World.size_alloc]
  rw [hW1] at hst0
  have hb01 : Below w.heap.size w W1 := hb0.trans (hb1.mono (by omega))
  have hk := unifyN_any HU.out (fun c t h => by cases h) hP hT W0.heap.size S c A m cap d B m' cap' W1 hst0 (HR1.out.keep fun g hg => ⟨hg, hb01.block g (HS.out g hg)⟩) (HR2.out.keep fun g hg => ⟨hg, hb01.block g (HS.out g hg)⟩) (fun h => by have := HS.out _ h; omega) (fun g hg => by have := HS.out g hg; omega)
  have HK := hid hk
  have HW0 := hid hW0
  have HW1 := hid hW1
  have Z0 := hid z0
  clear hk hst0 hW0 hW1 z0
  rw [HW0.out, Z0.out]
  show Calls Tryz.prog _ _ (W0.alloc (.cells emptyN 40)) _
  rw [HW1.out]
  refine HK.out.mono ?_
  rintro e w4 ⟨hb4, hr⟩
  have hz0 := Z0.out
  have hbw4 : Below w.heap.size w w4 := hb01.trans (hb4.below' (by omega) (by omega))
  have HB4 := hid hbw4
  cases o with
  | none =>
    obtain rfl : e = .returned (.bool false) := hr
    clear HK hz0
    go_wp2_with fail
    exact bodyPost_ret (v := .tuple #[.pointer (some ⟨W0.heap.size, 0, none⟩), .bool false]) (by simp [results, Tryz.results11, go_sem]) rfl ⟨HB4.out, _, rfl⟩
  | some g =>
    obtain ⟨rfl, hst⟩ : e = .returned (.bool true) ∧ StndN w4 W0.heap.size S g := hr
    obtain ⟨hIn, hNo, hYes⟩ := HG.out g rfl
    have HST := hid hst
    have HNO := hid hNo
    have HYES := hid hYes
    have HIN := hid hIn
    have z4 : W1.heap.size ≤ w4.heap.size := hb4.size
    have hS4 : ∀ j, S j → j < w4.heap.size := fun j hj => by have := HS.out j hj; omega
    have HS4 := hid hS4
    have hm4 : W0.heap.size < w4.heap.size := by omega
    have hwz : w.heap.size ≤ w4.heap.size := by omega
    have HSO := hid (StndN.new w4 (fun j => w4.heap.size < j ∧ j < (w4.alloc (.cells emptyN 40)).heap.size))
    clear hst hIn hNo hYes HK hz0 z1 z4 hS4 hb4 hb0 hb1 hb01
    go_wp2_with fail
    go_loopw [19] (fun v wr => ∃ k : Nat, k ≤ 12 ∧ v = .int .i64 k ∧ StndN wr w4.heap.size (fun j => w4.heap.size < j ∧ j < wr.heap.size) (hUp h k) ∧ Below w4.heap.size w4 wr) (fun v _ => 12 - (intOf v).toNat)
    case atStart =>
      refine ⟨0, Nat.zero_le _, rfl, ?_, (Below.refl _ _).alloc (Nat.le_refl _) _⟩
      rw [hUp_zero]
      exact HSO.out
    case round =>
      obtain ⟨k, hk, rfl, hso, hbel⟩ := hrel
      have HSOR := hid hso
      have zr := hbel.size
      have zo := hso.lt
      clear hso
      by_cases hlt : k < 12
      · have i1 : (0 : Int) ≤ (k : Int) := by omega
        have i2 : (k : Int) < 12 := by omega
        obtain ⟨hix, hasc⟩ := letN_ix k hlt
        obtain ⟨x, hx⟩ : ∃ x, letN k = x := ⟨_, rfl⟩
        rw [hx] at hix
        have HIX := hid hix
        have hstr : StndN wr W0.heap.size S g := HST.out.keep (hbel.block _ hm4) fun j hj => ⟨hj, hbel.block j (HS4.out j hj)⟩
        have HSTR := hid hstr
        obtain ⟨cur, h1, h2, h3⟩ := hstr
        have h4 := h3 x k hix
        rcases hgx : g x with _ | t
        · rw [hgx] at h4
          have c0 := cell_blk h1 h4.1
          have HE := hid (hUp_skip hix (HNO.out x hgx))
          clear h1 h2 h3 h4 hx hix hgx
          go_wp2_with fail
          go_roundw
          case rel => exact ⟨k + 1, hlt, by go_num, by rw [HE.out]; exact HSOR.out, hbel⟩
          case measure => simp [intOf]; omega
        · rw [hgx] at h4
          obtain ⟨e, A2, m2, cap2, he0, g0, g1, hrep⟩ := h4
          have c0 := cell_blk h1 g0
          have c1 := cell_blk h1 g1
          have hen : ((e.toNat : Int) != 0) = true := by
            simp only [bne_iff_ne, ne_eq]
            exact fun q => he0 (UInt8.toNat_inj.1 (by rw [show (0 : UInt8).toNat = 0 from rfl]; omega))
          obtain ⟨_, u, hu, hful⟩ := HYES.out x t hgx
          have HE := hid (hUp_step hix hu)
          have hui := ful_inner HIN.out hful (HIN.out x t hgx)
          have HUI := hid hui
          have HF := hid (fun (W : World) (hW : Below wr.heap.size wr W) => fullN_any HIN.out hful W0.heap.size S e A2 m2 cap2 W (HSTR.out.keep (hW.block _ (by omega)) fun j hj => ⟨hj, hW.block j (by have := HS4.out j hj; omega)⟩) (hrep.keep fun j hj => ⟨hj, hW.block j (by have := HS4.out j hj; omega)⟩) (fun j hj => by have := HS4.out j hj; have := hW.size; omega) (HIN.out x t hgx))
          have HC := hid (fun (W : World) (hW : Below wr.heap.size wr W) => StndN.cells (HSOR.out.keep (S' := fun j => w4.heap.size < j ∧ j < wr.heap.size) (hW.block _ zo) fun j hj => ⟨hj, hW.block j hj.2⟩) k hlt)
          obtain ⟨⟨u0, v0⟩, ⟨u1, v1⟩, ff⟩ := HC.out wr (Below.refl _ _)
          clear h1 h2 h3 g0 g1 hx hix hgx hu hful hui hrep he0
          go_wp2_with fail
          go_region_with (go_at_call 28; refine (HF.out _ (Below.refl _ _).drew).mono ?_; rintro e5 w5 ⟨c5, A5, m5, cap5, rfl, hr5, hb5⟩; have hb5' : Below wr.heap.size wr w5 := bel_undrewN hb5; have HR5 := hid hr5; clear hr5 hb5; obtain ⟨⟨y0, q0⟩, ⟨y1, q1⟩, ff5⟩ := HC.out w5 hb5')
          all_goals
            go_wp2_with fail
            go_roundw
            case rel =>
              have z5 := hb5'.size
              have hso5 := HSOR.out.keep (S' := fun j => w4.heap.size < j ∧ j < w5.heap.size) (hb5'.block _ zo) fun j hj => ⟨⟨hj.1, by omega⟩, hb5'.block j hj.2⟩
              have hr5 := HR5.out.keep (S' := fun j => w4.heap.size < j ∧ j < w5.heap.size) (w' := w5) fun j hj => ⟨⟨by have h1 : wr.heap.size ≤ j := hj.1; omega, hj.2⟩, rfl⟩
              have hset := hso5.set (fun h => absurd h.1 (Nat.lt_irrefl _)) HIX.out (text_ne0 HUI.out hr5) hr5
              refine ⟨k + 1, hlt, by go_num, ?_, ((hbel.trans (hb5'.mono zr)).setCell (Nat.le_refl _) _).setCell (Nat.le_refl _) _⟩
              rw [HE.out]
              exact hset.keep rfl fun j hj => ⟨⟨hj.1, by simp [World.setCell]; exact hj.2⟩, rfl⟩
            case measure => simp [intOf]; omega
      · have HKN := hid (show k = 12 by omega)
        go_wp2_with fail
        refine bodyPost_ret (v := .tuple #[.pointer (some ⟨w4.heap.size, 0, none⟩), .bool true]) (by simp [results, Tryz.results11, go_sem]) rfl ⟨HB4.out.trans (hbel.mono hwz), _, rfl, ?_⟩
        have hs := HSOR.out
        rw [HKN.out, hUp_all (fun c u hc => by
          rcases hgc : g c with _ | t
          · rw [HNO.out c hgc] at hc
            cases hc
          · exact (HYES.out c t hgc).1)] at hs
        exact hs.keep rfl fun j hj => ⟨⟨by omega, hj.2, by omega⟩, rfl⟩

end Go.Proofs.YtjpdiahbnhemoaaGreat

namespace Go.Proofs.YtjpdiahbnhemoaaGreat
open Go.RowKit

def backN (c : UInt8) : UInt8 := letN ((l2ix c).toNat - 6)
theorem otherN_var (c : UInt8) (h : isVarB c = true) : isN (otherN c) = true ∧ isVarB (otherN c) = false ∧ backN (otherN c) = c := by
  revert h
  refine u8_all (p := fun c => isVarB c = true → isN (otherN c) = true ∧ isVarB (otherN c) = false ∧ backN (otherN c) = c) ?_ c
  decide +kernel
theorem isN_B (c : UInt8) : (ar c = 0 → isN c = isVarB c) ∧ (isN c = true → ar c ≠ 1 ∧ ar c ≠ 2) ∧ (isN c = true → c ≠ 0) := by
  refine u8_all (p := fun c => (ar c = 0 → isN c = isVarB c) ∧ (isN c = true → ar c ≠ 1 ∧ ar c ≠ 2) ∧ (isN c = true → c ≠ 0)) ?_ c
  decide +kernel
theorem others_inner {t : Ty} (h : t.ok) : (t.subV isN fun c => .lf (otherN c)).inner := by
  induction t with
  | lf c =>
    unfold Ty.subV
    split
    · rename_i hn
      rw [(isN_B c).1 h] at hn
      exact (isN_B _).2.2 (otherN_var c hn).1
    · exact ok_inner (t := .lf c) h
  | un c a ih => exact ⟨((ar_inner c).2.1 h.1).1, ((ar_inner c).2.1 h.1).2, ih h.2⟩
  | bi c a b iha ihb => exact ⟨((ar_inner c).2.2 h.1).1, ((ar_inner c).2.2 h.1).2, iha h.2.1, ihb h.2.2⟩
/-- What a unification leaves for l2Solve. -/
theorem solve_of {P T : Ty} (hP : P.inner) (hT : T.inner) {o : Option (UInt8 → Option Ty)} (ho : Uni isN ltN (fun _ => none) P T o) (hI : ∀ g, o = some g → ∃ σ ρ M, Inv isN g σ ρ M) : ∃ h : UInt8 → Option Ty, (∀ g, o = some g → InF g ∧ (∀ c, g c = none → h c = none) ∧ (∀ c t, g c = some t → isN c = true ∧ ∃ u, h c = some u ∧ Ful isN g t u)) ∧ ∀ g, o = some g → ∃ σ ρ M, Inv isN g σ ρ M ∧ ∀ c, h c = (g c).map fun t => t.subV isN σ := by
  cases o with
  | none => exact ⟨fun _ => none, (fun g hg => by cases hg), fun g hg => by cases hg⟩
  | some g =>
    obtain ⟨σ, ρ, M, hInv⟩ := hI g rfl
    refine ⟨fun c => (g c).map fun t => t.subV isN σ, fun g' hg => ?_, fun g' hg => ?_⟩
    · injection hg with hg
      subst hg
      refine ⟨uni_inner ho (fun c t h => by cases h) hP hT g rfl, fun c hc => by simp only [hc]; rfl, fun c t hc => ?_⟩
      obtain ⟨h1, h2, _⟩ := hInv.bound c t hc
      exact ⟨h1, t.subV isN σ, by simp only [hc]; rfl, ful_total hInv _ t (Nat.lt_succ_self _) h2⟩
    · injection hg with hg
      subst hg
      exact ⟨σ, ρ, M, hInv, fun c => rfl⟩

end Go.Proofs.YtjpdiahbnhemoaaGreat
