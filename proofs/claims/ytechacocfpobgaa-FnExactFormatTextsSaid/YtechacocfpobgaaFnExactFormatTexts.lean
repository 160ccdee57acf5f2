/- The law FnExactFormatTexts, proved: whatever the input, the call returns true, and each argument reads behind it as before. -/
import Derived.Test.YtechacocfpobgaaFacts
import Derived.Test.YtechacocfpobgaaFtx
import Derived.WalkKit
import Derived.ProofKit
import Derived.OpenShut
import Derived.ShutString
import Derived.ChangeOld
import Derived.Below
import Derived.SliceStrings
namespace Go.Proofs.Ytechacocfpobgaa.fnExactFormatTexts
open Go.ChangeShapes Go.WideShapes Go.ChangeAt Go.RowKit
open Go.ChangeMaps (open_string shut_string)
set_option linter.unusedVariables false

set_option maxHeartbeats 1600000 in
set_option maxRecDepth 100000 in
theorem walk (w : World) (A0 : Option Addr) (len0 cap0 : Nat) (z0 : List ByteArray) (hl0 : len0 ≤ cap0) (hm0 : cap0 ≤ maxLen) (s0 : Strs w A0 len0 z0) (hz0 : ∀ x ∈ z0, x.size ≤ maxLen) :
    Calls Try.prog 7 #[.slice A0 len0 cap0] w fun e w' => e = .returned (.bool true) ∧ Below w.heap.size w w' := by
  have hn0 : len0 ≤ maxLen := Nat.le_trans hl0 hm0
  obtain ⟨q, hq⟩ : ∃ q, ftW z0 = q := ⟨_, rfl⟩
  have HQ := hid hq
  clear hq
  have S0 := hid s0
  clear s0
  go_enter Try.func7, Try.ntmps7
  go_wp2_with fail
  refine (szStrings_any A0 len0 cap0 z0 1048576 w S0.out hz0 hn0 (Nat.le_refl _)).mono ?_
  rintro e u0 ⟨r, m0, rfl, rfl, hr⟩
  rcases hr with rfl | ⟨hr0, hr2⟩
  · go_wp2_with fail
    go_ret
    exact ⟨rfl, below_drewN' (Below.refl _ _) m0⟩
  · have hr0' : ¬ r < 0 := by omega
    clear hr0
    have hr3 : len0 ≤ 1048576 := by omega
    have b0 : Below w.heap.size w (w.drewN m0) := below_drewN' (Below.refl _ _) m0
    obtain ⟨v0, hv0⟩ : ∃ v, w.drewN m0 = v := ⟨_, rfl⟩
    have st0 : Strs v0 A0 len0 z0 := by rw [← hv0]; exact S0.out.drewN m0
    rw [hv0] at b0
    go_wp2_with fail
    clear hv0
    refine (toStringS_any A0 len0 cap0 z0 v0 st0 hr3).mono ?_
    rintro e v1 ⟨rfl, ho1, hb1⟩
    go_wp2_with fail
    refine (formatTextsS_any _ len0 len0 z0 v1 ho1.strs (by omega) q HQ).mono ?_
    rintro e v2 ⟨rfl, rfl⟩
    have st2 := st0.below hb1
    go_wp2_with fail
    refine (toStringS_any A0 len0 cap0 z0 v2 st2 hr3).mono ?_
    rintro e v3 ⟨rfl, ho3, hb3⟩
    go_wp2_with fail
    refine (formatTextsI_any _ len0 len0 z0 v3 ho3.strs (by omega) (Nat.le_refl _) q HQ).mono ?_
    rintro e v4 ⟨rfl, hb4⟩
    have b24 : Below v2.heap.size v2 v4 := hb3.trans (hb4.mono hb3.size)
    have b04 : Below v0.heap.size v0 v4 := hb1.trans (b24.mono hb1.size)
    have st4 := st0.below b04
    have sx4 : Strs v4 (some ⟨v2.heap.size, 0, none⟩) len0 z0 := ho3.strs.below hb4
    go_wp2_with fail
    refine (toStringS_any A0 len0 cap0 z0 v4 st4 hr3).mono ?_
    rintro e v5 ⟨rfl, ho5, hb5⟩
    have sx5 := sx4.below hb5
    go_wp2_with fail
    refine (eqStringS_same _ _ len0 len0 len0 z0 v5 sx5 ho5.strs hr3).mono ?_
    rintro e v6 ⟨rfl, m6, rfl⟩
    go_wp2_with fail
    go_ret
    have b05 := b04.trans (hb5.mono b04.size)
    exact ⟨rfl, below_drewN' (b0.trans (b05.mono b0.size)) m6⟩

set_option maxRecDepth 100000 in
theorem lifted (os : Os) (started : os.Started) (H : Type) (enc : TypeId × Value → H) :
    ReturnsInHanded {} Try.checked os 7 .any (Rows.fnExactFormatTextsSpec.pre6 enc Try.prog Try.f7 Rows.fnExactFormatTextsRow.domain false) (Rows.fnExactFormatTextsSpec.post enc Try.prog Try.f7 false true false false) := by
  refine returnsInHanded_of_change (C := Try.checked) Facts.own started (by kernel_rfl) Try.func7
    (ChangeSpec.witness6 (enc := enc) (C := Try.checked) false ⟨#[], #[.slice none 0 0], []⟩ 8 (by kernel_rfl) (by kernel_rfl) (by kernel_rfl) (by kernel_rfl)) ?_
  intro W base args ds gs before hval0 hW hcnd _
  have hval : ∀ (j : Nat) t v, Try.f7.params[j]? = some t → args[j]? = some v → Value.okWide Try.prog W .any base t v := hval0
  have hW' := hW
  obtain ⟨p, q, hA0, hV, rfl, hfz, hnd⟩ := hW
  have hA : DataW.TrodAll enc Try.prog W 0 (fun _ => true) true Try.f7.params.toList args.toList ds p := hA0
  rw [Try.params7] at hA hval
  obtain ⟨v0, vs0, d0, ds0, p0, q0, hargs, rfl, rfl, h0, rr0⟩ := trodAll_cons hA
  obtain ⟨rfl, rfl, rfl⟩ := trodAll_nil rr0
  obtain rfl : args = #[v0] := by cases args; simp_all
  obtain ⟨rfl, rfl⟩ := trodVars_none hV
  have k0 := h0
  have lt0 : ∀ x ∈ p0, x.block < W.heap.size := by obtain ⟨m, hm⟩ := k0; exact DataW.trod_lt m _ _ _ hm
  obtain ⟨A0, len0, cap0, rfl⟩ := okWide_slice Try.underlying24 (hval 0 24 v0 rfl rfl)
  obtain ⟨z0, hl0, hm0, s0, hz0⟩ : ∃ zs, len0 ≤ cap0 ∧ cap0 ≤ maxLen ∧ Strs W A0 len0 zs ∧ ∀ x ∈ zs, x.size ≤ maxLen := by
    obtain ⟨fuel, hf⟩ := h0
    rcases open_strings Try.underlying24 Try.underlying9 (by kernel_rfl) hf with ⟨hcs, _⟩ | ⟨x, l, c, ss, hcs, hx0, hl, hm, hz, _, hcell, hws⟩
    · simp [Value.cells] at hcs
      obtain ⟨rfl, rfl, rfl⟩ := hcs
      exact ⟨[], Nat.le_refl _, Nat.zero_le _, ⟨rfl, fun h => absurd h (Nat.lt_irrefl 0)⟩, fun x hx => by cases hx⟩
    · simp [Value.cells] at hcs
      obtain ⟨rfl, rfl, rfl⟩ := hcs
      exact ⟨ss.take _, hl, hm, strs_of (by rw [hz]; exact hl) hcell, fun s hs => hws s (List.mem_of_mem_take hs)⟩
  clear hA0 hval0
  refine (walk  W A0 len0 cap0 z0 hl0 hm0 s0 hz0).mono fun e W' ⟨hend, bel⟩ => ?_
  subst hend
  exact ⟨_, rfl, _, _, _, [], _, [], hW', trodAll_mk1 (shut_bool Try.underlying4 _), (trodAll_cons_mk (Below.trod Facts.laidOut (by kernel_rfl) (of_decide_eq_true (by kernel_rfl)) k0 bel lt0) trodAll_mk0), rfl, bel.frame _, fun h => by cases h⟩

theorem closed : joinedFacts Try.pinned.checked.prog 7 Try.f7 Rows.fnExactFormatTextsSpec Rows.fnExactFormatTextsRow = true := by
  simp only [joinedFacts, Bool.and_eq_true]
  refine ⟨⟨⟨⟨⟨⟨⟨⟨⟨⟨⟨⟨⟨⟨⟨⟨⟨⟨⟨⟨⟨⟨⟨⟨⟨⟨⟨⟨⟨⟨⟨?_, Facts.laidOut⟩, Facts.rowed⟩, ?_⟩, ?_⟩, ?_⟩, Facts.stops⟩, ?_⟩, Facts.knobs⟩, ?_⟩, ?_⟩, ?_⟩, ?_⟩, ?_⟩, ?_⟩, ?_⟩, ?_⟩, ?_⟩, ?_⟩, ?_⟩, ?_⟩, ?_⟩, ?_⟩, ?_⟩, Facts.heard⟩, Facts.may⟩,
    (congrArg (fun x => (Rows.fnExactFormatTextsRow.lifted == x)) Facts.lifts).trans (by kernel_rfl)⟩, (congrArg (fun x => (x == some Rows.fnExactFormatTextsRow.make)) Facts.makes).trans (by kernel_rfl)⟩, ?_⟩, ?_⟩, ?_⟩, ?_⟩
  all_goals kernel_rfl

theorem proved : Rows.FnExactFormatTextsSaid :=
  OpenClaim.holds_of_wide 7 Try.f7 rfl rfl rfl rfl rfl rfl rfl ⟨rfl, rfl, rfl, rfl, rfl⟩ rfl rfl rfl rfl rfl (by kernel_rfl) Try.func7 closed
    (of_decide_eq_true (by kernel_rfl)) (by unfold Func.isWrapper; rw [if_neg (of_decide_eq_false (by kernel_rfl))]; exact ⟨rfl, rfl⟩)
    (fun os started H enc _ => lifted os started H enc)
end Go.Proofs.Ytechacocfpobgaa.fnExactFormatTexts
namespace Go.Proofs.Ytechacocfpobgaa
theorem fnExactFormatTexts_holds : Rows.FnExactFormatTextsSaid := fnExactFormatTexts.proved
#print axioms fnExactFormatTexts_holds
end Go.Proofs.Ytechacocfpobgaa
