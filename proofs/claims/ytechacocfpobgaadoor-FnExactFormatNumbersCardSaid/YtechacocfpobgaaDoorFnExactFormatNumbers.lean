/- The law FnExactFormatNumbers, proved: whatever the input, the call returns true, and each argument reads behind it as before. -/
import Derived.Test.YtechacocfpobgaaDoorFacts
import Derived.Test.YtechacocfpobgaaDoorFnu
import Derived.Test.YtechacocfpobgaaDoorArgZ
import Derived.Test.YtechacocfpobgaaDoorTab
import Derived.Test.YtechacocfpobgaaDoorDoor
import Derived.Test.YtechacocfpobgaaDoorCards
import Derived.Test.YtechacocfpobgaaDoorTie
import Derived.SevenTiedAt
import Derived.LaidMore
import Derived.WalkKit
import Derived.ProofKit
import Derived.OpenShut
import Derived.ShutString
import Derived.ChangeOld
import Derived.Below
import Derived.ChangeSlices
namespace Go.Proofs.YtechacocfpobgaaDoor.fnExactFormatNumbers
open Go.ChangeShapes Go.WideShapes Go.ChangeAt Go.RowKit
open Go.ChangeMaps (open_string shut_string)
set_option linter.unusedVariables false

set_option maxHeartbeats 1600000 in
set_option maxRecDepth 100000 in
theorem walk (w : World) (A0 : Option Addr) (len0 cap0 : Nat) (z0 : List Int) (hl0 : len0 ≤ cap0) (hm0 : cap0 ≤ maxLen) (s0 : Ints w A0 len0 z0) (hz0 : ∀ x ∈ z0, (Lit.int .i64 x).wf = true) (he : PTab w) :
    Calls Tryd.prog 5 #[.slice A0 len0 cap0] w fun e w' => e = .returned (.bool true) ∧ Below w.heap.size w w' := by
  have hI : I64s z0 := fun x hx => i64_of_wf (hz0 x hx)
  obtain ⟨q, hq⟩ : ∃ q, nmW z0 = q := ⟨_, rfl⟩
  have HQ := hid hq
  have HI := hid hI
  have HE := hid he
  have S0 := hid s0
  clear hq hI s0 he hz0
  by_cases hl : 1048576 < len0
  · go_enter Tryd.func5, Tryd.ntmps5
    go_wp2_with fail
    go_ret
    exact ⟨rfl, Below.refl _ _⟩
  · have hr3 : len0 ≤ 1048576 := by omega
    go_enter Tryd.func5, Tryd.ntmps5
    go_wp2_with fail
    refine (toIntS_any A0 len0 cap0 z0 w S0.out hr3).mono ?_
    rintro e v1 ⟨rfl, ho1, hb1⟩
    go_wp2_with fail
    refine (formatNumbersS_any _ len0 len0 z0 v1 ho1.ints HI.out hr3 q HQ).mono ?_
    rintro e v2 ⟨rfl, hb2⟩
    have b02 : Below w.heap.size w v2 := hb1.trans (hb2.mono hb1.size)
    have st2 := S0.out.below b02
    go_wp2_with fail
    refine (toIntS_any A0 len0 cap0 z0 v2 st2 hr3).mono ?_
    rintro e v3 ⟨rfl, ho3, hb3⟩
    have b03 : Below w.heap.size w v3 := b02.trans (hb3.mono b02.size)
    go_wp2_with fail
    refine (formatNumbersI_any _ len0 len0 z0 v3 ho3.ints HI.out hr3 (HE.out.below b03) q HQ).mono ?_
    rintro e v4 ⟨rfl, hb4⟩
    have b04 : Below w.heap.size w v4 := b03.trans (hb4.mono b03.size)
    have st4 := S0.out.below b04
    have sx4 : Ints v4 (some ⟨v2.heap.size, 0, none⟩) len0 z0 := ho3.ints.below hb4
    go_wp2_with fail
    refine (toIntS_any A0 len0 cap0 z0 v4 st4 hr3).mono ?_
    rintro e v5 ⟨rfl, ho5, hb5⟩
    have sx5 := sx4.below hb5
    go_wp2_with fail
    refine (eqIntS_same _ _ len0 len0 len0 z0 v5 sx5 ho5.ints hr3).mono ?_
    rintro e v6 ⟨rfl, m6, rfl⟩
    go_wp2_with fail
    go_ret
    have b05 := b04.trans (hb5.mono b04.size)
    exact ⟨rfl, below_drewN' b05 m6⟩

set_option maxRecDepth 100000 in
theorem lifted (os : Os) (started : os.Started) (H : Type) (enc : TypeId × Value → H) :
    ReturnsInHanded {} Tryd.checked os 5 .any (fun w args => (Rows.fnExactFormatNumbersSpec.pre enc Tryd.prog Tryd.f5 [] false w args ∧ laidMetH Tryd.prog Rows.fnExactFormatNumbersRow.laid w) ∧ sizedMet enc Tryd.prog Tryd.f5 (OpenSpec.ofChange Rows.fnExactFormatNumbersSpec) false w args)
      (Rows.fnExactFormatNumbersSpec.post enc Tryd.prog Tryd.f5 false true false false) := by
  refine returnsInHanded_of_change_and (C := Tryd.checked) (X := fun w _ => laidMetH Tryd.prog Rows.fnExactFormatNumbersRow.laid w) (fun _ _ _ hh h => h.of_heap hh) Facts.own started (by kernel_rfl) Tryd.func5
    (ChangeSpec.witness_shaped (enc := enc) (C := Tryd.checked) (os := os) (X := fun w _ => laidMetH Tryd.prog Rows.fnExactFormatNumbersRow.laid w) false (World.doorLaid Tryd.prog 400 os) #[.slice none 0 0] 8 rfl (World.shaped_of_RefB (by kernel_rfl) (by kernel_rfl)) (by kernel_rfl) (by kernel_rfl) (by kernel_rfl) (laidMetH_of_parts3 (fuel := 8) (laidMet_of_run' 8 (by kernel_rfl) (by kernel_rfl)) (by kernel_rfl) (by kernel_rfl))) ?_
  intro W base args ds gs before hval0 hW _ _ hL _
  have he := errs_PTab hL
  have hval : ∀ (j : Nat) t v, Tryd.f5.params[j]? = some t → args[j]? = some v → Value.okWide Tryd.prog W .any base t v := hval0
  have hW' := hW
  obtain ⟨p, q, hA0, hV, rfl, hfz, hnd⟩ := hW
  have hA : DataW.TrodAll enc Tryd.prog W 0 (fun _ => true) true Tryd.f5.params.toList args.toList ds p := hA0
  rw [Tryd.params5] at hA hval
  obtain ⟨v0, vs0, d0, ds0, p0, q0, hargs, rfl, rfl, h0, rr0⟩ := trodAll_cons hA
  obtain ⟨rfl, rfl, rfl⟩ := trodAll_nil rr0
  obtain rfl : args = #[v0] := by cases args; simp_all
  obtain ⟨rfl, rfl⟩ := trodVars_none hV
  have k0 := h0
  have lt0 : ∀ x ∈ p0, x.block < W.heap.size := by obtain ⟨m, hm⟩ := k0; exact DataW.trod_lt m _ _ _ hm
  obtain ⟨A0, len0, cap0, rfl⟩ := okWide_slice Tryd.underlying30 (hval 0 30 v0 rfl rfl)
  obtain ⟨z0, hl0, hm0, s0, hz0⟩ : ∃ zs, len0 ≤ cap0 ∧ cap0 ≤ maxLen ∧ Ints W A0 len0 zs ∧ ∀ x ∈ zs, (Lit.int .i64 x).wf = true := by
    obtain ⟨fuel, hf⟩ := h0
    rcases open_ints Tryd.underlying30 Tryd.underlying3 (by kernel_rfl) hf with ⟨hcs, _⟩ | ⟨x, l, c, ss, hcs, hx0, hl, hm, hz, _, hcell, hws⟩
    · simp [Value.cells] at hcs
      obtain ⟨rfl, rfl, rfl⟩ := hcs
      exact ⟨[], Nat.le_refl _, Nat.zero_le _, ⟨rfl, fun h => absurd h (Nat.lt_irrefl 0)⟩, fun x hx => by cases hx⟩
    · simp [Value.cells] at hcs
      obtain ⟨rfl, rfl, rfl⟩ := hcs
      exact ⟨ss.take _, hl, hm, ints_of (by rw [hz]; exact hl) hcell, fun s hs => hws s (List.mem_of_mem_take hs)⟩
  clear hA0 hval0
  refine (walk  W A0 len0 cap0 z0 hl0 hm0 s0 hz0 he).mono fun e W' ⟨hend, bel⟩ => ?_
  subst hend
  exact ⟨_, rfl, _, _, _, [], _, [], hW', trodAll_mk1 (shut_bool Tryd.underlying4 _), (trodAll_cons_mk (Below.trod Facts.laidOut (by kernel_rfl) (of_decide_eq_true (by kernel_rfl)) k0 bel lt0) trodAll_mk0), rfl, bel.frame _, fun h => by cases h⟩

theorem closed : joinedFacts Tryd.pinned.checked.prog 5 Tryd.f5 Rows.fnExactFormatNumbersSpec Rows.fnExactFormatNumbersRow = true := by
  simp only [joinedFacts, Bool.and_eq_true]
  refine ⟨⟨⟨⟨⟨⟨⟨⟨⟨⟨⟨⟨⟨⟨⟨⟨⟨⟨⟨⟨⟨⟨⟨⟨⟨⟨⟨⟨⟨⟨⟨?_, Facts.laidOut⟩, Facts.rowed⟩, ?_⟩, ?_⟩, ?_⟩, Facts.stops⟩, ?_⟩, Facts.knobs⟩, ?_⟩, ?_⟩, ?_⟩, ?_⟩, ?_⟩, ?_⟩, ?_⟩, ?_⟩, ?_⟩, ?_⟩, ?_⟩, ?_⟩, ?_⟩, ?_⟩, ?_⟩, Facts.heard⟩, Facts.may⟩,
    (congrArg (fun x => (Rows.fnExactFormatNumbersRow.lifted == x)) Facts.lifts).trans (by kernel_rfl)⟩, (congrArg (fun x => (x == some Rows.fnExactFormatNumbersRow.make)) Facts.makes).trans (by kernel_rfl)⟩, ?_⟩, ?_⟩, ?_⟩, ?_⟩
  all_goals kernel_rfl

theorem proved : Rows.FnExactFormatNumbersSaid :=
  OpenClaim.holds_of_wide 5 Tryd.f5 rfl rfl rfl rfl rfl rfl rfl ⟨rfl, rfl, rfl, rfl, rfl⟩ rfl rfl rfl rfl rfl (by kernel_rfl) Tryd.func5 closed
    (of_decide_eq_true (by kernel_rfl)) (by unfold Func.isWrapper; rw [if_neg (of_decide_eq_false (by kernel_rfl))]; exact ⟨rfl, rfl⟩)
    (fun os started H enc _ => lifted os started H enc)
end Go.Proofs.YtechacocfpobgaaDoor.fnExactFormatNumbers
namespace Go.Proofs.YtechacocfpobgaaDoor
theorem fnExactFormatNumbers_holds : Rows.FnExactFormatNumbersCardSaid :=
  Claim7.holds_tied_plain_at .later [] Rows.fnExactFormatNumbersCard.laidKinds true Rows.fnExactFormatNumbersCard.stood.harness Rows.fnExactFormatNumbersCard.stood.looks
    fnExactFormatNumbers.proved (fun _ h => by cases h) (by kernel_rfl) (fun _ h => by cases h) fnExactFormatNumbers_row_tie rfl ⟨rfl, rfl⟩ (by kernel_rfl) rfl
    (fun f fn hf hfn => by
      obtain rfl : f = 5 := Option.some.inj ((show Tryd.prog.funcNamed Rows.fnExactFormatNumbersRow.func = some 5 by kernel_rfl).symm.trans hf) |>.symm
      obtain rfl : fn = Tryd.f5 := (Option.some.inj (Tryd.func5.symm.trans hfn)).symm
      exact ⟨by kernel_rfl, fun j t ht => by
        have hall : (Tryd.f5.params.toList.all fun u => !Tryd.prog.wantsStandIn u) = true := by kernel_rfl
        exact (show Tryd.prog.wantsStandIn t = false by simpa using List.all_eq_true.1 hall t (by simpa using Array.mem_of_getElem? ht))⟩)
    (by kernel_rfl)
#print axioms fnExactFormatNumbers_holds
end Go.Proofs.YtechacocfpobgaaDoor
