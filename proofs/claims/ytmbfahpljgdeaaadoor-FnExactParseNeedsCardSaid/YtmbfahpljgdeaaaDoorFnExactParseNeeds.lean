/- The law FnExactParseNeeds, proved: whatever the input, the call returns true, and each argument reads behind it as before. -/
import Derived.Test.YtmbfahpljgdeaaaDoorFacts
import Derived.Test.YtmbfahpljgdeaaaDoorPns
import Derived.Test.YtmbfahpljgdeaaaDoorLawK
import Derived.Test.YtmbfahpljgdeaaaDoorDr2
import Derived.Test.YtmbfahpljgdeaaaDoorDoor
import Derived.Test.YtmbfahpljgdeaaaDoorCards
import Derived.Test.YtmbfahpljgdeaaaDoorTie
import Derived.SevenTiedAt
import Derived.LaidMore
import Derived.WalkKit
import Derived.ProofKit
import Derived.OpenShut
import Derived.ShutString
import Derived.ChangeOld
import Derived.Below
import Derived.Deep.Cut
namespace Go.Proofs.YtmbfahpljgdeaaaDoor.fnExactParseNeeds
open Go.ChangeShapes Go.WideShapes Go.ChangeAt Go.RowKit
open Go.ChangeMaps (open_string shut_string)
set_option linter.unusedVariables false

set_option maxHeartbeats 1600000 in
set_option maxRecDepth 100000 in
theorem walk (a0 : ByteArray) (w0 : a0.size ≤ maxLen) (w : World) (he : TErrs w) :
    Calls Tryd.prog 9 #[.string a0] w fun e w' => e = .returned (.bool true) ∧ Below w.heap.size w w' := by
  have hm := w0
  unfold maxLen at hm
  by_cases hl : 1048576 < a0.size
  · go_enter Tryd.func9, Tryd.ntmps9
    go_wp2_with fail
    go_ret
    exact ⟨rfl, Below.refl _ _⟩
  · have hs : a0.size ≤ 1048576 := by omega
    obtain ⟨⟨L, b⟩, hV⟩ : ∃ v, pnsV a0.data.toList = v := ⟨_, rfl⟩
    have hLl : L.length ≤ 1048576 := by
      have h := pnsV_len a0.data.toList
      rw [hV, ← list_size (s := a0) rfl] at h
      simp only at h
      omega
    have HV := hid hV
    have HE := hid he
    have HS := hid (fun W => parseNeedsS_any a0 hs L b HV W)
    have HI := hid (fun W (h : TErrs W) => parseNeedsI_any a0 hs L b HV W h)
    clear hV he
    obtain ⟨l, hl'⟩ : ∃ l, L.length = l := ⟨_, rfl⟩
    rw [hl'] at hLl
    have HLN := hid hl'
    clear hl'
    go_enter Tryd.func9, Tryd.ntmps9
    go_wp2_with fail
    refine (HS.out w).mono ?_
    rintro e v1 ⟨⟨vv, rfl, ho1⟩, b1⟩
    obtain ⟨A1, c1, rfl, _, _, nu1⟩ := ho1.form
    rw [HLN.out] at nu1 ⊢
    have B1 := hid b1
    have NU1 := hid nu1
    clear ho1 b1 nu1
    go_wp2_with fail
    refine (HI.out v1 (HE.out.below B1.out)).mono ?_
    rintro e v2 ⟨⟨vv, rfl, ho2⟩, b2⟩
    obtain ⟨A2, c2, rfl, _, _, nu2⟩ := ho2.form
    rw [HLN.out] at ho2 nu2 ⊢
    have O2 := hid ho2
    have B12 := hid b2
    have I1 := hid (NU1.out.below b2)
    have I2 := hid nu2
    clear ho2 b2 nu2
    go_wp2_with fail
    refine (eqNeedS_b A2 A1 l c2 c1 L v2 I2.out I1.out (by omega)).mono ?_
    rintro e v3 ⟨rfl, b3⟩
    have B13 := hid (B12.out.trans (b3.mono B12.out.size))
    have O3 := hid (O2.out.keep b3)
    have z13 := B13.out.size
    clear b3
    go_wp2_with fail
    refine (markNd_any v1.heap.size A2 l c2 1 L v3 O3.out HLN.out z13 (by decide) (by omega)).mono ?_
    rintro e v4 ⟨rfl, im4, b4⟩
    have IM4 := hid im4
    have B14 := hid (B13.out.trans b4)
    have hl0 : ¬ (((1 + 2 * l : Nat) : Int) < 0) := by omega
    clear im4 b4
    go_wp2_with fail
    refine (heldNeedS_any A2 1 l c2 v4 IM4.out (by decide) (by omega)).mono ?_
    rintro e v5 ⟨rfl, b5⟩
    have B15 := hid (B14.out.trans (b5.mono B14.out.size))
    have IM5 := hid (IM4.out.below b5)
    clear b5
    go_wp2_with fail
    refine (HI.out v5 (HE.out.below (B1.out.trans (B15.out.mono B1.out.size)))).mono ?_
    rintro e v6 ⟨⟨vv, rfl, ho6⟩, b6⟩
    obtain ⟨A6, c6, rfl, _, _, nu6⟩ := ho6.form
    rw [HLN.out] at nu6 ⊢
    have B16 := hid (B15.out.trans (b6.mono B15.out.size))
    have IM6 := hid (IM5.out.below b6)
    have I6 := hid nu6
    have I16 := hid (NU1.out.below B16.out)
    clear ho6 b6 nu6
    go_wp2_with fail
    refine (eqNeedS_b A6 A1 l c6 c1 L v6 I6.out I16.out (by omega)).mono ?_
    rintro e v7 ⟨rfl, b7⟩
    have B17 := hid (B16.out.trans (b7.mono B16.out.size))
    have IM7 := hid (IM6.out.below b7)
    clear b7
    go_wp2_with fail
    refine (heldNeedS_any A2 1 l c2 v7 IM7.out (by decide) (by omega)).mono ?_
    rintro e v8 ⟨rfl, b8⟩
    have B18 := hid (B17.out.trans (b8.mono B17.out.size))
    clear b8
    go_wp2_with fail
    go_ret
    exact ⟨rfl, B1.out.trans (B18.out.mono B1.out.size)⟩

set_option maxRecDepth 100000 in
theorem lifted (os : Os) (started : os.Started) (H : Type) (enc : TypeId × Value → H) :
    ReturnsInHanded {} Tryd.checked os 9 .any (fun w args => (Rows.fnExactParseNeedsSpec.pre enc Tryd.prog Tryd.f9 [] false w args ∧ laidMetH Tryd.prog Rows.fnExactParseNeedsRow.laid w) ∧ sizedMet enc Tryd.prog Tryd.f9 (OpenSpec.ofChange Rows.fnExactParseNeedsSpec) false w args)
      (Rows.fnExactParseNeedsSpec.post enc Tryd.prog Tryd.f9 false true false false) := by
  refine returnsInHanded_of_change_and (C := Tryd.checked) (X := fun w _ => laidMetH Tryd.prog Rows.fnExactParseNeedsRow.laid w) (fun _ _ _ hh h => h.of_heap hh) Facts.own started (by kernel_rfl) Tryd.func9
    (ChangeSpec.witness_shaped (enc := enc) (C := Tryd.checked) (os := os) (X := fun w _ => laidMetH Tryd.prog Rows.fnExactParseNeedsRow.laid w) false (World.doorLaid Tryd.prog 400 os) #[.string ByteArray.empty] 8 rfl (World.shaped_of_RefB (by kernel_rfl) (by kernel_rfl)) (by kernel_rfl) (by kernel_rfl) (by kernel_rfl) (laidMetH_of_parts3 (fuel := 8) (laidMet_of_run' 8 (by kernel_rfl) (by kernel_rfl)) (by kernel_rfl) (by kernel_rfl))) ?_
  intro W base args ds gs before hval0 hW _ _ hL _
  have he := errs_TErrs hL
  have hval : ∀ (j : Nat) t v, Tryd.f9.params[j]? = some t → args[j]? = some v → Value.okWide Tryd.prog W .any base t v := hval0
  have hW' := hW
  obtain ⟨p, q, hA0, hV, rfl, hfz, hnd⟩ := hW
  have hA : DataW.TrodAll enc Tryd.prog W 0 (fun _ => true) true Tryd.f9.params.toList args.toList ds p := hA0
  rw [Tryd.params9] at hA hval
  obtain ⟨v0, vs0, d0, ds0, p0, q0, hargs, rfl, rfl, h0, rr0⟩ := trodAll_cons hA
  obtain ⟨rfl, rfl, rfl⟩ := trodAll_nil rr0
  obtain rfl : args = #[v0] := by cases args; simp_all
  have HVB := fun (W' : World) (bel : Below W.heap.size W W') => Below.trodVars Facts.laidOut bel (show varsRowed Tryd.prog Rows.fnExactParseNeedsSpec.vars = true by kernel_rfl) hV
  obtain ⟨g1', g2', g3', rfl⟩ : ∃ g1' g2' g3', gs = [g1', g2', g3'] := by
    match gs, trodVars_len hV with
    | [g1', g2', g3'], _ => exact ⟨g1', g2', g3', rfl⟩
  have k0 := h0
  have lt0 : ∀ x ∈ p0, x.block < W.heap.size := by obtain ⟨m, hm⟩ := k0; exact DataW.trod_lt m _ _ _ hm
  obtain ⟨a0, rfl, e0a, e0b, w0⟩ := open_string Tryd.underlying9 (hval 0 9 v0 rfl rfl) h0
  clear hA0 hval0
  refine (walk a0 w0 W  he).mono fun e W' ⟨hend, bel⟩ => ?_
  subst hend
  exact ⟨_, rfl, _, _, _, [], _, _, hW', trodAll_mk1 (shut_bool Tryd.underlying4 _), (trodAll_cons_mk (Below.trod Facts.laidOut (by kernel_rfl) (of_decide_eq_true (by kernel_rfl)) k0 bel lt0) trodAll_mk0), HVB W' bel, bel.frame _, fun h => by cases h⟩

theorem closed : joinedFacts Tryd.pinned.checked.prog 9 Tryd.f9 Rows.fnExactParseNeedsSpec Rows.fnExactParseNeedsRow = true := by
  simp only [joinedFacts, Bool.and_eq_true]
  refine ⟨⟨⟨⟨⟨⟨⟨⟨⟨⟨⟨⟨⟨⟨⟨⟨⟨⟨⟨⟨⟨⟨⟨⟨⟨⟨⟨⟨⟨⟨⟨?_, Facts.laidOut⟩, Facts.rowed⟩, ?_⟩, ?_⟩, ?_⟩, Facts.stops⟩, ?_⟩, Facts.knobs⟩, ?_⟩, ?_⟩, ?_⟩, ?_⟩, ?_⟩, ?_⟩, ?_⟩, ?_⟩, ?_⟩, ?_⟩, ?_⟩, ?_⟩, ?_⟩, ?_⟩, ?_⟩, Facts.heard⟩, Facts.may⟩,
    (congrArg (fun x => (Rows.fnExactParseNeedsRow.lifted == x)) Facts.lifts).trans (by kernel_rfl)⟩, (congrArg (fun x => (x == some Rows.fnExactParseNeedsRow.make)) Facts.makes).trans (by kernel_rfl)⟩, ?_⟩, ?_⟩, ?_⟩, ?_⟩
  all_goals kernel_rfl

theorem proved : Rows.FnExactParseNeedsSaid :=
  OpenClaim.holds_of_wide 9 Tryd.f9 rfl rfl rfl rfl rfl rfl rfl ⟨rfl, rfl, rfl, rfl, rfl⟩ rfl rfl rfl rfl rfl (by kernel_rfl) Tryd.func9 closed
    (of_decide_eq_true (by kernel_rfl)) (by unfold Func.isWrapper; rw [if_neg (of_decide_eq_false (by kernel_rfl))]; exact ⟨rfl, rfl⟩)
    (fun os started H enc _ => lifted os started H enc)
end Go.Proofs.YtmbfahpljgdeaaaDoor.fnExactParseNeeds
namespace Go.Proofs.YtmbfahpljgdeaaaDoor
theorem fnExactParseNeeds_holds : Rows.FnExactParseNeedsCardSaid :=
  Claim7.holds_tied_plain_at .later [] Rows.fnExactParseNeedsCard.laidKinds true Rows.fnExactParseNeedsCard.stood.harness Rows.fnExactParseNeedsCard.stood.looks
    fnExactParseNeeds.proved (fun _ h => by cases h) (by kernel_rfl) (fun _ h => by cases h) fnExactParseNeeds_row_tie rfl ⟨rfl, rfl⟩ (by kernel_rfl) rfl
    (fun f fn hf hfn => by
      obtain rfl : f = 9 := Option.some.inj ((show Tryd.prog.funcNamed Rows.fnExactParseNeedsRow.func = some 9 by kernel_rfl).symm.trans hf) |>.symm
      obtain rfl : fn = Tryd.f9 := (Option.some.inj (Tryd.func9.symm.trans hfn)).symm
      exact ⟨by kernel_rfl, fun j t ht => by
        have hall : (Tryd.f9.params.toList.all fun u => !Tryd.prog.wantsStandIn u) = true := by kernel_rfl
        exact (show Tryd.prog.wantsStandIn t = false by simpa using List.all_eq_true.1 hall t (by simpa using Array.mem_of_getElem? ht))⟩)
    (by kernel_rfl)
#print axioms fnExactParseNeeds_holds
end Go.Proofs.YtmbfahpljgdeaaaDoor
