/- The law FnExactParseNeed, proved: whatever the input, the call returns true, and each argument reads behind it as before. -/
import Derived.Test.YtmbfahpljgdeaaaDoorFacts
import Derived.Test.YtmbfahpljgdeaaaDoorPnN
import Derived.Test.YtmbfahpljgdeaaaDoorArgsN
import Derived.Test.YtmbfahpljgdeaaaDoorDr2
import Derived.Test.YtmbfahpljgdeaaaDoorOpen
import Derived.Test.YtmbfahpljgdeaaaDoorDoor
import Derived.Test.YtmbfahpljgdeaaaDoorCards
import Derived.Test.YtmbfahpljgdeaaaDoorTie
import Derived.SevenTiedAt
import Derived.LaidMore
import Derived.WalkKit
import Derived.ProofKit
import Derived.OpenShut
import Derived.ShutString
import Derived.ChangeOld
import Derived.Below
namespace Go.Proofs.YtmbfahpljgdeaaaDoor.fnExactParseNeed
open Go.ChangeShapes Go.WideShapes Go.ChangeAt Go.RowKit
open Go.ChangeMaps (open_string shut_string)
set_option linter.unusedVariables false

set_option maxHeartbeats 1600000 in
set_option maxRecDepth 100000 in
theorem walk (a0 : ByteArray) (w0 : a0.size ≤ maxLen) (w : World) (he : TErrs w) :
    Calls Tryd.prog 5 #[.string a0] w fun e w' => e = .returned (.bool true) ∧ Below w.heap.size w w' := by
  by_cases ha : a0.size ≤ 1048576
  · have ha' : ¬ (1048576 : Int) < (a0.size : Int) := by omega
    have HE := hid he
    obtain ⟨f, hf⟩ : ∃ f, pnF a0.data.toList = f := ⟨_, rfl⟩
    have HF := hid hf
    clear he hf
    go_enter Tryd.func5, Tryd.ntmps5
    go_wp2_with fail
    refine (parseNeedS_any a0 w0 f HF w).mono ?_
    rintro e v1 ⟨⟨x, y, rfl, hp⟩, b1⟩
    have B1 := hid b1
    have HP := hid hp
    obtain ⟨v2, hv2⟩ : ∃ v2, v1.alloc (.cells #[.string x, .string y] 42) = v2 := ⟨_, rfl⟩
    have B2 := hid (show Below v1.heap.size v1 v2 by rw [← hv2]; exact (Below.refl _ _).alloc (Nat.le_refl _) _)
    have N2 := hid (show v2.heap[v1.heap.size]? = some (.cells #[.string x, .string y] 42 (0, 0)) by rw [← hv2]; exact heap_new1 v1 _)
    have z2 : v1.heap.size < v2.heap.size := by rw [← hv2]; simp only [World.size_alloc]; omega
    have HV2 := hid hv2
    have BW2 := hid (B1.out.trans (B2.out.mono B1.out.size))
    clear b1 hp hv2
    go_wp2_with fail
    rw [HV2.out]
    refine (parseNeedI_any a0 ha v2 (HE.out.below BW2.out)).mono ?_
    rintro e v3 ⟨⟨x', y', f', rfl, hp'⟩, b3⟩
    obtain ⟨rfl, rfl, rfl⟩ := HP.out.same hp'
    have BW3 := hid (BW2.out.trans (b3.mono BW2.out.size))
    have N3 := hid ((b3.block _ z2).trans N2.out)
    have z3 : v1.heap.size < v3.heap.size := Nat.lt_of_lt_of_le z2 b3.size
    have m0 := cell_blk N3.out (j := 0) rfl
    have m1 := cell_blk N3.out (j := 1) rfl
    have hw3 := hid (fun o => (show Below v3.heap.size v3 (v3.alloc o) from (Below.refl _ _).alloc (Nat.le_refl _) o))
    clear hp' b3
    go_wp2_with fail
    refine (eqNeed_same _ _ _).mono ?_
    rintro e v4 ⟨rfl, b4⟩
    rcases f' with _ | _
    all_goals
      go_wp2_with fail
      go_ret
      exact ⟨rfl, BW3.out.trans (((hw3.out _).trans (b4.mono (hw3.out _).size)).mono BW3.out.size)⟩
  · have ha' : (1048576 : Int) < (a0.size : Int) := by omega
    go_enter Tryd.func5, Tryd.ntmps5
    go_wp2_with fail
    go_ret
    exact ⟨rfl, Below.refl _ _⟩

set_option maxRecDepth 100000 in
theorem lifted (os : Os) (started : os.Started) (H : Type) (enc : TypeId × Value → H) :
    ReturnsInHanded {} Tryd.checked os 5 .any (fun w args => (Rows.fnExactParseNeedSpec.pre enc Tryd.prog Tryd.f5 [] false w args ∧ laidMetH Tryd.prog Rows.fnExactParseNeedRow.laid w) ∧ sizedMet enc Tryd.prog Tryd.f5 (OpenSpec.ofChange Rows.fnExactParseNeedSpec) false w args)
      (Rows.fnExactParseNeedSpec.post enc Tryd.prog Tryd.f5 false true false false) := by
  refine returnsInHanded_of_change_and (C := Tryd.checked) (X := fun w _ => laidMetH Tryd.prog Rows.fnExactParseNeedRow.laid w) (fun _ _ _ hh h => h.of_heap hh) Facts.own started (by kernel_rfl) Tryd.func5
    (ChangeSpec.witness_shaped (enc := enc) (C := Tryd.checked) (os := os) (X := fun w _ => laidMetH Tryd.prog Rows.fnExactParseNeedRow.laid w) false (World.doorLaid Tryd.prog 400 os) #[.string ByteArray.empty] 8 rfl (World.shaped_of_RefB (by kernel_rfl) (by kernel_rfl)) (by kernel_rfl) (by kernel_rfl) (by kernel_rfl) (laidMetH_of_parts3 (fuel := 8) (laidMet_of_run' 8 (by kernel_rfl) (by kernel_rfl)) (by kernel_rfl) (by kernel_rfl))) ?_
  intro W base args ds gs before hval0 hW _ _ hL _
  have he := errs_TErrs hL
  have hval : ∀ (j : Nat) t v, Tryd.f5.params[j]? = some t → args[j]? = some v → Value.okWide Tryd.prog W .any base t v := hval0
  have hW' := hW
  obtain ⟨p, q, hA0, hV, rfl, hfz, hnd⟩ := hW
  have hA : DataW.TrodAll enc Tryd.prog W 0 (fun _ => true) true Tryd.f5.params.toList args.toList ds p := hA0
  rw [Tryd.params5] at hA hval
  obtain ⟨v0, vs0, d0, ds0, p0, q0, hargs, rfl, rfl, h0, rr0⟩ := trodAll_cons hA
  obtain ⟨rfl, rfl, rfl⟩ := trodAll_nil rr0
  obtain rfl : args = #[v0] := by cases args; simp_all
  have HVB := fun (W' : World) (bel : Below W.heap.size W W') => Below.trodVars Facts.laidOut bel (show varsRowed Tryd.prog Rows.fnExactParseNeedSpec.vars = true by kernel_rfl) hV
  obtain ⟨g1', g2', g3', rfl⟩ : ∃ g1' g2' g3', gs = [g1', g2', g3'] := by
    match gs, trodVars_len hV with
    | [g1', g2', g3'], _ => exact ⟨g1', g2', g3', rfl⟩
  have k0 := h0
  have lt0 : ∀ x ∈ p0, x.block < W.heap.size := by obtain ⟨m, hm⟩ := k0; exact DataW.trod_lt m _ _ _ hm
  obtain ⟨a0, rfl, e0a, e0b, w0⟩ := open_string Tryd.underlying9 (hval 0 9 v0 rfl rfl) h0
  clear hA0 hval0
  refine (walk a0 w0 W  he).mono fun e W' ⟨hend, bel⟩ => ?_
  subst hend
  exact ⟨_, rfl, _, _, _, [], _, _, hW', trodAll_mk1 (shut_bool Tryd.underlying4 _), (trodAll_cons_mk (Below.trod Facts.laidOut (by kernel_rfl) (of_decide_eq_true (by kernel_rfl)) k0 bel lt0) trodAll_mk0), HVB W' bel, bel.frame _, fun h => by cases h⟩

theorem closed : joinedFacts Tryd.pinned.checked.prog 5 Tryd.f5 Rows.fnExactParseNeedSpec Rows.fnExactParseNeedRow = true := by
  simp only [joinedFacts, Bool.and_eq_true]
  refine ⟨⟨⟨⟨⟨⟨⟨⟨⟨⟨⟨⟨⟨⟨⟨⟨⟨⟨⟨⟨⟨⟨⟨⟨⟨⟨⟨⟨⟨⟨⟨?_, Facts.laidOut⟩, Facts.rowed⟩, ?_⟩, ?_⟩, ?_⟩, Facts.stops⟩, ?_⟩, Facts.knobs⟩, ?_⟩, ?_⟩, ?_⟩, ?_⟩, ?_⟩, ?_⟩, ?_⟩, ?_⟩, ?_⟩, ?_⟩, ?_⟩, ?_⟩, ?_⟩, ?_⟩, ?_⟩, Facts.heard⟩, Facts.may⟩,
    (congrArg (fun x => (Rows.fnExactParseNeedRow.lifted == x)) Facts.lifts).trans (by kernel_rfl)⟩, (congrArg (fun x => (x == some Rows.fnExactParseNeedRow.make)) Facts.makes).trans (by kernel_rfl)⟩, ?_⟩, ?_⟩, ?_⟩, ?_⟩
  all_goals kernel_rfl

theorem proved : Rows.FnExactParseNeedSaid :=
  OpenClaim.holds_of_wide 5 Tryd.f5 rfl rfl rfl rfl rfl rfl rfl ⟨rfl, rfl, rfl, rfl, rfl⟩ rfl rfl rfl rfl rfl (by kernel_rfl) Tryd.func5 closed
    (of_decide_eq_true (by kernel_rfl)) (by unfold Func.isWrapper; rw [if_neg (of_decide_eq_false (by kernel_rfl))]; exact ⟨rfl, rfl⟩)
    (fun os started H enc _ => lifted os started H enc)
end Go.Proofs.YtmbfahpljgdeaaaDoor.fnExactParseNeed
namespace Go.Proofs.YtmbfahpljgdeaaaDoor
theorem fnExactParseNeed_holds : Rows.FnExactParseNeedCardSaid :=
  Claim7.holds_tied_plain_at .later [] Rows.fnExactParseNeedCard.laidKinds true Rows.fnExactParseNeedCard.stood.harness Rows.fnExactParseNeedCard.stood.looks
    fnExactParseNeed.proved (fun _ h => by cases h) (by kernel_rfl) (fun _ h => by cases h) fnExactParseNeed_row_tie rfl ⟨rfl, rfl⟩ (by kernel_rfl) rfl
    (fun f fn hf hfn => by
      obtain rfl : f = 5 := Option.some.inj ((show Tryd.prog.funcNamed Rows.fnExactParseNeedRow.func = some 5 by kernel_rfl).symm.trans hf) |>.symm
      obtain rfl : fn = Tryd.f5 := (Option.some.inj (Tryd.func5.symm.trans hfn)).symm
      exact ⟨by kernel_rfl, fun j t ht => by
        have hall : (Tryd.f5.params.toList.all fun u => !Tryd.prog.wantsStandIn u) = true := by kernel_rfl
        exact (show Tryd.prog.wantsStandIn t = false by simpa using List.all_eq_true.1 hall t (by simpa using Array.mem_of_getElem? ht))⟩)
    (by kernel_rfl)
#print axioms fnExactParseNeed_holds
end Go.Proofs.YtmbfahpljgdeaaaDoor
