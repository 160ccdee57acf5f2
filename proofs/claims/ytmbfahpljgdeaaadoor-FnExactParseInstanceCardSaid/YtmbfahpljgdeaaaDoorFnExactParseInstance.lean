/- The law FnExactParseInstance, proved: whatever the input, the call returns true, and each argument reads behind it as before. -/
import Derived.Test.YtmbfahpljgdeaaaDoorFacts
import Derived.Test.YtmbfahpljgdeaaaDoorPrJ
import Derived.Test.YtmbfahpljgdeaaaDoorPiS
import Derived.Test.YtmbfahpljgdeaaaDoorMrkX
import Derived.Test.YtmbfahpljgdeaaaDoorInsA
import Derived.Test.YtmbfahpljgdeaaaDoorDr2
import Derived.Test.YtmbfahpljgdeaaaDoorOpen
import Derived.Test.YtmbfahpljgdeaaaDoorDoor
import Derived.Test.YtmbfahpljgdeaaaDoorCards
import Derived.Test.YtmbfahpljgdeaaaDoorTie
import Derived.SevenTiedAt
import Derived.LaidMore
import Derived.WalkKit
import Derived.Deep.Cut
import Derived.ProofKit
import Derived.OpenShut
import Derived.ShutString
import Derived.ChangeOld
import Derived.Below
namespace Go.Proofs.YtmbfahpljgdeaaaDoor.fnExactParseInstance
open Go.ChangeShapes Go.WideShapes Go.ChangeAt Go.RowKit
open Go.ChangeMaps (open_string shut_string)
set_option linter.unusedVariables false

set_option maxHeartbeats 4000000 in
set_option maxRecDepth 100000 in
theorem walk (a0 : ByteArray) (w0 : a0.size ≤ maxLen) (w : World) (he : TErrs w) :
    Calls Tryd.prog 6 #[.string a0] w fun e w' => e = .returned (.bool true) ∧ Below w.heap.size w w' := by
  by_cases ha : a0.size ≤ 1048576
  · have ha' : ¬ (1048576 : Int) < (a0.size : Int) := by omega
    have HE := hid he
    obtain ⟨⟨⟨X, Y, N⟩, f⟩, hV⟩ : ∃ v, piV a0.data.toList = v := ⟨_, rfl⟩
    have HV := hid hV
    have hn := piV_len a0.data.toList
    rw [hV, ← list_size (s := a0) rfl] at hn
    have hN : N.length ≤ 1048576 := Nat.le_trans hn ha
    have hN2 : 1 + 2 * N.length ≤ 4194304 := by omega
    clear he hV hn
    go_enter Tryd.func6, Tryd.ntmps6
    go_wp2_with fail
    refine (parseInstanceS_any a0 ha X Y N f HV w).mono ?_
    rintro e v1 ⟨⟨A1, c1, rfl, hc1, hp1, _⟩, b1⟩
    have B1 := hid b1
    have P1 := hid hp1
    obtain ⟨v2, hv2⟩ : ∃ v2, v1.alloc (.cells #[.string X, .string Y, .slice A1 N.length c1] 45) = v2 := ⟨_, rfl⟩
    have b2 : Below v1.heap.size v1 v2 := by rw [← hv2]; exact (Below.refl _ _).alloc (Nat.le_refl _) _
    have N2 := hid (show v2.heap[v1.heap.size]? = some (.cells #[.string X, .string Y, .slice A1 N.length c1] 45 (0, 0)) by rw [← hv2]; exact heap_new1 v1 _)
    have z2 : v1.heap.size < v2.heap.size := by rw [← hv2]; simp only [World.size_alloc]; omega
    have P2 := hid (hp1.below b2)
    have BW2 := hid (b1.trans (b2.mono b1.size))
    have HV2 := hid hv2
    clear b1 hp1 hv2 b2
    go_upto_region 4 with fail
    rw [HV2.out]
    go_wp2_with fail
    refine (parseInstanceI_any a0 ha X Y N f HV v2 (HE.out.below BW2.out)).mono ?_
    rintro e v3 ⟨⟨A3, c3, rfl, ho3⟩, b3⟩
    have O3 := hid (OwnN.of ho3)
    have z3 := b3.size
    have C3 := hid b3
    obtain ⟨v4, hv4⟩ : ∃ v4, v3.alloc (.cells #[.string X, .string Y, .slice A3 N.length c3] 45) = v4 := ⟨_, rfl⟩
    have b4 : Below v3.heap.size v3 v4 := by rw [← hv4]; exact (Below.refl _ _).alloc (Nat.le_refl _) _
    have M4 := hid (show v4.heap[v3.heap.size]? = some (.cells #[.string X, .string Y, .slice A3 N.length c3] 45 (0, 0)) by rw [← hv4]; exact heap_new1 v3 _)
    have z4 : v3.heap.size < v4.heap.size := by rw [← hv4]; simp only [World.size_alloc]; omega
    have O4 := hid (O3.out.below b4)
    have C4 := hid (C3.out.trans (b4.mono z3))
    have N4 := hid ((C4.out.block _ z2).trans N2.out)
    have P4 := hid (P2.out.below C4.out)
    have HV4 := hid hv4
    obtain ⟨rb, hrb, hlo, hne⟩ : ∃ rb, (∀ a, A3 = some a → a.block = rb) ∧ v2.heap.size ≤ rb ∧ rb ≠ v3.heap.size := by
      rcases O3.out with ⟨rfl, _, _⟩ | ⟨g, rfl, h1, h2, _⟩
      · exact ⟨v3.heap.size + 1, fun a h => (by cases h), by omega, by omega⟩
      · exact ⟨g, fun a h => (by injection h with h; rw [← h]), h1, by omega⟩
    have HRB := hid hrb
    clear b3 ho3 hv4 b4 hrb
    go_upto_region 5 with fail
    rw [HV4.out]
    have n0 := cell_blk N4.out (j := 0) rfl
    have n1 := cell_blk N4.out (j := 1) rfl
    have n2 := cell_blk N4.out (j := 2) rfl
    have m0 := cell_blk M4.out (j := 0) rfl
    have m1 := cell_blk M4.out (j := 1) rfl
    have m2 := cell_blk M4.out (j := 2) rfl
    go_wp2_with fail
    refine (eqInstance_same X Y A3 A1 N.length c3 c1 N v4 O4.out.prs P4.out hN).mono ?_
    rintro e v5 ⟨rfl, b5⟩
    have z5 := b5.size
    have O5 := hid (O4.out.below b5)
    have C5 := hid (C4.out.trans (b5.mono (by omega)))
    have M5 := hid ((b5.block _ z4).trans M4.out)
    clear b5 n0 n1 n2 m0 m1 m2
    have m0 := cell_blk M5.out (j := 0) rfl
    have m1 := cell_blk M5.out (j := 1) rfl
    have m2 := cell_blk M5.out (j := 2) rfl
    obtain ⟨K, hK⟩ : ∃ K, 1 + 2 * N.length = K := ⟨_, rfl⟩
    have HK := hid hK
    have k0 : ¬ ((K : Nat) : Int) < 0 := by omega
    clear hK
    rcases f with _ | _
    all_goals
      go_wp2_with fail
      refine (markInstance_any X Y A3 1 N.length c3 v2.heap.size N v5 O5.out (by omega) hN2 rb HRB.out).mono ?_
      rintro e v6 ⟨rfl, o6, b6⟩
      rw [HK.out]
      have z6 := b6.size
      have O6 := hid o6
      have C6 := hid (C5.out.trans (b6.below' (B' := v2.heap.size) (by omega) hlo))
      have M6 := hid ((b6.block _ (by omega) (Ne.symm hne)).trans M5.out)
      clear o6 b6 m0 m1 m2
      have m0 := cell_blk M6.out (j := 0) rfl
      have m1 := cell_blk M6.out (j := 1) rfl
      have m2 := cell_blk M6.out (j := 2) rfl
      go_wp2_with fail
      refine (heldInstance_any X Y A3 1 N.length c3 v6 O6.out.prs (by omega) hN2).mono ?_
      rintro e v7 ⟨rfl, b7⟩
      rw [HK.out]
      have z7 := b7.size
      have O7 := hid (O6.out.below b7)
      have C7 := hid (C6.out.trans (b7.mono (by omega)))
      have M7 := hid ((b7.block _ (by omega)).trans M6.out)
      clear b7 m0 m1 m2
      go_wp2_with fail
      refine (parseInstanceI_any a0 ha X Y N _ HV v7 (HE.out.below (BW2.out.trans (C7.out.mono BW2.out.size)))).mono ?_
      rintro e v8 ⟨⟨A8, c8, rfl, ho8⟩, b8⟩
      have z8 := b8.size
      have P8 := hid (OwnN.of ho8).prs
      obtain ⟨v9, hv9⟩ : ∃ v9, v8.alloc (.cells #[.string X, .string Y, .slice A8 N.length c8] 45) = v9 := ⟨_, rfl⟩
      have b9 : Below v8.heap.size v8 v9 := by rw [← hv9]; exact (Below.refl _ _).alloc (Nat.le_refl _) _
      have L9 := hid (show v9.heap[v8.heap.size]? = some (.cells #[.string X, .string Y, .slice A8 N.length c8] 45 (0, 0)) by rw [← hv9]; exact heap_new1 v8 _)
      have z9 : v8.heap.size < v9.heap.size := by rw [← hv9]; simp only [World.size_alloc]; omega
      have C9 := hid (C7.out.trans ((b8.trans (b9.mono z8)).mono (by omega)))
      have M9 := hid ((b9.block _ (by omega)).trans ((b8.block _ (by omega)).trans M7.out))
      have O9 := hid ((O7.out.below b8).below b9)
      have P9 := hid (P8.out.below b9)
      have N9 := hid ((C9.out.block _ z2).trans N2.out)
      have Q9 := hid (P2.out.below C9.out)
      have HV9 := hid hv9
      clear b8 ho8 b9 hv9
      go_upto_region 16 with fail
      rw [HV9.out]
      have n0 := cell_blk N9.out (j := 0) rfl
      have n1 := cell_blk N9.out (j := 1) rfl
      have n2 := cell_blk N9.out (j := 2) rfl
      have l0 := cell_blk L9.out (j := 0) rfl
      have l1 := cell_blk L9.out (j := 1) rfl
      have l2 := cell_blk L9.out (j := 2) rfl
      go_wp2_with fail
      refine (eqInstance_same X Y A8 A1 N.length c8 c1 N v9 P9.out Q9.out hN).mono ?_
      rintro e v10 ⟨rfl, b10⟩
      have z10 := b10.size
      have O10 := hid (O9.out.below b10)
      have C10 := hid (C9.out.trans (b10.mono (by omega)))
      have M10 := hid ((b10.block _ (by omega)).trans M9.out)
      clear b10 n0 n1 n2 l0 l1 l2
      have m0 := cell_blk M10.out (j := 0) rfl
      have m1 := cell_blk M10.out (j := 1) rfl
      have m2 := cell_blk M10.out (j := 2) rfl
      go_wp2_with fail
      refine (heldInstance_any X Y A3 1 N.length c3 v10 O10.out.prs (by omega) hN2).mono ?_
      rintro e v11 ⟨rfl, b11⟩
      rw [HK.out]
      have C11 := hid (C10.out.trans (b11.mono (by omega)))
      clear b11 m0 m1 m2
      go_wp2_with fail
      go_ret
      exact ⟨rfl, BW2.out.trans (C11.out.mono BW2.out.size)⟩
  · have ha' : (1048576 : Int) < (a0.size : Int) := by omega
    go_enter Tryd.func6, Tryd.ntmps6
    go_wp2_with fail
    go_ret
    exact ⟨rfl, Below.refl _ _⟩

set_option maxRecDepth 100000 in
theorem lifted (os : Os) (started : os.Started) (H : Type) (enc : TypeId × Value → H) :
    ReturnsInHanded {} Tryd.checked os 6 .any (fun w args => (Rows.fnExactParseInstanceSpec.pre enc Tryd.prog Tryd.f6 [] false w args ∧ laidMetH Tryd.prog Rows.fnExactParseInstanceRow.laid w) ∧ sizedMet enc Tryd.prog Tryd.f6 (OpenSpec.ofChange Rows.fnExactParseInstanceSpec) false w args)
      (Rows.fnExactParseInstanceSpec.post enc Tryd.prog Tryd.f6 false true false false) := by
  refine returnsInHanded_of_change_and (C := Tryd.checked) (X := fun w _ => laidMetH Tryd.prog Rows.fnExactParseInstanceRow.laid w) (fun _ _ _ hh h => h.of_heap hh) Facts.own started (by kernel_rfl) Tryd.func6
    (ChangeSpec.witness_shaped (enc := enc) (C := Tryd.checked) (os := os) (X := fun w _ => laidMetH Tryd.prog Rows.fnExactParseInstanceRow.laid w) false (World.doorLaid Tryd.prog 400 os) #[.string ByteArray.empty] 8 rfl (World.shaped_of_RefB (by kernel_rfl) (by kernel_rfl)) (by kernel_rfl) (by kernel_rfl) (by kernel_rfl) (laidMetH_of_parts3 (fuel := 8) (laidMet_of_run' 8 (by kernel_rfl) (by kernel_rfl)) (by kernel_rfl) (by kernel_rfl))) ?_
  intro W base args ds gs before hval0 hW _ _ hL _
  have he := errs_TErrs hL
  have hval : ∀ (j : Nat) t v, Tryd.f6.params[j]? = some t → args[j]? = some v → Value.okWide Tryd.prog W .any base t v := hval0
  have hW' := hW
  obtain ⟨p, q, hA0, hV, rfl, hfz, hnd⟩ := hW
  have hA : DataW.TrodAll enc Tryd.prog W 0 (fun _ => true) true Tryd.f6.params.toList args.toList ds p := hA0
  rw [Tryd.params6] at hA hval
  obtain ⟨v0, vs0, d0, ds0, p0, q0, hargs, rfl, rfl, h0, rr0⟩ := trodAll_cons hA
  obtain ⟨rfl, rfl, rfl⟩ := trodAll_nil rr0
  obtain rfl : args = #[v0] := by cases args; simp_all
  have HVB := fun (W' : World) (bel : Below W.heap.size W W') => Below.trodVars Facts.laidOut bel (show varsRowed Tryd.prog Rows.fnExactParseInstanceSpec.vars = true by kernel_rfl) hV
  obtain ⟨g1', g2', g3', rfl⟩ : ∃ g1' g2' g3', gs = [g1', g2', g3'] := by
    match gs, trodVars_len hV with
    | [g1', g2', g3'], _ => exact ⟨g1', g2', g3', rfl⟩
  have k0 := h0
  have lt0 : ∀ x ∈ p0, x.block < W.heap.size := by obtain ⟨m, hm⟩ := k0; exact DataW.trod_lt m _ _ _ hm
  obtain ⟨a0, rfl, e0a, e0b, w0⟩ := open_string Tryd.underlying9 (hval 0 9 v0 rfl rfl) h0
  clear hA0 hval0
  refine (walk a0 w0 W  he).mono fun e W' ⟨hend, bel⟩ => ?_
  subst hend
  exact ⟨_, rfl, _, _, _, [], _, _, hW', trodAll_mk1 (shut_bool Tryd.underlying4 _), (trodAll_cons_mk (Below.trod Facts.laidOut (by kernel_rfl) (of_decide_eq_true (by kernel_rfl)) k0 bel lt0) trodAll_mk0), HVB W' bel, bel.frame _, fun h => by cases h⟩

theorem closed : joinedFacts Tryd.pinned.checked.prog 6 Tryd.f6 Rows.fnExactParseInstanceSpec Rows.fnExactParseInstanceRow = true := by
  simp only [joinedFacts, Bool.and_eq_true]
  refine ⟨⟨⟨⟨⟨⟨⟨⟨⟨⟨⟨⟨⟨⟨⟨⟨⟨⟨⟨⟨⟨⟨⟨⟨⟨⟨⟨⟨⟨⟨⟨?_, Facts.laidOut⟩, Facts.rowed⟩, ?_⟩, ?_⟩, ?_⟩, Facts.stops⟩, ?_⟩, Facts.knobs⟩, ?_⟩, ?_⟩, ?_⟩, ?_⟩, ?_⟩, ?_⟩, ?_⟩, ?_⟩, ?_⟩, ?_⟩, ?_⟩, ?_⟩, ?_⟩, ?_⟩, ?_⟩, Facts.heard⟩, Facts.may⟩,
    (congrArg (fun x => (Rows.fnExactParseInstanceRow.lifted == x)) Facts.lifts).trans (by kernel_rfl)⟩, (congrArg (fun x => (x == some Rows.fnExactParseInstanceRow.make)) Facts.makes).trans (by kernel_rfl)⟩, ?_⟩, ?_⟩, ?_⟩, ?_⟩
  all_goals kernel_rfl

theorem proved : Rows.FnExactParseInstanceSaid :=
  OpenClaim.holds_of_wide 6 Tryd.f6 rfl rfl rfl rfl rfl rfl rfl ⟨rfl, rfl, rfl, rfl, rfl⟩ rfl rfl rfl rfl rfl (by kernel_rfl) Tryd.func6 closed
    (of_decide_eq_true (by kernel_rfl)) (by unfold Func.isWrapper; rw [if_neg (of_decide_eq_false (by kernel_rfl))]; exact ⟨rfl, rfl⟩)
    (fun os started H enc _ => lifted os started H enc)
end Go.Proofs.YtmbfahpljgdeaaaDoor.fnExactParseInstance
namespace Go.Proofs.YtmbfahpljgdeaaaDoor
theorem fnExactParseInstance_holds : Rows.FnExactParseInstanceCardSaid :=
  Claim7.holds_tied_plain_at .later [] Rows.fnExactParseInstanceCard.laidKinds true Rows.fnExactParseInstanceCard.stood.harness Rows.fnExactParseInstanceCard.stood.looks
    fnExactParseInstance.proved (fun _ h => by cases h) (by kernel_rfl) (fun _ h => by cases h) fnExactParseInstance_row_tie rfl ⟨rfl, rfl⟩ (by kernel_rfl) rfl
    (fun f fn hf hfn => by
      obtain rfl : f = 6 := Option.some.inj ((show Tryd.prog.funcNamed Rows.fnExactParseInstanceRow.func = some 6 by kernel_rfl).symm.trans hf) |>.symm
      obtain rfl : fn = Tryd.f6 := (Option.some.inj (Tryd.func6.symm.trans hfn)).symm
      exact ⟨by kernel_rfl, fun j t ht => by
        have hall : (Tryd.f6.params.toList.all fun u => !Tryd.prog.wantsStandIn u) = true := by kernel_rfl
        exact (show Tryd.prog.wantsStandIn t = false by simpa using List.all_eq_true.1 hall t (by simpa using Array.mem_of_getElem? ht))⟩)
    (by kernel_rfl)
#print axioms fnExactParseInstance_holds
end Go.Proofs.YtmbfahpljgdeaaaDoor
