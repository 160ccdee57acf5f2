/- The law FnExactWorldValid, proved: whatever the input, the call returns true, and each argument reads behind it as before. -/
import Derived.Test.YtmbfahpljgdeaaaDoorFacts
import Derived.Test.YtmbfahpljgdeaaaDoorCh5
import Derived.Test.YtmbfahpljgdeaaaDoorWdX
import Derived.Test.YtmbfahpljgdeaaaDoorWld
import Derived.Test.YtmbfahpljgdeaaaDoorOpen
import Derived.Test.YtmbfahpljgdeaaaDoorDoor
import Derived.Test.YtmbfahpljgdeaaaDoorCards
import Derived.Test.YtmbfahpljgdeaaaDoorTie
import Derived.SevenTiedAt
import Derived.LaidMore
import Derived.WalkKit
import Derived.ProofKit
import Derived.OpenShut
import Derived.ShutString
import Derived.ChangeOld
import Derived.Below
namespace Go.Proofs.YtmbfahpljgdeaaaDoor.fnExactWorldValid
open Go.ChangeShapes Go.WideShapes Go.ChangeAt Go.RowKit
open Go.ChangeMaps (open_string shut_string)
set_option linter.unusedVariables false

set_option maxHeartbeats 1600000 in
set_option maxRecDepth 100000 in
theorem walk (w : World) (A0 : Option Addr) (n0 c0 : Nat) (z0 : List (ByteArray × ByteArray)) (B0 : Option Addr) (m0 d0 : Nat) (i0 : List Ins) (hn0 : n0 ≤ maxLen) (hm0 : m0 ≤ maxLen) (s0 : Prs w A0 n0 z0) (hz0 : PrsOk z0) (r0 : Inss w B0 m0 i0) (hi0 : ∀ i ∈ i0, InsOk i) (he : WErrs w) :
    Calls Tryd.prog 3 #[.agg #[.slice A0 n0 c0, .slice B0 m0 d0]] w fun e w' => e = .returned (.bool true) ∧ Below w.heap.size w w' := by
  have hw0 : ∀ o, Below w.heap.size w (w.alloc o) := fun o => (Below.refl _ _).alloc (Nat.le_refl _) o
  have S0 := hid s0
  have HZ := hid hz0
  have R0 := hid r0
  have HI := hid hi0
  have HE := hid he
  have HSZ := hid (szWorld_any A0 n0 c0 z0 B0 m0 d0 i0 1048576 _ hn0 hm0 (s0.below (hw0 (.cells #[.slice A0 n0 c0, .slice B0 m0 d0] 25))) hz0 (r0.below (hw0 _)) hi0 (Nat.le_refl _))
  clear s0 hz0 r0 hi0 he
  obtain ⟨bq, hbq⟩ : ∃ b, wdOf z0 i0 = b := ⟨_, rfl⟩
  have HQ := hid hbq
  clear hbq
  go_enter Tryd.func3, Tryd.ntmps3
  go_wp2_with fail
  refine HSZ.out.mono ?_
  rintro e v0 ⟨r, rfl, b0, hr⟩
  have B0' := hid ((hw0 (.cells #[.slice A0 n0 c0, .slice B0 m0 d0] 25)).trans (b0.mono (hw0 _).size))
  have z0' : w.heap.size < v0.heap.size := (by have := b0.size; simp only [World.size_alloc] at this; omega)
  have E0 := hid (show v0.heap[w.heap.size]? = some (.cells #[.slice A0 n0 c0, .slice B0 m0 d0] 25 (0, 0)) from (b0.block _ (by simp only [World.size_alloc]; omega)).trans (heap_new1 w _))
  clear b0
  rcases hr with rfl | ⟨r', rfl, hr'⟩
  · go_wp2_with fail
    go_ret
    exact ⟨rfl, B0'.out⟩
  · have hr0 : (0 : Int) ≤ (r' : Int) := by omega
    have hn1 : n0 ≤ 1048576 := by omega
    have ht1 : tot z0 ≤ 1048576 := by omega
    have hm1 : m0 + inssTot i0 ≤ 1048576 := by omega
    clear hr'
    have C0 := cell_blk E0.out (j := 0) rfl
    have C1 := cell_blk E0.out (j := 1) rfl
    go_wp2_with fail
    refine (toWorld_any A0 n0 c0 z0 B0 m0 d0 i0 v0 (S0.out.below B0'.out) (R0.out.below B0'.out) hn1 hm1).mono ?_
    rintro e v1 ⟨g1, h1, rfl, p1, q1, b1⟩
    have P1 := hid p1
    have Q1 := hid q1
    have BB1 := hid b1
    clear p1 q1 b1
    go_wp2_with fail
    refine (worldValidS_any (some ⟨g1, 0, none⟩) n0 n0 z0 (some ⟨h1, 0, none⟩) m0 m0 i0 v1 (Nat.le_refl _) hn0 P1.out (fun z hz => (HZ.out z hz).2) hm0 Q1.out HI.out).mono ?_
    rintro e v2 ⟨rfl, b2⟩
    rw [HQ.out]
    have B2 := hid (BB1.out.trans (b2.mono BB1.out.size))
    have z2 : w.heap.size < v2.heap.size := Nat.lt_of_lt_of_le z0' B2.out.size
    have E2 := hid ((B2.out.block _ z0').trans E0.out)
    have BW2 := hid (B0'.out.trans (B2.out.mono B0'.out.size))
    clear C0 C1 b2
    have C0 := cell_blk E2.out (j := 0) rfl
    have C1 := cell_blk E2.out (j := 1) rfl
    go_wp2_with fail
    refine (toWorld_any A0 n0 c0 z0 B0 m0 d0 i0 v2 (S0.out.below BW2.out) (R0.out.below BW2.out) hn1 hm1).mono ?_
    rintro e v3 ⟨g3, h3, rfl, p3, q3, b3⟩
    have P3 := hid p3
    have Q3 := hid q3
    have BW3 := hid (BW2.out.trans (b3.mono BW2.out.size))
    have z3 : w.heap.size < v3.heap.size := Nat.lt_of_lt_of_le z2 b3.size
    have E3 := hid ((b3.block _ z2).trans E2.out)
    have hw3 : ∀ o, Below v3.heap.size v3 (v3.alloc o) := fun o => (Below.refl _ _).alloc (Nat.le_refl _) o
    have N3 := hid (heap_new1 v3 (.cells #[.slice (some ⟨g3, 0, none⟩) n0 n0, .slice (some ⟨h3, 0, none⟩) m0 m0] 31))
    have BN3 := hid (BW3.out.trans ((hw3 (.cells #[.slice (some ⟨g3, 0, none⟩) n0 n0, .slice (some ⟨h3, 0, none⟩) m0 m0] 31)).mono BW3.out.size))
    clear p3 q3 b3 C0 C1
    go_wp2_with fail
    refine (worldValidI_any (some ⟨g3, 0, none⟩) n0 n0 z0 (some ⟨h3, 0, none⟩) m0 m0 i0 _ hn0 (P3.out.below (hw3 _)) hm0 (Q3.out.below (hw3 _)) HI.out ht1 (HE.out.below BN3.out)).mono ?_
    rintro e v4 ⟨rfl, b4⟩
    rw [HQ.out]
    have z4 : v3.heap.size < v4.heap.size := (by have := b4.size; simp only [World.size_alloc] at this; omega)
    have B34 := hid ((hw3 (.cells #[.slice (some ⟨g3, 0, none⟩) n0 n0, .slice (some ⟨h3, 0, none⟩) m0 m0] 31)).trans (b4.mono (hw3 _).size))
    have BW4 := hid (BW3.out.trans (B34.out.mono BW3.out.size))
    have E4 := hid ((B34.out.block _ z3).trans E3.out)
    have N4 := hid ((b4.block _ (by simp only [World.size_alloc]; omega)).trans N3.out)
    have z4' : w.heap.size < v4.heap.size := by omega
    have k0' := cell_blk N4.out (j := 0) rfl
    have k1' := cell_blk N4.out (j := 1) rfl
    have d0' := cell_blk E4.out (j := 0) rfl
    have d1' := cell_blk E4.out (j := 1) rfl
    have P4 := hid (P3.out.below B34.out)
    have Q4 := hid (Q3.out.below B34.out)
    have HT5 := hid (fun (W : World) (hW : Below v4.heap.size v4 W) => toWorld_any A0 n0 c0 z0 B0 m0 d0 i0 W (S0.out.below (BW4.out.trans (hW.mono BW4.out.size))) (R0.out.below (BW4.out.trans (hW.mono BW4.out.size))) hn1 hm1)
    clear b4
    go_wp2_with fail
    go_region_with (first | (go_at_call 12; refine (HT5.out _ (by first | exact Below.refl _ _ | exact (Below.refl _ _).drew | exact (Below.refl _ _).drew.drew)).mono ?_; rintro e v5 ⟨g5, h5, rfl, p5, q5, b5⟩; have P5 := hid p5; have Q5 := hid q5; have U5 := hid (show Below v4.heap.size v4 v5 from ((Below.refl _ _).drew.trans b5 : Below v4.heap.size v4 v5)); clear p5 q5 b5; have m0' := cell_below k0' z4 U5.out; have m1' := cell_below k1' z4 U5.out) | (go_at_call 14; refine (eqWorld_same _ _ _ _ n0 n0 n0 m0 m0 m0 z0 i0 _ (P4.out.below U5.out) P5.out (Q4.out.below U5.out) Q5.out hn1 hm1).mono ?_; rintro e v6 ⟨rfl, b6⟩))
    all_goals
      go_wp2_with fail
      go_ret
      exact ⟨rfl, BW4.out.trans ((U5.out.trans (b6.mono U5.out.size)).mono BW4.out.size)⟩

set_option maxRecDepth 100000 in
theorem lifted (os : Os) (started : os.Started) (H : Type) (enc : TypeId × Value → H) :
    ReturnsInHanded {} Tryd.checked os 3 .any (fun w args => (Rows.fnExactWorldValidSpec.pre enc Tryd.prog Tryd.f3 [] false w args ∧ laidMetH Tryd.prog Rows.fnExactWorldValidRow.laid w) ∧ sizedMet enc Tryd.prog Tryd.f3 (OpenSpec.ofChange Rows.fnExactWorldValidSpec) false w args)
      (Rows.fnExactWorldValidSpec.post enc Tryd.prog Tryd.f3 false true false false) := by
  refine returnsInHanded_of_change_and (C := Tryd.checked) (X := fun w _ => laidMetH Tryd.prog Rows.fnExactWorldValidRow.laid w) (fun _ _ _ hh h => h.of_heap hh) Facts.own started (by kernel_rfl) Tryd.func3
    (ChangeSpec.witness_shaped (enc := enc) (C := Tryd.checked) (os := os) (X := fun w _ => laidMetH Tryd.prog Rows.fnExactWorldValidRow.laid w) false (World.doorLaid Tryd.prog 400 os) #[.agg #[.slice none 0 0, .slice none 0 0]] 8 rfl (World.shaped_of_RefB (by kernel_rfl) (by kernel_rfl)) (by kernel_rfl) (by kernel_rfl) (by kernel_rfl) (laidMetH_of_parts3 (fuel := 8) (laidMet_of_run' 8 (by kernel_rfl) (by kernel_rfl)) (by kernel_rfl) (by kernel_rfl))) ?_
  intro W base args ds gs before hval0 hW _ _ hL _
  have he := errs_WErrs hL
  have hval : ∀ (j : Nat) t v, Tryd.f3.params[j]? = some t → args[j]? = some v → Value.okWide Tryd.prog W .any base t v := hval0
  have hW' := hW
  obtain ⟨p, q, hA0, hV, rfl, hfz, hnd⟩ := hW
  have hA : DataW.TrodAll enc Tryd.prog W 0 (fun _ => true) true Tryd.f3.params.toList args.toList ds p := hA0
  rw [Tryd.params3] at hA hval
  obtain ⟨v0, vs0, d0, ds0, p0, q0, hargs, rfl, rfl, h0, r0⟩ := trodAll_cons hA
  obtain ⟨rfl, rfl, rfl⟩ := trodAll_nil r0
  obtain rfl : args = #[v0] := by cases args; simp_all
  have HVB := fun (W' : World) (bel : Below W.heap.size W W') => Below.trodVars Facts.laidOut bel (show varsRowed Tryd.prog Rows.fnExactWorldValidSpec.vars = true by kernel_rfl) hV
  obtain ⟨g1', g2', g3', g4', g5', g6', g7', rfl⟩ : ∃ g1' g2' g3' g4' g5' g6' g7', gs = [g1', g2', g3', g4', g5', g6', g7'] := by
    match gs, trodVars_len hV with
    | [g1', g2', g3', g4', g5', g6', g7'], _ => exact ⟨g1', g2', g3', g4', g5', g6', g7', rfl⟩
  have k0 := h0
  have lt0 : ∀ x ∈ p0, x.block < W.heap.size := by obtain ⟨m, hm⟩ := k0; exact DataW.trod_lt m _ _ _ hm
  obtain ⟨cs0, rfl, sz0⟩ := okWide_struct Tryd.underlying25 (hval 0 25 v0 rfl rfl)
  obtain ⟨A0, n0, c0, z0, B0, m0, d0, i0, e0, hn0, hm0, s0, hz0, r0, hi0⟩ : ∃ A0 n0 c0 z0 B0 m0 d0 i0, Value.agg cs0 = .agg #[.slice A0 n0 c0, .slice B0 m0 d0] ∧ n0 ≤ maxLen ∧ m0 ≤ maxLen ∧ Prs W A0 n0 z0 ∧ PrsOk z0 ∧ Inss W B0 m0 i0 ∧ ∀ i ∈ i0, InsOk i := by
    obtain ⟨fuel, hf⟩ := h0
    obtain ⟨A0, n0, c0, z0, B0, m0, d0, i0, e, hn0, hm0, s0, hz0, r0, hi0⟩ := open_world hf
    exact ⟨A0, n0, c0, z0, B0, m0, d0, i0, agg_of e, hn0, hm0, s0, hz0, r0, hi0⟩
  rw [e0] at hA0 hW' k0 ⊢
  clear hA0 hval0
  refine (walk  W A0 n0 c0 z0 B0 m0 d0 i0 hn0 hm0 s0 hz0 r0 hi0 he).mono fun e W' ⟨hend, bel⟩ => ?_
  subst hend
  exact ⟨_, rfl, _, _, _, [], _, _, hW', trodAll_mk1 (shut_bool Tryd.underlying4 _), (trodAll_cons_mk (Below.trod Facts.laidOut (by kernel_rfl) (of_decide_eq_true (by kernel_rfl)) k0 bel lt0) trodAll_mk0), HVB W' bel, bel.frame _, fun h => by cases h⟩

theorem closed : joinedFacts Tryd.pinned.checked.prog 3 Tryd.f3 Rows.fnExactWorldValidSpec Rows.fnExactWorldValidRow = true := by
  simp only [joinedFacts, Bool.and_eq_true]
  refine ⟨⟨⟨⟨⟨⟨⟨⟨⟨⟨⟨⟨⟨⟨⟨⟨⟨⟨⟨⟨⟨⟨⟨⟨⟨⟨⟨⟨⟨⟨⟨?_, Facts.laidOut⟩, Facts.rowed⟩, ?_⟩, ?_⟩, ?_⟩, Facts.stops⟩, ?_⟩, Facts.knobs⟩, ?_⟩, ?_⟩, ?_⟩, ?_⟩, ?_⟩, ?_⟩, ?_⟩, ?_⟩, ?_⟩, ?_⟩, ?_⟩, ?_⟩, ?_⟩, ?_⟩, ?_⟩, Facts.heard⟩, Facts.may⟩,
    (congrArg (fun x => (Rows.fnExactWorldValidRow.lifted == x)) Facts.lifts).trans (by kernel_rfl)⟩, (congrArg (fun x => (x == some Rows.fnExactWorldValidRow.make)) Facts.makes).trans (by kernel_rfl)⟩, ?_⟩, ?_⟩, ?_⟩, ?_⟩
  all_goals kernel_rfl

theorem proved : Rows.FnExactWorldValidSaid :=
  OpenClaim.holds_of_wide 3 Tryd.f3 rfl rfl rfl rfl rfl rfl rfl ⟨rfl, rfl, rfl, rfl, rfl⟩ rfl rfl rfl rfl rfl (by kernel_rfl) Tryd.func3 closed
    (of_decide_eq_true (by kernel_rfl)) (by unfold Func.isWrapper; rw [if_neg (of_decide_eq_false (by kernel_rfl))]; exact ⟨rfl, rfl⟩)
    (fun os started H enc _ => lifted os started H enc)
end Go.Proofs.YtmbfahpljgdeaaaDoor.fnExactWorldValid
namespace Go.Proofs.YtmbfahpljgdeaaaDoor
theorem fnExactWorldValid_holds : Rows.FnExactWorldValidCardSaid :=
  Claim7.holds_tied_plain_at .later [] Rows.fnExactWorldValidCard.laidKinds true Rows.fnExactWorldValidCard.stood.harness Rows.fnExactWorldValidCard.stood.looks
    fnExactWorldValid.proved (fun _ h => by cases h) (by kernel_rfl) (fun _ h => by cases h) fnExactWorldValid_row_tie rfl ⟨rfl, rfl⟩ (by kernel_rfl) rfl
    (fun f fn hf hfn => by
      obtain rfl : f = 3 := Option.some.inj ((show Tryd.prog.funcNamed Rows.fnExactWorldValidRow.func = some 3 by kernel_rfl).symm.trans hf) |>.symm
      obtain rfl : fn = Tryd.f3 := (Option.some.inj (Tryd.func3.symm.trans hfn)).symm
      exact ⟨by kernel_rfl, fun j t ht => by
        have hall : (Tryd.f3.params.toList.all fun u => !Tryd.prog.wantsStandIn u) = true := by kernel_rfl
        exact (show Tryd.prog.wantsStandIn t = false by simpa using List.all_eq_true.1 hall t (by simpa using Array.mem_of_getElem? ht))⟩)
    (by kernel_rfl)
#print axioms fnExactWorldValid_holds
end Go.Proofs.YtmbfahpljgdeaaaDoor
