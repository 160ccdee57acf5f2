/- The law FnExactParseWorld, proved: whatever the input, the call returns true, and each argument reads behind it as before. -/
import Derived.Test.YtjpdiahbnhemoaaGreatDoorFacts
import Derived.Test.YtjpdiahbnhemoaaGreatDoorPwK
import Derived.Test.YtjpdiahbnhemoaaGreatDoorPwT
import Derived.Test.YtjpdiahbnhemoaaGreatDoorMrkX
import Derived.Test.YtjpdiahbnhemoaaGreatDoorWld
import Derived.Test.YtjpdiahbnhemoaaGreatDoorDr3
import Derived.Test.YtjpdiahbnhemoaaGreatDoorDoor
import Derived.Test.YtjpdiahbnhemoaaGreatDoorCards
import Derived.Test.YtjpdiahbnhemoaaGreatDoorTie
import Derived.SevenTiedAt
import Derived.LaidMore
import Derived.WalkKit
import Derived.Deep.Cut
import Derived.ProofKit
import Derived.OpenShut
import Derived.ShutString
import Derived.ChangeOld
import Derived.Below
namespace Go.Proofs.YtjpdiahbnhemoaaGreatDoor.fnExactParseWorld
open Go.ChangeShapes Go.WideShapes Go.ChangeAt Go.RowKit
open Go.ChangeMaps (open_string shut_string)
set_option linter.unusedVariables false

set_option maxHeartbeats 1000000 in
set_option maxRecDepth 100000 in
theorem walk (a0 : ByteArray) (w0 : a0.size ≤ maxLen) (w : World) (he : PErrs w) :
    Calls Tryz.prog 3 #[.string a0] w fun e w' => e = .returned (.bool true) ∧ Below w.heap.size w w' := by
  by_cases ha : a0.size ≤ 1048576
  · have ha' : ¬ (1048576 : Int) < (a0.size : Int) := by omega
    have HE := hid he
    obtain ⟨⟨Z, L, f⟩, hV⟩ : ∃ v, pwV a0.data.toList = v := ⟨_, rfl⟩
    have HV := hid hV
    have hl := pwV_len a0.data.toList
    rw [hV, ← list_size (s := a0) rfl] at hl
    simp only at hl
    have hL1 : L.length + inssTot L ≤ 1048576 := by omega
    have hZ4 : Z.length ≤ 4 := hl.1
    have HIN := hid (fun i (hi : i ∈ L) => show i.ns.length ≤ maxLen by
      have h1 := inssTot_mem hi
      unfold insTot at h1
      unfold maxLen
      omega)
    have hcn : 1 + 2 * Z.length + cntN (nsOf L) ≤ 4194304 := by
      have := cntN_ins L
      omega
    have hnl : (nsOf L).length = L.length := by unfold nsOf; rw [List.length_map]
    have HNL := hid hnl
    have HIM := hid (fun i (hi : i ∈ mkIs (1 + 2 * Z.length) (nsOf L)) => show i.ns.length ≤ maxLen by
      obtain ⟨j, hj⟩ := List.mem_iff_getElem?.1 hi
      have hjl : j < (nsOf L).length := by
        have := (List.getElem?_eq_some_iff.1 hj).1
        rwa [mkIs_len] at this
      have hat := mkIs_at (1 + 2 * Z.length) (nsOf L) j _ (List.getElem?_eq_getElem hjl)
      rw [hat] at hj
      injection hj with hj
      rw [← hj]
      show (marksN _ _).length ≤ maxLen
      rw [marksN_len]
      have h2 : (nsOf L)[j] ∈ nsOf L := List.getElem_mem _
      obtain ⟨x, hx, hxe⟩ := List.mem_map.1 h2
      rw [← hxe]
      exact HIN.out x hx)
    clear he hV hl hnl
    go_enter Tryz.func3, Tryz.ntmps3
    go_wp2_with fail
    refine (parseWorldS_any a0 ha Z L f HV w).mono ?_
    rintro e v1 ⟨⟨A1, c1, B1, d1, rfl, hp1, hi1⟩, b1⟩
    have W1 := hid b1
    obtain ⟨v2, hv2⟩ : ∃ v2, v1.alloc (.cells #[.slice A1 Z.length c1, .slice B1 L.length d1] 25) = v2 := ⟨_, rfl⟩
    have b2 : Below v1.heap.size v1 v2 := by rw [← hv2]; exact (Below.refl _ _).alloc (Nat.le_refl _) _
    have N2 := hid (show v2.heap[v1.heap.size]? = some (.cells #[.slice A1 Z.length c1, .slice B1 L.length d1] 25 (0, 0)) by rw [← hv2]; exact heap_new1 v1 _)
    have z2 : v1.heap.size < v2.heap.size := by rw [← hv2]; simp only [World.size_alloc]; omega
    have P2 := hid (hp1.below b2)
    have I2 := hid (hi1.below b2)
    have BW2 := hid (b1.trans (b2.mono b1.size))
    have HV2 := hid hv2
    clear b1 hp1 hi1 hv2 b2
    go_upto_region 4 with fail
    rw [HV2.out]
    go_wp2_with fail
    refine (parseWorldI_any a0 ha Z L f HV v2 (HE.out.below BW2.out)).mono ?_
    rintro e v3 ⟨⟨A3, c3, B3, d3, lo, rfl, ho3, hal3, hlo3, hlo4, hw3⟩, b3⟩
    have O3 := hid (OwnC.of ho3)
    have HAL := hid hal3
    have z3 := b3.size
    have C3 := hid b3
    have W3 := hid (OwnH.of hw3)
    obtain ⟨v4, hv4⟩ : ∃ v4, v3.alloc (.cells #[.slice A3 Z.length c3, .slice B3 L.length d3] 25) = v4 := ⟨_, rfl⟩
    have b4 : Below v3.heap.size v3 v4 := by rw [← hv4]; exact (Below.refl _ _).alloc (Nat.le_refl _) _
    have M4 := hid (show v4.heap[v3.heap.size]? = some (.cells #[.slice A3 Z.length c3, .slice B3 L.length d3] 25 (0, 0)) by rw [← hv4]; exact heap_new1 v3 _)
    have z4 : v3.heap.size < v4.heap.size := by rw [← hv4]; simp only [World.size_alloc]; omega
    have O4 := hid (O3.out.below b4)
    have W4 := hid (W3.out.below b4)
    have C4 := hid (C3.out.trans (b4.mono z3))
    have N4 := hid ((C4.out.block _ z2).trans N2.out)
    have P4 := hid (P2.out.below C4.out)
    have I4 := hid (I2.out.below C4.out)
    have HV4 := hid hv4
    clear b3 ho3 hv4 b4 hal3 hw3
    go_upto_region 5 with fail
    rw [HV4.out]
    have n0 := cell_blk N4.out (j := 0) rfl
    have n1 := cell_blk N4.out (j := 1) rfl
    have m0 := cell_blk M4.out (j := 0) rfl
    have m1 := cell_blk M4.out (j := 1) rfl
    go_wp2_with fail
    refine (eqWorld_same A3 B3 A1 B1 Z.length c3 c1 L.length d3 d1 Z L v4 O4.out.prs P4.out (W4.out.own.inss HIN.out) I4.out (by omega) hL1).mono ?_
    rintro e v5 ⟨rfl, b5⟩
    have z5 := b5.size
    have O5 := hid (O4.out.below b5)
    have W5 := hid (W4.out.below b5)
    have C5 := hid (C4.out.trans (b5.mono (by omega)))
    have M5 := hid ((b5.block _ z4).trans M4.out)
    clear b5 n0 n1 m0 m1
    have m0 := cell_blk M5.out (j := 0) rfl
    have m1 := cell_blk M5.out (j := 1) rfl
    obtain ⟨K, hK⟩ : ∃ K, 1 + 2 * Z.length + cntN (nsOf L) = K := ⟨_, rfl⟩
    have HK := hid hK
    have k0 : ¬ ((K : Nat) : Int) < 0 := by omega
    clear hK
    rcases f with _ | _
    all_goals
      go_wp2_with fail
      refine (markWorld_any A3 Z.length c3 Z B3 L.length d3 L 1 v2.heap.size lo v3.heap.size v5 O5.out HAL.out hlo3 (by omega) hlo4 W5.out (by omega) hcn).mono ?_
      rintro e v6 ⟨rfl, o6, w6, b6, u6⟩
      rw [HK.out]
      have z6 := b6.size
      have O6 := hid o6
      have W6 := hid w6
      have C6 := hid (C5.out.trans b6)
      have M6 := hid ((u6 v3.heap.size (Nat.le_refl _) (by omega)).trans M5.out)
      clear o6 w6 b6 u6 m0 m1
      have m0 := cell_blk M6.out (j := 0) rfl
      have m1 := cell_blk M6.out (j := 1) rfl
      go_wp2_with fail
      refine (heldWorld_any A3 Z.length c3 B3 L.length d3 1 (nsOf L) v6 O6.out.prs (W6.out.inss HIM.out) HNL.out (by omega) hcn).mono ?_
      rintro e v7 ⟨rfl, b7⟩
      rw [HK.out]
      have z7 := b7.size
      have O7 := hid (O6.out.below b7)
      have W7 := hid (W6.out.below b7)
      have C7 := hid (C6.out.trans (b7.mono (by omega)))
      have M7 := hid ((b7.block _ (by omega)).trans M6.out)
      clear b7 m0 m1
      go_wp2_with fail
      refine (parseWorldI_any a0 ha Z L _ HV v7 (HE.out.below (BW2.out.trans (C7.out.mono BW2.out.size)))).mono ?_
      rintro e v8 ⟨⟨A8, c8, B8, d8, lo8, rfl, ho8, _, _, _, hw8⟩, b8⟩
      have z8 := b8.size
      have P8 := hid (OwnC.of ho8).prs
      have I8 := hid (hw8.inss HIN.out)
      obtain ⟨v9, hv9⟩ : ∃ v9, v8.alloc (.cells #[.slice A8 Z.length c8, .slice B8 L.length d8] 25) = v9 := ⟨_, rfl⟩
      have b9 : Below v8.heap.size v8 v9 := by rw [← hv9]; exact (Below.refl _ _).alloc (Nat.le_refl _) _
      have L9 := hid (show v9.heap[v8.heap.size]? = some (.cells #[.slice A8 Z.length c8, .slice B8 L.length d8] 25 (0, 0)) by rw [← hv9]; exact heap_new1 v8 _)
      have z9 : v8.heap.size < v9.heap.size := by rw [← hv9]; simp only [World.size_alloc]; omega
      have C9 := hid (C7.out.trans ((b8.trans (b9.mono z8)).mono (by omega)))
      have M9 := hid ((b9.block _ (by omega)).trans ((b8.block _ (by omega)).trans M7.out))
      have O9 := hid ((O7.out.below b8).below b9)
      have W9 := hid ((W7.out.below b8).below b9)
      have P9 := hid (P8.out.below b9)
      have I9 := hid (I8.out.below b9)
      have N9 := hid ((C9.out.block _ z2).trans N2.out)
      have Q9 := hid (P2.out.below C9.out)
      have J9 := hid (I2.out.below C9.out)
      have HV9 := hid hv9
      clear b8 ho8 hw8 b9 hv9
      go_upto_region 16 with fail
      rw [HV9.out]
      have n0 := cell_blk N9.out (j := 0) rfl
      have n1 := cell_blk N9.out (j := 1) rfl
      have l0 := cell_blk L9.out (j := 0) rfl
      have l1 := cell_blk L9.out (j := 1) rfl
      go_wp2_with fail
      refine (eqWorld_same A8 B8 A1 B1 Z.length c8 c1 L.length d8 d1 Z L v9 P9.out Q9.out I9.out J9.out (by omega) hL1).mono ?_
      rintro e v10 ⟨rfl, b10⟩
      have z10 := b10.size
      have O10 := hid (O9.out.below b10)
      have W10 := hid (W9.out.below b10)
      have C10 := hid (C9.out.trans (b10.mono (by omega)))
      have M10 := hid ((b10.block _ (by omega)).trans M9.out)
      clear b10 n0 n1 l0 l1
      have m0 := cell_blk M10.out (j := 0) rfl
      have m1 := cell_blk M10.out (j := 1) rfl
      go_wp2_with fail
      refine (heldWorld_any A3 Z.length c3 B3 L.length d3 1 (nsOf L) v10 O10.out.prs (W10.out.inss HIM.out) HNL.out (by omega) hcn).mono ?_
      rintro e v11 ⟨rfl, b11⟩
      rw [HK.out]
      have C11 := hid (C10.out.trans (b11.mono (by omega)))
      clear b11 m0 m1
      go_wp2_with fail
      go_ret
      exact ⟨rfl, BW2.out.trans (C11.out.mono BW2.out.size)⟩
  · have ha' : (1048576 : Int) < (a0.size : Int) := by omega
    go_enter Tryz.func3, Tryz.ntmps3
    go_wp2_with fail
    go_ret
    exact ⟨rfl, Below.refl _ _⟩

set_option maxRecDepth 100000 in
theorem lifted (os : Os) (started : os.Started) (H : Type) (enc : TypeId × Value → H) :
    ReturnsInHanded {} Tryz.checked os 3 .any (fun w args => (Rows.fnExactParseWorldSpec.pre enc Tryz.prog Tryz.f3 [] false w args ∧ laidMetH Tryz.prog Rows.fnExactParseWorldRow.laid w) ∧ sizedMet enc Tryz.prog Tryz.f3 (OpenSpec.ofChange Rows.fnExactParseWorldSpec) false w args)
      (Rows.fnExactParseWorldSpec.post enc Tryz.prog Tryz.f3 false true false false) := by
  refine returnsInHanded_of_change_and (C := Tryz.checked) (X := fun w _ => laidMetH Tryz.prog Rows.fnExactParseWorldRow.laid w) (fun _ _ _ hh h => h.of_heap hh) Facts.own started (by kernel_rfl) Tryz.func3
    (ChangeSpec.witness_shaped (enc := enc) (C := Tryz.checked) (os := os) (X := fun w _ => laidMetH Tryz.prog Rows.fnExactParseWorldRow.laid w) false (World.doorLaid Tryz.prog 400 os) #[.string ByteArray.empty] 8 rfl (World.shaped_of_RefB (by kernel_rfl) (by kernel_rfl)) (by kernel_rfl) (by kernel_rfl) (by kernel_rfl) (laidMetH_of_parts3 (fuel := 8) (laidMet_of_run' 8 (by kernel_rfl) (by kernel_rfl)) (by kernel_rfl) (by kernel_rfl))) ?_
  intro W base args ds gs before hval0 hW _ _ hL _
  have he := errs_PErrs hL
  have hval : ∀ (j : Nat) t v, Tryz.f3.params[j]? = some t → args[j]? = some v → Value.okWide Tryz.prog W .any base t v := hval0
  have hW' := hW
  obtain ⟨p, q, hA0, hV, rfl, hfz, hnd⟩ := hW
  have hA : DataW.TrodAll enc Tryz.prog W 0 (fun _ => true) true Tryz.f3.params.toList args.toList ds p := hA0
  rw [Tryz.params3] at hA hval
  obtain ⟨v0, vs0, d0, ds0, p0, q0, hargs, rfl, rfl, h0, rr0⟩ := trodAll_cons hA
  obtain ⟨rfl, rfl, rfl⟩ := trodAll_nil rr0
  obtain rfl : args = #[v0] := by cases args; simp_all
  have HVB := fun (W' : World) (bel : Below W.heap.size W W') => Below.trodVars Facts.laidOut bel (show varsRowed Tryz.prog Rows.fnExactParseWorldSpec.vars = true by kernel_rfl) hV
  obtain ⟨g1', g2', g3', g4', g5', g6', g7', g8', rfl⟩ : ∃ g1' g2' g3' g4' g5' g6' g7' g8', gs = [g1', g2', g3', g4', g5', g6', g7', g8'] := by
    match gs, trodVars_len hV with
    | [g1', g2', g3', g4', g5', g6', g7', g8'], _ => exact ⟨g1', g2', g3', g4', g5', g6', g7', g8', rfl⟩
  have k0 := h0
  have lt0 : ∀ x ∈ p0, x.block < W.heap.size := by obtain ⟨m, hm⟩ := k0; exact DataW.trod_lt m _ _ _ hm
  obtain ⟨a0, rfl, e0a, e0b, w0⟩ := open_string Tryz.underlying9 (hval 0 9 v0 rfl rfl) h0
  clear hA0 hval0
  refine (walk a0 w0 W  he).mono fun e W' ⟨hend, bel⟩ => ?_
  subst hend
  exact ⟨_, rfl, _, _, _, [], _, _, hW', trodAll_mk1 (shut_bool Tryz.underlying4 _), (trodAll_cons_mk (Below.trod Facts.laidOut (by kernel_rfl) (of_decide_eq_true (by kernel_rfl)) k0 bel lt0) trodAll_mk0), HVB W' bel, bel.frame _, fun h => by cases h⟩

theorem closed : joinedFacts Tryz.pinned.checked.prog 3 Tryz.f3 Rows.fnExactParseWorldSpec Rows.fnExactParseWorldRow = true := by
  simp only [joinedFacts, Bool.and_eq_true]
  refine ⟨⟨⟨⟨⟨⟨⟨⟨⟨⟨⟨⟨⟨⟨⟨⟨⟨⟨⟨⟨⟨⟨⟨⟨⟨⟨⟨⟨⟨⟨⟨?_, Facts.laidOut⟩, Facts.rowed⟩, ?_⟩, ?_⟩, ?_⟩, Facts.stops⟩, ?_⟩, Facts.knobs⟩, ?_⟩, ?_⟩, ?_⟩, ?_⟩, ?_⟩, ?_⟩, ?_⟩, ?_⟩, ?_⟩, ?_⟩, ?_⟩, ?_⟩, ?_⟩, ?_⟩, ?_⟩, Facts.heard⟩, Facts.may⟩,
    (congrArg (fun x => (Rows.fnExactParseWorldRow.lifted == x)) Facts.lifts).trans (by kernel_rfl)⟩, (congrArg (fun x => (x == some Rows.fnExactParseWorldRow.make)) Facts.makes).trans (by kernel_rfl)⟩, ?_⟩, ?_⟩, ?_⟩, ?_⟩
  all_goals kernel_rfl

theorem proved : Rows.FnExactParseWorldSaid :=
  OpenClaim.holds_of_wide 3 Tryz.f3 rfl rfl rfl rfl rfl rfl rfl ⟨rfl, rfl, rfl, rfl, rfl⟩ rfl rfl rfl rfl rfl (by kernel_rfl) Tryz.func3 closed
    (of_decide_eq_true (by kernel_rfl)) (by unfold Func.isWrapper; rw [if_neg (of_decide_eq_false (by kernel_rfl))]; exact ⟨rfl, rfl⟩)
    (fun os started H enc _ => lifted os started H enc)
end Go.Proofs.YtjpdiahbnhemoaaGreatDoor.fnExactParseWorld
namespace Go.Proofs.YtjpdiahbnhemoaaGreatDoor
theorem fnExactParseWorld_holds : Rows.FnExactParseWorldCardSaid :=
  Claim7.holds_tied_plain_at .later [] Rows.fnExactParseWorldCard.laidKinds true Rows.fnExactParseWorldCard.stood.harness Rows.fnExactParseWorldCard.stood.looks
    fnExactParseWorld.proved (fun _ h => by cases h) (by kernel_rfl) (fun _ h => by cases h) fnExactParseWorld_row_tie rfl ⟨rfl, rfl⟩ (by kernel_rfl) rfl
    (fun f fn hf hfn => by
      obtain rfl : f = 3 := Option.some.inj ((show Tryz.prog.funcNamed Rows.fnExactParseWorldRow.func = some 3 by kernel_rfl).symm.trans hf) |>.symm
      obtain rfl : fn = Tryz.f3 := (Option.some.inj (Tryz.func3.symm.trans hfn)).symm
      exact ⟨by kernel_rfl, fun j t ht => by
        have hall : (Tryz.f3.params.toList.all fun u => !Tryz.prog.wantsStandIn u) = true := by kernel_rfl
        exact (show Tryz.prog.wantsStandIn t = false by simpa using List.all_eq_true.1 hall t (by simpa using Array.mem_of_getElem? ht))⟩)
    (by kernel_rfl)
#print axioms fnExactParseWorld_holds
end Go.Proofs.YtjpdiahbnhemoaaGreatDoor
