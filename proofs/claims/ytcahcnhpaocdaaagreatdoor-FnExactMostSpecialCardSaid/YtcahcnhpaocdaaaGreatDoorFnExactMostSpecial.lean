/- The law FnExactMostSpecial, proved: whatever the input, the call returns true, and each argument reads behind it as before. -/
import Derived.Test.YtcahcnhpaocdaaaGreatDoorFacts
import Derived.Test.YtcahcnhpaocdaaaGreatDoorMsS
import Derived.Test.YtcahcnhpaocdaaaGreatDoorWld
import Derived.Test.YtcahcnhpaocdaaaGreatDoorOpen
import Derived.Test.YtcahcnhpaocdaaaGreatDoorDoor
import Derived.Test.YtcahcnhpaocdaaaGreatDoorCards
import Derived.Test.YtcahcnhpaocdaaaGreatDoorTie
import Derived.SevenTiedAt
import Derived.LaidMore
import Derived.WalkKit
import Derived.ProofKit
import Derived.OpenShut
import Derived.ShutString
import Derived.ChangeOld
import Derived.Below
namespace Go.Proofs.YtcahcnhpaocdaaaGreatDoor.fnExactMostSpecial
open Go.ChangeShapes Go.WideShapes Go.ChangeAt Go.RowKit
open Go.ChangeMaps (open_string shut_string)
set_option linter.unusedVariables false

set_option maxHeartbeats 1600000 in
set_option maxRecDepth 100000 in
theorem walk (x1 y1 : ByteArray) (u1 : x1.size ≤ maxLen) (w1 : y1.size ≤ maxLen) (w : World) (A0 : Option Addr) (n0 c0 : Nat) (z0 : List (ByteArray × ByteArray)) (B0 : Option Addr) (m0 d0 : Nat) (i0 : List Ins) (hn0 : n0 ≤ maxLen) (hm0 : m0 ≤ maxLen) (s0 : Prs w A0 n0 z0) (hz0 : PrsOk z0) (r0 : Inss w B0 m0 i0) (hi0 : ∀ i ∈ i0, InsOk i) (he : WErrs w) :
    Calls Tryz.prog 7 #[.agg #[.slice A0 n0 c0, .slice B0 m0 d0], .agg #[.string x1, .string y1]] w fun e w' => e = .returned (.bool true) ∧ Below w.heap.size w w' := by
  obtain ⟨k0, k1, k2, k3⟩ := box2 w #[.slice A0 n0 c0, .slice B0 m0 d0] 25 #[.string x1, .string y1] 36
  obtain ⟨wa, hwa⟩ : ∃ wa, (w.alloc (.cells #[.slice A0 n0 c0, .slice B0 m0 d0] 25)).alloc (.cells #[.string x1, .string y1] 36) = wa := ⟨_, rfl⟩
  rw [hwa] at k0 k1 k2 k3
  have BA := hid k0
  have EA := hid k2
  have FA := hid k3
  have za : w.heap.size + 1 < wa.heap.size := by omega
  clear k0 k1 k2 k3
  have S0 := hid s0
  have HZ := hid hz0
  have R0 := hid r0
  have HI := hid hi0
  have HE := hid he
  -- what stands in the two arguments' copies, in any later world
  have HOLD := hid (fun (W : World) (hW : Below wa.heap.size wa W) => show (Below w.heap.size w W ∧ w.heap.size + 1 < W.heap.size) ∧ W.cell? ⟨w.heap.size, 0, none⟩ = some (.slice A0 n0 c0) ∧ W.cell? ⟨w.heap.size, 1, none⟩ = some (.slice B0 m0 d0) ∧ W.cell? ⟨w.heap.size + 1, 0, none⟩ = some (.string x1) ∧ W.cell? ⟨w.heap.size + 1, 1, none⟩ = some (.string y1) from by
    have h1 := (hW.block w.heap.size (by omega)).trans EA.out
    have h2 := (hW.block (w.heap.size + 1) (by omega)).trans FA.out
    exact ⟨⟨BA.out.trans (hW.mono BA.out.size), Nat.lt_of_lt_of_le za hW.size⟩, cell_blk h1 (j := 0) rfl, cell_blk h1 (j := 1) rfl, cell_blk h2 (j := 0) rfl, cell_blk h2 (j := 1) rfl⟩)
  have HWA := hid hwa
  clear s0 hz0 r0 hi0 he hwa
  obtain ⟨bq, hbq⟩ : ∃ q, msOf z0 i0 x1 y1 = q := ⟨_, rfl⟩
  have HQ := hid hbq
  clear hbq
  go_enter Tryz.func7, Tryz.ntmps7
  go_wp2_with fail
  rw [HWA.out]
  refine (szWorld_any A0 n0 c0 z0 B0 m0 d0 i0 1048576 wa hn0 hm0 (S0.out.below BA.out) HZ.out (R0.out.below BA.out) HI.out (Nat.le_refl _)).mono ?_
  rintro e v0 ⟨r, rfl, b0, hr⟩
  have B0' := hid b0
  clear b0
  obtain ⟨⟨bw0, zw0⟩, q0, q1, q2, q3⟩ := HOLD.out v0 B0'.out
  rcases hr with rfl | ⟨r', rfl, hr'⟩
  · go_wp2_with fail
    go_ret
    exact ⟨rfl, bw0⟩
  · have hr0 : (0 : Int) ≤ (r' : Int) := by omega
    have hrl : r' ≤ 1048576 := by omega
    have hn1 : n0 ≤ 1048576 := by omega
    have ht1 : tot z0 ≤ 1048576 := by omega
    have hm1 : m0 + inssTot i0 ≤ 1048576 := by omega
    have hmm : m0 ≤ 1048576 := by omega
    clear hr'
    go_wp2_with fail
    refine (szNeed_any x1 y1 r' v0 u1 w1 hrl).mono ?_
    rintro e v1 ⟨r2, rfl, b1, hr2⟩
    have B1 := hid (B0'.out.trans (b1.mono B0'.out.size))
    clear b1 q0 q1 q2 q3 bw0 zw0
    obtain ⟨⟨bw1, zw1⟩, q0, q1, q2, q3⟩ := HOLD.out v1 B1.out
    rcases hr2 with ⟨rfl, hr3⟩ | ⟨hr3, rfl⟩
    · go_wp2_with fail
      go_ret
      exact ⟨rfl, bw1⟩
    · have hr30 : (0 : Int) ≤ ((r' - (x1.size + y1.size) : Nat) : Int) := by omega
      obtain ⟨r3, hr4⟩ : ∃ r3, r' - (x1.size + y1.size) = r3 := ⟨_, rfl⟩
      rw [hr4] at hr30 ⊢
      clear hr3 hr4
      have HTW := hid (fun (W : World) (hW : Below wa.heap.size wa W) => toWorld_any A0 n0 c0 z0 B0 m0 d0 i0 W (S0.out.below (HOLD.out W hW).1.1) (R0.out.below (HOLD.out W hW).1.1) hn1 hm1)
      have B1d := hid (B1.out.trans ((Below.refl v1.heap.size v1).drew.mono B1.out.size))
      go_wp2_with fail
      refine (fun (key : Hid (∀ g h w4, Below wa.heap.size wa w4 → (?pp : Nat → Nat → World → Prop) g h w4)) => ?main) ?kk
      case main =>
        go_region_with (first
          | (go_at_call 10
             refine (HTW.out _ (by first | exact B1d.out)).mono ?_
             rintro e v2 ⟨g2, h2, rfl, p2, k2, b2⟩
             have P2 := hid p2
             have K2 := hid k2
             have B2 := hid (B1d.out.trans (b2.mono B1d.out.size))
             clear p2 k2 b2
             obtain ⟨⟨bw2, zw2⟩, t0, t1, t2, t3⟩ := HOLD.out v2 B2.out)
          | (go_at_call 15
             refine (toNeed_any x1 y1 _).mono ?_
             rintro e v3 ⟨rfl, b3⟩
             have B23 := hid b3
             have B3 := hid (B2.out.trans (b3.mono B2.out.size))
             clear b3)
          | (go_at_call 28
             refine (mostSpecialS_any (some ⟨g2, 0, none⟩) n0 n0 z0 (some ⟨h2, 0, none⟩) m0 m0 i0 x1 y1 _ (Nat.le_refl _) hn0 (P2.out.below B23.out) (fun z hz => (HZ.out z hz).2) hmm (K2.out.below B23.out) HI.out w1).mono ?_
             rintro e v4 ⟨rfl, b4⟩
             rw [HQ.out]
             have B4 := hid (B3.out.trans (b4.mono B3.out.size))
             clear b4))
        all_goals exact key.out g2 h2 v4 B4.out
      case kk =>
      show Hid _
      refine hid (fun g2 h2 v4 b4 => ?_)
      have B4 := hid b4
      clear b4 q0 q1 q2 q3 bw1 zw1
      obtain ⟨⟨bw4, zw4⟩, q0, q1, q2, q3⟩ := HOLD.out v4 B4.out
      go_wp2_with fail
      refine (HTW.out v4 B4.out).mono ?_
      rintro e v5 ⟨g5, h5, rfl, p5, k5, b5⟩
      have P5 := hid p5
      have K5 := hid k5
      have B5 := hid (B4.out.trans (b5.mono B4.out.size))
      have hv5 : ∀ o, Below v5.heap.size v5 (v5.alloc o) := fun o => (Below.refl _ _).alloc (Nat.le_refl _) o
      have B5a := hid (B5.out.alloc B5.out.size (.cells #[.slice (some ⟨g5, 0, none⟩) n0 n0, .slice (some ⟨h5, 0, none⟩) m0 m0] 31))
      have N5 := hid (heap_new1 v5 (.cells #[.slice (some ⟨g5, 0, none⟩) n0 n0, .slice (some ⟨h5, 0, none⟩) m0 m0] 31))
      have P5a := hid (P5.out.below (hv5 (.cells #[.slice (some ⟨g5, 0, none⟩) n0 n0, .slice (some ⟨h5, 0, none⟩) m0 m0] 31)))
      have K5a := hid (K5.out.below (hv5 (.cells #[.slice (some ⟨g5, 0, none⟩) n0 n0, .slice (some ⟨h5, 0, none⟩) m0 m0] 31)))
      obtain ⟨v6, hv6⟩ : ∃ v6, v5.alloc (.cells #[.slice (some ⟨g5, 0, none⟩) n0 n0, .slice (some ⟨h5, 0, none⟩) m0 m0] 31) = v6 := ⟨_, rfl⟩
      have HV6 := hid hv6
      have z6 : v5.heap.size < v6.heap.size := by rw [← hv6]; simp only [World.size_alloc]; omega
      rw [hv6] at B5a N5 P5a K5a
      clear p5 k5 b5 hv6 hv5 q0 q1 q2 q3 bw4 zw4
      obtain ⟨⟨bw5, zw5⟩, q0, q1, q2, q3⟩ := HOLD.out _ B5a.out
      have B5d := hid (B5a.out.trans ((Below.refl v6.heap.size v6).drew.mono B5a.out.size))
      go_wp2_with fail
      rw [HV6.out]
      have hx0 := cell_blk (w := v6.drew) N5.out (j := 0) rfl
      have hx1 := cell_blk (w := v6.drew) N5.out (j := 1) rfl
      refine (fun (key : Hid (∀ w8, Below v6.heap.size v6 w8 → (?pp2 : World → Prop) w8)) => ?main2) ?kk2
      case main2 =>
        go_region_with (first
          | (go_at_call 15
             refine (toNeed_any x1 y1 _).mono ?_
             rintro e v7 ⟨rfl, b7⟩
             have B7 := hid (show Below v6.heap.size v6 v7 from (Below.refl v6.heap.size v6).drew.trans b7)
             have hx0' := cell_blk ((B7.out.block _ z6).trans N5.out) (j := 0) rfl
             have hx1' := cell_blk ((B7.out.block _ z6).trans N5.out) (j := 1) rfl
             clear b7)
          | (go_at_call 29
             refine (mostSpecialI_any (some ⟨g5, 0, none⟩) n0 n0 z0 (some ⟨h5, 0, none⟩) m0 m0 i0 x1 y1 _ hn0 (P5a.out.below B7.out) hm0 (K5a.out.below B7.out) HI.out ht1 (HE.out.below ((HOLD.out _ B5a.out).1.1.trans (B7.out.mono (HOLD.out _ B5a.out).1.1.size))) u1 w1).mono ?_
             rintro e v8 ⟨rfl, b8⟩
             rw [HQ.out]
             have B8 := hid (B7.out.trans (b8.mono B7.out.size))
             clear b8))
        all_goals exact key.out v8 B8.out
      case kk2 =>
      show Hid _
      refine hid (fun v8 b8 => ?_)
      have B68 := hid b8
      have B8 := hid (B5a.out.trans (b8.mono B5a.out.size))
      have N8 := hid ((b8.block _ z6).trans N5.out)
      have P8 := hid (P5a.out.below b8)
      have K8 := hid (K5a.out.below b8)
      have z8 : v5.heap.size < v8.heap.size := Nat.lt_of_lt_of_le z6 b8.size
      clear b8 q0 q1 q2 q3 bw5 zw5 hx0 hx1
      obtain ⟨⟨bw8, zw8⟩, q0, q1, q2, q3⟩ := HOLD.out _ B8.out
      have k0' := cell_blk N8.out (j := 0) rfl
      have k1' := cell_blk N8.out (j := 1) rfl
      go_wp2_with fail
      go_region_with (first
        | (go_at_call 10
           refine (HTW.out _ (by exact B8.out.drew)).mono ?_
           rintro e v9 ⟨g9, h9, rfl, p9, k9, b9⟩
           have P9 := hid p9
           have K9 := hid k9
           have U9 := hid (show Below v8.heap.size v8 v9 from ((Below.refl _ _).drew.trans b9 : Below v8.heap.size v8 v9))
           clear p9 k9 b9
           have m0' := cell_below k0' z8 U9.out
           have m1' := cell_below k1' z8 U9.out)
        | (go_at_call 12
           refine (eqWorld_same _ _ _ _ n0 n0 n0 m0 m0 m0 z0 i0 _ (P8.out.below U9.out) P9.out (K8.out.below U9.out) K9.out hn1 hm1).mono ?_
           rintro e v10 ⟨rfl, b10⟩))
      all_goals
        go_wp2_with fail
        go_ret
        exact ⟨rfl, bw8.trans ((U9.out.trans (b10.mono U9.out.size)).mono bw8.size)⟩

set_option maxRecDepth 100000 in
theorem lifted (os : Os) (started : os.Started) (H : Type) (enc : TypeId × Value → H) :
    ReturnsInHanded {} Tryz.checked os 7 .any (fun w args => (Rows.fnExactMostSpecialSpec.pre enc Tryz.prog Tryz.f7 [] false w args ∧ laidMetH Tryz.prog Rows.fnExactMostSpecialRow.laid w) ∧ sizedMet enc Tryz.prog Tryz.f7 (OpenSpec.ofChange Rows.fnExactMostSpecialSpec) false w args)
      (Rows.fnExactMostSpecialSpec.post enc Tryz.prog Tryz.f7 false true false false) := by
  refine returnsInHanded_of_change_and (C := Tryz.checked) (X := fun w _ => laidMetH Tryz.prog Rows.fnExactMostSpecialRow.laid w) (fun _ _ _ hh h => h.of_heap hh) Facts.own started (by kernel_rfl) Tryz.func7
    (ChangeSpec.witness_shaped (enc := enc) (C := Tryz.checked) (os := os) (X := fun w _ => laidMetH Tryz.prog Rows.fnExactMostSpecialRow.laid w) false (World.doorLaid Tryz.prog 400 os) #[.agg #[.slice none 0 0, .slice none 0 0], .agg #[.string ByteArray.empty, .string ByteArray.empty]] 8 rfl (World.shaped_of_RefB (by kernel_rfl) (by kernel_rfl)) (by kernel_rfl) (by kernel_rfl) (by kernel_rfl) (laidMetH_of_parts3 (fuel := 8) (laidMet_of_run' 8 (by kernel_rfl) (by kernel_rfl)) (by kernel_rfl) (by kernel_rfl))) ?_
  intro W base args ds gs before hval0 hW _ _ hL _
  have he := errs_WErrs hL
  have hval : ∀ (j : Nat) t v, Tryz.f7.params[j]? = some t → args[j]? = some v → Value.okWide Tryz.prog W .any base t v := hval0
  have hW' := hW
  obtain ⟨p, q, hA0, hV, rfl, hfz, hnd⟩ := hW
  have hA : DataW.TrodAll enc Tryz.prog W 0 (fun _ => true) true Tryz.f7.params.toList args.toList ds p := hA0
  rw [Tryz.params7] at hA hval
  obtain ⟨v0, vs0, d0, ds0, p0, q0, hargs, rfl, rfl, h0, rr0⟩ := trodAll_cons hA
  obtain ⟨v1, vs1, d1, ds1, p1, q1, rfl, rfl, rfl, h1, rr1⟩ := trodAll_cons rr0
  obtain ⟨rfl, rfl, rfl⟩ := trodAll_nil rr1
  obtain rfl : args = #[v0, v1] := by cases args; simp_all
  have HVB := fun (W' : World) (bel : Below W.heap.size W W') => Below.trodVars Facts.laidOut bel (show varsRowed Tryz.prog Rows.fnExactMostSpecialSpec.vars = true by kernel_rfl) hV
  obtain ⟨g1', g2', g3', g4', g5', g6', g7', rfl⟩ : ∃ g1' g2' g3' g4' g5' g6' g7', gs = [g1', g2', g3', g4', g5', g6', g7'] := by
    match gs, trodVars_len hV with
    | [g1', g2', g3', g4', g5', g6', g7'], _ => exact ⟨g1', g2', g3', g4', g5', g6', g7', rfl⟩
  have k0 := h0
  have lt0 : ∀ x ∈ p0, x.block < W.heap.size := by obtain ⟨m, hm⟩ := k0; exact DataW.trod_lt m _ _ _ hm
  obtain ⟨cs0, rfl, sz0⟩ := okWide_struct Tryz.underlying25 (hval 0 25 v0 rfl rfl)
  obtain ⟨A0, n0, c0, z0, B0, m0, d0, i0, e0, hn0, hm0, s0, hz0, r0, hi0⟩ : ∃ A0 n0 c0 z0 B0 m0 d0 i0, Value.agg cs0 = .agg #[.slice A0 n0 c0, .slice B0 m0 d0] ∧ n0 ≤ maxLen ∧ m0 ≤ maxLen ∧ Prs W A0 n0 z0 ∧ PrsOk z0 ∧ Inss W B0 m0 i0 ∧ ∀ i ∈ i0, InsOk i := by
    obtain ⟨fuel, hf⟩ := h0
    obtain ⟨A0, n0, c0, z0, B0, m0, d0, i0, e, hn0, hm0, s0, hz0, r0, hi0⟩ := open_world hf
    exact ⟨A0, n0, c0, z0, B0, m0, d0, i0, agg_of e, hn0, hm0, s0, hz0, r0, hi0⟩
  rw [e0] at hA0 hW' k0 ⊢
  have k1 := h1
  have lt1 : ∀ x ∈ p1, x.block < W.heap.size := by obtain ⟨m, hm⟩ := k1; exact DataW.trod_lt m _ _ _ hm
  obtain ⟨cs1, rfl, sz1⟩ := okWide_struct Tryz.underlying36 (hval 1 36 v1 rfl rfl)
  obtain ⟨x1, y1, e1, u1, w1⟩ : ∃ x1 y1, Value.agg cs1 = .agg #[.string x1, .string y1] ∧ x1.size ≤ maxLen ∧ y1.size ≤ maxLen := by
    obtain ⟨fuel, hf⟩ := h1
    obtain ⟨x1, y1, e, u1, w1⟩ := open_need hf
    exact ⟨x1, y1, agg_of e, u1, w1⟩
  rw [e1] at hA0 hW' k1 ⊢
  clear hA0 hval0
  refine (walk x1 y1 u1 w1 W A0 n0 c0 z0 B0 m0 d0 i0 hn0 hm0 s0 hz0 r0 hi0 he).mono fun e W' ⟨hend, bel⟩ => ?_
  subst hend
  exact ⟨_, rfl, _, _, _, [], _, _, hW', trodAll_mk1 (shut_bool Tryz.underlying4 _), (trodAll_cons_mk (Below.trod Facts.laidOut (by kernel_rfl) (of_decide_eq_true (by kernel_rfl)) k0 bel lt0) (trodAll_cons_mk (Below.trod Facts.laidOut (by kernel_rfl) (of_decide_eq_true (by kernel_rfl)) k1 bel lt1) trodAll_mk0)), HVB W' bel, bel.frame _, fun h => by cases h⟩

theorem closed : joinedFacts Tryz.pinned.checked.prog 7 Tryz.f7 Rows.fnExactMostSpecialSpec Rows.fnExactMostSpecialRow = true := by
  simp only [joinedFacts, Bool.and_eq_true]
  refine ⟨⟨⟨⟨⟨⟨⟨⟨⟨⟨⟨⟨⟨⟨⟨⟨⟨⟨⟨⟨⟨⟨⟨⟨⟨⟨⟨⟨⟨⟨⟨?_, Facts.laidOut⟩, Facts.rowed⟩, ?_⟩, ?_⟩, ?_⟩, Facts.stops⟩, ?_⟩, Facts.knobs⟩, ?_⟩, ?_⟩, ?_⟩, ?_⟩, ?_⟩, ?_⟩, ?_⟩, ?_⟩, ?_⟩, ?_⟩, ?_⟩, ?_⟩, ?_⟩, ?_⟩, ?_⟩, Facts.heard⟩, Facts.may⟩,
    (congrArg (fun x => (Rows.fnExactMostSpecialRow.lifted == x)) Facts.lifts).trans (by kernel_rfl)⟩, (congrArg (fun x => (x == some Rows.fnExactMostSpecialRow.make)) Facts.makes).trans (by kernel_rfl)⟩, ?_⟩, ?_⟩, ?_⟩, ?_⟩
  all_goals kernel_rfl

theorem proved : Rows.FnExactMostSpecialSaid :=
  OpenClaim.holds_of_wide 7 Tryz.f7 rfl rfl rfl rfl rfl rfl rfl ⟨rfl, rfl, rfl, rfl, rfl⟩ rfl rfl rfl rfl rfl (by kernel_rfl) Tryz.func7 closed
    (of_decide_eq_true (by kernel_rfl)) (by unfold Func.isWrapper; rw [if_neg (of_decide_eq_false (by kernel_rfl))]; exact ⟨rfl, rfl⟩)
    (fun os started H enc _ => lifted os started H enc)
end Go.Proofs.YtcahcnhpaocdaaaGreatDoor.fnExactMostSpecial
namespace Go.Proofs.YtcahcnhpaocdaaaGreatDoor
theorem fnExactMostSpecial_holds : Rows.FnExactMostSpecialCardSaid :=
  Claim7.holds_tied_plain_at .later [] Rows.fnExactMostSpecialCard.laidKinds true Rows.fnExactMostSpecialCard.stood.harness Rows.fnExactMostSpecialCard.stood.looks
    fnExactMostSpecial.proved (fun _ h => by cases h) (by kernel_rfl) (fun _ h => by cases h) fnExactMostSpecial_row_tie rfl ⟨rfl, rfl⟩ (by kernel_rfl) rfl
    (fun f fn hf hfn => by
      obtain rfl : f = 7 := Option.some.inj ((show Tryz.prog.funcNamed Rows.fnExactMostSpecialRow.func = some 7 by kernel_rfl).symm.trans hf) |>.symm
      obtain rfl : fn = Tryz.f7 := (Option.some.inj (Tryz.func7.symm.trans hfn)).symm
      exact ⟨by kernel_rfl, fun j t ht => by
        have hall : (Tryz.f7.params.toList.all fun u => !Tryz.prog.wantsStandIn u) = true := by kernel_rfl
        exact (show Tryz.prog.wantsStandIn t = false by simpa using List.all_eq_true.1 hall t (by simpa using Array.mem_of_getElem? ht))⟩)
    (by kernel_rfl)
#print axioms fnExactMostSpecial_holds
end Go.Proofs.YtcahcnhpaocdaaaGreatDoor
