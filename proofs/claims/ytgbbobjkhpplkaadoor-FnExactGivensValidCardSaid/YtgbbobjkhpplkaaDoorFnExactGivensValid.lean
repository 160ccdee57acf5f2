/- The law FnExactGivensValid, proved: whatever the input, the call returns true, and each argument reads behind it as before. -/
import Derived.Test.YtgbbobjkhpplkaaDoorFacts
import Derived.Test.YtgbbobjkhpplkaaDoorGv
import Derived.Test.YtgbbobjkhpplkaaDoorWld
import Derived.Test.YtgbbobjkhpplkaaDoorArgsN
import Derived.Test.YtgbbobjkhpplkaaDoorOpen
import Derived.Test.YtgbbobjkhpplkaaDoorDoor
import Derived.Test.YtgbbobjkhpplkaaDoorCards
import Derived.Test.YtgbbobjkhpplkaaDoorTie
import Derived.SevenTiedAt
import Derived.LaidMore
import Derived.WalkKit
import Derived.ProofKit
import Derived.OpenShut
import Derived.ShutString
import Derived.ChangeOld
import Derived.Below
import Derived.Deep.SlicePairs
namespace Go.Proofs.YtgbbobjkhpplkaaDoor.fnExactGivensValid
open Go.ChangeShapes Go.WideShapes Go.ChangeAt Go.RowKit
open Go.ChangeMaps (open_string shut_string)
set_option linter.unusedVariables false

set_option maxHeartbeats 1600000 in
set_option maxRecDepth 100000 in
theorem walk (w : World) (A0 : Option Addr) (n0 c0 : Nat) (z0 : List (ByteArray × ByteArray)) (B0 : Option Addr) (m0 d0 : Nat) (i0 : List Ins) (hn0 : n0 ≤ maxLen) (hm0 : m0 ≤ maxLen) (s0 : Prs w A0 n0 z0) (hz0 : PrsOk z0) (r0 : Inss w B0 m0 i0) (hi0 : ∀ i ∈ i0, InsOk i) (A1 : Option Addr) (len1 cap1 : Nat) (z1 : List (ByteArray × ByteArray)) (hl1 : len1 ≤ cap1) (hm1 : cap1 ≤ maxLen) (s1 : Prs w A1 len1 z1) (hz1 : ∀ z ∈ z1, z.1.size ≤ maxLen ∧ z.2.size ≤ maxLen) (he : WErrs w) :
    Calls Tryd.prog 3 #[.agg #[.slice A0 n0 c0, .slice B0 m0 d0], .slice A1 len1 cap1] w fun e w' => e = .returned (.bool true) ∧ Below w.heap.size w w' := by
  have hn1' : len1 ≤ maxLen := Nat.le_trans hl1 hm1
  have k0 : Below w.heap.size w (w.alloc (.cells #[.slice A0 n0 c0, .slice B0 m0 d0] 25)) := (Below.refl _ _).alloc (Nat.le_refl _) _
  have k2 := heap_new1 w (.cells #[.slice A0 n0 c0, .slice B0 m0 d0] 25)
  obtain ⟨wa, hwa⟩ : ∃ wa, w.alloc (.cells #[.slice A0 n0 c0, .slice B0 m0 d0] 25) = wa := ⟨_, rfl⟩
  have za : w.heap.size < wa.heap.size := by rw [← hwa]; simp only [World.size_alloc]; omega
  rw [hwa] at k0 k2
  have BA := hid k0
  have EA := hid k2
  clear k0 k2
  have S1 := hid s1
  have HZ1 := hid hz1
  have HZ2 := hid (fun z (hz : z ∈ z1) => (hz1 z hz).2)
  have S0 := hid s0
  have HZ := hid hz0
  have R0 := hid r0
  have HI := hid hi0
  have HE := hid he
  -- what stands in the two arguments' copies, in any later world
  have HOLD := hid (fun (W : World) (hW : Below wa.heap.size wa W) => show (Below w.heap.size w W ∧ w.heap.size < W.heap.size) ∧ W.cell? ⟨w.heap.size, 0, none⟩ = some (.slice A0 n0 c0) ∧ W.cell? ⟨w.heap.size, 1, none⟩ = some (.slice B0 m0 d0) from by
    have h1 := (hW.block w.heap.size (by omega)).trans EA.out
    exact ⟨⟨BA.out.trans (hW.mono BA.out.size), Nat.lt_of_lt_of_le za hW.size⟩, cell_blk h1 (j := 0) rfl, cell_blk h1 (j := 1) rfl⟩)
  have HWA := hid hwa
  clear s0 hz0 r0 hi0 he hwa s1 hz1
  obtain ⟨bq, hbq⟩ : ∃ b, gvV z0 i0 z1 = b := ⟨_, rfl⟩
  have HQ := hid hbq
  clear hbq
  go_enter Tryd.func3, Tryd.ntmps3
  go_wp2_with fail
  rw [HWA.out]
  refine (szWorld_any A0 n0 c0 z0 B0 m0 d0 i0 1048576 wa hn0 hm0 (S0.out.below BA.out) HZ.out (R0.out.below BA.out) HI.out (Nat.le_refl _)).mono ?_
  rintro e v0 ⟨r, rfl, b0, hr⟩
  have B0' := hid b0
  clear b0
  obtain ⟨⟨bw0, zw0⟩, q0, q1⟩ := HOLD.out v0 B0'.out
  rcases hr with rfl | ⟨r', rfl, hr'⟩
  · go_wp2_with fail
    go_ret
    exact ⟨rfl, bw0⟩
  · have hr0 : (0 : Int) ≤ (r' : Int) := by omega
    have hrl : r' ≤ 1048576 := by omega
    have hn1 : n0 ≤ 1048576 := by omega
    have ht1 : tot z0 ≤ 1048576 := by omega
    have hm1 : m0 + inssTot i0 ≤ 1048576 := by omega
    clear hr'
    go_wp2_with fail
    refine (szNeedS_any A1 len1 cap1 z1 r' v0 (S1.out.below bw0) HZ1.out hn1' hrl).mono ?_
    rintro e v1 ⟨r2, rfl, b1, hr2⟩
    have B1 := hid (B0'.out.trans (b1.mono B0'.out.size))
    clear b1 q0 q1 bw0 zw0
    obtain ⟨⟨bw1, zw1⟩, q0, q1⟩ := HOLD.out v1 B1.out
    rcases hr2 with rfl | ⟨r3, rfl, hr3⟩
    · go_wp2_with fail
      go_ret
      exact ⟨rfl, bw1⟩
    · have hr30 : (0 : Int) ≤ (r3 : Int) := by omega
      have hl1k : len1 ≤ 1048576 := by omega
      clear hr3
      have HTN := hid (fun (W : World) (hW : Below wa.heap.size wa W) => toNeedS_any A1 len1 cap1 z1 W (S1.out.below (HOLD.out W hW).1.1) hl1k)
      have HTW := hid (fun (W : World) (hW : Below wa.heap.size wa W) => toWorld_any A0 n0 c0 z0 B0 m0 d0 i0 W (S0.out.below (HOLD.out W hW).1.1) (R0.out.below (HOLD.out W hW).1.1) hn1 hm1)
      have B1d := hid (B1.out.trans ((Below.refl v1.heap.size v1).drew.mono B1.out.size))
      go_wp2_with fail
      refine (HTW.out v1 B1.out).mono ?_
      rintro e v2 ⟨g2, h2, rfl, p2, k2, b2⟩
      have P2 := hid p2
      have K2 := hid k2
      have B2 := hid (B1.out.trans (b2.mono B1.out.size))
      clear p2 k2 b2 q0 q1 bw1 zw1
      go_wp2_with fail
      refine (HTN.out v2 B2.out).mono ?_
      rintro e v3 ⟨rfl, ho3, b3⟩
      have O3 := hid ho3.prs
      have B23 := hid b3
      have B3 := hid (B2.out.trans (b3.mono B2.out.size))
      clear b3 ho3
      go_wp2_with fail
      refine (givensValidS_any (some ⟨g2, 0, none⟩) n0 n0 z0 (some ⟨h2, 0, none⟩) m0 m0 i0 _ len1 len1 z1 v3 (Nat.le_refl _) hn0 (P2.out.below B23.out) (fun z hz => (HZ.out z hz).2) hm0 (K2.out.below B23.out) HI.out hl1k O3.out HZ2.out bq HQ).mono ?_
      rintro e v4 ⟨rfl, b4⟩
      have B4 := hid (B3.out.trans (b4.mono B3.out.size))
      clear b4
      obtain ⟨⟨bw4, zw4⟩, q0, q1⟩ := HOLD.out v4 B4.out
      go_wp2_with fail
      refine (HTW.out v4 B4.out).mono ?_
      rintro e v5 ⟨g5, h5, rfl, p5, k5, b5⟩
      have P5 := hid p5
      have K5 := hid k5
      have B5 := hid (B4.out.trans (b5.mono B4.out.size))
      have hv5 : ∀ o, Below v5.heap.size v5 (v5.alloc o) := fun o => (Below.refl _ _).alloc (Nat.le_refl _) o
      have B5a := hid (B5.out.alloc B5.out.size (.cells #[.slice (some ⟨g5, 0, none⟩) n0 n0, .slice (some ⟨h5, 0, none⟩) m0 m0] 33))
      have N5 := hid (heap_new1 v5 (.cells #[.slice (some ⟨g5, 0, none⟩) n0 n0, .slice (some ⟨h5, 0, none⟩) m0 m0] 33))
      have P5a := hid (P5.out.below (hv5 (.cells #[.slice (some ⟨g5, 0, none⟩) n0 n0, .slice (some ⟨h5, 0, none⟩) m0 m0] 33)))
      have K5a := hid (K5.out.below (hv5 (.cells #[.slice (some ⟨g5, 0, none⟩) n0 n0, .slice (some ⟨h5, 0, none⟩) m0 m0] 33)))
      obtain ⟨v6, hv6⟩ : ∃ v6, v5.alloc (.cells #[.slice (some ⟨g5, 0, none⟩) n0 n0, .slice (some ⟨h5, 0, none⟩) m0 m0] 33) = v6 := ⟨_, rfl⟩
      have HV6 := hid hv6
      have z6 : v5.heap.size < v6.heap.size := by rw [← hv6]; simp only [World.size_alloc]; omega
      rw [hv6] at B5a N5 P5a K5a
      clear p5 k5 b5 hv6 hv5 q0 q1 bw4 zw4
      obtain ⟨⟨bw5, zw5⟩, q0, q1⟩ := HOLD.out _ B5a.out
      go_wp2_with fail
      rw [HV6.out]
      refine (HTN.out v6 B5a.out).mono ?_
      rintro e v7 ⟨rfl, ho7, b7⟩
      have O7 := hid ho7.prs
      have B67 := hid b7
      have B7 := hid (B5a.out.trans (b7.mono B5a.out.size))
      have hx0 := cell_blk (w := v7.drew) ((b7.block _ z6).trans N5.out) (j := 0) rfl
      have hx1 := cell_blk (w := v7.drew) ((b7.block _ z6).trans N5.out) (j := 1) rfl
      have hy0 := cell_blk (w := v7) ((b7.block _ z6).trans N5.out) (j := 0) rfl
      have hy1 := cell_blk (w := v7) ((b7.block _ z6).trans N5.out) (j := 1) rfl
      have BD7 := hid (show Below v6.heap.size v6 v7.drew from b7.trans (Below.mono (Below.refl v7.heap.size v7).drew b7.size))
      clear b7 ho7 q0 q1 bw5 zw5
      obtain ⟨⟨bw7, zw7⟩, q0, q1⟩ := HOLD.out v7 B7.out
      go_wp2_with fail
      refine (fun (key : Hid (∀ w8, Below v6.heap.size v6 w8 → Below v7.heap.size v7 w8 → (?pp2 : World → Prop) w8)) => ?main2) ?kk2
      case main2 =>
        first
          | (refine (givensValidI_any (some ⟨g5, 0, none⟩) n0 n0 z0 (some ⟨h5, 0, none⟩) m0 m0 i0 _ len1 len1 z1 v7 hn0 (P5a.out.below B67.out) hm0 (K5a.out.below B67.out) HI.out ht1 (HE.out.below bw7) hl1k O7.out HZ2.out bq HQ).mono ?_
             rintro e v8 ⟨rfl, b8⟩
             exact key.out v8 (B67.out.trans (b8.mono B67.out.size)) b8)
          | (go_region_with (
               go_at_call 9
               refine (givensValidI_any (some ⟨g5, 0, none⟩) n0 n0 z0 (some ⟨h5, 0, none⟩) m0 m0 i0 _ len1 len1 z1 v7.drew hn0 (P5a.out.below BD7.out) hm0 (K5a.out.below BD7.out) HI.out ht1 (HE.out.below (bw7.trans (Below.mono (Below.refl v7.heap.size v7).drew bw7.size))) hl1k (O7.out.below (Below.refl v7.heap.size v7).drew) HZ2.out bq HQ).mono ?_
               rintro e v8 ⟨rfl, b8⟩
               have B8' := hid (show Below v6.heap.size v6 v8 from BD7.out.trans (b8.mono BD7.out.size))
               have C8' := hid (show Below v7.heap.size v7 v8 from (Below.refl v7.heap.size v7).drew.trans b8))
             all_goals exact key.out v8 B8'.out C8'.out)
      case kk2 =>
      show Hid _
      refine hid (fun v8 b8 c8 => ?_)
      have O8 := hid (O7.out.below c8)
      have B68 := hid b8
      have B8 := hid (B5a.out.trans (b8.mono B5a.out.size))
      have N8 := hid ((b8.block _ z6).trans N5.out)
      have P8 := hid (P5a.out.below b8)
      have K8 := hid (K5a.out.below b8)
      have z8 : v5.heap.size < v8.heap.size := Nat.lt_of_lt_of_le z6 b8.size
      clear b8 c8 q0 q1 bw7 zw7 hx0 hx1 hy0 hy1
      obtain ⟨⟨bw8, zw8⟩, q0, q1⟩ := HOLD.out _ B8.out
      have k0' := cell_blk N8.out (j := 0) rfl
      have k1' := cell_blk N8.out (j := 1) rfl
      go_wp2_with fail
      go_region_with (first
        | (go_at_call 7
           refine (HTW.out _ (by exact B8.out.drew)).mono ?_
           rintro e v9 ⟨g9, h9, rfl, p9, k9, b9⟩
           have P9 := hid p9
           have K9 := hid k9
           have U9 := hid (show Below v8.heap.size v8 v9 from ((Below.refl _ _).drew.trans b9 : Below v8.heap.size v8 v9))
           clear p9 k9 b9
           have m0' := cell_below k0' z8 U9.out
           have m1' := cell_below k1' z8 U9.out)
        | (go_at_call 10
           refine (eqWorld_same _ _ _ _ n0 n0 n0 m0 m0 m0 z0 i0 _ (P8.out.below U9.out) P9.out (K8.out.below U9.out) K9.out hn1 hm1).mono ?_
           rintro e v10 ⟨rfl, b10⟩))
      all_goals
        have U10 := hid (U9.out.trans (b10.mono U9.out.size))
        have B10 := hid (B8.out.trans (U10.out.mono B8.out.size))
        clear q0 q1
        obtain ⟨⟨bw10, zw10⟩, q0, q1⟩ := HOLD.out v10 B10.out
        go_wp2_with fail
        refine (HTN.out v10 B10.out).mono ?_
        rintro e v11 ⟨rfl, ho11, b11⟩
        have O11 := hid ho11.prs
        have sx := (O8.out.below U10.out).below b11
        have B11 := hid (B10.out.trans (b11.mono B10.out.size))
        go_wp2_with fail
        refine (eqNeedS_same _ _ len1 len1 len1 z1 v11 sx O11.out hl1k).mono ?_
        rintro e v12 ⟨rfl, b12⟩
        go_wp2_with fail
        go_ret
        exact ⟨rfl, (HOLD.out v12 (B11.out.trans (b12.mono B11.out.size))).1.1⟩

set_option maxRecDepth 100000 in
theorem lifted (os : Os) (started : os.Started) (H : Type) (enc : TypeId × Value → H) :
    ReturnsInHanded {} Tryd.checked os 3 .any (fun w args => (Rows.fnExactGivensValidSpec.pre enc Tryd.prog Tryd.f3 [] false w args ∧ laidMetH Tryd.prog Rows.fnExactGivensValidRow.laid w) ∧ sizedMet enc Tryd.prog Tryd.f3 (OpenSpec.ofChange Rows.fnExactGivensValidSpec) false w args)
      (Rows.fnExactGivensValidSpec.post enc Tryd.prog Tryd.f3 false true false false) := by
  refine returnsInHanded_of_change_and (C := Tryd.checked) (X := fun w _ => laidMetH Tryd.prog Rows.fnExactGivensValidRow.laid w) (fun _ _ _ hh h => h.of_heap hh) Facts.own started (by kernel_rfl) Tryd.func3
    (ChangeSpec.witness_shaped (enc := enc) (C := Tryd.checked) (os := os) (X := fun w _ => laidMetH Tryd.prog Rows.fnExactGivensValidRow.laid w) false (World.doorLaid Tryd.prog 400 os) #[.agg #[.slice none 0 0, .slice none 0 0], .slice none 0 0] 8 rfl (World.shaped_of_RefB (by kernel_rfl) (by kernel_rfl)) (by kernel_rfl) (by kernel_rfl) (by kernel_rfl) (laidMetH_of_parts3 (fuel := 8) (laidMet_of_run' 8 (by kernel_rfl) (by kernel_rfl)) (by kernel_rfl) (by kernel_rfl))) ?_
  intro W base args ds gs before hval0 hW _ _ hL _
  have he := errs_WErrs hL
  have hval : ∀ (j : Nat) t v, Tryd.f3.params[j]? = some t → args[j]? = some v → Value.okWide Tryd.prog W .any base t v := hval0
  have hW' := hW
  obtain ⟨p, q, hA0, hV, rfl, hfz, hnd⟩ := hW
  have hA : DataW.TrodAll enc Tryd.prog W 0 (fun _ => true) true Tryd.f3.params.toList args.toList ds p := hA0
  rw [Tryd.params3] at hA hval
  obtain ⟨v0, vs0, d0, ds0, p0, q0, hargs, rfl, rfl, h0, rr0⟩ := trodAll_cons hA
  obtain ⟨v1, vs1, d1, ds1, p1, q1, rfl, rfl, rfl, h1, rr1⟩ := trodAll_cons rr0
  obtain ⟨rfl, rfl, rfl⟩ := trodAll_nil rr1
  obtain rfl : args = #[v0, v1] := by cases args; simp_all
  have HVB := fun (W' : World) (bel : Below W.heap.size W W') => Below.trodVars Facts.laidOut bel (show varsRowed Tryd.prog Rows.fnExactGivensValidSpec.vars = true by kernel_rfl) hV
  obtain ⟨g1', g2', g3', g4', g5', g6', g7', rfl⟩ : ∃ g1' g2' g3' g4' g5' g6' g7', gs = [g1', g2', g3', g4', g5', g6', g7'] := by
    match gs, trodVars_len hV with
    | [g1', g2', g3', g4', g5', g6', g7'], _ => exact ⟨g1', g2', g3', g4', g5', g6', g7', rfl⟩
  have k0 := h0
  have lt0 : ∀ x ∈ p0, x.block < W.heap.size := by obtain ⟨m, hm⟩ := k0; exact DataW.trod_lt m _ _ _ hm
  obtain ⟨cs0, rfl, sz0⟩ := okWide_struct Tryd.underlying25 (hval 0 25 v0 rfl rfl)
  obtain ⟨A0, n0, c0, z0, B0, m0, d0, i0, e0, hn0, hm0, s0, hz0, r0, hi0⟩ : ∃ A0 n0 c0 z0 B0 m0 d0 i0, Value.agg cs0 = .agg #[.slice A0 n0 c0, .slice B0 m0 d0] ∧ n0 ≤ maxLen ∧ m0 ≤ maxLen ∧ Prs W A0 n0 z0 ∧ PrsOk z0 ∧ Inss W B0 m0 i0 ∧ ∀ i ∈ i0, InsOk i := by
    obtain ⟨fuel, hf⟩ := h0
    obtain ⟨A0, n0, c0, z0, B0, m0, d0, i0, e, hn0, hm0, s0, hz0, r0, hi0⟩ := open_world hf
    exact ⟨A0, n0, c0, z0, B0, m0, d0, i0, agg_of e, hn0, hm0, s0, hz0, r0, hi0⟩
  rw [e0] at hA0 hW' k0 ⊢
  have k1 := h1
  have lt1 : ∀ x ∈ p1, x.block < W.heap.size := by obtain ⟨m, hm⟩ := k1; exact DataW.trod_lt m _ _ _ hm
  obtain ⟨A1, len1, cap1, rfl⟩ := okWide_slice Tryd.underlying26 (hval 1 26 v1 rfl rfl)
  obtain ⟨z1, hl1, hm1, s1, hz1⟩ : ∃ zs, len1 ≤ cap1 ∧ cap1 ≤ maxLen ∧ Prs W A1 len1 zs ∧ ∀ z ∈ zs, z.1.size ≤ maxLen ∧ z.2.size ≤ maxLen := by
    obtain ⟨fuel, hf⟩ := h1
    rcases Go.Deep.open_slice_pairs Tryd.underlying26 Tryd.underlying44 (by kernel_rfl) rfl rfl (by kernel_rfl) (by kernel_rfl) hf with ⟨hcs, _⟩ | ⟨x, l, c, m, n, V0, V1, D0, D1, P0, P1, hcs, hx0, hl, hm, hmm, _, hall⟩
    · simp [Value.cells] at hcs
      obtain ⟨rfl, rfl, rfl⟩ := hcs
      exact ⟨[], Nat.le_refl _, Nat.zero_le _, ⟨rfl, fun h => absurd h (Nat.lt_irrefl 0)⟩, fun x hx => by cases hx⟩
    · simp [Value.cells] at hcs
      obtain ⟨rfl, rfl, rfl⟩ := hcs
      obtain ⟨zs, hp, hq⟩ := prs_of (a := x) (V0 := V0) (V1 := V1) (m := m) (by rw [hmm]; split <;> omega) (fun i hi => ⟨(hall i hi).1, (hall i hi).2.1⟩) (fun i hi => by
        obtain ⟨s1, e1, _, h1⟩ := DataW.trod_string Tryd.underlying9 (hall i hi).2.2.1
        obtain ⟨s2, e2, _, h2⟩ := DataW.trod_string Tryd.underlying9 (hall i hi).2.2.2
        simp only [List.cons.injEq, and_true] at e1 e2
        exact ⟨⟨s1, e1, h1⟩, s2, e2, h2⟩)
      exact ⟨zs, hl, hm, hp, hq⟩
  clear hA0 hval0
  refine (walk  W A0 n0 c0 z0 B0 m0 d0 i0 hn0 hm0 s0 hz0 r0 hi0 A1 len1 cap1 z1 hl1 hm1 s1 hz1 he).mono fun e W' ⟨hend, bel⟩ => ?_
  subst hend
  exact ⟨_, rfl, _, _, _, [], _, _, hW', trodAll_mk1 (shut_bool Tryd.underlying4 _), (trodAll_cons_mk (Below.trod Facts.laidOut (by kernel_rfl) (of_decide_eq_true (by kernel_rfl)) k0 bel lt0) (trodAll_cons_mk (Below.trod Facts.laidOut (by kernel_rfl) (of_decide_eq_true (by kernel_rfl)) k1 bel lt1) trodAll_mk0)), HVB W' bel, bel.frame _, fun h => by cases h⟩

theorem closed : joinedFacts Tryd.pinned.checked.prog 3 Tryd.f3 Rows.fnExactGivensValidSpec Rows.fnExactGivensValidRow = true := by
  simp only [joinedFacts, Bool.and_eq_true]
  refine ⟨⟨⟨⟨⟨⟨⟨⟨⟨⟨⟨⟨⟨⟨⟨⟨⟨⟨⟨⟨⟨⟨⟨⟨⟨⟨⟨⟨⟨⟨⟨?_, Facts.laidOut⟩, Facts.rowed⟩, ?_⟩, ?_⟩, ?_⟩, Facts.stops⟩, ?_⟩, Facts.knobs⟩, ?_⟩, ?_⟩, ?_⟩, ?_⟩, ?_⟩, ?_⟩, ?_⟩, ?_⟩, ?_⟩, ?_⟩, ?_⟩, ?_⟩, ?_⟩, ?_⟩, ?_⟩, Facts.heard⟩, Facts.may⟩,
    (congrArg (fun x => (Rows.fnExactGivensValidRow.lifted == x)) Facts.lifts).trans (by kernel_rfl)⟩, (congrArg (fun x => (x == some Rows.fnExactGivensValidRow.make)) Facts.makes).trans (by kernel_rfl)⟩, ?_⟩, ?_⟩, ?_⟩, ?_⟩
  all_goals kernel_rfl

theorem proved : Rows.FnExactGivensValidSaid :=
  OpenClaim.holds_of_wide 3 Tryd.f3 rfl rfl rfl rfl rfl rfl rfl ⟨rfl, rfl, rfl, rfl, rfl⟩ rfl rfl rfl rfl rfl (by kernel_rfl) Tryd.func3 closed
    (of_decide_eq_true (by kernel_rfl)) (by unfold Func.isWrapper; rw [if_neg (of_decide_eq_false (by kernel_rfl))]; exact ⟨rfl, rfl⟩)
    (fun os started H enc _ => lifted os started H enc)
end Go.Proofs.YtgbbobjkhpplkaaDoor.fnExactGivensValid
namespace Go.Proofs.YtgbbobjkhpplkaaDoor
theorem fnExactGivensValid_holds : Rows.FnExactGivensValidCardSaid :=
  Claim7.holds_tied_plain_at .later [] Rows.fnExactGivensValidCard.laidKinds true Rows.fnExactGivensValidCard.stood.harness Rows.fnExactGivensValidCard.stood.looks
    fnExactGivensValid.proved (fun _ h => by cases h) (by kernel_rfl) (fun _ h => by cases h) fnExactGivensValid_row_tie rfl ⟨rfl, rfl⟩ (by kernel_rfl) rfl
    (fun f fn hf hfn => by
      obtain rfl : f = 3 := Option.some.inj ((show Tryd.prog.funcNamed Rows.fnExactGivensValidRow.func = some 3 by kernel_rfl).symm.trans hf) |>.symm
      obtain rfl : fn = Tryd.f3 := (Option.some.inj (Tryd.func3.symm.trans hfn)).symm
      exact ⟨by kernel_rfl, fun j t ht => by
        have hall : (Tryd.f3.params.toList.all fun u => !Tryd.prog.wantsStandIn u) = true := by kernel_rfl
        exact (show Tryd.prog.wantsStandIn t = false by simpa using List.all_eq_true.1 hall t (by simpa using Array.mem_of_getElem? ht))⟩)
    (by kernel_rfl)
#print axioms fnExactGivensValid_holds
end Go.Proofs.YtgbbobjkhpplkaaDoor
