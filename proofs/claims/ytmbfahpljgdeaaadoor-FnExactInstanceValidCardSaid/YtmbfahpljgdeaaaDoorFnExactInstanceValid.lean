/- The law FnExactInstanceValid, proved: whatever the input, the call returns true, and each argument reads behind it as before. -/
import Derived.Test.YtmbfahpljgdeaaaDoorFacts
import Derived.Test.YtmbfahpljgdeaaaDoorCh5
import Derived.Test.YtmbfahpljgdeaaaDoorWdX
import Derived.Test.YtmbfahpljgdeaaaDoorWld
import Derived.Test.YtmbfahpljgdeaaaDoorOpen
import Derived.Test.YtmbfahpljgdeaaaDoorDoor
import Derived.Test.YtmbfahpljgdeaaaDoorCards
import Derived.Test.YtmbfahpljgdeaaaDoorTie
import Derived.SevenTiedAt
import Derived.LaidMore
import Derived.WalkKit
import Derived.ProofKit
import Derived.OpenShut
import Derived.ShutString
import Derived.ChangeOld
import Derived.Below
namespace Go.Proofs.YtmbfahpljgdeaaaDoor.fnExactInstanceValid
open Go.ChangeShapes Go.WideShapes Go.ChangeAt Go.RowKit
open Go.ChangeMaps (open_string shut_string)
set_option linter.unusedVariables false

set_option maxHeartbeats 16000000 in
set_option maxRecDepth 100000 in
theorem walk (w : World) (A0 : Option Addr) (n0 c0 : Nat) (z0 : List (ByteArray × ByteArray)) (B0 : Option Addr) (m0 d0 : Nat) (i0 : List Ins) (hn0 : n0 ≤ maxLen) (hm0 : m0 ≤ maxLen) (s0 : Prs w A0 n0 z0) (hz0 : PrsOk z0) (r0 : Inss w B0 m0 i0) (hi0 : ∀ i ∈ i0, InsOk i) (x1 y1 : ByteArray) (A1 : Option Addr) (len1 cap1 : Nat) (z1 : List (ByteArray × ByteArray)) (hl1 : len1 ≤ cap1) (hm1 : cap1 ≤ maxLen) (s1 : Prs w A1 len1 z1) (hz1 : InsOk ⟨x1, y1, z1⟩) (he : WErrs w) :
    Calls Tryd.prog 4 #[.agg #[.slice A0 n0 c0, .slice B0 m0 d0], .agg #[.string x1, .string y1, .slice A1 len1 cap1]] w fun e w' => e = .returned (.bool true) ∧ Below w.heap.size w w' := by
  have hw0 : ∀ o o', Below w.heap.size w ((w.alloc o).alloc o') := fun o o' => ((Below.refl _ _).alloc (Nat.le_refl _) o).alloc (by simp only [World.size_alloc]; omega) o'
  have S0 := hid s0
  have HZ := hid hz0
  have R0 := hid r0
  have HI := hid hi0
  have T1 := hid s1
  have HZ1 := hid hz1
  have HE := hid he
  have hln1 : len1 ≤ maxLen := Nat.le_trans hl1 hm1
  have hy1 : y1.size ≤ maxLen := hz1.2.1
  obtain ⟨wa, hwa⟩ : ∃ wa, (w.alloc (.cells #[.slice A0 n0 c0, .slice B0 m0 d0] 25)).alloc (.cells #[.string x1, .string y1, .slice A1 len1 cap1] 39) = wa := ⟨_, rfl⟩
  have BA := hid (show Below w.heap.size w wa by rw [← hwa]; exact hw0 _ _)
  have za : w.heap.size + 1 < wa.heap.size := by rw [← hwa]; simp only [World.size_alloc]; omega
  have EA := hid (show wa.heap[w.heap.size]? = some (.cells #[.slice A0 n0 c0, .slice B0 m0 d0] 25 (0, 0)) by
    rw [← hwa, Below.heap_alloc _ _ _ (by simp only [World.size_alloc]; omega)]
    exact heap_new1 w _)
  have FA := hid (show wa.heap[w.heap.size + 1]? = some (.cells #[.string x1, .string y1, .slice A1 len1 cap1] 39 (0, 0)) by
    rw [← hwa]
    have := heap_new1 (w.alloc (.cells #[.slice A0 n0 c0, .slice B0 m0 d0] 25)) (.cells #[.string x1, .string y1, .slice A1 len1 cap1] 39)
    simpa only [World.size_alloc] using this)
  -- what stands in the two arguments' copies, in any later world
  have HOLD := hid (fun (W : World) (hW : Below wa.heap.size wa W) => show (Below w.heap.size w W ∧ w.heap.size + 1 < W.heap.size) ∧ W.cell? ⟨w.heap.size, 0, none⟩ = some (.slice A0 n0 c0) ∧ W.cell? ⟨w.heap.size, 1, none⟩ = some (.slice B0 m0 d0) ∧ W.cell? ⟨w.heap.size + 1, 0, none⟩ = some (.string x1) ∧ W.cell? ⟨w.heap.size + 1, 1, none⟩ = some (.string y1) ∧ W.cell? ⟨w.heap.size + 1, 2, none⟩ = some (.slice A1 len1 cap1) from by
    have h1 := (hW.block w.heap.size (by omega)).trans EA.out
    have h2 := (hW.block (w.heap.size + 1) (by omega)).trans FA.out
    exact ⟨⟨BA.out.trans (hW.mono BA.out.size), Nat.lt_of_lt_of_le za hW.size⟩, cell_blk h1 (j := 0) rfl, cell_blk h1 (j := 1) rfl, cell_blk h2 (j := 0) rfl, cell_blk h2 (j := 1) rfl, cell_blk h2 (j := 2) rfl⟩)
  have HWA := hid hwa
  clear s0 hz0 r0 hi0 he s1 hz1 hwa
  obtain ⟨bq, hbq⟩ : ∃ b, (clsOf z0 && insOk z0 ⟨x1, y1, z1⟩) = b := ⟨_, rfl⟩
  have HQ := hid hbq
  clear hbq
  go_enter Tryd.func4, Tryd.ntmps4
  go_wp2_with fail
  rw [HWA.out]
  refine (szWorld_any A0 n0 c0 z0 B0 m0 d0 i0 1048576 wa hn0 hm0 (S0.out.below BA.out) HZ.out (R0.out.below BA.out) HI.out (Nat.le_refl _)).mono ?_
  rintro e v0 ⟨r, rfl, b0, hr⟩
  have B0' := hid b0
  clear b0
  obtain ⟨⟨bw0, zw0⟩, q0, q1, q2, q3, q4⟩ := HOLD.out v0 B0'.out
  rcases hr with rfl | ⟨r', rfl, hr'⟩
  · go_wp2_with fail
    go_ret
    exact ⟨rfl, bw0⟩
  · have hr0 : (0 : Int) ≤ (r' : Int) := by omega
    have hrl : r' ≤ 1048576 := by omega
    have hn1 : n0 ≤ 1048576 := by omega
    have ht1 : tot z0 ≤ 1048576 := by omega
    have hm1' : m0 + inssTot i0 ≤ 1048576 := by omega
    clear hr'
    go_wp2_with fail
    refine (szInstance_any x1 y1 A1 len1 cap1 z1 r' v0 (T1.out.below bw0) hln1 HZ1.out hrl).mono ?_
    rintro e v1 ⟨r2, rfl, b1, hr2⟩
    have B1' := hid (B0'.out.trans (b1.mono B0'.out.size))
    clear b1 q0 q1 q2 q3 q4 bw0 zw0
    obtain ⟨⟨bw1, zw1⟩, q0, q1, q2, q3, q4⟩ := HOLD.out v1 B1'.out
    rcases hr2 with rfl | ⟨r3, rfl, hr3⟩
    · go_wp2_with fail
      go_ret
      exact ⟨rfl, bw1⟩
    · have hr30 : (0 : Int) ≤ (r3 : Int) := by omega
      have hlen : len1 ≤ 1048576 := by
        have h2 := T1.out.1
        unfold insTot at hr3
        simp only at hr3
        omega
      clear hr3
      have HTW := hid (fun (W : World) (hW : Below wa.heap.size wa W) => toWorld_any A0 n0 c0 z0 B0 m0 d0 i0 W (S0.out.below (HOLD.out W hW).1.1) (R0.out.below (HOLD.out W hW).1.1) hn1 hm1')
      have HTI := hid (fun (W : World) (hW : Below wa.heap.size wa W) => toInstance_any x1 y1 A1 len1 cap1 z1 W (T1.out.below (HOLD.out W hW).1.1) hlen)
      have B1d := hid (B1'.out.trans ((Below.refl v1.heap.size v1).drew.mono B1'.out.size))
      go_wp2_with fail
      go_region_with (first
        | (go_at_call 12
           refine (HTW.out _ (by first | exact B1d.out)).mono ?_
           rintro e v2 ⟨g2, h2, rfl, p2, k2, b2⟩
           have P2 := hid p2
           have K2 := hid k2
           have B2 := hid (B1d.out.trans (b2.mono B1d.out.size))
           clear p2 k2 b2
           obtain ⟨⟨bw2, zw2⟩, t0, t1, t2, t3, t4⟩ := HOLD.out v2 B2.out)
        | (go_at_call 17
           refine (HTI.out _ (by first | exact B2.out)).mono ?_
           rintro e v3 ⟨g3, rfl, hg3, ho3, b3⟩
           have O3 := hid ho3.prs
           have B23 := hid b3
           have B3 := hid (B2.out.trans (b3.mono B2.out.size))
           clear ho3 b3)
        | (go_at_call 16
           refine (instanceValidS_any (some ⟨g2, 0, none⟩) n0 n0 z0 (some ⟨h2, 0, none⟩) m0 m0 x1 y1 (some ⟨g3, 0, none⟩) len1 len1 z1 _ (Nat.le_refl _) hn0 (P2.out.below B23.out) (fun z hz => (HZ.out z hz).2) hy1 hln1 O3.out HZ1.out.2.2).mono ?_
           rintro e v4 ⟨rfl, b4⟩
           rw [HQ.out]
           have B4 := hid (B3.out.trans (b4.mono B3.out.size))
           clear b4))
      all_goals
        clear q0 q1 q2 q3 q4 t0 t1 t2 t3 t4 bw2 zw2 bw1 zw1
        obtain ⟨⟨bw4, zw4⟩, q0, q1, q2, q3, q4⟩ := HOLD.out v4 B4.out
        go_wp2_with fail
        refine (HTW.out v4 B4.out).mono ?_
        rintro e v5 ⟨g5, h5, rfl, p5, k5, b5⟩
        have P5 := hid p5
        have K5 := hid k5
        have B5 := hid (B4.out.trans (b5.mono B4.out.size))
        have B5a := hid (B5.out.alloc B5.out.size (.cells #[.slice (some ⟨g5, 0, none⟩) n0 n0, .slice (some ⟨h5, 0, none⟩) m0 m0] 31))
        have N5 := hid (heap_new1 v5 (.cells #[.slice (some ⟨g5, 0, none⟩) n0 n0, .slice (some ⟨h5, 0, none⟩) m0 m0] 31))
        clear p5 k5 b5 q0 q1 q2 q3 q4 bw4 zw4
        obtain ⟨⟨bw5, zw5⟩, q0, q1, q2, q3, q4⟩ := HOLD.out _ B5a.out
        go_wp2_with fail
        refine (HTI.out _ B5a.out).mono ?_
        rintro e v6 ⟨g6, rfl, hg6, ho6, b6⟩
        have O6 := hid ho6.prs
        have B6 := hid (B5a.out.trans (b6.mono B5a.out.size))
        have z6 : v5.heap.size < v6.heap.size := by have := b6.size; simp only [World.size_alloc] at this; omega
        have N6 := hid ((b6.block v5.heap.size (by simp only [World.size_alloc]; omega)).trans N5.out)
        have B56 := hid (show Below v5.heap.size v5 v6 from ((Below.refl v5.heap.size v5).alloc (Nat.le_refl _) _).trans (b6.mono (by simp only [World.size_alloc]; omega)))
        have B6a := hid (B6.out.alloc B6.out.size (.cells #[.string x1, .string y1, .slice (some ⟨g6, 0, none⟩) len1 len1] 45))
        have M6 := hid (heap_new1 v6 (.cells #[.string x1, .string y1, .slice (some ⟨g6, 0, none⟩) len1 len1] 45))
        have N6a := hid ((Below.heap_alloc v6 (.cells #[.string x1, .string y1, .slice (some ⟨g6, 0, none⟩) len1 len1] 45) _ z6).trans N6.out)
        have HA6 := hid (show Below v6.heap.size v6 (v6.alloc (.cells #[.string x1, .string y1, .slice (some ⟨g6, 0, none⟩) len1 len1] 45)) from (Below.refl _ _).alloc (Nat.le_refl _) _)
        clear ho6 b6 q0 q1 q2 q3 q4 bw5 zw5
        obtain ⟨⟨bw6, zw6⟩, q0, q1, q2, q3, q4⟩ := HOLD.out _ B6a.out
        have k0' := cell_blk N6a.out (j := 0) rfl
        have k1' := cell_blk N6a.out (j := 1) rfl
        have l0' := cell_blk M6.out (j := 0) rfl
        have l1' := cell_blk M6.out (j := 1) rfl
        have l2' := cell_blk M6.out (j := 2) rfl
        have BW6 := hid bw6
        go_wp2_with fail
        refine (instanceValidI_any (some ⟨g5, 0, none⟩) n0 n0 z0 (some ⟨h5, 0, none⟩) m0 m0 x1 y1 (some ⟨g6, 0, none⟩) len1 len1 z1 _ hn0 ((P5.out.below B56.out).below HA6.out) ht1 hy1 hln1 (O6.out.below HA6.out) HZ1.out.2.2 (HE.out.below BW6.out)).mono ?_
        rintro e v7 ⟨rfl, b7⟩
        rw [HQ.out]
        have B7 := hid (B6a.out.trans (b7.mono B6a.out.size))
        have N7 := hid ((b7.block v5.heap.size (by simp only [World.size_alloc]; omega)).trans N6a.out)
        have M7 := hid ((b7.block v6.heap.size (by simp only [World.size_alloc]; omega)).trans M6.out)
        have B67 := hid (HA6.out.trans (b7.mono HA6.out.size))
        have z7 : v6.heap.size < v7.heap.size := by have := b7.size; simp only [World.size_alloc] at this; omega
        have z75 : v5.heap.size < v7.heap.size := by omega
        have P7 := hid ((P5.out.below B56.out).below B67.out)
        have K7 := hid ((K5.out.below B56.out).below B67.out)
        have O7 := hid (O6.out.below B67.out)
        clear b7 q0 q1 q2 q3 q4 bw6 zw6 k0' k1' l0' l1' l2'
        have k0' := cell_blk N7.out (j := 0) rfl
        have k1' := cell_blk N7.out (j := 1) rfl
        have l0' := cell_blk M7.out (j := 0) rfl
        have l1' := cell_blk M7.out (j := 1) rfl
        have l2' := cell_blk M7.out (j := 2) rfl
        obtain ⟨⟨bw7, zw7⟩, q0, q1, q2, q3, q4⟩ := HOLD.out _ B7.out
        have B7d := hid (B7.out.trans ((Below.refl v7.heap.size v7).drew.mono B7.out.size))
        go_wp2_with fail
        go_region_with (first
          | (go_at_call 12
             refine (HTW.out _ B7d.out).mono ?_
             rintro e v8 ⟨g8, h8, rfl, p8, j8, b8⟩
             have P8 := hid p8
             have K8 := hid j8
             have B8 := hid (B7d.out.trans (b8.mono B7d.out.size))
             have U8 := hid (show Below v7.heap.size v7 v8 from ((Below.refl _ _).drew.trans b8 : Below v7.heap.size v7 v8))
             clear p8 j8 b8
             have kk0 := cell_below k0' z75 U8.out
             have kk1 := cell_below k1' z75 U8.out)
          | (go_at_call 14
             refine (eqWorld_same _ _ _ _ n0 n0 n0 m0 m0 m0 z0 i0 _ (P7.out.below U8.out) P8.out (K7.out.below U8.out) K8.out hn1 hm1').mono ?_
             rintro e v9 ⟨rfl, b9⟩
             have B9 := hid (B8.out.trans (b9.mono B8.out.size))
             have U9 := hid (U8.out.trans (b9.mono U8.out.size))
             clear b9))
        all_goals
          clear kk0 kk1 q0 q1 q2 q3 q4 bw7 zw7
          have O9 := hid (O7.out.below U9.out)
          have ll0 := cell_below l0' z7 U9.out
          have ll1 := cell_below l1' z7 U9.out
          have ll2 := cell_below l2' z7 U9.out
          have z9 : v6.heap.size < v9.heap.size := Nat.lt_of_lt_of_le z7 U9.out.size
          clear k0' k1' l0' l1' l2'
          obtain ⟨⟨bw9, zw9⟩, q0, q1, q2, q3, q4⟩ := HOLD.out _ B9.out
          have B9d := hid (B9.out.trans ((Below.refl v9.heap.size v9).drew.mono B9.out.size))
          go_wp2_with fail
          go_region_with (first
            | (go_at_call 17
               refine (HTI.out _ B9d.out).mono ?_
               rintro e va ⟨ga, rfl, hga, hoa, ba⟩
               have OA := hid hoa.prs
               have BA := hid (B9d.out.trans (ba.mono B9d.out.size))
               have UA := hid (show Below v9.heap.size v9 va from ((Below.refl _ _).drew.trans ba : Below v9.heap.size v9 va))
               clear hoa ba
               have mm0 := cell_below ll0 z9 UA.out
               have mm1 := cell_below ll1 z9 UA.out
               have mm2 := cell_below ll2 z9 UA.out)
            | (go_at_call 19
               refine (eqInstance_same x1 y1 _ _ len1 len1 len1 z1 _ (O9.out.below UA.out) OA.out hlen).mono ?_
               rintro e vb ⟨rfl, bb⟩
               have BB := hid (BA.out.trans (bb.mono BA.out.size))
               clear bb))
          all_goals
            go_wp2_with fail
            go_ret
            exact ⟨rfl, (HOLD.out _ BB.out).1.1⟩

set_option maxRecDepth 100000 in
theorem lifted (os : Os) (started : os.Started) (H : Type) (enc : TypeId × Value → H) :
    ReturnsInHanded {} Tryd.checked os 4 .any (fun w args => (Rows.fnExactInstanceValidSpec.pre enc Tryd.prog Tryd.f4 [] false w args ∧ laidMetH Tryd.prog Rows.fnExactInstanceValidRow.laid w) ∧ sizedMet enc Tryd.prog Tryd.f4 (OpenSpec.ofChange Rows.fnExactInstanceValidSpec) false w args)
      (Rows.fnExactInstanceValidSpec.post enc Tryd.prog Tryd.f4 false true false false) := by
  refine returnsInHanded_of_change_and (C := Tryd.checked) (X := fun w _ => laidMetH Tryd.prog Rows.fnExactInstanceValidRow.laid w) (fun _ _ _ hh h => h.of_heap hh) Facts.own started (by kernel_rfl) Tryd.func4
    (ChangeSpec.witness_shaped (enc := enc) (C := Tryd.checked) (os := os) (X := fun w _ => laidMetH Tryd.prog Rows.fnExactInstanceValidRow.laid w) false (World.doorLaid Tryd.prog 400 os) #[.agg #[.slice none 0 0, .slice none 0 0], .agg #[.string ByteArray.empty, .string ByteArray.empty, .slice none 0 0]] 8 rfl (World.shaped_of_RefB (by kernel_rfl) (by kernel_rfl)) (by kernel_rfl) (by kernel_rfl) (by kernel_rfl) (laidMetH_of_parts3 (fuel := 8) (laidMet_of_run' 8 (by kernel_rfl) (by kernel_rfl)) (by kernel_rfl) (by kernel_rfl))) ?_
  intro W base args ds gs before hval0 hW _ _ hL _
  have he := errs_WErrs hL
  have hval : ∀ (j : Nat) t v, Tryd.f4.params[j]? = some t → args[j]? = some v → Value.okWide Tryd.prog W .any base t v := hval0
  have hW' := hW
  obtain ⟨p, q, hA0, hV, rfl, hfz, hnd⟩ := hW
  have hA : DataW.TrodAll enc Tryd.prog W 0 (fun _ => true) true Tryd.f4.params.toList args.toList ds p := hA0
  rw [Tryd.params4] at hA hval
  obtain ⟨v0, vs0, d0, ds0, p0, q0, hargs, rfl, rfl, h0, rr0⟩ := trodAll_cons hA
  obtain ⟨v1, vs1, d1, ds1, p1, q1, rfl, rfl, rfl, h1, rr1⟩ := trodAll_cons rr0
  obtain ⟨rfl, rfl, rfl⟩ := trodAll_nil rr1
  obtain rfl : args = #[v0, v1] := by cases args; simp_all
  have HVB := fun (W' : World) (bel : Below W.heap.size W W') => Below.trodVars Facts.laidOut bel (show varsRowed Tryd.prog Rows.fnExactInstanceValidSpec.vars = true by kernel_rfl) hV
  obtain ⟨g1', g2', g3', g4', g5', g6', g7', rfl⟩ : ∃ g1' g2' g3' g4' g5' g6' g7', gs = [g1', g2', g3', g4', g5', g6', g7'] := by
    match gs, trodVars_len hV with
    | [g1', g2', g3', g4', g5', g6', g7'], _ => exact ⟨g1', g2', g3', g4', g5', g6', g7', rfl⟩
  have k0 := h0
  have lt0 : ∀ x ∈ p0, x.block < W.heap.size := by obtain ⟨m, hm⟩ := k0; exact DataW.trod_lt m _ _ _ hm
  obtain ⟨cs0, rfl, sz0⟩ := okWide_struct Tryd.underlying25 (hval 0 25 v0 rfl rfl)
  obtain ⟨A0, n0, c0, z0, B0, m0, d0, i0, e0, hn0, hm0, s0, hz0, r0, hi0⟩ : ∃ A0 n0 c0 z0 B0 m0 d0 i0, Value.agg cs0 = .agg #[.slice A0 n0 c0, .slice B0 m0 d0] ∧ n0 ≤ maxLen ∧ m0 ≤ maxLen ∧ Prs W A0 n0 z0 ∧ PrsOk z0 ∧ Inss W B0 m0 i0 ∧ ∀ i ∈ i0, InsOk i := by
    obtain ⟨fuel, hf⟩ := h0
    obtain ⟨A0, n0, c0, z0, B0, m0, d0, i0, e, hn0, hm0, s0, hz0, r0, hi0⟩ := open_world hf
    exact ⟨A0, n0, c0, z0, B0, m0, d0, i0, agg_of e, hn0, hm0, s0, hz0, r0, hi0⟩
  rw [e0] at hA0 hW' k0 ⊢
  have k1 := h1
  have lt1 : ∀ x ∈ p1, x.block < W.heap.size := by obtain ⟨m, hm⟩ := k1; exact DataW.trod_lt m _ _ _ hm
  obtain ⟨cs1, rfl, sz1⟩ := okWide_struct Tryd.underlying39 (hval 1 39 v1 rfl rfl)
  obtain ⟨x1, y1, A1, len1, cap1, z1, e1, hl1, hm1, s1, hz1⟩ : ∃ x1 y1 A1 len1 cap1 z1, Value.agg cs1 = .agg #[.string x1, .string y1, .slice A1 len1 cap1] ∧ len1 ≤ cap1 ∧ cap1 ≤ maxLen ∧ Prs W A1 len1 z1 ∧ InsOk ⟨x1, y1, z1⟩ := by
    obtain ⟨fuel, hf⟩ := h1
    obtain ⟨x1, y1, A1, len1, cap1, z1, e, hl1, hm1, s1, hz1⟩ := open_instance hf
    exact ⟨x1, y1, A1, len1, cap1, z1, agg_of e, hl1, hm1, s1, hz1⟩
  rw [e1] at hA0 hW' k1 ⊢
  clear hA0 hval0
  refine (walk  W A0 n0 c0 z0 B0 m0 d0 i0 hn0 hm0 s0 hz0 r0 hi0 x1 y1 A1 len1 cap1 z1 hl1 hm1 s1 hz1 he).mono fun e W' ⟨hend, bel⟩ => ?_
  subst hend
  exact ⟨_, rfl, _, _, _, [], _, _, hW', trodAll_mk1 (shut_bool Tryd.underlying4 _), (trodAll_cons_mk (Below.trod Facts.laidOut (by kernel_rfl) (of_decide_eq_true (by kernel_rfl)) k0 bel lt0) (trodAll_cons_mk (Below.trod Facts.laidOut (by kernel_rfl) (of_decide_eq_true (by kernel_rfl)) k1 bel lt1) trodAll_mk0)), HVB W' bel, bel.frame _, fun h => by cases h⟩

theorem closed : joinedFacts Tryd.pinned.checked.prog 4 Tryd.f4 Rows.fnExactInstanceValidSpec Rows.fnExactInstanceValidRow = true := by
  simp only [joinedFacts, Bool.and_eq_true]
  refine ⟨⟨⟨⟨⟨⟨⟨⟨⟨⟨⟨⟨⟨⟨⟨⟨⟨⟨⟨⟨⟨⟨⟨⟨⟨⟨⟨⟨⟨⟨⟨?_, Facts.laidOut⟩, Facts.rowed⟩, ?_⟩, ?_⟩, ?_⟩, Facts.stops⟩, ?_⟩, Facts.knobs⟩, ?_⟩, ?_⟩, ?_⟩, ?_⟩, ?_⟩, ?_⟩, ?_⟩, ?_⟩, ?_⟩, ?_⟩, ?_⟩, ?_⟩, ?_⟩, ?_⟩, ?_⟩, Facts.heard⟩, Facts.may⟩,
    (congrArg (fun x => (Rows.fnExactInstanceValidRow.lifted == x)) Facts.lifts).trans (by kernel_rfl)⟩, (congrArg (fun x => (x == some Rows.fnExactInstanceValidRow.make)) Facts.makes).trans (by kernel_rfl)⟩, ?_⟩, ?_⟩, ?_⟩, ?_⟩
  all_goals kernel_rfl

theorem proved : Rows.FnExactInstanceValidSaid :=
  OpenClaim.holds_of_wide 4 Tryd.f4 rfl rfl rfl rfl rfl rfl rfl ⟨rfl, rfl, rfl, rfl, rfl⟩ rfl rfl rfl rfl rfl (by kernel_rfl) Tryd.func4 closed
    (of_decide_eq_true (by kernel_rfl)) (by unfold Func.isWrapper; rw [if_neg (of_decide_eq_false (by kernel_rfl))]; exact ⟨rfl, rfl⟩)
    (fun os started H enc _ => lifted os started H enc)
end Go.Proofs.YtmbfahpljgdeaaaDoor.fnExactInstanceValid
namespace Go.Proofs.YtmbfahpljgdeaaaDoor
theorem fnExactInstanceValid_holds : Rows.FnExactInstanceValidCardSaid :=
  Claim7.holds_tied_plain_at .later [] Rows.fnExactInstanceValidCard.laidKinds true Rows.fnExactInstanceValidCard.stood.harness Rows.fnExactInstanceValidCard.stood.looks
    fnExactInstanceValid.proved (fun _ h => by cases h) (by kernel_rfl) (fun _ h => by cases h) fnExactInstanceValid_row_tie rfl ⟨rfl, rfl⟩ (by kernel_rfl) rfl
    (fun f fn hf hfn => by
      obtain rfl : f = 4 := Option.some.inj ((show Tryd.prog.funcNamed Rows.fnExactInstanceValidRow.func = some 4 by kernel_rfl).symm.trans hf) |>.symm
      obtain rfl : fn = Tryd.f4 := (Option.some.inj (Tryd.func4.symm.trans hfn)).symm
      exact ⟨by kernel_rfl, fun j t ht => by
        have hall : (Tryd.f4.params.toList.all fun u => !Tryd.prog.wantsStandIn u) = true := by kernel_rfl
        exact (show Tryd.prog.wantsStandIn t = false by simpa using List.all_eq_true.1 hall t (by simpa using Array.mem_of_getElem? ht))⟩)
    (by kernel_rfl)
#print axioms fnExactInstanceValid_holds
end Go.Proofs.YtmbfahpljgdeaaaDoor
