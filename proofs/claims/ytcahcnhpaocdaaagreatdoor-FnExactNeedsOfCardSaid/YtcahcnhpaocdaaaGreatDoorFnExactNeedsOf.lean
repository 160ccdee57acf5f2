/- The law FnExactNeedsOf, proved: whatever the input, the call returns true, and each argument reads behind it as before. -/
import Derived.Test.YtcahcnhpaocdaaaGreatDoorFacts
import Derived.Test.YtcahcnhpaocdaaaGreatDoorNoS
import Derived.Test.YtcahcnhpaocdaaaGreatDoorLawK
import Derived.Test.YtcahcnhpaocdaaaGreatDoorWld
import Derived.Test.YtcahcnhpaocdaaaGreatDoorOpen
import Derived.Test.YtcahcnhpaocdaaaGreatDoorDoor
import Derived.Test.YtcahcnhpaocdaaaGreatDoorCards
import Derived.Test.YtcahcnhpaocdaaaGreatDoorTie
import Derived.SevenTiedAt
import Derived.LaidMore
import Derived.WalkKit
import Derived.ProofKit
import Derived.OpenShut
import Derived.ShutString
import Derived.ChangeOld
import Derived.Below
namespace Go.Proofs.YtcahcnhpaocdaaaGreatDoor.fnExactNeedsOf
open Go.ChangeShapes Go.WideShapes Go.ChangeAt Go.RowKit
open Go.ChangeMaps (open_string shut_string)
set_option linter.unusedVariables false

set_option maxHeartbeats 20000000 in
set_option maxRecDepth 100000 in
theorem walk (a1 : Int) (w1 : (Lit.int .i64 a1).wf = true) (a2 : ByteArray) (w2 : a2.size ≤ maxLen) (w : World) (A0 : Option Addr) (n0 c0 : Nat) (z0 : List (ByteArray × ByteArray)) (B0 : Option Addr) (m0 d0 : Nat) (i0 : List Ins) (hn0 : n0 ≤ maxLen) (hm0 : m0 ≤ maxLen) (s0 : Prs w A0 n0 z0) (hz0 : PrsOk z0) (r0 : Inss w B0 m0 i0) (hi0 : ∀ i ∈ i0, InsOk i) (he : WErrs w) :
    Calls Tryz.prog 6 #[.agg #[.slice A0 n0 c0, .slice B0 m0 d0], .int .i64 a1, .string a2] w fun e w' => e = .returned (.bool true) ∧ Below w.heap.size w w' := by
  have w2' : a2.size ≤ 2 ^ 63 - 1 := w2
  by_cases ha : 1048576 < a2.size
  · have ha' : (1048576 : Int) < (a2.size : Int) := by omega
    go_enter Tryz.func6, Tryz.ntmps6
    go_wp2_with fail
    go_ret
    exact ⟨rfl, ((Below.refl _ _).alloc (Nat.le_refl _) _)⟩
  have ha' : ¬ (1048576 : Int) < (a2.size : Int) := by omega
  have k0 : Below w.heap.size w (w.alloc (.cells #[.slice A0 n0 c0, .slice B0 m0 d0] 25)) := (Below.refl _ _).alloc (Nat.le_refl _) _
  have k2 := heap_new1 w (.cells #[.slice A0 n0 c0, .slice B0 m0 d0] 25)
  obtain ⟨wa, hwa⟩ : ∃ wa, w.alloc (.cells #[.slice A0 n0 c0, .slice B0 m0 d0] 25) = wa := ⟨_, rfl⟩
  have za : w.heap.size < wa.heap.size := by rw [← hwa]; simp only [World.size_alloc]; omega
  rw [hwa] at k0 k2
  have BA := hid k0
  have EA := hid k2
  clear k0 k2
  have S0 := hid s0
  have HZ := hid hz0
  have R0 := hid r0
  have HI := hid hi0
  have HE := hid he
  have HOLD := hid (fun (W : World) (hW : Below wa.heap.size wa W) => show (Below w.heap.size w W ∧ w.heap.size < W.heap.size) ∧ W.cell? ⟨w.heap.size, 0, none⟩ = some (.slice A0 n0 c0) ∧ W.cell? ⟨w.heap.size, 1, none⟩ = some (.slice B0 m0 d0) from by
    have h1 := (hW.block w.heap.size (by omega)).trans EA.out
    exact ⟨⟨BA.out.trans (hW.mono BA.out.size), Nat.lt_of_lt_of_le za hW.size⟩, cell_blk h1 (j := 0) rfl, cell_blk h1 (j := 1) rfl⟩)
  have HWA := hid hwa
  obtain ⟨L, hL⟩ : ∃ L, nfD z0 i0 a1 a2 = L := ⟨_, rfl⟩
  obtain ⟨bq, hbq⟩ : ∃ b, nfB z0 i0 a1 a2 = b := ⟨_, rfl⟩
  have hLl : L.length ≤ inssTot i0 := by
    rw [← hL]
    exact nfD_len _ _ a1 a2
  have HSP := hid (fun (W : World) (g h : Nat) (hn0 : n0 ≤ maxLen) (hm : m0 ≤ 1048576) (ha : Prs W (some ⟨g, 0, none⟩) n0 z0) (hb : Inss W (some ⟨h, 0, none⟩) m0 i0) => needsOfS_any (some ⟨g, 0, none⟩) n0 n0 z0 (some ⟨h, 0, none⟩) m0 m0 i0 a1 a2 W (Nat.le_refl _) hn0 ha (fun z hz => (hz0 z hz).2) hm hb hi0 w2)
  have HIM := hid (fun (W : World) (g h : Nat) (hn0 : n0 ≤ maxLen) (hm : m0 ≤ maxLen) (ht : tot z0 ≤ 1048576) (ha : Prs W (some ⟨g, 0, none⟩) n0 z0) (hb : Inss W (some ⟨h, 0, none⟩) m0 i0) (hE : WErrs W) => needsOfI_any (some ⟨g, 0, none⟩) n0 n0 z0 (some ⟨h, 0, none⟩) m0 m0 i0 a1 a2 W hn0 ha hm hb hi0 ht hE w2)
  rw [hL, hbq] at HSP HIM
  clear s0 hz0 r0 hi0 he hwa hL hbq
  go_enter Tryz.func6, Tryz.ntmps6
  go_wp2_with fail
  rw [HWA.out]
  refine (szWorld_any A0 n0 c0 z0 B0 m0 d0 i0 1048576 wa hn0 hm0 (S0.out.below BA.out) HZ.out (R0.out.below BA.out) HI.out (Nat.le_refl _)).mono ?_
  rintro e v0 ⟨r, rfl, b0, hr⟩
  have B0' := hid b0
  clear b0
  obtain ⟨⟨bw0, zw0⟩, q0, q1⟩ := HOLD.out v0 B0'.out
  rcases hr with rfl | ⟨r', rfl, hr'⟩
  · go_wp2_with fail
    go_ret
    exact ⟨rfl, bw0⟩
  have hr0 : (0 : Int) ≤ (r' : Int) := by omega
  have hrl : r' ≤ 1048576 := by omega
  have hn1 : n0 ≤ 1048576 := by omega
  have ht1 : tot z0 ≤ 1048576 := by omega
  have hm1 : m0 + inssTot i0 ≤ 1048576 := by omega
  have hcn : 1 + 2 * n0 + cntN (nsOf i0) ≤ 4194304 := by
    have h1 := cntN_ins i0
    have h2 := R0.out.1
    omega
  clear hr'
  have B1 := B0'
  have HTW := hid (fun (W : World) (hW : Below wa.heap.size wa W) => toWorld_any A0 n0 c0 z0 B0 m0 d0 i0 W (S0.out.below (HOLD.out W hW).1.1) (R0.out.below (HOLD.out W hW).1.1) hn1 hm1)
  have HTO := hid (fun (W : World) (hW : Below wa.heap.size wa W) => toWorld_own A0 n0 c0 z0 B0 m0 d0 i0 W (S0.out.below (HOLD.out W hW).1.1) (R0.out.below (HOLD.out W hW).1.1) hn1 hm1)
  have hmm : m0 ≤ 1048576 := by omega
  have hms : m0 ≤ maxLen := by unfold maxLen; omega
  obtain ⟨l, hl⟩ : ∃ l, L.length = l := ⟨_, rfl⟩
  rw [hl] at hLl
  have HLN := hid hl
  clear hl
  go_wp2_with fail
  refine (HTW.out _ B1.out).mono ?_
  rintro e v2 ⟨g2, h2, rfl, p2, k2, b2⟩
  have P2 := hid p2
  have K2 := hid k2
  have B2 := hid (B1.out.trans (b2.mono B1.out.size))
  clear p2 k2 b2
  go_wp2_with fail
  refine (HSP.out _ g2 h2 hn0 hmm P2.out K2.out).mono ?_
  rintro e v4 ⟨⟨vv, rfl, ho4⟩, b4⟩
  obtain ⟨A4, c4, rfl, _, _, nu4⟩ := ho4.form
  rw [HLN.out] at nu4
  rw [HLN.out]
  have NU4 := hid nu4
  have B4 := hid (B2.out.trans (b4.mono B2.out.size))
  clear b4 ho4 nu4 q0 q1 bw0 zw0
  obtain ⟨⟨bw4, zw4⟩, q0, q1⟩ := HOLD.out v4 B4.out
  go_wp2_with fail
  refine (HTO.out v4 B4.out).mono ?_
  rintro e v5 ⟨g5, h5, rfl, l5, l6, p5, k5, b5⟩
  have P5 := hid p5
  have K5 := hid (OwnH.of k5)
  have B45 := hid b5
  have B5 := hid (B4.out.trans (b5.mono B4.out.size))
  have z45 := b5.size
  have h5l : h5 < v5.heap.size := by
    rcases k5 with ⟨hA, _⟩ | ⟨gg, ps, hA, _, _, hR, _⟩
    · cases hA
    · injection hA with hA; injection hA with hA; rw [hA]; exact hR.lt
  have hv5 : ∀ o, Below v5.heap.size v5 (v5.alloc o) := fun o => (Below.refl _ _).alloc (Nat.le_refl _) o
  have B5a := hid (B5.out.alloc B5.out.size (.cells #[.slice (some ⟨g5, 0, none⟩) n0 n0, .slice (some ⟨h5, 0, none⟩) m0 m0] 31))
  have N5 := hid (heap_new1 v5 (.cells #[.slice (some ⟨g5, 0, none⟩) n0 n0, .slice (some ⟨h5, 0, none⟩) m0 m0] 31))
  have P5a := hid (P5.out.below (hv5 (.cells #[.slice (some ⟨g5, 0, none⟩) n0 n0, .slice (some ⟨h5, 0, none⟩) m0 m0] 31)))
  have K5a := hid (K5.out.below (hv5 (.cells #[.slice (some ⟨g5, 0, none⟩) n0 n0, .slice (some ⟨h5, 0, none⟩) m0 m0] 31)))
  obtain ⟨v6, hv6⟩ : ∃ v6, v5.alloc (.cells #[.slice (some ⟨g5, 0, none⟩) n0 n0, .slice (some ⟨h5, 0, none⟩) m0 m0] 31) = v6 := ⟨_, rfl⟩
  have HV6 := hid hv6
  have z6 : v5.heap.size < v6.heap.size := by rw [← hv6]; simp only [World.size_alloc]; omega
  have B56 := hid (show Below v5.heap.size v5 v6 by rw [← hv6]; exact hv5 _)
  rw [hv6] at B5a N5 P5a K5a
  have NS := hid (fun i hi => show (i : Ins).ns.length ≤ maxLen from by
    have h1 := inssTot_mem (i := i) (is := i0) hi
    unfold insTot at h1
    unfold maxLen
    omega)
  clear p5 k5 b5 hv6 hv5 q0 q1 bw4 zw4
  obtain ⟨⟨bw5, zw5⟩, q0, q1⟩ := HOLD.out _ B5a.out
  go_wp2_with fail
  rw [HV6.out]
  refine (HIM.out _ g5 h5 hn0 hms ht1 P5a.out.prs (K5a.out.own.inss NS.out) (HE.out.below (HOLD.out _ B5a.out).1.1)).mono ?_
  rintro e v8 ⟨⟨vv, rfl, ho8⟩, b8⟩
  obtain ⟨A8, c8, rfl, _, _, _⟩ := ho8.form
  rw [HLN.out] at ho8
  rw [HLN.out]
  have o8 := ho8
  clear ho8
  have O8 := hid o8
  have B68 := hid b8
  have B8 := hid (B5a.out.trans (b8.mono B5a.out.size))
  have N8 := hid ((b8.block _ z6).trans N5.out)
  have P8 := hid (P5a.out.below b8)
  have K8 := hid (K5a.out.below b8)
  have z8 : v6.heap.size ≤ v8.heap.size := b8.size
  have I4 := hid (NU4.out.below (B45.out.trans ((B56.out.trans (b8.mono B56.out.size)).mono B45.out.size)))
  obtain ⟨A8', c8', e8, _, _, nu8⟩ := o8.form
  rw [HLN.out] at e8 nu8
  have e8' : A8 = A8' := by injection e8
  have I8 := hid nu8
  rw [← e8'] at I8
  clear b8 o8 e8 e8' nu8 q0 q1 bw5 zw5
  obtain ⟨⟨bw8, zw8⟩, q0, q1⟩ := HOLD.out _ B8.out
  go_wp2_with fail
  refine (eqNeedS_b A8 A4 l c8 c4 L v8 I8.out I4.out (by omega)).mono ?_
  rintro e v9 ⟨rfl, b9⟩
  have B89 := hid b9
  have B9 := hid (B8.out.trans (b9.mono B8.out.size))
  have N9 := hid ((b9.block _ (Nat.lt_of_lt_of_le z6 z8)).trans N8.out)
  have P9 := hid (P8.out.below b9)
  have K9 := hid (K8.out.below b9)
  have z9 : v8.heap.size ≤ v9.heap.size := b9.size
  have zb9 : v5.heap.size < v9.heap.size := by omega
  clear b9 q0 q1 bw8 zw8
  obtain ⟨⟨bw9, zw9⟩, q0, q1⟩ := HOLD.out _ B9.out
  have k0' := cell_blk N9.out (j := 0) rfl
  have k1' := cell_blk N9.out (j := 1) rfl
  go_wp2_with fail
  refine (fun (key : Hid (∀ g h w11, Below v9.heap.size v9 w11 → (?pp3 : Nat → Nat → World → Prop) g h w11)) => ?main3) ?kk3
  case main3 =>
    go_region_with (first
      | (go_at_call 10
         refine (HTW.out _ (by exact B9.out.drew)).mono ?_
         rintro e v10 ⟨g10, h10, rfl, p10, k10, b10⟩
         have P10 := hid p10
         have K10 := hid k10
         have U10 := hid (show Below v9.heap.size v9 v10 from ((Below.refl _ _).drew.trans b10 : Below v9.heap.size v9 v10))
         clear p10 k10 b10
         have m0' := cell_below k0' zb9 U10.out
         have m1' := cell_below k1' zb9 U10.out)
      | (go_at_call 12
         refine (eqWorld_same _ _ _ _ n0 n0 n0 m0 m0 m0 z0 i0 _ (P9.out.prs.below U10.out) P10.out ((K9.out.own.inss NS.out).below U10.out) K10.out hn1 hm1).mono ?_
         rintro e v11 ⟨rfl, b11⟩
         have U11 := hid (U10.out.trans (b11.mono U10.out.size))
         clear b11))
    all_goals exact key.out g10 h10 v11 U11.out
  case kk3 =>
  show Hid _
  refine hid (fun g10 h10 v11 b11 => ?_)
  have B11 := hid (B9.out.trans (b11.mono B9.out.size))
  have N11 := hid ((b11.block _ zb9).trans N9.out)
  have P11 := hid (P9.out.below b11)
  have K11 := hid (K9.out.below b11)
  have z11 : v9.heap.size ≤ v11.heap.size := b11.size
  have B8_11 := hid (B89.out.trans (b11.mono B89.out.size))
  have I4b := hid (I4.out.below B8_11.out)
  clear b11 q0 q1 bw9 zw9 k0' k1'
  have k0' := cell_blk N11.out (j := 0) rfl
  have k1' := cell_blk N11.out (j := 1) rfl
  obtain ⟨K, hK⟩ : ∃ K, 1 + 2 * n0 + cntN (nsOf i0) = K := ⟨_, rfl⟩
  have HMW := hid (markWorld_any (some ⟨g5, 0, none⟩) n0 n0 z0 (some ⟨h5, 0, none⟩) m0 m0 i0 1 v4.heap.size h5 v5.heap.size v11 P11.out (fun a ha => by injection ha with ha; rw [← ha]; exact l6) (by omega) (by omega) (by omega) K11.out (by decide) hcn)
  rw [hK] at HMW hcn
  have hK1 : 1 ≤ K := by omega
  clear hK
  go_wp2_with fail
  refine HMW.out.mono ?_
  rintro e v12 ⟨rfl, _, _, b12, f12⟩
  have B11_12 := hid b12
  have F12 := hid (fun j (h1 : v6.heap.size ≤ j) (h2 : j < v11.heap.size) => f12 j (by omega) h2)
  have z12 : v11.heap.size ≤ v12.heap.size := b12.size
  have BW12 := hid (show Below wa.heap.size wa v12 from B11.out.trans (b12.mono B4.out.size))
  have O12 := hid (show OwnNd v12 v6.heap.size (.slice A8 l c8) L from own_keep O8.out fun g hg => by
    have h1 := O8.out.lt g hg
    rw [F12.out g h1.1 (by omega)]
    exact B8_11.out.block g h1.2)
  have H412 := hid (show Below v4.heap.size v4 v12 from (B45.out.trans ((B56.out.trans ((B68.out.trans (B8_11.out.mono B68.out.size)).mono B56.out.size)).mono B45.out.size)).trans b12)
  have I4c := hid (NU4.out.below H412.out)
  obtain ⟨A8'', c8'', e8, _, _, nu8⟩ := O12.out.form
  rw [HLN.out] at e8 nu8
  have e8'' : A8 = A8'' := by injection e8
  have I8c := hid nu8
  rw [← e8''] at I8c
  have hK0 : ¬ (K : Int) < 0 := by omega
  clear b12 f12 e8 e8'' nu8 k0' k1'
  go_wp2_with fail
  refine (eqNeedS_b A8 A4 l c8 c4 L v12 I8c.out I4c.out (by omega)).mono ?_
  rintro e v13 ⟨rfl, b13⟩
  have BW13 := hid (BW12.out.trans (b13.mono BW12.out.size))
  have O13 := hid (O12.out.keep b13)
  have H413 := hid (H412.out.trans (b13.mono H412.out.size))
  have z13 : v12.heap.size ≤ v13.heap.size := b13.size
  clear b13
  go_wp2_with fail
  refine (markNd_any v6.heap.size A8 l c8 1 L v13 O13.out HLN.out (by omega) (by decide) (by omega)).mono ?_
  rintro e v14 ⟨rfl, im14, b14⟩
  have IM14 := hid im14
  have BW14 := hid (BW13.out.trans (b14.mono (by have := B5a.out.size; omega)))
  have z14 : v13.heap.size ≤ v14.heap.size := b14.size
  have H414 := hid (H413.out.trans (b14.mono (by omega)))
  clear im14 b14
  go_wp2_with fail
  refine (heldNeedS_any A8 1 l c8 v14 IM14.out (by decide) (by omega)).mono ?_
  rintro e v15 ⟨rfl, b15⟩
  have BW15 := hid (BW14.out.trans (b15.mono BW14.out.size))
  have H415 := hid (H414.out.trans (b15.mono H414.out.size))
  have IM15 := hid (IM14.out.below b15)
  have hl0 : ¬ (((1 + 2 * l : Nat) : Int) < 0) := by omega
  clear b15
  obtain ⟨⟨bw15, zw15⟩, q0, q1⟩ := HOLD.out v15 BW15.out
  go_wp2_with fail
  refine (HTW.out _ BW15.out).mono ?_
  rintro e v16 ⟨g16, h16, rfl, p16, k16, b16⟩
  have P16 := hid p16
  have K16 := hid k16
  have B16 := hid (BW15.out.trans (b16.mono BW15.out.size))
  have C16 := hid b16
  clear p16 k16 b16
  go_wp2_with fail
  refine (HIM.out _ g16 h16 hn0 hms ht1 P16.out K16.out (HE.out.below (HOLD.out _ B16.out).1.1)).mono ?_
  rintro e v18 ⟨⟨vv, rfl, ho18⟩, b18'⟩
  obtain ⟨A18, c18, rfl, _, _, nu18⟩ := ho18.form
  rw [HLN.out] at nu18
  rw [HLN.out]
  have b18 := C16.out.trans (b18'.mono C16.out.size)
  clear b18' ho18
  have I18 := hid nu18
  have I4f := hid (NU4.out.below (H415.out.trans (b18.mono H415.out.size)))
  have IM18 := hid (IM15.out.below b18)
  have BW18 := hid (BW15.out.trans (b18.mono BW15.out.size))
  clear b18 nu18 q0 q1 bw15 zw15
  go_wp2_with fail
  refine (eqNeedS_b A18 A4 l c18 c4 L v18 I18.out I4f.out (by omega)).mono ?_
  rintro e v19 ⟨rfl, b19⟩
  have BW19 := hid (BW18.out.trans (b19.mono BW18.out.size))
  have IM19 := hid (IM18.out.below b19)
  clear b19
  go_wp2_with fail
  refine (heldNeedS_any A8 1 l c8 v19 IM19.out (by decide) (by omega)).mono ?_
  rintro e v20 ⟨rfl, b20⟩
  have BW20 := hid (BW19.out.trans (b20.mono BW19.out.size))
  clear b20
  go_wp2_with fail
  go_ret
  exact ⟨rfl, (HOLD.out v20 BW20.out).1.1⟩

set_option maxRecDepth 100000 in
theorem lifted (os : Os) (started : os.Started) (H : Type) (enc : TypeId × Value → H) :
    ReturnsInHanded {} Tryz.checked os 6 .any (fun w args => (Rows.fnExactNeedsOfSpec.pre enc Tryz.prog Tryz.f6 [] false w args ∧ laidMetH Tryz.prog Rows.fnExactNeedsOfRow.laid w) ∧ sizedMet enc Tryz.prog Tryz.f6 (OpenSpec.ofChange Rows.fnExactNeedsOfSpec) false w args)
      (Rows.fnExactNeedsOfSpec.post enc Tryz.prog Tryz.f6 false true false false) := by
  refine returnsInHanded_of_change_and (C := Tryz.checked) (X := fun w _ => laidMetH Tryz.prog Rows.fnExactNeedsOfRow.laid w) (fun _ _ _ hh h => h.of_heap hh) Facts.own started (by kernel_rfl) Tryz.func6
    (ChangeSpec.witness_shaped (enc := enc) (C := Tryz.checked) (os := os) (X := fun w _ => laidMetH Tryz.prog Rows.fnExactNeedsOfRow.laid w) false (World.doorLaid Tryz.prog 400 os) #[.agg #[.slice none 0 0, .slice none 0 0], .int .i64 0, .string ByteArray.empty] 8 rfl (World.shaped_of_RefB (by kernel_rfl) (by kernel_rfl)) (by kernel_rfl) (by kernel_rfl) (by kernel_rfl) (laidMetH_of_parts3 (fuel := 8) (laidMet_of_run' 8 (by kernel_rfl) (by kernel_rfl)) (by kernel_rfl) (by kernel_rfl))) ?_
  intro W base args ds gs before hval0 hW _ _ hL _
  have he := errs_WErrs hL
  have hval : ∀ (j : Nat) t v, Tryz.f6.params[j]? = some t → args[j]? = some v → Value.okWide Tryz.prog W .any base t v := hval0
  have hW' := hW
  obtain ⟨p, q, hA0, hV, rfl, hfz, hnd⟩ := hW
  have hA : DataW.TrodAll enc Tryz.prog W 0 (fun _ => true) true Tryz.f6.params.toList args.toList ds p := hA0
  rw [Tryz.params6] at hA hval
  obtain ⟨v0, vs0, d0, ds0, p0, q0, hargs, rfl, rfl, h0, rr0⟩ := trodAll_cons hA
  obtain ⟨v1, vs1, d1, ds1, p1, q1, rfl, rfl, rfl, h1, rr1⟩ := trodAll_cons rr0
  obtain ⟨v2, vs2, d2, ds2, p2, q2, rfl, rfl, rfl, h2, rr2⟩ := trodAll_cons rr1
  obtain ⟨rfl, rfl, rfl⟩ := trodAll_nil rr2
  obtain rfl : args = #[v0, v1, v2] := by cases args; simp_all
  have HVB := fun (W' : World) (bel : Below W.heap.size W W') => Below.trodVars Facts.laidOut bel (show varsRowed Tryz.prog Rows.fnExactNeedsOfSpec.vars = true by kernel_rfl) hV
  obtain ⟨g1', g2', g3', g4', g5', g6', g7', rfl⟩ : ∃ g1' g2' g3' g4' g5' g6' g7', gs = [g1', g2', g3', g4', g5', g6', g7'] := by
    match gs, trodVars_len hV with
    | [g1', g2', g3', g4', g5', g6', g7'], _ => exact ⟨g1', g2', g3', g4', g5', g6', g7', rfl⟩
  have k0 := h0
  have lt0 : ∀ x ∈ p0, x.block < W.heap.size := by obtain ⟨m, hm⟩ := k0; exact DataW.trod_lt m _ _ _ hm
  obtain ⟨cs0, rfl, sz0⟩ := okWide_struct Tryz.underlying25 (hval 0 25 v0 rfl rfl)
  obtain ⟨A0, n0, c0, z0, B0, m0, d0, i0, e0, hn0, hm0, s0, hz0, r0, hi0⟩ : ∃ A0 n0 c0 z0 B0 m0 d0 i0, Value.agg cs0 = .agg #[.slice A0 n0 c0, .slice B0 m0 d0] ∧ n0 ≤ maxLen ∧ m0 ≤ maxLen ∧ Prs W A0 n0 z0 ∧ PrsOk z0 ∧ Inss W B0 m0 i0 ∧ ∀ i ∈ i0, InsOk i := by
    obtain ⟨fuel, hf⟩ := h0
    obtain ⟨A0, n0, c0, z0, B0, m0, d0, i0, e, hn0, hm0, s0, hz0, r0, hi0⟩ := open_world hf
    exact ⟨A0, n0, c0, z0, B0, m0, d0, i0, agg_of e, hn0, hm0, s0, hz0, r0, hi0⟩
  rw [e0] at hA0 hW' k0 ⊢
  have k1 := h1
  have lt1 : ∀ x ∈ p1, x.block < W.heap.size := by obtain ⟨m, hm⟩ := k1; exact DataW.trod_lt m _ _ _ hm
  obtain ⟨a1, rfl, e1a, e1b, w1⟩ := open_int Tryz.underlying3 (hval 1 3 v1 rfl rfl) h1
  have k2 := h2
  have lt2 : ∀ x ∈ p2, x.block < W.heap.size := by obtain ⟨m, hm⟩ := k2; exact DataW.trod_lt m _ _ _ hm
  obtain ⟨a2, rfl, e2a, e2b, w2⟩ := open_string Tryz.underlying9 (hval 2 9 v2 rfl rfl) h2
  clear hA0 hval0
  refine (walk a1 w1 a2 w2 W A0 n0 c0 z0 B0 m0 d0 i0 hn0 hm0 s0 hz0 r0 hi0 he).mono fun e W' ⟨hend, bel⟩ => ?_
  subst hend
  exact ⟨_, rfl, _, _, _, [], _, _, hW', trodAll_mk1 (shut_bool Tryz.underlying4 _), (trodAll_cons_mk (Below.trod Facts.laidOut (by kernel_rfl) (of_decide_eq_true (by kernel_rfl)) k0 bel lt0) (trodAll_cons_mk (Below.trod Facts.laidOut (by kernel_rfl) (of_decide_eq_true (by kernel_rfl)) k1 bel lt1) (trodAll_cons_mk (Below.trod Facts.laidOut (by kernel_rfl) (of_decide_eq_true (by kernel_rfl)) k2 bel lt2) trodAll_mk0))), HVB W' bel, bel.frame _, fun h => by cases h⟩

theorem closed : joinedFacts Tryz.pinned.checked.prog 6 Tryz.f6 Rows.fnExactNeedsOfSpec Rows.fnExactNeedsOfRow = true := by
  simp only [joinedFacts, Bool.and_eq_true]
  refine ⟨⟨⟨⟨⟨⟨⟨⟨⟨⟨⟨⟨⟨⟨⟨⟨⟨⟨⟨⟨⟨⟨⟨⟨⟨⟨⟨⟨⟨⟨⟨?_, Facts.laidOut⟩, Facts.rowed⟩, ?_⟩, ?_⟩, ?_⟩, Facts.stops⟩, ?_⟩, Facts.knobs⟩, ?_⟩, ?_⟩, ?_⟩, ?_⟩, ?_⟩, ?_⟩, ?_⟩, ?_⟩, ?_⟩, ?_⟩, ?_⟩, ?_⟩, ?_⟩, ?_⟩, ?_⟩, Facts.heard⟩, Facts.may⟩,
    (congrArg (fun x => (Rows.fnExactNeedsOfRow.lifted == x)) Facts.lifts).trans (by kernel_rfl)⟩, (congrArg (fun x => (x == some Rows.fnExactNeedsOfRow.make)) Facts.makes).trans (by kernel_rfl)⟩, ?_⟩, ?_⟩, ?_⟩, ?_⟩
  all_goals kernel_rfl

theorem proved : Rows.FnExactNeedsOfSaid :=
  OpenClaim.holds_of_wide 6 Tryz.f6 rfl rfl rfl rfl rfl rfl rfl ⟨rfl, rfl, rfl, rfl, rfl⟩ rfl rfl rfl rfl rfl (by kernel_rfl) Tryz.func6 closed
    (of_decide_eq_true (by kernel_rfl)) (by unfold Func.isWrapper; rw [if_neg (of_decide_eq_false (by kernel_rfl))]; exact ⟨rfl, rfl⟩)
    (fun os started H enc _ => lifted os started H enc)
end Go.Proofs.YtcahcnhpaocdaaaGreatDoor.fnExactNeedsOf
namespace Go.Proofs.YtcahcnhpaocdaaaGreatDoor
theorem fnExactNeedsOf_holds : Rows.FnExactNeedsOfCardSaid :=
  Claim7.holds_tied_plain_at .later [] Rows.fnExactNeedsOfCard.laidKinds true Rows.fnExactNeedsOfCard.stood.harness Rows.fnExactNeedsOfCard.stood.looks
    fnExactNeedsOf.proved (fun _ h => by cases h) (by kernel_rfl) (fun _ h => by cases h) fnExactNeedsOf_row_tie rfl ⟨rfl, rfl⟩ (by kernel_rfl) rfl
    (fun f fn hf hfn => by
      obtain rfl : f = 6 := Option.some.inj ((show Tryz.prog.funcNamed Rows.fnExactNeedsOfRow.func = some 6 by kernel_rfl).symm.trans hf) |>.symm
      obtain rfl : fn = Tryz.f6 := (Option.some.inj (Tryz.func6.symm.trans hfn)).symm
      exact ⟨by kernel_rfl, fun j t ht => by
        have hall : (Tryz.f6.params.toList.all fun u => !Tryz.prog.wantsStandIn u) = true := by kernel_rfl
        exact (show Tryz.prog.wantsStandIn t = false by simpa using List.all_eq_true.1 hall t (by simpa using Array.mem_of_getElem? ht))⟩)
    (by kernel_rfl)
#print axioms fnExactNeedsOf_holds
end Go.Proofs.YtcahcnhpaocdaaaGreatDoor
