/- The law FnTexts, proved: whatever the input, the call returns true, and each argument reads behind it as before. -/
import Derived.Test.YtlpfgiegapelmaaDoorFacts
import Derived.Test.YtlpfgiegapelmaaDoorDraT
import Derived.Test.YtlpfgiegapelmaaDoorTab
import Derived.Test.YtlpfgiegapelmaaDoorDoor
import Derived.Test.YtlpfgiegapelmaaDoorCards
import Derived.Test.YtlpfgiegapelmaaDoorTie
import Derived.SevenTiedAt
import Derived.LaidMore
import Derived.WalkKit
import Derived.ProofKit
import Derived.OpenShut
import Derived.ShutString
import Derived.ChangeOld
import Derived.Below
namespace Go.Proofs.YtlpfgiegapelmaaDoor.fnTexts
open Go.ChangeShapes Go.WideShapes Go.ChangeAt Go.RowKit
open Go.ChangeMaps (open_string shut_string)
set_option linter.unusedVariables false

set_option maxHeartbeats 1600000 in
set_option maxRecDepth 100000 in
theorem walk (w : World) (A0 : Option Addr) (len0 cap0 : Nat) (hl0 : len0 ≤ cap0) (hm0 : cap0 ≤ maxLen) (s0 : Bts w A0 len0) (A1 : Option Addr) (len1 cap1 : Nat) (hl1 : len1 ≤ cap1) (hm1 : cap1 ≤ maxLen) (s1 : Bts w A1 len1) (he : PTab w) :
    Calls Tryd.prog 4 #[.slice A0 len0 cap0, .slice A1 len1 cap1] w fun e w' => e = .returned (.bool true) ∧ Below w.heap.size w w' := by
  have hA := hid s0
  have hB := hid s1
  have HE := hid he
  clear s0 s1 he
  by_cases h0 : 1048576 < len0
  · go_enter Tryd.func4, Tryd.ntmps4
    go_wp2_with fail
    go_ret
    exact ⟨rfl, Below.refl _ _⟩
  by_cases h1 : 1048576 < len1
  · go_enter Tryd.func4, Tryd.ntmps4
    go_wp2_with fail
    go_ret
    exact ⟨rfl, Below.refl _ _⟩
  go_enter Tryd.func4, Tryd.ntmps4
  go_wp2_with fail
  refine (drawFormatNumbers_any A0 len0 cap0 w hl0 hm0 hA.out).mono ?_
  rintro e w1 ⟨B1, n1, c1, xs, rfl, hc1, hn1, hi1, hx1, hb1⟩
  have D1 := hid hb1
  have X1 := hid hx1
  have I1 := hid hi1
  clear hb1 hx1 hi1
  go_wp2_with fail
  refine (drawFormatNumbers_any A1 len1 cap1 w1 hl1 hm1 (hB.out.below D1.out)).mono ?_
  rintro e w2 ⟨B2, n2, c2, ys, rfl, hc2, hn2, hi2, hx2, hb2⟩
  have D12 := hid hb2
  have D2 := hid (D1.out.trans (hb2.mono D1.out.size))
  have X2 := hid hx2
  have I2 := hid hi2
  clear hb2 hx2 hi2
  go_wp2_with fail
  refine (drawFormatTexts_any A0 len0 cap0 w2 hl0 hm0 (hA.out.below D2.out)).mono ?_
  rintro e w3 ⟨B3, n3, c3, ts, rfl, hc3, hn3, hi3, hx3, hb3⟩
  have D23 := hid hb3
  have D3 := hid (D2.out.trans (hb3.mono D2.out.size))
  have X3 := hid hx3
  have I3 := hid hi3
  clear hb3 hx3 hi3
  go_wp2_with fail
  refine (drawFormatTexts_any A1 len1 cap1 w3 hl1 hm1 (hB.out.below D3.out)).mono ?_
  rintro e w4 ⟨B4, n4, c4, ss, rfl, hc4, hn4, hi4, hx4, hb4⟩
  have D34 := hid hb4
  have D4 := hid (D3.out.trans (hb4.mono D3.out.size))
  have X4 := hid hx4
  have J4 := hid hi4
  have D24 := hid (D23.out.trans (hb4.mono D23.out.size))
  have D14 := hid (D12.out.trans (D24.out.mono D12.out.size))
  have J1 := hid (I1.out.below D14.out)
  have J2 := hid (I2.out.below D24.out)
  have J3 := hid (I3.out.below D34.out)
  have E4 := hid (HE.out.below D4.out)
  clear hb4 hx4 hi4
  obtain ⟨r1, hr1⟩ : ∃ r, nmW xs = r := ⟨_, rfl⟩
  obtain ⟨r2, hr2⟩ : ∃ r, nmW ys = r := ⟨_, rfl⟩
  obtain ⟨t1, ht1⟩ : ∃ r, ftW ts = r := ⟨_, rfl⟩
  obtain ⟨t2, ht2⟩ : ∃ r, ftW ss = r := ⟨_, rfl⟩
  obtain ⟨v1, hv1⟩ : ∃ r, decide (xs = ys) = r := ⟨_, rfl⟩
  obtain ⟨v2, hv2⟩ : ∃ r, decide (ts = ss) = r := ⟨_, rfl⟩
  have hq1 : (r1.toList == r2.toList) = v1 := by
    rw [← hr1, ← hr2, ← hv1, bytes_dec]
    exact decide_eq_decide.2 (nmW_inj X1.out X2.out)
  have hq2 : (t1.toList == t2.toList) = v2 := by
    rw [← ht1, ← ht2, ← hv2, bytes_dec]
    exact decide_eq_decide.2 (ftW_inj (fun x hx => drT_wd x (X3.out x hx)) (fun x hx => drT_wd x (X4.out x hx)))
  have s3 : n3 + sumS ts ≤ 104857600 := by
    have h := sumS_drT X3.out
    have := I3.out.1
    omega
  have s4 : n4 + sumS ss ≤ 104857600 := by
    have h := sumS_drT X4.out
    have := J4.out.1
    omega
  have S3 := hid s3
  have S4 := hid s4
  have R1 := hid hr1
  have R2 := hid hr2
  have T1 := hid ht1
  have T2 := hid ht2
  have V1 := hid hv1
  have V2 := hid hv2
  have Q1 := hid hq1
  have Q2 := hid hq2
  have M1 := hid (fun (x : Int) (h : x ∈ xs) => drN_64 x (X1.out x h))
  have M2 := hid (fun (x : Int) (h : x ∈ ys) => drN_64 x (X2.out x h))
  have HK := hid (fun (W : World) (hW : Below w4.heap.size w4 W) => show (Ints W B1 n1 xs ∧ Ints W B2 n2 ys ∧ Strs W B3 n3 ts ∧ Strs W B4 n4 ss) ∧ PTab W ∧ Below w.heap.size w W from
    ⟨⟨J1.out.below hW, J2.out.below hW, J3.out.below hW, J4.out.below hW⟩, E4.out.below hW, D4.out.trans (hW.mono D4.out.size)⟩)
  have Z4 := hid (Below.refl w4.heap.size w4)
  clear hr1 hr2 ht1 ht2 hv1 hv2 hq1 hq2 s3 s4
  obtain ⟨⟨k1, k2, k3, k4⟩, ke, _⟩ := HK.out w4 Z4.out
  go_wp2_with fail
  refine (formatNumbersI_any B1 n1 c1 xs w4 k1 M1.out (by omega) ke r1 R1).mono ?_
  rintro e w5 ⟨rfl, hb5⟩
  have Z5 := hid (Z4.out.trans hb5)
  clear hb5 k1 k2 k3 k4 ke
  obtain ⟨⟨k1, k2, k3, k4⟩, ke, _⟩ := HK.out w5 Z5.out
  go_wp2_with fail
  refine (formatNumbersS_any B1 n1 c1 xs w5 k1 M1.out (by omega) r1 R1).mono ?_
  rintro e w6 ⟨rfl, hb6⟩
  have Z6 := hid (Z5.out.trans (hb6.mono Z5.out.size))
  clear hb6 k1 k2 k3 k4 ke
  obtain ⟨⟨k1, k2, k3, k4⟩, ke, _⟩ := HK.out w6 Z6.out
  go_wp2_with fail
  refine (formatTextsI_any B3 n3 c3 ts w6 k3 S3.out hc3 t1 T1).mono ?_
  rintro e w7 ⟨rfl, hb7⟩
  have Z7 := hid (Z6.out.trans (hb7.mono Z6.out.size))
  clear hb7 k1 k2 k3 k4 ke
  obtain ⟨⟨k1, k2, k3, k4⟩, ke, _⟩ := HK.out w7 Z7.out
  go_wp2_with fail
  refine (formatTextsS_any B3 n3 c3 ts w7 k3 S3.out t1 T1).mono ?_
  rintro e w7' ⟨rfl, rfl⟩
  go_wp2_with fail
  refine (formatNumbersI_any B1 n1 c1 xs w7' k1 M1.out (by omega) ke r1 R1).mono ?_
  rintro e w8 ⟨rfl, hb8⟩
  have Z8 := hid (Z7.out.trans (hb8.mono Z7.out.size))
  clear hb8 k1 k2 k3 k4 ke
  obtain ⟨⟨k1, k2, k3, k4⟩, ke, _⟩ := HK.out w8 Z8.out
  go_wp2_with fail
  refine (formatNumbersI_any B2 n2 c2 ys w8 k2 M2.out (by omega) ke r2 R2).mono ?_
  rintro e w9 ⟨rfl, hb9⟩
  have Z9 := hid (Z8.out.trans (hb9.mono Z8.out.size))
  clear hb9 k1 k2 k3 k4 ke
  obtain ⟨⟨k1, k2, k3, k4⟩, ke, _⟩ := HK.out w9 Z9.out
  go_wp2_with fail
  refine (inSame_any B1 B2 n1 n2 c1 c2 xs ys w9 k1 k2 (by omega) (by omega) v1 V1).mono ?_
  rintro e w10 ⟨rfl, hb10⟩
  have Z10 := hid (Z9.out.trans (hb10.mono Z9.out.size))
  clear hb10 k1 k2 k3 k4 ke
  obtain ⟨⟨k1, k2, k3, k4⟩, ke, _⟩ := HK.out w10 Z10.out
  have q1 := Q1.out
  go_wp2_with fail
  refine (formatTextsI_any B3 n3 c3 ts w10 k3 S3.out hc3 t1 T1).mono ?_
  rintro e w11 ⟨rfl, hb11⟩
  have Z11 := hid (Z10.out.trans (hb11.mono Z10.out.size))
  clear hb11 k1 k2 k3 k4 ke
  obtain ⟨⟨k1, k2, k3, k4⟩, ke, _⟩ := HK.out w11 Z11.out
  go_wp2_with fail
  refine (formatTextsI_any B4 n4 c4 ss w11 k4 S4.out hc4 t2 T2).mono ?_
  rintro e w12 ⟨rfl, hb12⟩
  have Z12 := hid (Z11.out.trans (hb12.mono Z11.out.size))
  clear hb12 k1 k2 k3 k4 ke
  obtain ⟨⟨k1, k2, k3, k4⟩, ke, _⟩ := HK.out w12 Z12.out
  go_wp2_with fail
  refine (inTexts_any B3 B4 n3 n4 c3 c4 ts ss w12 k3 k4 (by omega) (by omega) v2 V2).mono ?_
  rintro e w13 ⟨rfl, hb13⟩
  have Z13 := hid (Z12.out.trans (hb13.mono Z12.out.size))
  have q2 := Q2.out
  clear hb13
  go_wp2_with fail
  go_ret
  exact ⟨by simp, (HK.out w13 Z13.out).2.2⟩

set_option maxRecDepth 100000 in
theorem lifted (os : Os) (started : os.Started) (H : Type) (enc : TypeId × Value → H) :
    ReturnsInHanded {} Tryd.checked os 4 .any (fun w args => (Rows.fnTextsSpec.pre enc Tryd.prog Tryd.f4 [] false w args ∧ laidMetH Tryd.prog Rows.fnTextsRow.laid w) ∧ sizedMet enc Tryd.prog Tryd.f4 (OpenSpec.ofChange Rows.fnTextsSpec) false w args)
      (Rows.fnTextsSpec.post enc Tryd.prog Tryd.f4 false true false false) := by
  refine returnsInHanded_of_change_and (C := Tryd.checked) (X := fun w _ => laidMetH Tryd.prog Rows.fnTextsRow.laid w) (fun _ _ _ hh h => h.of_heap hh) Facts.own started (by kernel_rfl) Tryd.func4
    (ChangeSpec.witness_shaped (enc := enc) (C := Tryd.checked) (os := os) (X := fun w _ => laidMetH Tryd.prog Rows.fnTextsRow.laid w) false (World.doorLaid Tryd.prog 400 os) #[.slice none 0 0, .slice none 0 0] 8 rfl (World.shaped_of_RefB (by kernel_rfl) (by kernel_rfl)) (by kernel_rfl) (by kernel_rfl) (by kernel_rfl) (laidMetH_of_parts3 (fuel := 8) (laidMet_of_run' 8 (by kernel_rfl) (by kernel_rfl)) (by kernel_rfl) (by kernel_rfl))) ?_
  intro W base args ds gs before hval0 hW _ _ hL _
  have he := errs_PTab hL
  have hval : ∀ (j : Nat) t v, Tryd.f4.params[j]? = some t → args[j]? = some v → Value.okWide Tryd.prog W .any base t v := hval0
  have hW' := hW
  obtain ⟨p, q, hA0, hV, rfl, hfz, hnd⟩ := hW
  have hA : DataW.TrodAll enc Tryd.prog W 0 (fun _ => true) true Tryd.f4.params.toList args.toList ds p := hA0
  rw [Tryd.params4] at hA hval
  obtain ⟨v0, vs0, d0, ds0, p0, q0, hargs, rfl, rfl, h0, rr0⟩ := trodAll_cons hA
  obtain ⟨v1, vs1, d1, ds1, p1, q1, rfl, rfl, rfl, h1, rr1⟩ := trodAll_cons rr0
  obtain ⟨rfl, rfl, rfl⟩ := trodAll_nil rr1
  obtain rfl : args = #[v0, v1] := by cases args; simp_all
  obtain ⟨rfl, rfl⟩ := trodVars_none hV
  have k0 := h0
  have lt0 : ∀ x ∈ p0, x.block < W.heap.size := by obtain ⟨m, hm⟩ := k0; exact DataW.trod_lt m _ _ _ hm
  obtain ⟨A0, len0, cap0, rfl⟩ := okWide_slice Tryd.underlying22 (hval 0 22 v0 rfl rfl)
  obtain ⟨hl0, hm0, s0⟩ : len0 ≤ cap0 ∧ cap0 ≤ maxLen ∧ Bts W A0 len0 := by
    obtain ⟨fuel, hf⟩ := h0
    rcases open_ints Tryd.underlying22 Tryd.underlying5 (by kernel_rfl) hf with ⟨hcs, _⟩ | ⟨x, l, c, zs, hcs, hx0, hl, hm, hz, _, hcell, hws⟩
    · simp [Value.cells] at hcs
      obtain ⟨rfl, rfl, rfl⟩ := hcs
      exact ⟨Nat.le_refl _, Nat.zero_le _, fun h => absurd h (Nat.lt_irrefl 0)⟩
    · simp [Value.cells] at hcs
      obtain ⟨rfl, rfl, rfl⟩ := hcs
      exact ⟨hl, hm, bts_of (by rw [hz]; split <;> omega) hcell hws⟩
  have k1 := h1
  have lt1 : ∀ x ∈ p1, x.block < W.heap.size := by obtain ⟨m, hm⟩ := k1; exact DataW.trod_lt m _ _ _ hm
  obtain ⟨A1, len1, cap1, rfl⟩ := okWide_slice Tryd.underlying22 (hval 1 22 v1 rfl rfl)
  obtain ⟨hl1, hm1, s1⟩ : len1 ≤ cap1 ∧ cap1 ≤ maxLen ∧ Bts W A1 len1 := by
    obtain ⟨fuel, hf⟩ := h1
    rcases open_ints Tryd.underlying22 Tryd.underlying5 (by kernel_rfl) hf with ⟨hcs, _⟩ | ⟨x, l, c, zs, hcs, hx0, hl, hm, hz, _, hcell, hws⟩
    · simp [Value.cells] at hcs
      obtain ⟨rfl, rfl, rfl⟩ := hcs
      exact ⟨Nat.le_refl _, Nat.zero_le _, fun h => absurd h (Nat.lt_irrefl 0)⟩
    · simp [Value.cells] at hcs
      obtain ⟨rfl, rfl, rfl⟩ := hcs
      exact ⟨hl, hm, bts_of (by rw [hz]; split <;> omega) hcell hws⟩
  clear hA0 hval0
  refine (walk  W A0 len0 cap0 hl0 hm0 s0 A1 len1 cap1 hl1 hm1 s1 he).mono fun e W' ⟨hend, bel⟩ => ?_
  subst hend
  exact ⟨_, rfl, _, _, _, [], _, [], hW', trodAll_mk1 (shut_bool Tryd.underlying4 _), (trodAll_cons_mk (Below.trod Facts.laidOut (by kernel_rfl) (of_decide_eq_true (by kernel_rfl)) k0 bel lt0) (trodAll_cons_mk (Below.trod Facts.laidOut (by kernel_rfl) (of_decide_eq_true (by kernel_rfl)) k1 bel lt1) trodAll_mk0)), rfl, bel.frame _, fun h => by cases h⟩

theorem closed : joinedFacts Tryd.pinned.checked.prog 4 Tryd.f4 Rows.fnTextsSpec Rows.fnTextsRow = true := by
  simp only [joinedFacts, Bool.and_eq_true]
  refine ⟨⟨⟨⟨⟨⟨⟨⟨⟨⟨⟨⟨⟨⟨⟨⟨⟨⟨⟨⟨⟨⟨⟨⟨⟨⟨⟨⟨⟨⟨⟨?_, Facts.laidOut⟩, Facts.rowed⟩, ?_⟩, ?_⟩, ?_⟩, Facts.stops⟩, ?_⟩, Facts.knobs⟩, ?_⟩, ?_⟩, ?_⟩, ?_⟩, ?_⟩, ?_⟩, ?_⟩, ?_⟩, ?_⟩, ?_⟩, ?_⟩, ?_⟩, ?_⟩, ?_⟩, ?_⟩, Facts.heard⟩, Facts.may⟩,
    (congrArg (fun x => (Rows.fnTextsRow.lifted == x)) Facts.lifts).trans (by kernel_rfl)⟩, (congrArg (fun x => (x == some Rows.fnTextsRow.make)) Facts.makes).trans (by kernel_rfl)⟩, ?_⟩, ?_⟩, ?_⟩, ?_⟩
  all_goals kernel_rfl

theorem proved : Rows.FnTextsSaid :=
  OpenClaim.holds_of_wide 4 Tryd.f4 rfl rfl rfl rfl rfl rfl rfl ⟨rfl, rfl, rfl, rfl, rfl⟩ rfl rfl rfl rfl rfl (by kernel_rfl) Tryd.func4 closed
    (of_decide_eq_true (by kernel_rfl)) (by unfold Func.isWrapper; rw [if_neg (of_decide_eq_false (by kernel_rfl))]; exact ⟨rfl, rfl⟩)
    (fun os started H enc _ => lifted os started H enc)
end Go.Proofs.YtlpfgiegapelmaaDoor.fnTexts
namespace Go.Proofs.YtlpfgiegapelmaaDoor
theorem fnTexts_holds : Rows.FnTextsCardSaid :=
  Claim7.holds_tied_plain_at .later [] Rows.fnTextsCard.laidKinds true Rows.fnTextsCard.stood.harness Rows.fnTextsCard.stood.looks
    fnTexts.proved (fun _ h => by cases h) (by kernel_rfl) (fun _ h => by cases h) fnTexts_row_tie rfl ⟨rfl, rfl⟩ (by kernel_rfl) rfl
    (fun f fn hf hfn => by
      obtain rfl : f = 4 := Option.some.inj ((show Tryd.prog.funcNamed Rows.fnTextsRow.func = some 4 by kernel_rfl).symm.trans hf) |>.symm
      obtain rfl : fn = Tryd.f4 := (Option.some.inj (Tryd.func4.symm.trans hfn)).symm
      exact ⟨by kernel_rfl, fun j t ht => by
        have hall : (Tryd.f4.params.toList.all fun u => !Tryd.prog.wantsStandIn u) = true := by kernel_rfl
        exact (show Tryd.prog.wantsStandIn t = false by simpa using List.all_eq_true.1 hall t (by simpa using Array.mem_of_getElem? ht))⟩)
    (by kernel_rfl)
#print axioms fnTexts_holds
end Go.Proofs.YtlpfgiegapelmaaDoor
