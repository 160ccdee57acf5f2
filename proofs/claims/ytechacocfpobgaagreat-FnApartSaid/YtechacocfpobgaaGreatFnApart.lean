/- The law FnApart, proved: whatever the input, the call returns true, and each argument reads behind it as before. -/
import Derived.Test.YtechacocfpobgaaGreatFacts
import Derived.Test.YtechacocfpobgaaGreatDrawM
import Derived.Test.YtechacocfpobgaaGreatLawO
import Derived.Test.YtechacocfpobgaaGreatUnM
import Derived.Test.YtechacocfpobgaaGreatAaS
import Derived.Test.YtechacocfpobgaaGreatMtV
import Derived.Test.YtechacocfpobgaaGreatRen
import Derived.WalkKit
import Derived.ProofKit
import Derived.OpenShut
import Derived.ShutString
import Derived.ChangeOld
import Derived.Below
namespace Go.Proofs.YtechacocfpobgaaGreat.fnApart
open Go.ChangeShapes Go.WideShapes Go.ChangeAt Go.RowKit
open Go.ChangeMaps (open_string shut_string)
set_option linter.unusedVariables false

set_option maxHeartbeats 1600000 in
set_option maxRecDepth 100000 in
theorem walk (w : World) (A0 : Option Addr) (len0 cap0 : Nat) (hl0 : len0 ≤ cap0) (hm0 : cap0 ≤ maxLen) (s0 : Bts w A0 len0) (A1 : Option Addr) (len1 cap1 : Nat) (hl1 : len1 ≤ cap1) (hm1 : cap1 ≤ maxLen) (s1 : Bts w A1 len1) :
    Calls Tryz.prog 5 #[.slice A0 len0 cap0, .slice A1 len1 cap1] w fun e w' => e = .returned (.bool true) ∧ Below w.heap.size w w' := by
  have hc0 : cap0 ≤ 9223372036854775807 := hm0
  have hc1 : cap1 ≤ 9223372036854775807 := hm1
  have S0 := hid s0
  have S1 := hid s1
  clear s0 s1
  by_cases hlong : 1048576 < len0
  · have h1 : (1048576 : Int) < (len0 : Int) := by omega
    go_enter Tryz.func5, Tryz.ntmps5
    go_wp2_with fail
    go_ret
    exact ⟨rfl, Below.refl _ _⟩
  have h1 : ¬ (1048576 : Int) < (len0 : Int) := by omega
  by_cases hlong1 : 1048576 < len1
  · have h2 : (1048576 : Int) < (len1 : Int) := by omega
    go_enter Tryz.func5, Tryz.ntmps5
    go_wp2_with fail
    go_ret
    exact ⟨rfl, Below.refl _ _⟩
  have h2 : ¬ (1048576 : Int) < (len1 : Int) := by omega
  go_enter Tryz.func5, Tryz.ntmps5
  go_wp2_with fail
  refine (drawAreApart_any A0 len0 cap0 w hl0 hm0 S0.out).mono ?_
  rintro e u1 ⟨a, b, rfl, ha, hb, hb1⟩
  have ha1 : a.size ≤ maxLen := by unfold maxLen; omega
  have hb1' : b.size ≤ maxLen := by unfold maxLen; omega
  obtain ⟨r, hr⟩ : ∃ r : Bool, (r = true ↔ Apart a.data.toList b.data.toList) := by
    classical
    exact ⟨decide (Apart a.data.toList b.data.toList), by simp⟩
  have HI := hid (fun W => (areApart_any a b W ha1 hb1').mono (fun e w' (h : (∃ r' : Bool, e = .returned (.bool r') ∧ (r' = true ↔ Apart a.data.toList b.data.toList)) ∧ Below W.heap.size W w') => show e = .returned (.bool r) ∧ Below W.heap.size W w' from by
    obtain ⟨⟨r', he, hr'⟩, hb⟩ := h
    exact ⟨by rw [he, Bool.eq_iff_iff.2 (hr'.trans hr.symm)], hb⟩))
  have HS := hid (fun W => (areApartS_any a b W ha1 hb1').mono (fun e w' (h : (∃ r' : Bool, e = .returned (.bool r') ∧ (r' = true ↔ Apart a.data.toList b.data.toList)) ∧ Below W.heap.size W w') => show e = .returned (.bool r) ∧ Below W.heap.size W w' from by
    obtain ⟨⟨r', he, hr'⟩, hb⟩ := h
    exact ⟨by rw [he, Bool.eq_iff_iff.2 (hr'.trans hr.symm)], hb⟩))
  have HC := hid (fun W => (areApart_any b a W hb1' ha1).mono (fun e w' (h : (∃ r' : Bool, e = .returned (.bool r') ∧ (r' = true ↔ Apart b.data.toList a.data.toList)) ∧ Below W.heap.size W w') => show e = .returned (.bool r) ∧ Below W.heap.size W w' from by
    obtain ⟨⟨r', he, hr'⟩, hb⟩ := h
    exact ⟨by rw [he, Bool.eq_iff_iff.2 (hr'.trans (apart_comm.trans hr.symm))], hb⟩))
  have HR := hid hr
  clear hr
  obtain ⟨va, hva⟩ : ∃ v, (tyOf a.data.toList).isSome = v := ⟨_, rfl⟩
  obtain ⟨vb, hvb⟩ : ∃ v, (tyOf b.data.toList).isSome = v := ⟨_, rfl⟩
  have HVA := hid hva
  have HVB := hid hvb
  have S1' := hid (S1.out.below hb1)
  clear hva hvb
  go_wp2_with fail
  refine (HI.out u1).mono ?_
  rintro e u2 ⟨rfl, b2⟩
  go_wp2_with fail
  refine (HS.out u2).mono ?_
  rintro e u3 ⟨rfl, b3⟩
  have b13 := b2.trans (b3.mono b2.size)
  go_wp2_with fail
  refine (HC.out u3).mono ?_
  rintro e u4 ⟨rfl, b4⟩
  have b14 := b13.trans (b4.mono b13.size)
  go_wp2_with fail
  refine (typeValidI_at a _ ha1 va HVA).mono ?_
  rintro e u5 ⟨rfl, b5⟩
  have b15 := b14.trans (b5.mono b14.size)
  have bw5 := hb1.trans (b15.mono hb1.size)
  cases va
  · have hrf : r = false := Bool.eq_false_iff.2 fun e => by
      have h := (apart_ty (HR.out.1 e)).1
      rw [HVA.out] at h
      cases h
    subst hrf
    go_wp2_with fail
    refine (HS.out u5).mono ?_
    rintro e v1 ⟨rfl, d1⟩
    go_wp2_with fail
    refine (HC.out v1).mono ?_
    rintro e v2 ⟨rfl, d2⟩
    go_wp2_with fail
    go_ret
    exact ⟨rfl, bw5.trans ((d1.trans (d2.mono d1.size)).mono bw5.size)⟩
  go_wp2_with fail
  refine (typeValidI_at b _ hb1' vb HVB).mono ?_
  rintro e u6 ⟨rfl, b6⟩
  have b16 := b15.trans (b6.mono b15.size)
  have bw6 := hb1.trans (b16.mono hb1.size)
  cases vb
  · have hrf : r = false := Bool.eq_false_iff.2 fun e => by
      have h := (apart_ty (HR.out.1 e)).2
      rw [HVB.out] at h
      cases h
    subst hrf
    go_wp2_with fail
    refine (HS.out u6).mono ?_
    rintro e v1 ⟨rfl, d1⟩
    go_wp2_with fail
    refine (HC.out v1).mono ?_
    rintro e v2 ⟨rfl, d2⟩
    go_wp2_with fail
    go_ret
    exact ⟨rfl, bw6.trans ((d1.trans (d2.mono d1.size)).mono bw6.size)⟩
  clear HI HS HC
  have S6 := hid (S1'.out.below b16)
  obtain ⟨m, hm⟩ : ∃ m, meetOf a.data.toList b.data.toList = m := ⟨_, rfl⟩
  have HME := hid (meetI_any a b u6 ha1 hb1')
  rw [hm] at HME
  obtain ⟨i1, hi1⟩ : ∃ x, (mtOf a.data.toList b.data.toList).isSome = x := ⟨_, rfl⟩
  obtain ⟨i2, hi2⟩ : ∃ x, (mtOf b.data.toList a.data.toList).isSome = x := ⟨_, rfl⟩
  have HI1 := hid (fun W => isInstance_any a b W ha1 hb1')
  have HI2 := hid (fun W => isInstance_any b a W hb1' ha1)
  simp only [hi1] at HI1
  simp only [hi2] at HI2
  have HM := hid hm
  have HE1 := hid hi1
  have HE2 := hid hi2
  clear hm hi1 hi2
  cases r
  · rcases hmo : m with _ | l
    · have HME' := HME.out
      rw [hmo] at HME'
      have HME2 := hid HME'
      clear HME HME' hmo
      go_wp2_with fail
      refine HME2.out.mono ?_
      rintro e u7 ⟨rfl, b7⟩
      go_wp2_with fail
      refine (drawIsGround_any A1 len1 cap1 u7 hl1 hm1 (S6.out.below b7)).mono ?_
      rintro e u8 ⟨t, rfl, ht, b8⟩
      have b68 := b7.trans (b8.mono b7.size)
      have bw8 := bw6.trans (b68.mono bw6.size)
      go_wp2_with fail
      refine (HI1.out u8).mono ?_
      rintro e v1 ⟨rfl, d1⟩
      have bw9 := bw8.trans (d1.mono bw8.size)
      cases i1
      · go_wp2_with fail
        refine (HI2.out v1).mono ?_
        rintro e v2 ⟨rfl, d2⟩
        cases i2
        · go_wp2_with fail
          go_ret
          exact ⟨rfl, bw9.trans (d2.mono bw9.size)⟩
        · go_wp2_with fail
          go_ret
          exact ⟨rfl, bw9.trans (d2.mono bw9.size)⟩
      · go_wp2_with fail
        go_ret
        exact ⟨rfl, bw9⟩
    · obtain ⟨c, hcl⟩ : ∃ c : ByteArray, c = strOf l := ⟨_, rfl⟩
      have hmi := (meet_inst (HM.out.trans hmo)).1
      have HCI := hid (show (mtOf a.data.toList c.data.toList).isSome = true by rw [hcl, strOf_list]; exact hmi)
      have hcs : c.size ≤ maxLen := by
        have h := HM.out.trans hmo
        have : l.length ≤ 60 := by
          unfold meetOf at h
          split at h
          · cases h
          · obtain ⟨_, T, _, h4, h5⟩ := ap_some h
            rw [h5]
            exact h4
        rw [hcl, strOf_size]
        unfold maxLen
        omega
      have HME' := HME.out
      rw [hmo] at HME'
      simp only [apS, ← hcl, Option.isSome_some] at HME'
      have HME2 := hid HME'
      have HIC := hid (fun W => isInstance_any a c W ha1 hcs)
      simp only [HCI.out] at HIC
      clear HME HME' hmo hcl hmi
      go_wp2_with fail
      refine HME2.out.mono ?_
      rintro e u7 ⟨rfl, b7⟩
      go_wp2_with fail
      refine (drawIsGround_any A1 len1 cap1 u7 hl1 hm1 (S6.out.below b7)).mono ?_
      rintro e u8 ⟨t, rfl, ht, b8⟩
      have b68 := b7.trans (b8.mono b7.size)
      have bw8' := bw6.trans (b68.mono bw6.size)
      go_wp2_with fail
      refine (HIC.out u8).mono ?_
      rintro e u9 ⟨rfl, b9⟩
      have bw8 := bw8'.trans (b9.mono bw8'.size)
      go_wp2_with fail
      refine (HI1.out u9).mono ?_
      rintro e v1 ⟨rfl, d1⟩
      have bw9 := bw8.trans (d1.mono bw8.size)
      cases i1
      · go_wp2_with fail
        refine (HI2.out v1).mono ?_
        rintro e v2 ⟨rfl, d2⟩
        cases i2
        · go_wp2_with fail
          go_ret
          exact ⟨rfl, bw9.trans (d2.mono bw9.size)⟩
        · go_wp2_with fail
          go_ret
          exact ⟨rfl, bw9.trans (d2.mono bw9.size)⟩
      · go_wp2_with fail
        go_ret
        exact ⟨rfl, bw9⟩
  · have hap := HR.out.1 rfl
    have hmn : m = none := by
      rcases hmo : m with _ | l
      · rfl
      · exact absurd (apart_inst hap (meet_inst (HM.out.trans hmo)).1 (meet_inst (HM.out.trans hmo)).2) id
    have e1 : i1 = false := by rw [← HE1.out]; exact (apart_self hap).1
    have e2 : i2 = false := by rw [← HE2.out]; exact (apart_self hap).2
    subst e1
    subst e2
    have HME' := HME.out
    rw [hmn] at HME'
    have HME2 := hid HME'
    have HAP := hid hap
    clear HME HME' hmn hap
    go_wp2_with fail
    refine HME2.out.mono ?_
    rintro e u7 ⟨rfl, b7⟩
    go_wp2_with fail
    refine (drawIsGround_any A1 len1 cap1 u7 hl1 hm1 (S6.out.below b7)).mono ?_
    rintro e u8 ⟨t, rfl, ht, b8⟩
    have ht1 : t.size ≤ maxLen := by unfold maxLen; omega
    have b68 := b7.trans (b8.mono b7.size)
    have bw8 := bw6.trans (b68.mono bw6.size)
    obtain ⟨gb, hgb⟩ : ∃ x, groundB t.data.toList = x := ⟨_, rfl⟩
    obtain ⟨i3, hi3⟩ : ∃ x, (mtOf a.data.toList t.data.toList).isSome = x := ⟨_, rfl⟩
    obtain ⟨i4, hi4⟩ : ∃ x, (mtOf b.data.toList t.data.toList).isSome = x := ⟨_, rfl⟩
    have HI3 := hid (fun W => isInstance_any a t W ha1 ht1)
    have HI4 := hid (fun W => isInstance_any b t W hb1' ht1)
    simp only [hi3] at HI3
    simp only [hi4] at HI4
    have HE3 := hid hi3
    have HE4 := hid hi4
    have HGB := hid hgb
    clear hi3 hi4 hgb
    go_wp2_with fail
    refine (groundI_at t ht1 _ gb HGB).mono ?_
    rintro e u9 ⟨rfl, b9⟩
    have bw9 := bw8.trans (b9.mono bw8.size)
    cases gb
    · go_wp2_with fail
      refine (HI1.out u9).mono ?_
      rintro e v1 ⟨rfl, d1⟩
      go_wp2_with fail
      refine (HI2.out v1).mono ?_
      rintro e v2 ⟨rfl, d2⟩
      go_wp2_with fail
      go_ret
      exact ⟨rfl, bw9.trans ((d1.trans (d2.mono d1.size)).mono bw9.size)⟩
    go_wp2_with fail
    refine (HI3.out u9).mono ?_
    rintro e u10 ⟨rfl, b10⟩
    have bw10 := bw9.trans (b10.mono bw9.size)
    cases i3
    · go_wp2_with fail
      refine (HI1.out u10).mono ?_
      rintro e v1 ⟨rfl, d1⟩
      go_wp2_with fail
      refine (HI2.out v1).mono ?_
      rintro e v2 ⟨rfl, d2⟩
      go_wp2_with fail
      go_ret
      exact ⟨rfl, bw10.trans ((d1.trans (d2.mono d1.size)).mono bw10.size)⟩
    have hi4 : i4 = false := Bool.eq_false_iff.2 fun e => apart_inst HAP.out HE3.out (HE4.out.trans e)
    subst hi4
    go_wp2_with fail
    refine (HI4.out u10).mono ?_
    rintro e u11 ⟨rfl, b11⟩
    have bw11 := bw10.trans (b11.mono bw10.size)
    go_wp2_with fail
    refine (HI1.out u11).mono ?_
    rintro e v1 ⟨rfl, d1⟩
    go_wp2_with fail
    refine (HI2.out v1).mono ?_
    rintro e v2 ⟨rfl, d2⟩
    go_wp2_with fail
    go_ret
    exact ⟨rfl, bw11.trans ((d1.trans (d2.mono d1.size)).mono bw11.size)⟩

set_option maxRecDepth 100000 in
theorem lifted (os : Os) (started : os.Started) (H : Type) (enc : TypeId × Value → H) :
    ReturnsInHanded {} Tryz.checked os 5 .any (Rows.fnApartSpec.pre6 enc Tryz.prog Tryz.f5 Rows.fnApartRow.domain false) (Rows.fnApartSpec.post enc Tryz.prog Tryz.f5 false true false false) := by
  refine returnsInHanded_of_change (C := Tryz.checked) Facts.own started (by kernel_rfl) Tryz.func5
    (ChangeSpec.witness6 (enc := enc) (C := Tryz.checked) false ⟨#[], #[.slice none 0 0, .slice none 0 0], []⟩ 8 (by kernel_rfl) (by kernel_rfl) (by kernel_rfl) (by kernel_rfl)) ?_
  intro W base args ds gs before hval0 hW hcnd _
  have hval : ∀ (j : Nat) t v, Tryz.f5.params[j]? = some t → args[j]? = some v → Value.okWide Tryz.prog W .any base t v := hval0
  have hW' := hW
  obtain ⟨p, q, hA0, hV, rfl, hfz, hnd⟩ := hW
  have hA : DataW.TrodAll enc Tryz.prog W 0 (fun _ => true) true Tryz.f5.params.toList args.toList ds p := hA0
  rw [Tryz.params5] at hA hval
  obtain ⟨v0, vs0, d0, ds0, p0, q0, hargs, rfl, rfl, h0, r0⟩ := trodAll_cons hA
  obtain ⟨v1, vs1, d1, ds1, p1, q1, rfl, rfl, rfl, h1, r1⟩ := trodAll_cons r0
  obtain ⟨rfl, rfl, rfl⟩ := trodAll_nil r1
  obtain rfl : args = #[v0, v1] := by cases args; simp_all
  obtain ⟨rfl, rfl⟩ := trodVars_none hV
  have k0 := h0
  have lt0 : ∀ x ∈ p0, x.block < W.heap.size := by obtain ⟨m, hm⟩ := k0; exact DataW.trod_lt m _ _ _ hm
  obtain ⟨A0, len0, cap0, rfl⟩ := okWide_slice Tryz.underlying22 (hval 0 22 v0 rfl rfl)
  obtain ⟨hl0, hm0, s0⟩ : len0 ≤ cap0 ∧ cap0 ≤ maxLen ∧ Bts W A0 len0 := by
    obtain ⟨fuel, hf⟩ := h0
    rcases open_ints Tryz.underlying22 Tryz.underlying5 (by kernel_rfl) hf with ⟨hcs, _⟩ | ⟨x, l, c, zs, hcs, hx0, hl, hm, hz, _, hcell, hws⟩
    · simp [Value.cells] at hcs
      obtain ⟨rfl, rfl, rfl⟩ := hcs
      exact ⟨Nat.le_refl _, Nat.zero_le _, fun h => absurd h (Nat.lt_irrefl 0)⟩
    · simp [Value.cells] at hcs
      obtain ⟨rfl, rfl, rfl⟩ := hcs
      exact ⟨hl, hm, bts_of (by rw [hz]; split <;> omega) hcell hws⟩
  have k1 := h1
  have lt1 : ∀ x ∈ p1, x.block < W.heap.size := by obtain ⟨m, hm⟩ := k1; exact DataW.trod_lt m _ _ _ hm
  obtain ⟨A1, len1, cap1, rfl⟩ := okWide_slice Tryz.underlying22 (hval 1 22 v1 rfl rfl)
  obtain ⟨hl1, hm1, s1⟩ : len1 ≤ cap1 ∧ cap1 ≤ maxLen ∧ Bts W A1 len1 := by
    obtain ⟨fuel, hf⟩ := h1
    rcases open_ints Tryz.underlying22 Tryz.underlying5 (by kernel_rfl) hf with ⟨hcs, _⟩ | ⟨x, l, c, zs, hcs, hx0, hl, hm, hz, _, hcell, hws⟩
    · simp [Value.cells] at hcs
      obtain ⟨rfl, rfl, rfl⟩ := hcs
      exact ⟨Nat.le_refl _, Nat.zero_le _, fun h => absurd h (Nat.lt_irrefl 0)⟩
    · simp [Value.cells] at hcs
      obtain ⟨rfl, rfl, rfl⟩ := hcs
      exact ⟨hl, hm, bts_of (by rw [hz]; split <;> omega) hcell hws⟩
  clear hA0 hval0
  refine (walk  W A0 len0 cap0 hl0 hm0 s0 A1 len1 cap1 hl1 hm1 s1).mono fun e W' ⟨he, bel⟩ => ?_
  subst he
  exact ⟨_, rfl, _, _, _, [], _, [], hW', trodAll_mk1 (shut_bool Tryz.underlying4 _), (trodAll_cons_mk (Below.trod Facts.laidOut (by kernel_rfl) (of_decide_eq_true (by kernel_rfl)) k0 bel lt0) (trodAll_cons_mk (Below.trod Facts.laidOut (by kernel_rfl) (of_decide_eq_true (by kernel_rfl)) k1 bel lt1) trodAll_mk0)), rfl, bel.frame _, fun h => by cases h⟩

theorem closed : joinedFacts Tryz.pinned.checked.prog 5 Tryz.f5 Rows.fnApartSpec Rows.fnApartRow = true := by
  simp only [joinedFacts, Bool.and_eq_true]
  refine ⟨⟨⟨⟨⟨⟨⟨⟨⟨⟨⟨⟨⟨⟨⟨⟨⟨⟨⟨⟨⟨⟨⟨⟨⟨⟨⟨⟨⟨⟨⟨?_, Facts.laidOut⟩, Facts.rowed⟩, ?_⟩, ?_⟩, ?_⟩, Facts.stops⟩, ?_⟩, Facts.knobs⟩, ?_⟩, ?_⟩, ?_⟩, ?_⟩, ?_⟩, ?_⟩, ?_⟩, ?_⟩, ?_⟩, ?_⟩, ?_⟩, ?_⟩, ?_⟩, ?_⟩, ?_⟩, Facts.heard⟩, Facts.may⟩,
    (congrArg (fun x => (Rows.fnApartRow.lifted == x)) Facts.lifts).trans (by kernel_rfl)⟩, (congrArg (fun x => (x == some Rows.fnApartRow.make)) Facts.makes).trans (by kernel_rfl)⟩, ?_⟩, ?_⟩, ?_⟩, ?_⟩
  all_goals kernel_rfl

theorem proved : Rows.FnApartSaid :=
  OpenClaim.holds_of_wide 5 Tryz.f5 rfl rfl rfl rfl rfl rfl rfl ⟨rfl, rfl, rfl, rfl, rfl⟩ rfl rfl rfl rfl rfl (by kernel_rfl) Tryz.func5 closed
    (of_decide_eq_true (by kernel_rfl)) (by unfold Func.isWrapper; rw [if_neg (of_decide_eq_false (by kernel_rfl))]; exact ⟨rfl, rfl⟩)
    (fun os started H enc _ => lifted os started H enc)
end Go.Proofs.YtechacocfpobgaaGreat.fnApart
namespace Go.Proofs.YtechacocfpobgaaGreat
theorem fnApart_holds : Rows.FnApartSaid := fnApart.proved
#print axioms fnApart_holds
end Go.Proofs.YtechacocfpobgaaGreat
