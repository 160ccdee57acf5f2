/- The law FnVarsOf, proved: whatever the input, the call returns true, and each argument reads behind it as before. -/
import Derived.Test.YtechacocfpobgaaFacts
import Derived.Test.YtechacocfpobgaaDrawC
import Derived.Test.YtechacocfpobgaaLawV
import Derived.WalkKit
import Derived.ProofKit
import Derived.OpenShut
import Derived.ShutString
import Derived.ChangeOld
import Derived.Below
namespace Go.Proofs.Ytechacocfpobgaa.fnVarsOf
open Go.ChangeShapes Go.WideShapes Go.ChangeAt Go.RowKit
open Go.ChangeMaps (open_string shut_string)
set_option linter.unusedVariables false

theorem walk (w : World) (A0 : Option Addr) (len0 cap0 : Nat) (hl0 : len0 ≤ cap0) (hm0 : cap0 ≤ maxLen) (s0 : Bts w A0 len0) (A1 : Option Addr) (len1 cap1 : Nat) (hl1 : len1 ≤ cap1) (hm1 : cap1 ≤ maxLen) (s1 : Bts w A1 len1) :
    Calls Try.prog 4 #[.slice A0 len0 cap0, .slice A1 len1 cap1] w fun e w' => e = .returned (.bool true) ∧ Below w.heap.size w w' := by
  have hc0 : cap0 ≤ 9223372036854775807 := hm0
  have hc1 : cap1 ≤ 9223372036854775807 := hm1
  have S0 := hid s0
  have S1 := hid s1
  clear s0 s1
  by_cases hlong : 1048576 < len0
  · have h1 : (1048576 : Int) < (len0 : Int) := by omega
    go_enter Try.func4, Try.ntmps4
    go_wp2_with fail
    go_ret
    exact ⟨rfl, Below.refl _ _⟩
  have h1 : ¬ (1048576 : Int) < (len0 : Int) := by omega
  by_cases hlong1 : 1048576 < len1
  · have h2 : (1048576 : Int) < (len1 : Int) := by omega
    go_enter Try.func4, Try.ntmps4
    go_wp2_with fail
    go_ret
    exact ⟨rfl, Below.refl _ _⟩
  have h2 : ¬ (1048576 : Int) < (len1 : Int) := by omega
  go_enter Try.func4, Try.ntmps4
  go_wp2_with fail
  refine (drawVarsOf_any A0 len0 cap0 w hl0 hm0 S0.out).mono ?_
  rintro e u1 ⟨t, rfl, ht, hb1⟩
  have ht1 : t.size ≤ maxLen := by unfold maxLen; omega
  have S1' := hid (S1.out.below hb1)
  obtain ⟨q, hq⟩ : ∃ q, strOf (varsOf t.data.toList) = q := ⟨_, rfl⟩
  have hql : q.data.toList = varsOf t.data.toList := by rw [← hq]; exact strOf_list _
  have HQ := hid hq
  obtain ⟨gb, hgb⟩ : ∃ b, groundB t.data.toList = b := ⟨_, rfl⟩
  have HGB := hid hgb
  obtain ⟨z, hz⟩ : ∃ z, sizeOf' t.data.toList = z := ⟨_, rfl⟩
  have HZ := hid hz
  obtain ⟨dd, hd⟩ : ∃ z, depthOf' t.data.toList = z := ⟨_, rfl⟩
  have HD := hid hd
  have HQL := hid hql
  clear hq hql hgb hz hd
  go_wp2_with fail
  refine (varsI_at t ht1 _ q HQ).mono ?_
  rintro e u2 ⟨rfl, c2⟩
  go_wp2_with fail
  refine (varsS_at t ht1 _ q HQ).mono ?_
  rintro e u3 ⟨rfl, c3⟩
  go_wp2_with fail
  refine (groundI_at t ht1 _ gb HGB).mono ?_
  rintro e u4 ⟨rfl, c4⟩
  go_wp2_with fail
  refine (groundS_at t ht1 _ gb HGB).mono ?_
  rintro e u5 ⟨rfl, c5⟩
  go_wp2_with fail
  refine (sizeI_at t ht1 _ z HZ).mono ?_
  rintro e u6 ⟨rfl, c6⟩
  go_wp2_with fail
  refine (sizeS_at t ht1 _ z HZ).mono ?_
  rintro e u7 ⟨rfl, c7⟩
  go_wp2_with fail
  refine (depthI_at t ht1 _ dd HD).mono ?_
  rintro e u8 ⟨rfl, c8⟩
  go_wp2_with fail
  refine (depthS_at t ht1 _ dd HD).mono ?_
  rintro e u9 ⟨rfl, c9⟩
  have b19 := c2.trans ((c3.trans ((c4.trans ((c5.trans ((c6.trans ((c7.trans ((c8.trans (c9.mono c8.size)).mono c7.size)).mono c6.size)).mono c5.size)).mono c4.size)).mono c3.size)).mono c2.size)
  have hbA := hb1.trans (b19.mono hb1.size)
  have S9 := hid (S1'.out.below b19)
  go_wp2_with fail
  refine (drawCountVar_any A1 len1 cap1 u9 hl1 hm1 S9.out).mono ?_
  rintro e v1 ⟨x, y, rfl, hx, hy, d1⟩
  have hx1 : x.size ≤ maxLen := by unfold maxLen; omega
  have hy1 : y.size ≤ maxLen := by unfold maxLen; omega
  obtain ⟨cv, hcv⟩ : ∃ z, cvOf x y = z := ⟨_, rfl⟩
  have HCV := hid hcv
  clear hcv
  go_wp2_with fail
  refine (countVarI_at x y hx1 hy1 _ cv HCV).mono ?_
  rintro e v2 ⟨rfl, d2⟩
  go_wp2_with fail
  refine (countVarS_at x y hx1 hy1 _ cv HCV).mono ?_
  rintro e v3 ⟨rfl, d3⟩
  have hbB := hbA.trans ((d1.trans ((d2.trans (d3.mono d2.size)).mono d1.size)).mono hbA.size)
  go_wp2_with fail
  have hqs : q.size ≤ 6 := by
    have e1 : q.size = q.data.toList.length := by simp
    rw [e1, HQL.out, varsOf]
    split
    · exact Nat.le_trans (List.length_filter_le _ _) (by decide)
    · simp
  go_loopw [9, 63] (fun sm i wr => ∃ k : Nat, k ≤ q.size ∧ i = .int .i64 k ∧ sm = .int .i64 (sumC t.data.toList (q.data.toList.take k) : Nat) ∧ Below w.heap.size w wr) (fun _ i _ => q.size - (intOf i).toNat)
  case atStart => exact ⟨0, Nat.zero_le _, rfl, rfl, hbB⟩
  case round =>
    obtain ⟨k, hk, rfl, rfl, hbel⟩ := hrel
    have hss : sumC t.data.toList (q.data.toList.take k) ≤ 600 := by
      refine Nat.le_trans (sumC_take _ _ _) ?_
      rcases hty : tyOf t.data.toList with _ | T
      · rw [HQL.out, varsOf, if_neg (by rw [hty]; decide)]
        exact Nat.zero_le _
      · rw [HQL.out]
        refine Nat.le_trans (vars_sum hty) ?_
        have := size_text T
        have h2 := (tyOf_text hty).1
        have h3 : t.size = t.data.toList.length := by simp
        rw [← h2] at this
        omega
    obtain ⟨sm, hsm⟩ : ∃ n, sumC t.data.toList (q.data.toList.take k) = n := ⟨_, rfl⟩
    have HSM := hid hsm
    rw [hsm] at hss ⊢
    clear hsm
    by_cases hlt : k < q.size
    · have hkl : k < q.data.toList.length := by simpa using hlt
      obtain ⟨c, hc⟩ : ∃ c, q.data.toList[k] = c := ⟨_, rfl⟩
      have hget : q.data.toList[k]? = some c := by rw [List.getElem?_eq_getElem hkl, hc]
      have hmem : c ∈ varsOf t.data.toList := by
        rw [← HQL.out, ← hc]
        exact List.getElem_mem hkl
      obtain ⟨v, hv⟩ : ∃ v, q.extract k (k + 1) = v := ⟨_, rfl⟩
      have hvl : v.data.toList = [c] := by
        rw [← hv]
        exact extract_one hkl hc
      have hvs : v.size ≤ maxLen := by
        have e1 : v.size = v.data.toList.length := by simp
        rw [e1, hvl]
        exact Nat.le_trans (show 1 ≤ 2 by decide) (by decide)
      obtain ⟨n, hn⟩ : ∃ n, t.data.toList.count c = n := ⟨_, rfl⟩
      have HN := hid (show cvOf t v = (n : Int) by rw [cv_of_var hmem hvl, hn])
      have hn1 : 1 ≤ n := by rw [← hn]; exact (vars_mem hmem).2.2
      have hn2 : n ≤ 100 := by
        rw [← hn]
        have h3 : t.size = t.data.toList.length := by simp
        exact Nat.le_trans List.count_le_length (by omega)
      have HNX := hid (show sumC t.data.toList (q.data.toList.take (k + 1)) = sm + n by rw [sumC_snoc _ hget, HSM.out, hn])
      have HV := hid hv
      have i1 : (0 : Int) ≤ (k : Int) := by omega
      have i2 : (k : Int) < (q.size : Int) := by omega
      have i3 : (k : Int) + 1 ≤ (q.size : Int) := by omega
      have i4 : ¬ (n : Int) < 1 := by omega
      clear hc hget hmem hvl hn hv
      go_wp2_with fail
      rw [HV.out]
      refine (countVarI_at t v ht1 hvs _ n HN).mono ?_
      rintro e w1 ⟨rfl, g1⟩
      go_wp2_with fail
      go_roundw
      case rel =>
        refine ⟨k + 1, hlt, by go_num, ?_, hbel.trans (g1.mono hbel.size)⟩
        rw [HNX.out]
        go_num
      case measure => simp [intOf]; omega
    · obtain rfl : k = q.size := by omega
      have HF := hid (show sumC t.data.toList q.data.toList = sm by
        rw [← HSM.out, List.take_of_length_le (by simp)])
      go_wp2_with fail
      refine (groundI_at t ht1 _ gb HGB).mono ?_
      rintro e w1 ⟨rfl, g1⟩
      rcases hty : tyOf t.data.toList with _ | T
      · have hvn : varsOf t.data.toList = [] := by rw [varsOf, if_neg (by rw [hty]; decide)]
        have hqe : q.toList.isEmpty = true := by rw [ByteArray.toList_eq, HQL.out, hvn]; rfl
        have hgf : gb = false := by rw [← HGB.out, ground_vars, hty]; rfl
        subst hgf
        have HV := hid (show (tyOf t.data.toList).isSome = false by rw [hty]; rfl)
        clear hty hvn
        go_wp2_with fail
        refine (typeValidI_at t _ ht1 false HV).mono ?_
        rintro e w2 ⟨rfl, g2⟩
        go_wp2_with fail
        refine (typeValidI_at t _ ht1 false HV).mono ?_
        rintro e w3 ⟨rfl, g3⟩
        go_wp2_with fail
        refine (typeValidI_at t _ ht1 false HV).mono ?_
        rintro e w4 ⟨rfl, g4⟩
        go_wp2_with fail
        go_ret
        exact ⟨rfl, hbel.trans ((g1.trans ((g2.trans ((g3.trans (g4.mono g3.size)).mono g2.size)).mono g1.size)).mono hbel.size)⟩
      · have HV := hid (show (tyOf t.data.toList).isSome = true by rw [hty]; rfl)
        have hzs : z = (T.size : Nat) := by rw [← HZ.out, sizeOf', hty]
        have hle : (sm : Int) ≤ z := by
          have h3 := vars_sum hty
          have h4 := HF.out
          rw [HQL.out] at h4
          omega
        have hge : gb = q.toList.isEmpty := by
          rw [← HGB.out, ground_vars, hty, ByteArray.toList_eq, HQL.out]
          rfl
        obtain ⟨em, hem⟩ : ∃ b, q.toList.isEmpty = b := ⟨_, rfl⟩
        rw [hem] at hge
        subst hge
        clear hty hzs
        cases gb
        all_goals
          go_wp2_with fail
          refine (typeValidI_at t _ ht1 true HV).mono ?_
          rintro e w2 ⟨rfl, g2⟩
          go_wp2_with fail
          refine (typeValidI_at t _ ht1 true HV).mono ?_
          rintro e w3 ⟨rfl, g3⟩
          go_wp2_with fail
          refine (sizeI_at t ht1 _ z HZ).mono ?_
          rintro e w4 ⟨rfl, g4⟩
          go_wp2_with fail
          refine (typeValidI_at t _ ht1 true HV).mono ?_
          rintro e w5 ⟨rfl, g5⟩
          go_wp2_with fail
          go_ret
          exact ⟨rfl, hbel.trans ((g1.trans ((g2.trans ((g3.trans ((g4.trans (g5.mono g4.size)).mono g3.size)).mono g2.size)).mono g1.size)).mono hbel.size)⟩

set_option maxRecDepth 100000 in
theorem lifted (os : Os) (started : os.Started) (H : Type) (enc : TypeId × Value → H) :
    ReturnsInHanded {} Try.checked os 4 .any (Rows.fnVarsOfSpec.pre6 enc Try.prog Try.f4 Rows.fnVarsOfRow.domain false) (Rows.fnVarsOfSpec.post enc Try.prog Try.f4 false true false false) := by
  refine returnsInHanded_of_change (C := Try.checked) Facts.own started (by kernel_rfl) Try.func4
    (ChangeSpec.witness6 (enc := enc) (C := Try.checked) false ⟨#[], #[.slice none 0 0, .slice none 0 0], []⟩ 8 (by kernel_rfl) (by kernel_rfl) (by kernel_rfl) (by kernel_rfl)) ?_
  intro W base args ds gs before hval0 hW hcnd _
  have hval : ∀ (j : Nat) t v, Try.f4.params[j]? = some t → args[j]? = some v → Value.okWide Try.prog W .any base t v := hval0
  have hW' := hW
  obtain ⟨p, q, hA0, hV, rfl, hfz, hnd⟩ := hW
  have hA : DataW.TrodAll enc Try.prog W 0 (fun _ => true) true Try.f4.params.toList args.toList ds p := hA0
  rw [Try.params4] at hA hval
  obtain ⟨v0, vs0, d0, ds0, p0, q0, hargs, rfl, rfl, h0, r0⟩ := trodAll_cons hA
  obtain ⟨v1, vs1, d1, ds1, p1, q1, rfl, rfl, rfl, h1, r1⟩ := trodAll_cons r0
  obtain ⟨rfl, rfl, rfl⟩ := trodAll_nil r1
  obtain rfl : args = #[v0, v1] := by cases args; simp_all
  obtain ⟨rfl, rfl⟩ := trodVars_none hV
  have k0 := h0
  have lt0 : ∀ x ∈ p0, x.block < W.heap.size := by obtain ⟨m, hm⟩ := k0; exact DataW.trod_lt m _ _ _ hm
  obtain ⟨A0, len0, cap0, rfl⟩ := okWide_slice Try.underlying22 (hval 0 22 v0 rfl rfl)
  obtain ⟨hl0, hm0, s0⟩ : len0 ≤ cap0 ∧ cap0 ≤ maxLen ∧ Bts W A0 len0 := by
    obtain ⟨fuel, hf⟩ := h0
    rcases open_ints Try.underlying22 Try.underlying5 (by kernel_rfl) hf with ⟨hcs, _⟩ | ⟨x, l, c, zs, hcs, hx0, hl, hm, hz, _, hcell, hws⟩
    · simp [Value.cells] at hcs
      obtain ⟨rfl, rfl, rfl⟩ := hcs
      exact ⟨Nat.le_refl _, Nat.zero_le _, fun h => absurd h (Nat.lt_irrefl 0)⟩
    · simp [Value.cells] at hcs
      obtain ⟨rfl, rfl, rfl⟩ := hcs
      exact ⟨hl, hm, bts_of (by rw [hz]; split <;> omega) hcell hws⟩
  have k1 := h1
  have lt1 : ∀ x ∈ p1, x.block < W.heap.size := by obtain ⟨m, hm⟩ := k1; exact DataW.trod_lt m _ _ _ hm
  obtain ⟨A1, len1, cap1, rfl⟩ := okWide_slice Try.underlying22 (hval 1 22 v1 rfl rfl)
  obtain ⟨hl1, hm1, s1⟩ : len1 ≤ cap1 ∧ cap1 ≤ maxLen ∧ Bts W A1 len1 := by
    obtain ⟨fuel, hf⟩ := h1
    rcases open_ints Try.underlying22 Try.underlying5 (by kernel_rfl) hf with ⟨hcs, _⟩ | ⟨x, l, c, zs, hcs, hx0, hl, hm, hz, _, hcell, hws⟩
    · simp [Value.cells] at hcs
      obtain ⟨rfl, rfl, rfl⟩ := hcs
      exact ⟨Nat.le_refl _, Nat.zero_le _, fun h => absurd h (Nat.lt_irrefl 0)⟩
    · simp [Value.cells] at hcs
      obtain ⟨rfl, rfl, rfl⟩ := hcs
      exact ⟨hl, hm, bts_of (by rw [hz]; split <;> omega) hcell hws⟩
  clear hA0 hval0
  refine (walk  W A0 len0 cap0 hl0 hm0 s0 A1 len1 cap1 hl1 hm1 s1).mono fun e W' ⟨he, bel⟩ => ?_
  subst he
  exact ⟨_, rfl, _, _, _, [], _, [], hW', trodAll_mk1 (shut_bool Try.underlying4 _), (trodAll_cons_mk (Below.trod Facts.laidOut (by kernel_rfl) (of_decide_eq_true (by kernel_rfl)) k0 bel lt0) (trodAll_cons_mk (Below.trod Facts.laidOut (by kernel_rfl) (of_decide_eq_true (by kernel_rfl)) k1 bel lt1) trodAll_mk0)), rfl, bel.frame _, fun h => by cases h⟩

theorem closed : joinedFacts Try.pinned.checked.prog 4 Try.f4 Rows.fnVarsOfSpec Rows.fnVarsOfRow = true := by
  simp only [joinedFacts, Bool.and_eq_true]
  refine ⟨⟨⟨⟨⟨⟨⟨⟨⟨⟨⟨⟨⟨⟨⟨⟨⟨⟨⟨⟨⟨⟨⟨⟨⟨⟨⟨⟨⟨⟨⟨?_, Facts.laidOut⟩, Facts.rowed⟩, ?_⟩, ?_⟩, ?_⟩, Facts.stops⟩, ?_⟩, Facts.knobs⟩, ?_⟩, ?_⟩, ?_⟩, ?_⟩, ?_⟩, ?_⟩, ?_⟩, ?_⟩, ?_⟩, ?_⟩, ?_⟩, ?_⟩, ?_⟩, ?_⟩, ?_⟩, Facts.heard⟩, Facts.may⟩,
    (congrArg (fun x => (Rows.fnVarsOfRow.lifted == x)) Facts.lifts).trans (by kernel_rfl)⟩, (congrArg (fun x => (x == some Rows.fnVarsOfRow.make)) Facts.makes).trans (by kernel_rfl)⟩, ?_⟩, ?_⟩, ?_⟩, ?_⟩
  all_goals kernel_rfl

theorem proved : Rows.FnVarsOfSaid :=
  OpenClaim.holds_of_wide 4 Try.f4 rfl rfl rfl rfl rfl rfl rfl ⟨rfl, rfl, rfl, rfl, rfl⟩ rfl rfl rfl rfl rfl (by kernel_rfl) Try.func4 closed
    (of_decide_eq_true (by kernel_rfl)) (by unfold Func.isWrapper; rw [if_neg (of_decide_eq_false (by kernel_rfl))]; exact ⟨rfl, rfl⟩)
    (fun os started H enc _ => lifted os started H enc)
end Go.Proofs.Ytechacocfpobgaa.fnVarsOf
namespace Go.Proofs.Ytechacocfpobgaa
theorem fnVarsOf_holds : Rows.FnVarsOfSaid := fnVarsOf.proved
#print axioms fnVarsOf_holds
end Go.Proofs.Ytechacocfpobgaa
