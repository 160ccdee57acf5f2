/- The law FnRename, proved: whatever the input, the call returns true, and each argument reads behind it as before. -/
import Derived.Test.YtechacocfpobgaaFacts
import Derived.Test.YtechacocfpobgaaDrawB
import Derived.Test.YtechacocfpobgaaLawW
import Derived.WalkKit
import Derived.ProofKit
import Derived.OpenShut
import Derived.ShutString
import Derived.ChangeOld
import Derived.Below
namespace Go.Proofs.Ytechacocfpobgaa.fnRename
open Go.ChangeShapes Go.WideShapes Go.ChangeAt Go.RowKit
open Go.ChangeMaps (open_string shut_string)
set_option linter.unusedVariables false

theorem walk (w : World) (A0 : Option Addr) (len0 cap0 : Nat) (hl0 : len0 ≤ cap0) (hm0 : cap0 ≤ maxLen) (s0 : Bts w A0 len0) :
    Calls Try.prog 5 #[.slice A0 len0 cap0] w fun e w' => e = .returned (.bool true) ∧ Below w.heap.size w w' := by
  have hc0 : cap0 ≤ 9223372036854775807 := hm0
  by_cases hlong : 1048576 < len0
  · have h1 : (1048576 : Int) < (len0 : Int) := by omega
    go_enter Try.func5, Try.ntmps5
    go_wp2_with fail
    go_ret
    exact ⟨rfl, Below.refl _ _⟩
  · have h1 : ¬ (1048576 : Int) < (len0 : Int) := by omega
    have S0 := hid s0
    clear s0
    go_enter Try.func5, Try.ntmps5
    go_wp2_with fail
    refine (drawRenameType_any A0 len0 cap0 w hl0 hm0 S0.out).mono ?_
    rintro e u1 ⟨t, rfl, ht, hb1⟩
    have ht1 : t.size ≤ maxLen := by unfold maxLen; omega
    have ht2 : t.size ≤ 1048576 := by omega
    obtain ⟨r, hr⟩ : ∃ r, strOf (renOf t.data.toList) = r := ⟨_, rfl⟩
    have hrl : r.data.toList = renOf t.data.toList := by rw [← hr]; exact strOf_list _
    have HR := hid hr
    clear hr
    go_wp2_with fail
    refine (renI_at t ht1 _ r HR).mono ?_
    rintro e u2 ⟨rfl, hb2⟩
    go_wp2_with fail
    refine (renS_at t ht2 _ r HR).mono ?_
    rintro e u3 ⟨rfl, hb3⟩
    have hbA := hb1.trans ((hb2.trans (hb3.mono hb2.size)).mono hb1.size)
    rcases hty : tyOf t.data.toList with _ | T
    · have hre : r.toList.isEmpty = true := by rw [ByteArray.toList_eq, hrl, renOf_no hty]; rfl
      have HV := hid (show (tyOf t.data.toList).isSome = false by rw [hty]; rfl)
      clear hrl hty
      go_wp2_with (first | (go_at_call 34; refine (renS_at t ht2 _ r HR).mono ?_; rintro e u4 ⟨rfl, hb4⟩) | (go_at_call 15; refine (typeValidI_at t _ ht1 false HV).mono ?_; rintro e u5 ⟨rfl, hb5⟩))
      go_ret
      exact ⟨rfl, hbA.trans ((hb4.trans (hb5.mono hb4.size)).mono hbA.size)⟩
    · obtain ⟨f1, f2, f3, f4⟩ := renOf_yes hty
      have hre : r.toList.isEmpty = false := by
        rw [ByteArray.toList_eq, hrl]
        cases h : renOf t.data.toList with
        | nil => exact absurd h f4
        | cons => rfl
      clear f1 f4
      go_wp2_with fail
      have hrs : r.size = t.size := by
        have e1 : r.size = r.data.toList.length := by simp
        have e2 : t.size = t.data.toList.length := by simp
        rw [e1, e2, hrl]
        exact f3
      have hr1 : r.size ≤ maxLen := by omega
      obtain ⟨q, hq⟩ : ∃ q, strOf (varsOf r.data.toList) = q := ⟨_, rfl⟩
      have hql : q.data.toList = varsOf r.data.toList := by rw [← hq]; exact strOf_list _
      have HQ := hid hq
      have hqs : q.size ≤ 6 := by
        have e1 : q.size = q.data.toList.length := by simp
        rw [e1, hql, varsOf]
        split
        · exact Nat.le_trans (List.length_filter_le _ _) (by decide)
        · simp
      have HV := hid (show ∀ (i : Nat) (h : i < q.size), (q[i]'h).toNat ≤ 90 from fun i h => by
        have hm : (q[i]'h) ∈ varsOf r.data.toList := by
          rw [← hql]
          exact List.getElem_mem (l := q.data.toList) (by simpa using h)
        rw [hrl] at hm
        exact ren_vars hty hm)
      have HTY := hid hty
      have HRL := hid hrl
      have HF2 := hid f2
      clear hty hrl f2 f3 hq hql
      refine (varsI_at r hr1 _ q HQ).mono ?_
      rintro e u4 ⟨rfl, hb4⟩
      have hbB := hbA.trans (hb4.mono hbA.size)
      go_wp2_with fail
      have HTV := hid (show (tyOf r.data.toList).isSome = true by rw [HRL.out, HF2.out]; rfl)
      obtain ⟨z, hz⟩ : ∃ z, sizeOf' t.data.toList = z := ⟨_, rfl⟩
      have HZT := hid hz
      have HZR := hid (show sizeOf' r.data.toList = z by
        rw [← hz]
        unfold sizeOf'
        rw [HRL.out, HF2.out, HTY.out]
        show ((T.ren.size : Nat) : Int) = (T.size : Nat)
        rw [ren_size])
      obtain ⟨dd, hd⟩ : ∃ z, depthOf' t.data.toList = z := ⟨_, rfl⟩
      have HDT := hid hd
      have HDR := hid (show depthOf' r.data.toList = dd by
        rw [← hd]
        unfold depthOf'
        rw [HRL.out, HF2.out, HTY.out]
        show ((T.ren.depth : Nat) : Int) = (T.depth : Nat)
        rw [ren_depth])
      have HRR := hid (show strOf (renOf r.data.toList) = r by
        rw [HRL.out, renOf_idem HTY.out]
        exact HR.out)
      obtain ⟨gb, hgb⟩ : ∃ b, groundB t.data.toList = b := ⟨_, rfl⟩
      have HGB := hid hgb
      have HEQ := hid (show gb = true → r = t by
        intro e
        rw [← HR.out, ground_ren (by rw [hgb]; exact e)]
        exact (strOf_eq rfl).symm)
      clear hz hd hgb
      go_loopw [33] (fun i wr => ∃ k : Nat, k ≤ q.size ∧ i = .int .i64 k ∧ Below w.heap.size w wr) (fun i _ => q.size - (intOf i).toNat)
      case atStart => exact ⟨0, Nat.zero_le _, rfl, hbB⟩
      case round =>
        obtain ⟨k, hk, rfl, hbel⟩ := hrel
        by_cases hlt : k < q.size
        · have hk90 := HV.out k hlt
          have i1 : (0 : Int) ≤ (k : Int) := by omega
          have i2 : (k : Int) < (q.size : Int) := by omega
          have i3 : ¬ (90 : Int) < ((q[k]'hlt).toNat : Int) := by omega
          go_wp2_with (go_at_call 23; refine (varsI_at r hr1 _ q HQ).mono ?_; rintro e u5 ⟨rfl, hb5⟩)
          go_roundw
          case rel => exact ⟨k + 1, hlt, by go_num, hbel.trans (hb5.mono hbel.size)⟩
          case measure => simp [intOf]; omega
        · go_wp2_with fail
          refine (typeValidI_at r _ hr1 true HTV).mono ?_
          rintro e v1 ⟨rfl, c1⟩
          go_wp2_with fail
          refine (sizeI_at r hr1 _ z HZR).mono ?_
          rintro e v2 ⟨rfl, c2⟩
          go_wp2_with fail
          refine (sizeI_at t ht1 _ z HZT).mono ?_
          rintro e v3 ⟨rfl, c3⟩
          go_wp2_with fail
          refine (depthI_at r hr1 _ dd HDR).mono ?_
          rintro e v4 ⟨rfl, c4⟩
          go_wp2_with fail
          refine (depthI_at t ht1 _ dd HDT).mono ?_
          rintro e v5 ⟨rfl, c5⟩
          go_wp2_with fail
          refine (renI_at r hr1 _ r HRR).mono ?_
          rintro e v6 ⟨rfl, c6⟩
          go_wp2_with fail
          refine (groundI_at t ht1 _ gb HGB).mono ?_
          rintro e v7 ⟨rfl, c7⟩
          have hz2 := c1.trans ((c2.trans ((c3.trans ((c4.trans ((c5.trans ((c6.trans (c7.mono c6.size)).mono c5.size)).mono c4.size)).mono c3.size)).mono c2.size)).mono c1.size)
          have hbZ := hbel.trans (hz2.mono hbel.size)
          cases gb
          · go_wp2_with fail
            go_ret
            exact ⟨rfl, hbZ⟩
          · have hrt := HEQ.out rfl
            go_wp2_with fail
            go_ret
            exact ⟨rfl, hbZ⟩

set_option maxRecDepth 100000 in
theorem lifted (os : Os) (started : os.Started) (H : Type) (enc : TypeId × Value → H) :
    ReturnsInHanded {} Try.checked os 5 .any (Rows.fnRenameSpec.pre6 enc Try.prog Try.f5 Rows.fnRenameRow.domain false) (Rows.fnRenameSpec.post enc Try.prog Try.f5 false true false false) := by
  refine returnsInHanded_of_change (C := Try.checked) Facts.own started (by kernel_rfl) Try.func5
    (ChangeSpec.witness6 (enc := enc) (C := Try.checked) false ⟨#[], #[.slice none 0 0], []⟩ 8 (by kernel_rfl) (by kernel_rfl) (by kernel_rfl) (by kernel_rfl)) ?_
  intro W base args ds gs before hval0 hW hcnd _
  have hval : ∀ (j : Nat) t v, Try.f5.params[j]? = some t → args[j]? = some v → Value.okWide Try.prog W .any base t v := hval0
  have hW' := hW
  obtain ⟨p, q, hA0, hV, rfl, hfz, hnd⟩ := hW
  have hA : DataW.TrodAll enc Try.prog W 0 (fun _ => true) true Try.f5.params.toList args.toList ds p := hA0
  rw [Try.params5] at hA hval
  obtain ⟨v0, vs0, d0, ds0, p0, q0, hargs, rfl, rfl, h0, r0⟩ := trodAll_cons hA
  obtain ⟨rfl, rfl, rfl⟩ := trodAll_nil r0
  obtain rfl : args = #[v0] := by cases args; simp_all
  obtain ⟨rfl, rfl⟩ := trodVars_none hV
  have k0 := h0
  have lt0 : ∀ x ∈ p0, x.block < W.heap.size := by obtain ⟨m, hm⟩ := k0; exact DataW.trod_lt m _ _ _ hm
  obtain ⟨A0, len0, cap0, rfl⟩ := okWide_slice Try.underlying22 (hval 0 22 v0 rfl rfl)
  obtain ⟨hl0, hm0, s0⟩ : len0 ≤ cap0 ∧ cap0 ≤ maxLen ∧ Bts W A0 len0 := by
    obtain ⟨fuel, hf⟩ := h0
    rcases open_ints Try.underlying22 Try.underlying5 (by kernel_rfl) hf with ⟨hcs, _⟩ | ⟨x, l, c, zs, hcs, hx0, hl, hm, hz, _, hcell, hws⟩
    · simp [Value.cells] at hcs
      obtain ⟨rfl, rfl, rfl⟩ := hcs
      exact ⟨Nat.le_refl _, Nat.zero_le _, fun h => absurd h (Nat.lt_irrefl 0)⟩
    · simp [Value.cells] at hcs
      obtain ⟨rfl, rfl, rfl⟩ := hcs
      exact ⟨hl, hm, bts_of (by rw [hz]; split <;> omega) hcell hws⟩
  clear hA0 hval0
  refine (walk  W A0 len0 cap0 hl0 hm0 s0).mono fun e W' ⟨he, bel⟩ => ?_
  subst he
  exact ⟨_, rfl, _, _, _, [], _, [], hW', trodAll_mk1 (shut_bool Try.underlying4 _), (trodAll_cons_mk (Below.trod Facts.laidOut (by kernel_rfl) (of_decide_eq_true (by kernel_rfl)) k0 bel lt0) trodAll_mk0), rfl, bel.frame _, fun h => by cases h⟩

theorem closed : joinedFacts Try.pinned.checked.prog 5 Try.f5 Rows.fnRenameSpec Rows.fnRenameRow = true := by
  simp only [joinedFacts, Bool.and_eq_true]
  refine ⟨⟨⟨⟨⟨⟨⟨⟨⟨⟨⟨⟨⟨⟨⟨⟨⟨⟨⟨⟨⟨⟨⟨⟨⟨⟨⟨⟨⟨⟨⟨?_, Facts.laidOut⟩, Facts.rowed⟩, ?_⟩, ?_⟩, ?_⟩, Facts.stops⟩, ?_⟩, Facts.knobs⟩, ?_⟩, ?_⟩, ?_⟩, ?_⟩, ?_⟩, ?_⟩, ?_⟩, ?_⟩, ?_⟩, ?_⟩, ?_⟩, ?_⟩, ?_⟩, ?_⟩, ?_⟩, Facts.heard⟩, Facts.may⟩,
    (congrArg (fun x => (Rows.fnRenameRow.lifted == x)) Facts.lifts).trans (by kernel_rfl)⟩, (congrArg (fun x => (x == some Rows.fnRenameRow.make)) Facts.makes).trans (by kernel_rfl)⟩, ?_⟩, ?_⟩, ?_⟩, ?_⟩
  all_goals kernel_rfl

theorem proved : Rows.FnRenameSaid :=
  OpenClaim.holds_of_wide 5 Try.f5 rfl rfl rfl rfl rfl rfl rfl ⟨rfl, rfl, rfl, rfl, rfl⟩ rfl rfl rfl rfl rfl (by kernel_rfl) Try.func5 closed
    (of_decide_eq_true (by kernel_rfl)) (by unfold Func.isWrapper; rw [if_neg (of_decide_eq_false (by kernel_rfl))]; exact ⟨rfl, rfl⟩)
    (fun os started H enc _ => lifted os started H enc)
end Go.Proofs.Ytechacocfpobgaa.fnRename
namespace Go.Proofs.Ytechacocfpobgaa
theorem fnRename_holds : Rows.FnRenameSaid := fnRename.proved
#print axioms fnRename_holds
end Go.Proofs.Ytechacocfpobgaa
