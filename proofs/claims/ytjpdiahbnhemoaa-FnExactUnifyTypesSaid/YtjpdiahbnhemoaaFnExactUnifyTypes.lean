/- The law FnExactUnifyTypes, proved: whatever the input, the call returns true, and each argument reads behind it as before. -/
import Derived.Test.YtjpdiahbnhemoaaFacts
import Derived.Test.YtjpdiahbnhemoaaLawB
import Derived.Test.YtjpdiahbnhemoaaUtS
import Derived.WalkKit
import Derived.ProofKit
import Derived.OpenShut
import Derived.ShutString
import Derived.ChangeOld
import Derived.Below
namespace Go.Proofs.Ytjpdiahbnhemoaa.fnExactUnifyTypes
open Go.ChangeShapes Go.WideShapes Go.ChangeAt Go.RowKit
open Go.ChangeMaps (open_string shut_string)
set_option linter.unusedVariables false

set_option maxHeartbeats 1600000 in
set_option maxRecDepth 100000 in
theorem walk (a0 : ByteArray) (w0 : a0.size ≤ maxLen) (a1 : ByteArray) (w1 : a1.size ≤ maxLen) (w : World) :
    Calls Try.prog 3 #[.string a0, .string a1] w fun e w' => e = .returned (.bool true) ∧ Below w.heap.size w w' := by
  have hm0 := w0
  have hm1 := w1
  unfold maxLen at hm0 hm1
  by_cases hl : 1048576 < a0.size
  · go_enter Try.func3, Try.ntmps3
    go_wp2_with fail
    go_ret
    exact ⟨rfl, Below.refl _ _⟩
  · by_cases hl1 : 1048576 < a1.size
    · go_enter Try.func3, Try.ntmps3
      go_wp2_with fail
      go_ret
      exact ⟨rfl, Below.refl _ _⟩
    · obtain ⟨bb, zs, hz, HS, HI⟩ : ∃ (bb : Bool) (zs : List (ByteArray × ByteArray)), zs.length ≤ 6 ∧ Hid (∀ W, Calls Try.prog 10 #[.string a0, .string a1] W (TwoEnd bb zs W)) ∧ Hid (∀ W, Calls Try.prog 11 #[.string a0, .string a1] W (TwoEnd bb zs W)) := by
        have hS := fun W => unifyTypesS_any a0 a1 W w0 w1
        have hI := fun W => unifyTypes_any a0 a1 W w0 w1
        unfold UnifyEndS at hS
        unfold UnifyEnd at hI
        rcases ho : uniOf a0.data.toList a1.data.toList with _ | g
        · simp only [ho] at hS hI
          exact ⟨false, [], by decide, fun W => (hS W).mono fun e w' h => ⟨h.1, h.2⟩, fun W => (hI W).mono fun e w' h => ⟨h.1, _, h.2, World.ownsRow_nil _ _ _ _⟩⟩
        · simp only [ho] at hS hI
          exact ⟨true, told g, told_len g, fun W => (hS W).mono fun e w' h => ⟨h.1, h.2⟩, fun W => (hI W).mono fun e w' h => ⟨h.1, h.2⟩⟩
      obtain ⟨n, hn⟩ : ∃ n, zs.length = n := ⟨_, rfl⟩
      rw [hn] at hz
      have HN := hid hn
      clear hn
      go_enter Try.func3, Try.ntmps3
      go_wp2_with fail
      refine (HS.out w).mono ?_
      rintro e u1 ⟨hb1, v1, rfl, ho1⟩
      rw [HN.out] at ho1
      obtain ⟨A1, c1, rfl, hnc1, hp1⟩ := own_pairs ho1
      clear ho1
      go_wp2_with fail
      refine (HI.out u1).mono ?_
      rintro e u2 ⟨hb2, v2, rfl, ho2⟩
      rw [HN.out] at ho2
      obtain ⟨A2, c2, rfl, hnc2, hp2⟩ := own_pairs ho2
      have hp12 := hp1.below hb2
      have z1 := hb1.size
      have z2 := hb2.size
      have HO2 := hid ho2
      clear ho2
      go_wp2_with fail
      refine (eqBindingS_same A2 A1 n c2 c1 zs u2 hp2 hp12 (by omega)).mono ?_
      rintro e u3 ⟨rfl, hb3⟩
      have z3 := hb3.size
      have hp3 := hp12.below hb3
      have HO3 := hid (row_kept HO2.out hb3)
      have hbw3 : Below w.heap.size w u3 := hb1.trans ((hb2.trans (hb3.mono z2)).mono z1)
      rcases row_two HO3.out with ⟨e2, hn0, hz0⟩ | ⟨g, e2, hg, hrow⟩
      · simp only [Value.slice.injEq] at e2
        obtain ⟨rfl, rfl, rfl⟩ := e2
        subst hz0
        go_wp2_with fail
        refine (markBindingS_nil 1 0 u3).mono ?_
        rintro e u4 ⟨rfl, hu4⟩
        obtain rfl := hu4.symm
        go_wp2_with fail
        refine (heldBindingS_any none 1 0 0 u3 ⟨rfl, fun h => absurd h (Nat.lt_irrefl 0)⟩ (by decide) (by decide)).mono ?_
        rintro e u5 ⟨rfl, hb5⟩
        have z5 := hb5.size
        go_wp2_with fail
        refine (HI.out u5).mono ?_
        rintro e u6 ⟨hb6, v6, rfl, ho6⟩
        rw [HN.out] at ho6
        obtain ⟨A6, c6, rfl, hnc6, hp6⟩ := own_pairs ho6
        have z6 := hb6.size
        have hp36 := (hp3.below hb5).below hb6
        clear ho6
        go_wp2_with fail
        refine (eqBindingS_same A6 A1 0 c6 c1 [] u6 hp6 hp36 (by decide)).mono ?_
        rintro e u7 ⟨rfl, hb7⟩
        go_wp2_with fail
        refine (heldBindingS_any none 1 0 0 u7 ⟨rfl, fun h => absurd h (Nat.lt_irrefl 0)⟩ (by decide) (by decide)).mono ?_
        rintro e u8 ⟨rfl, hb8⟩
        go_wp2_with fail
        go_ret
        have h38 : Below u3.heap.size u3 u8 := hb5.trans ((hb6.trans ((hb7.trans (hb8.mono hb7.size)).mono z6)).mono z5)
        exact ⟨rfl, hbw3.trans (h38.mono hbw3.size)⟩
      · obtain rfl : A2 = some ⟨g, 0, none⟩ := by
          simp only [Value.slice.injEq] at e2
          exact e2.1
        clear e2
        go_wp2_with fail
        refine (markBindingS_any g 1 n c2 zs u3 hrow (by decide) (by omega)).mono ?_
        rintro e u4 ⟨rfl, hmk, hbut⟩
        have z4 : u3.heap.size ≤ u4.heap.size := hbut.size
        have zm : g < u4.heap.size := by obtain ⟨cur, h1, _⟩ := hmk; exact (Array.getElem?_eq_some_iff.1 h1).1
        have hb4 : Below u1.heap.size u3 u4 := hbut.below' (by omega) hg
        have hp1c : Prs u3 A1 n zs → Prs u4 A1 n zs := fun h => h.low (k := u1.heap.size) (fun hn0 => let ⟨g0, o, e, hlt, _⟩ := hp1.2 hn0; ⟨g0, o, e, hlt⟩) hb4
        have hp4 := hp1c hp3
        have HMK := hid hmk
        clear hmk hp1c hrow
        go_wp2_with fail
        refine (heldBindingS_any (some ⟨g, 0, none⟩) 1 n c2 u4 HMK.out.prs (by decide) (by omega)).mono ?_
        rintro e u5 ⟨rfl, hb5⟩
        have z5 := hb5.size
        go_wp2_with fail
        refine (HI.out u5).mono ?_
        rintro e u6 ⟨hb6, v6, rfl, ho6⟩
        rw [HN.out] at ho6
        obtain ⟨A6, c6, rfl, hnc6, hp6⟩ := own_pairs ho6
        have z6 := hb6.size
        have hp46 := (hp4.below hb5).below hb6
        have hm6 := (HMK.out.prs.below hb5).below hb6
        clear ho6
        go_wp2_with fail
        refine (eqBindingS_same A6 A1 n c6 c1 zs u6 hp6 hp46 (by omega)).mono ?_
        rintro e u7 ⟨rfl, hb7⟩
        go_wp2_with fail
        refine (heldBindingS_any (some ⟨g, 0, none⟩) 1 n c2 u7 (hm6.below hb7) (by decide) (by omega)).mono ?_
        rintro e u8 ⟨rfl, hb8⟩
        go_wp2_with fail
        go_ret
        have h48 : Below u4.heap.size u4 u8 := hb5.trans ((hb6.trans ((hb7.trans (hb8.mono hb7.size)).mono z6)).mono z5)
        have h34 : Below u1.heap.size u3 u8 := hb4.trans (h48.mono (by omega))
        exact ⟨rfl, hbw3.trans (h34.mono z1)⟩

set_option maxRecDepth 100000 in
theorem lifted (os : Os) (started : os.Started) (H : Type) (enc : TypeId × Value → H) :
    ReturnsInHanded {} Try.checked os 3 .any (Rows.fnExactUnifyTypesSpec.pre6 enc Try.prog Try.f3 Rows.fnExactUnifyTypesRow.domain false) (Rows.fnExactUnifyTypesSpec.post enc Try.prog Try.f3 false true false false) := by
  refine returnsInHanded_of_change (C := Try.checked) Facts.own started (by kernel_rfl) Try.func3
    (ChangeSpec.witness6 (enc := enc) (C := Try.checked) false ⟨#[], #[.string ByteArray.empty, .string ByteArray.empty], []⟩ 8 (by kernel_rfl) (by kernel_rfl) (by kernel_rfl) (by kernel_rfl)) ?_
  intro W base args ds gs before hval0 hW hcnd _
  have hval : ∀ (j : Nat) t v, Try.f3.params[j]? = some t → args[j]? = some v → Value.okWide Try.prog W .any base t v := hval0
  have hW' := hW
  obtain ⟨p, q, hA0, hV, rfl, hfz, hnd⟩ := hW
  have hA : DataW.TrodAll enc Try.prog W 0 (fun _ => true) true Try.f3.params.toList args.toList ds p := hA0
  rw [Try.params3] at hA hval
  obtain ⟨v0, vs0, d0, ds0, p0, q0, hargs, rfl, rfl, h0, r0⟩ := trodAll_cons hA
  obtain ⟨v1, vs1, d1, ds1, p1, q1, rfl, rfl, rfl, h1, r1⟩ := trodAll_cons r0
  obtain ⟨rfl, rfl, rfl⟩ := trodAll_nil r1
  obtain rfl : args = #[v0, v1] := by cases args; simp_all
  obtain ⟨rfl, rfl⟩ := trodVars_none hV
  have k0 := h0
  have lt0 : ∀ x ∈ p0, x.block < W.heap.size := by obtain ⟨m, hm⟩ := k0; exact DataW.trod_lt m _ _ _ hm
  obtain ⟨a0, rfl, e0a, e0b, w0⟩ := open_string Try.underlying9 (hval 0 9 v0 rfl rfl) h0
  have k1 := h1
  have lt1 : ∀ x ∈ p1, x.block < W.heap.size := by obtain ⟨m, hm⟩ := k1; exact DataW.trod_lt m _ _ _ hm
  obtain ⟨a1, rfl, e1a, e1b, w1⟩ := open_string Try.underlying9 (hval 1 9 v1 rfl rfl) h1
  clear hA0 hval0
  refine (walk a0 w0 a1 w1 W ).mono fun e W' ⟨he, bel⟩ => ?_
  subst he
  exact ⟨_, rfl, _, _, _, [], _, [], hW', trodAll_mk1 (shut_bool Try.underlying4 _), (trodAll_cons_mk (Below.trod Facts.laidOut (by kernel_rfl) (of_decide_eq_true (by kernel_rfl)) k0 bel lt0) (trodAll_cons_mk (Below.trod Facts.laidOut (by kernel_rfl) (of_decide_eq_true (by kernel_rfl)) k1 bel lt1) trodAll_mk0)), rfl, bel.frame _, fun h => by cases h⟩

theorem closed : joinedFacts Try.pinned.checked.prog 3 Try.f3 Rows.fnExactUnifyTypesSpec Rows.fnExactUnifyTypesRow = true := by
  simp only [joinedFacts, Bool.and_eq_true]
  refine ⟨⟨⟨⟨⟨⟨⟨⟨⟨⟨⟨⟨⟨⟨⟨⟨⟨⟨⟨⟨⟨⟨⟨⟨⟨⟨⟨⟨⟨⟨⟨?_, Facts.laidOut⟩, Facts.rowed⟩, ?_⟩, ?_⟩, ?_⟩, Facts.stops⟩, ?_⟩, Facts.knobs⟩, ?_⟩, ?_⟩, ?_⟩, ?_⟩, ?_⟩, ?_⟩, ?_⟩, ?_⟩, ?_⟩, ?_⟩, ?_⟩, ?_⟩, ?_⟩, ?_⟩, ?_⟩, Facts.heard⟩, Facts.may⟩,
    (congrArg (fun x => (Rows.fnExactUnifyTypesRow.lifted == x)) Facts.lifts).trans (by kernel_rfl)⟩, (congrArg (fun x => (x == some Rows.fnExactUnifyTypesRow.make)) Facts.makes).trans (by kernel_rfl)⟩, ?_⟩, ?_⟩, ?_⟩, ?_⟩
  all_goals kernel_rfl

theorem proved : Rows.FnExactUnifyTypesSaid :=
  OpenClaim.holds_of_wide 3 Try.f3 rfl rfl rfl rfl rfl rfl rfl ⟨rfl, rfl, rfl, rfl, rfl⟩ rfl rfl rfl rfl rfl (by kernel_rfl) Try.func3 closed
    (of_decide_eq_true (by kernel_rfl)) (by unfold Func.isWrapper; rw [if_neg (of_decide_eq_false (by kernel_rfl))]; exact ⟨rfl, rfl⟩)
    (fun os started H enc _ => lifted os started H enc)
end Go.Proofs.Ytjpdiahbnhemoaa.fnExactUnifyTypes
namespace Go.Proofs.Ytjpdiahbnhemoaa
theorem fnExactUnifyTypes_holds : Rows.FnExactUnifyTypesSaid := fnExactUnifyTypes.proved
#print axioms fnExactUnifyTypes_holds
end Go.Proofs.Ytjpdiahbnhemoaa
