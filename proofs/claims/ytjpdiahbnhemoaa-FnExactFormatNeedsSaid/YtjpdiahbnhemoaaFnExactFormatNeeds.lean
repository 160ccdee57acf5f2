/- The law FnExactFormatNeeds, proved: whatever the input, the call returns true, and each argument reads behind it as before. -/
import Derived.Test.YtjpdiahbnhemoaaFacts
import Derived.Test.YtjpdiahbnhemoaaFnd
import Derived.Test.YtjpdiahbnhemoaaArgsN
import Derived.WalkKit
import Derived.ProofKit
import Derived.OpenShut
import Derived.ShutString
import Derived.ChangeOld
import Derived.Below
import Derived.Deep.SlicePairs
namespace Go.Proofs.Ytjpdiahbnhemoaa.fnExactFormatNeeds
open Go.ChangeShapes Go.WideShapes Go.ChangeAt Go.RowKit
open Go.ChangeMaps (open_string shut_string)
set_option linter.unusedVariables false

set_option maxHeartbeats 1600000 in
set_option maxRecDepth 100000 in
theorem walk (w : World) (A0 : Option Addr) (len0 cap0 : Nat) (z0 : List (ByteArray × ByteArray)) (hl0 : len0 ≤ cap0) (hm0 : cap0 ≤ maxLen) (s0 : Prs w A0 len0 z0) (hz0 : ∀ z ∈ z0, z.1.size ≤ maxLen ∧ z.2.size ≤ maxLen) :
    Calls Try.prog 9 #[.slice A0 len0 cap0] w fun e w' => e = .returned (.bool true) ∧ Below w.heap.size w w' := by
  have hn0 : len0 ≤ maxLen := Nat.le_trans hl0 hm0
  obtain ⟨q, hq⟩ : ∃ q, fmN z0 = q := ⟨_, rfl⟩
  have HQ := hid hq
  clear hq
  have S0 := hid s0
  clear s0
  go_enter Try.func9, Try.ntmps9
  go_wp2_with fail
  refine (szNeedS_any A0 len0 cap0 z0 1048576 w S0.out hz0 hn0 (Nat.le_refl _)).mono ?_
  rintro e v0 ⟨r, rfl, b0, hr⟩
  rcases hr with rfl | ⟨r', rfl, hr2⟩
  · go_wp2_with fail
    go_ret
    exact ⟨rfl, b0⟩
  · have hr0' : ¬ (r' : Int) < 0 := by omega
    have hr4 : len0 + tot z0 ≤ 1048576 := by omega
    have hr3 : len0 ≤ 1048576 := by omega
    clear hr2
    have st0 : Prs v0 A0 len0 z0 := S0.out.below b0
    go_wp2_with fail
    refine (toNeedS_any A0 len0 cap0 z0 v0 st0 hr3).mono ?_
    rintro e v1 ⟨rfl, ho1, hb1⟩
    go_wp2_with fail
    refine (formatNeedsS_any _ len0 len0 z0 v1 ho1.prs hr4).mono ?_
    rintro e v2 ⟨rfl, hb2⟩
    rw [HQ.out]
    have b02 : Below v0.heap.size v0 v2 := hb1.trans (hb2.mono hb1.size)
    have st2 := st0.below b02
    go_wp2_with fail
    refine (toNeedS_any A0 len0 cap0 z0 v2 st2 hr3).mono ?_
    rintro e v3 ⟨rfl, ho3, hb3⟩
    go_wp2_with fail
    refine (formatNeedsI_any _ len0 len0 z0 v3 ho3.prs hr4).mono ?_
    rintro e v4 ⟨rfl, hb4⟩
    rw [HQ.out]
    have b24 : Below v2.heap.size v2 v4 := hb3.trans (hb4.mono hb3.size)
    have b04 : Below v0.heap.size v0 v4 := b02.trans (b24.mono b02.size)
    have st4 := st0.below b04
    have sx4 : Prs v4 (some ⟨v2.heap.size, 0, none⟩) len0 z0 := ho3.prs.below hb4
    go_wp2_with fail
    refine (toNeedS_any A0 len0 cap0 z0 v4 st4 hr3).mono ?_
    rintro e v5 ⟨rfl, ho5, hb5⟩
    have sx5 := sx4.below hb5
    go_wp2_with fail
    refine (eqNeedS_same _ _ len0 len0 len0 z0 v5 sx5 ho5.prs hr3).mono ?_
    rintro e v6 ⟨rfl, hb6⟩
    go_wp2_with fail
    go_ret
    have b05 := b04.trans (hb5.mono b04.size)
    have b06 := b05.trans (hb6.mono b05.size)
    exact ⟨rfl, b0.trans (b06.mono b0.size)⟩

set_option maxRecDepth 100000 in
theorem lifted (os : Os) (started : os.Started) (H : Type) (enc : TypeId × Value → H) :
    ReturnsInHanded {} Try.checked os 9 .any (Rows.fnExactFormatNeedsSpec.pre6 enc Try.prog Try.f9 Rows.fnExactFormatNeedsRow.domain false) (Rows.fnExactFormatNeedsSpec.post enc Try.prog Try.f9 false true false false) := by
  refine returnsInHanded_of_change (C := Try.checked) Facts.own started (by kernel_rfl) Try.func9
    (ChangeSpec.witness6 (enc := enc) (C := Try.checked) false ⟨#[], #[.slice none 0 0], []⟩ 8 (by kernel_rfl) (by kernel_rfl) (by kernel_rfl) (by kernel_rfl)) ?_
  intro W base args ds gs before hval0 hW hcnd _
  have hval : ∀ (j : Nat) t v, Try.f9.params[j]? = some t → args[j]? = some v → Value.okWide Try.prog W .any base t v := hval0
  have hW' := hW
  obtain ⟨p, q, hA0, hV, rfl, hfz, hnd⟩ := hW
  have hA : DataW.TrodAll enc Try.prog W 0 (fun _ => true) true Try.f9.params.toList args.toList ds p := hA0
  rw [Try.params9] at hA hval
  obtain ⟨v0, vs0, d0, ds0, p0, q0, hargs, rfl, rfl, h0, rr0⟩ := trodAll_cons hA
  obtain ⟨rfl, rfl, rfl⟩ := trodAll_nil rr0
  obtain rfl : args = #[v0] := by cases args; simp_all
  obtain ⟨rfl, rfl⟩ := trodVars_none hV
  have k0 := h0
  have lt0 : ∀ x ∈ p0, x.block < W.heap.size := by obtain ⟨m, hm⟩ := k0; exact DataW.trod_lt m _ _ _ hm
  obtain ⟨A0, len0, cap0, rfl⟩ := okWide_slice Try.underlying40 (hval 0 40 v0 rfl rfl)
  obtain ⟨z0, hl0, hm0, s0, hz0⟩ : ∃ zs, len0 ≤ cap0 ∧ cap0 ≤ maxLen ∧ Prs W A0 len0 zs ∧ ∀ z ∈ zs, z.1.size ≤ maxLen ∧ z.2.size ≤ maxLen := by
    obtain ⟨fuel, hf⟩ := h0
    rcases Go.Deep.open_slice_pairs Try.underlying40 Try.underlying34 (by kernel_rfl) rfl rfl (by kernel_rfl) (by kernel_rfl) hf with ⟨hcs, _⟩ | ⟨x, l, c, m, n, V0, V1, D0, D1, P0, P1, hcs, hx0, hl, hm, hmm, _, hall⟩
    · simp [Value.cells] at hcs
      obtain ⟨rfl, rfl, rfl⟩ := hcs
      exact ⟨[], Nat.le_refl _, Nat.zero_le _, ⟨rfl, fun h => absurd h (Nat.lt_irrefl 0)⟩, fun x hx => by cases hx⟩
    · simp [Value.cells] at hcs
      obtain ⟨rfl, rfl, rfl⟩ := hcs
      obtain ⟨zs, hp, hq⟩ := prs_of (a := x) (V0 := V0) (V1 := V1) (m := m) (by rw [hmm]; split <;> omega) (fun i hi => ⟨(hall i hi).1, (hall i hi).2.1⟩) (fun i hi => by
        obtain ⟨s1, e1, _, h1⟩ := DataW.trod_string Try.underlying9 (hall i hi).2.2.1
        obtain ⟨s2, e2, _, h2⟩ := DataW.trod_string Try.underlying9 (hall i hi).2.2.2
        simp only [List.cons.injEq, and_true] at e1 e2
        exact ⟨⟨s1, e1, h1⟩, s2, e2, h2⟩)
      exact ⟨zs, hl, hm, hp, hq⟩
  clear hA0 hval0
  refine (walk  W A0 len0 cap0 z0 hl0 hm0 s0 hz0).mono fun e W' ⟨hend, bel⟩ => ?_
  subst hend
  exact ⟨_, rfl, _, _, _, [], _, [], hW', trodAll_mk1 (shut_bool Try.underlying4 _), (trodAll_cons_mk (Below.trod Facts.laidOut (by kernel_rfl) (of_decide_eq_true (by kernel_rfl)) k0 bel lt0) trodAll_mk0), rfl, bel.frame _, fun h => by cases h⟩

theorem closed : joinedFacts Try.pinned.checked.prog 9 Try.f9 Rows.fnExactFormatNeedsSpec Rows.fnExactFormatNeedsRow = true := by
  simp only [joinedFacts, Bool.and_eq_true]
  refine ⟨⟨⟨⟨⟨⟨⟨⟨⟨⟨⟨⟨⟨⟨⟨⟨⟨⟨⟨⟨⟨⟨⟨⟨⟨⟨⟨⟨⟨⟨⟨?_, Facts.laidOut⟩, Facts.rowed⟩, ?_⟩, ?_⟩, ?_⟩, Facts.stops⟩, ?_⟩, Facts.knobs⟩, ?_⟩, ?_⟩, ?_⟩, ?_⟩, ?_⟩, ?_⟩, ?_⟩, ?_⟩, ?_⟩, ?_⟩, ?_⟩, ?_⟩, ?_⟩, ?_⟩, ?_⟩, Facts.heard⟩, Facts.may⟩,
    (congrArg (fun x => (Rows.fnExactFormatNeedsRow.lifted == x)) Facts.lifts).trans (by kernel_rfl)⟩, (congrArg (fun x => (x == some Rows.fnExactFormatNeedsRow.make)) Facts.makes).trans (by kernel_rfl)⟩, ?_⟩, ?_⟩, ?_⟩, ?_⟩
  all_goals kernel_rfl

theorem proved : Rows.FnExactFormatNeedsSaid :=
  OpenClaim.holds_of_wide 9 Try.f9 rfl rfl rfl rfl rfl rfl rfl ⟨rfl, rfl, rfl, rfl, rfl⟩ rfl rfl rfl rfl rfl (by kernel_rfl) Try.func9 closed
    (of_decide_eq_true (by kernel_rfl)) (by unfold Func.isWrapper; rw [if_neg (of_decide_eq_false (by kernel_rfl))]; exact ⟨rfl, rfl⟩)
    (fun os started H enc _ => lifted os started H enc)
end Go.Proofs.Ytjpdiahbnhemoaa.fnExactFormatNeeds
namespace Go.Proofs.Ytjpdiahbnhemoaa
theorem fnExactFormatNeeds_holds : Rows.FnExactFormatNeedsSaid := fnExactFormatNeeds.proved
#print axioms fnExactFormatNeeds_holds
end Go.Proofs.Ytjpdiahbnhemoaa
