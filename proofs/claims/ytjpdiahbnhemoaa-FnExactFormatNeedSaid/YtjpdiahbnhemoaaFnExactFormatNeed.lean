/- The law FnExactFormatNeed, proved: whatever the input, the call returns true, and each argument reads behind it as before. -/
import Derived.Test.YtjpdiahbnhemoaaFacts
import Derived.Test.YtjpdiahbnhemoaaNdS
import Derived.Test.YtjpdiahbnhemoaaBvI
import Derived.Test.YtjpdiahbnhemoaaOpen
import Derived.WalkKit
import Derived.ProofKit
import Derived.OpenShut
import Derived.ShutString
import Derived.ChangeOld
import Derived.Below
namespace Go.Proofs.Ytjpdiahbnhemoaa.fnExactFormatNeed
open Go.ChangeShapes Go.WideShapes Go.ChangeAt Go.RowKit
open Go.ChangeMaps (open_string shut_string)
set_option linter.unusedVariables false

set_option maxHeartbeats 1600000 in
set_option maxRecDepth 100000 in
theorem walk (x0 y0 : ByteArray) (u0 : x0.size ≤ maxLen) (w0 : y0.size ≤ maxLen) (w : World) :
    Calls Try.prog 7 #[.agg #[.string x0, .string y0]] w fun e w' => e = .returned (.bool true) ∧ Below w.heap.size w w' := by
  go_enter Try.func7, Try.ntmps7
  go_wp2_with fail
  refine (szNeed_any x0 y0 1048576 _ u0 w0 (Nat.le_refl _)).mono ?_
  rintro e v0 ⟨r, rfl, b0, hr⟩
  have hw0 : ∀ o, Below w.heap.size w (w.alloc o) := fun o => (Below.refl _ _).alloc (Nat.le_refl _) o
  rcases hr with ⟨rfl, hr⟩ | ⟨hr, rfl⟩
  · go_wp2_with fail
    go_ret
    exact ⟨rfl, (hw0 _).trans (b0.mono (hw0 _).size)⟩
  · obtain ⟨q, hq⟩ : ∃ q, strOf (ndt (x0, y0)) = q := ⟨_, rfl⟩
    have HQ := hid hq
    clear hq
    have hr0 : (0 : Int) ≤ ((1048576 - (x0.size + y0.size) : Nat) : Int) := by omega
    have z0 : w.heap.size < v0.heap.size := (by have := b0.size; simp only [World.size_alloc] at this; omega)
    have C0 : v0.cell? ⟨w.heap.size, 0, none⟩ = some (.string x0) := cell_below (two_cells' (heap_new1 w (.cells #[.string x0, .string y0] 34))).1 (by simp only [World.size_alloc]; omega) b0
    have C1 : v0.cell? ⟨w.heap.size, 1, none⟩ = some (.string y0) := cell_below (two_cells' (heap_new1 w (.cells #[.string x0, .string y0] 34))).2.1 (by simp only [World.size_alloc]; omega) b0
    have B0 := (hw0 (.cells #[.string x0, .string y0] 34)).trans (b0.mono (hw0 _).size)
    go_wp2_with fail
    refine (toNeed_any x0 y0 _).mono ?_
    rintro e v1 ⟨rfl, b1⟩
    go_wp2_with fail
    refine (formatNeedS_any x0 y0 _ (by omega)).mono ?_
    rintro e v2 ⟨rfl, b2⟩
    rw [HQ.out]
    have B2 := b1.trans (b2.mono b1.size)
    have D0 := cell_below C0 z0 B2
    have D1 := cell_below C1 z0 B2
    go_wp2_with fail
    refine (toNeed_any x0 y0 _).mono ?_
    rintro e v3 ⟨rfl, b3⟩
    go_wp2_with fail
    refine (formatNeedI_any x0 y0 _ (by omega)).mono ?_
    rintro e v4 ⟨rfl, b4⟩
    rw [HQ.out]
    go_wp2_with fail
    go_ret
    exact ⟨rfl, B0.trans ((B2.trans ((b3.trans (b4.mono b3.size)).mono B2.size)).mono B0.size)⟩

set_option maxRecDepth 100000 in
theorem lifted (os : Os) (started : os.Started) (H : Type) (enc : TypeId × Value → H) :
    ReturnsInHanded {} Try.checked os 7 .any (Rows.fnExactFormatNeedSpec.pre6 enc Try.prog Try.f7 Rows.fnExactFormatNeedRow.domain false) (Rows.fnExactFormatNeedSpec.post enc Try.prog Try.f7 false true false false) := by
  refine returnsInHanded_of_change (C := Try.checked) Facts.own started (by kernel_rfl) Try.func7
    (ChangeSpec.witness6 (enc := enc) (C := Try.checked) false ⟨#[], #[.agg #[.string ByteArray.empty, .string ByteArray.empty]], []⟩ 8 (by kernel_rfl) (by kernel_rfl) (by kernel_rfl) (by kernel_rfl)) ?_
  intro W base args ds gs before hval0 hW hcnd _
  have hval : ∀ (j : Nat) t v, Try.f7.params[j]? = some t → args[j]? = some v → Value.okWide Try.prog W .any base t v := hval0
  have hW' := hW
  obtain ⟨p, q, hA0, hV, rfl, hfz, hnd⟩ := hW
  have hA : DataW.TrodAll enc Try.prog W 0 (fun _ => true) true Try.f7.params.toList args.toList ds p := hA0
  rw [Try.params7] at hA hval
  obtain ⟨v0, vs0, d0, ds0, p0, q0, hargs, rfl, rfl, h0, r0⟩ := trodAll_cons hA
  obtain ⟨rfl, rfl, rfl⟩ := trodAll_nil r0
  obtain rfl : args = #[v0] := by cases args; simp_all
  obtain ⟨rfl, rfl⟩ := trodVars_none hV
  have k0 := h0
  have lt0 : ∀ x ∈ p0, x.block < W.heap.size := by obtain ⟨m, hm⟩ := k0; exact DataW.trod_lt m _ _ _ hm
  obtain ⟨cs0, rfl, sz0⟩ := okWide_struct Try.underlying34 (hval 0 34 v0 rfl rfl)
  obtain ⟨x0, y0, e0, u0, w0⟩ : ∃ x0 y0, Value.agg cs0 = .agg #[.string x0, .string y0] ∧ x0.size ≤ maxLen ∧ y0.size ≤ maxLen := by
    obtain ⟨fuel, hf⟩ := h0
    obtain ⟨x0, y0, e, u0, w0⟩ := open_need hf
    exact ⟨x0, y0, agg_of e, u0, w0⟩
  rw [e0] at hA0 hW' k0 ⊢
  clear hA0 hval0
  refine (walk x0 y0 u0 w0 W ).mono fun e W' ⟨he, bel⟩ => ?_
  subst he
  exact ⟨_, rfl, _, _, _, [], _, [], hW', trodAll_mk1 (shut_bool Try.underlying4 _), (trodAll_cons_mk (Below.trod Facts.laidOut (by kernel_rfl) (of_decide_eq_true (by kernel_rfl)) k0 bel lt0) trodAll_mk0), rfl, bel.frame _, fun h => by cases h⟩

theorem closed : joinedFacts Try.pinned.checked.prog 7 Try.f7 Rows.fnExactFormatNeedSpec Rows.fnExactFormatNeedRow = true := by
  simp only [joinedFacts, Bool.and_eq_true]
  refine ⟨⟨⟨⟨⟨⟨⟨⟨⟨⟨⟨⟨⟨⟨⟨⟨⟨⟨⟨⟨⟨⟨⟨⟨⟨⟨⟨⟨⟨⟨⟨?_, Facts.laidOut⟩, Facts.rowed⟩, ?_⟩, ?_⟩, ?_⟩, Facts.stops⟩, ?_⟩, Facts.knobs⟩, ?_⟩, ?_⟩, ?_⟩, ?_⟩, ?_⟩, ?_⟩, ?_⟩, ?_⟩, ?_⟩, ?_⟩, ?_⟩, ?_⟩, ?_⟩, ?_⟩, ?_⟩, Facts.heard⟩, Facts.may⟩,
    (congrArg (fun x => (Rows.fnExactFormatNeedRow.lifted == x)) Facts.lifts).trans (by kernel_rfl)⟩, (congrArg (fun x => (x == some Rows.fnExactFormatNeedRow.make)) Facts.makes).trans (by kernel_rfl)⟩, ?_⟩, ?_⟩, ?_⟩, ?_⟩
  all_goals kernel_rfl

theorem proved : Rows.FnExactFormatNeedSaid :=
  OpenClaim.holds_of_wide 7 Try.f7 rfl rfl rfl rfl rfl rfl rfl ⟨rfl, rfl, rfl, rfl, rfl⟩ rfl rfl rfl rfl rfl (by kernel_rfl) Try.func7 closed
    (of_decide_eq_true (by kernel_rfl)) (by unfold Func.isWrapper; rw [if_neg (of_decide_eq_false (by kernel_rfl))]; exact ⟨rfl, rfl⟩)
    (fun os started H enc _ => lifted os started H enc)
end Go.Proofs.Ytjpdiahbnhemoaa.fnExactFormatNeed
namespace Go.Proofs.Ytjpdiahbnhemoaa
theorem fnExactFormatNeed_holds : Rows.FnExactFormatNeedSaid := fnExactFormatNeed.proved
#print axioms fnExactFormatNeed_holds
end Go.Proofs.Ytjpdiahbnhemoaa
