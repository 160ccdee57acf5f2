/- The law FnExactFormatInstance, proved: whatever the input, the call returns true, and each argument reads behind it as before. -/
import Derived.Test.YtjpdiahbnhemoaaFacts
import Derived.Test.YtjpdiahbnhemoaaNdS
import Derived.Test.YtjpdiahbnhemoaaInsA
import Derived.Test.YtjpdiahbnhemoaaBvI
import Derived.Test.YtjpdiahbnhemoaaOpen
import Derived.WalkKit
import Derived.ProofKit
import Derived.OpenShut
import Derived.ShutString
import Derived.ChangeOld
import Derived.Below
namespace Go.Proofs.Ytjpdiahbnhemoaa.fnExactFormatInstance
open Go.ChangeShapes Go.WideShapes Go.ChangeAt Go.RowKit
open Go.ChangeMaps (open_string shut_string)
set_option linter.unusedVariables false

set_option maxHeartbeats 1600000 in
set_option maxRecDepth 100000 in
theorem walk (w : World) (x0 y0 : ByteArray) (A0 : Option Addr) (len0 cap0 : Nat) (z0 : List (ByteArray × ByteArray)) (hl0 : len0 ≤ cap0) (hm0 : cap0 ≤ maxLen) (s0 : Prs w A0 len0 z0) (hz0 : InsOk ⟨x0, y0, z0⟩) :
    Calls Try.prog 8 #[.agg #[.string x0, .string y0, .slice A0 len0 cap0]] w fun e w' => e = .returned (.bool true) ∧ Below w.heap.size w w' := by
  have hn0 : len0 ≤ maxLen := Nat.le_trans hl0 hm0
  obtain ⟨q, hq⟩ : ∃ q, strOf (insL ⟨x0, y0, z0⟩) = q := ⟨_, rfl⟩
  have HQ := hid hq
  clear hq
  have S0 := hid s0
  have HZ := hid hz0
  clear s0 hz0
  have hw0 : ∀ o, Below w.heap.size w (w.alloc o) := fun o => (Below.refl _ _).alloc (Nat.le_refl _) o
  go_enter Try.func8, Try.ntmps8
  go_wp2_with fail
  refine (szInstance_any x0 y0 A0 len0 cap0 z0 1048576 _ (S0.out.below (hw0 _)) hn0 HZ.out (Nat.le_refl _)).mono ?_
  rintro e v0 ⟨r, rfl, b0, hr⟩
  have B0 := hid ((hw0 (.cells #[.string x0, .string y0, .slice A0 len0 cap0] 42)).trans (b0.mono (hw0 _).size))
  have z0' : w.heap.size < v0.heap.size := (by have := b0.size; simp only [World.size_alloc] at this; omega)
  have E0 := hid (show v0.heap[w.heap.size]? = some (.cells #[.string x0, .string y0, .slice A0 len0 cap0] 42 (0, 0)) from (b0.block _ (by simp only [World.size_alloc]; omega)).trans (heap_new1 w _))
  rcases hr with rfl | ⟨r', rfl, hr'⟩
  · go_wp2_with fail
    go_ret
    exact ⟨rfl, B0.out⟩
  · have hr0 : (0 : Int) ≤ (r' : Int) := by omega
    have HI := hid (show insTot ⟨x0, y0, z0⟩ ≤ 1048576 by omega)
    have hlen : len0 ≤ 1048576 := by
      have h1 := HI.out
      have h2 := S0.out.1
      unfold insTot at h1
      simp only at h1
      omega
    clear hr'
    have C0 := cell_blk E0.out (j := 0) rfl
    have C1 := cell_blk E0.out (j := 1) rfl
    have C2 := cell_blk E0.out (j := 2) rfl
    have st0 := hid (S0.out.below B0.out)
    go_wp2_with fail
    refine (toInstance_any x0 y0 A0 len0 cap0 z0 v0 st0.out hlen).mono ?_
    rintro e v1 ⟨g1, rfl, hg1, ho1, b1⟩
    have O1 := hid ho1
    clear ho1
    go_wp2_with fail
    refine (formatInstanceS_any x0 y0 _ len0 len0 z0 v1 O1.out.prs HI.out).mono ?_
    rintro e v2 ⟨rfl, b2⟩
    rw [HQ.out]
    have B2 := hid (b1.trans (b2.mono b1.size))
    have st2 := hid (st0.out.below B2.out)
    have E2 := hid ((B2.out.block _ z0').trans E0.out)
    have z2 := B2.out.size
    have D0 := cell_blk E2.out (j := 0) rfl
    have D1 := cell_blk E2.out (j := 1) rfl
    have D2 := cell_blk E2.out (j := 2) rfl
    go_wp2_with fail
    refine (toInstance_any x0 y0 A0 len0 cap0 z0 v2 st2.out hlen).mono ?_
    rintro e v3 ⟨g3, rfl, hg3, ho3, b3⟩
    have O3 := hid ho3
    clear ho3
    have z3 := b3.size
    go_wp2_with fail
    have hw3 : ∀ o, Below v3.heap.size v3 (v3.alloc o) := fun o => (Below.refl _ _).alloc (Nat.le_refl _) o
    refine (formatInstanceI_any x0 y0 _ len0 len0 z0 _ (O3.out.prs.below (hw3 _)) HI.out).mono ?_
    rintro e v4 ⟨rfl, b4⟩
    rw [HQ.out]
    have z4 : v3.heap.size < v4.heap.size := (by have := b4.size; simp only [World.size_alloc] at this; omega)
    have B4 := hid ((hw3 (.cells #[.string x0, .string y0, .slice (some ⟨g3, 0, none⟩) len0 len0] 47)).trans (b4.mono (hw3 _).size))
    have E4 := hid (show v4.heap[v3.heap.size]? = some (.cells #[.string x0, .string y0, .slice (some ⟨g3, 0, none⟩) len0 len0] 47 (0, 0)) from (b4.block _ (by simp only [World.size_alloc]; omega)).trans (heap_new1 v3 _))
    have P4 := hid (O3.out.prs.below B4.out)
    have B24 := hid (b3.trans (B4.out.mono z3))
    have st4 := hid (st2.out.below B24.out)
    have F4 := hid ((B24.out.block _ (by omega)).trans E2.out)
    have BW4 := hid (B0.out.trans ((B2.out.trans (B24.out.mono z2)).mono B0.out.size))
    have c0 := cell_blk E4.out (j := 0) rfl
    have c1 := cell_blk E4.out (j := 1) rfl
    have c2 := cell_blk E4.out (j := 2) rfl
    have d0 := cell_blk F4.out (j := 0) rfl
    have d1 := cell_blk F4.out (j := 1) rfl
    have d2 := cell_blk F4.out (j := 2) rfl
    clear C0 C1 C2 D0 D1 D2
    have HT5 := hid (fun (W : World) (hW : Below v4.heap.size v4 W) => toInstance_any x0 y0 A0 len0 cap0 z0 W (st4.out.below hW) hlen)
    go_wp2_with fail
    go_region_with (first | (go_at_call 29; refine (HT5.out _ (by first | exact Below.refl _ _ | exact (Below.refl _ _).drew | exact (Below.refl _ _).drew.drew)).mono ?_; rintro e v5 ⟨g5, rfl, hg5, ho5, b5⟩; have O5 := hid ho5; have U5 := hid (show Below v4.heap.size v4 v5 from ((Below.refl _ _).drew.trans b5 : Below v4.heap.size v4 v5)); clear ho5; have m0 := cell_below c0 z4 U5.out; have m1 := cell_below c1 z4 U5.out; have m2 := cell_below c2 z4 U5.out) | (go_at_call 31; refine (eqInstance_same x0 y0 _ _ len0 len0 len0 z0 _ (P4.out.below U5.out) O5.out.prs hlen).mono ?_; rintro e v6 ⟨rfl, b6⟩))
    all_goals
      go_wp2_with fail
      go_ret
      exact ⟨rfl, BW4.out.trans ((U5.out.trans (b6.mono U5.out.size)).mono BW4.out.size)⟩

set_option maxRecDepth 100000 in
theorem lifted (os : Os) (started : os.Started) (H : Type) (enc : TypeId × Value → H) :
    ReturnsInHanded {} Try.checked os 8 .any (Rows.fnExactFormatInstanceSpec.pre6 enc Try.prog Try.f8 Rows.fnExactFormatInstanceRow.domain false) (Rows.fnExactFormatInstanceSpec.post enc Try.prog Try.f8 false true false false) := by
  refine returnsInHanded_of_change (C := Try.checked) Facts.own started (by kernel_rfl) Try.func8
    (ChangeSpec.witness6 (enc := enc) (C := Try.checked) false ⟨#[], #[.agg #[.string ByteArray.empty, .string ByteArray.empty, .slice none 0 0]], []⟩ 8 (by kernel_rfl) (by kernel_rfl) (by kernel_rfl) (by kernel_rfl)) ?_
  intro W base args ds gs before hval0 hW hcnd _
  have hval : ∀ (j : Nat) t v, Try.f8.params[j]? = some t → args[j]? = some v → Value.okWide Try.prog W .any base t v := hval0
  have hW' := hW
  obtain ⟨p, q, hA0, hV, rfl, hfz, hnd⟩ := hW
  have hA : DataW.TrodAll enc Try.prog W 0 (fun _ => true) true Try.f8.params.toList args.toList ds p := hA0
  rw [Try.params8] at hA hval
  obtain ⟨v0, vs0, d0, ds0, p0, q0, hargs, rfl, rfl, h0, r0⟩ := trodAll_cons hA
  obtain ⟨rfl, rfl, rfl⟩ := trodAll_nil r0
  obtain rfl : args = #[v0] := by cases args; simp_all
  obtain ⟨rfl, rfl⟩ := trodVars_none hV
  have k0 := h0
  have lt0 : ∀ x ∈ p0, x.block < W.heap.size := by obtain ⟨m, hm⟩ := k0; exact DataW.trod_lt m _ _ _ hm
  obtain ⟨cs0, rfl, sz0⟩ := okWide_struct Try.underlying42 (hval 0 42 v0 rfl rfl)
  obtain ⟨x0, y0, A0, len0, cap0, z0, e0, hl0, hm0, s0, hz0⟩ : ∃ x0 y0 A0 len0 cap0 z0, Value.agg cs0 = .agg #[.string x0, .string y0, .slice A0 len0 cap0] ∧ len0 ≤ cap0 ∧ cap0 ≤ maxLen ∧ Prs W A0 len0 z0 ∧ InsOk ⟨x0, y0, z0⟩ := by
    obtain ⟨fuel, hf⟩ := h0
    obtain ⟨x0, y0, A0, len0, cap0, z0, e, hl0, hm0, s0, hz0⟩ := open_instance hf
    exact ⟨x0, y0, A0, len0, cap0, z0, agg_of e, hl0, hm0, s0, hz0⟩
  rw [e0] at hA0 hW' k0 ⊢
  clear hA0 hval0
  refine (walk  W x0 y0 A0 len0 cap0 z0 hl0 hm0 s0 hz0).mono fun e W' ⟨he, bel⟩ => ?_
  subst he
  exact ⟨_, rfl, _, _, _, [], _, [], hW', trodAll_mk1 (shut_bool Try.underlying4 _), (trodAll_cons_mk (Below.trod Facts.laidOut (by kernel_rfl) (of_decide_eq_true (by kernel_rfl)) k0 bel lt0) trodAll_mk0), rfl, bel.frame _, fun h => by cases h⟩

theorem closed : joinedFacts Try.pinned.checked.prog 8 Try.f8 Rows.fnExactFormatInstanceSpec Rows.fnExactFormatInstanceRow = true := by
  simp only [joinedFacts, Bool.and_eq_true]
  refine ⟨⟨⟨⟨⟨⟨⟨⟨⟨⟨⟨⟨⟨⟨⟨⟨⟨⟨⟨⟨⟨⟨⟨⟨⟨⟨⟨⟨⟨⟨⟨?_, Facts.laidOut⟩, Facts.rowed⟩, ?_⟩, ?_⟩, ?_⟩, Facts.stops⟩, ?_⟩, Facts.knobs⟩, ?_⟩, ?_⟩, ?_⟩, ?_⟩, ?_⟩, ?_⟩, ?_⟩, ?_⟩, ?_⟩, ?_⟩, ?_⟩, ?_⟩, ?_⟩, ?_⟩, ?_⟩, Facts.heard⟩, Facts.may⟩,
    (congrArg (fun x => (Rows.fnExactFormatInstanceRow.lifted == x)) Facts.lifts).trans (by kernel_rfl)⟩, (congrArg (fun x => (x == some Rows.fnExactFormatInstanceRow.make)) Facts.makes).trans (by kernel_rfl)⟩, ?_⟩, ?_⟩, ?_⟩, ?_⟩
  all_goals kernel_rfl

theorem proved : Rows.FnExactFormatInstanceSaid :=
  OpenClaim.holds_of_wide 8 Try.f8 rfl rfl rfl rfl rfl rfl rfl ⟨rfl, rfl, rfl, rfl, rfl⟩ rfl rfl rfl rfl rfl (by kernel_rfl) Try.func8 closed
    (of_decide_eq_true (by kernel_rfl)) (by unfold Func.isWrapper; rw [if_neg (of_decide_eq_false (by kernel_rfl))]; exact ⟨rfl, rfl⟩)
    (fun os started H enc _ => lifted os started H enc)
end Go.Proofs.Ytjpdiahbnhemoaa.fnExactFormatInstance
namespace Go.Proofs.Ytjpdiahbnhemoaa
theorem fnExactFormatInstance_holds : Rows.FnExactFormatInstanceSaid := fnExactFormatInstance.proved
#print axioms fnExactFormatInstance_holds
end Go.Proofs.Ytjpdiahbnhemoaa
