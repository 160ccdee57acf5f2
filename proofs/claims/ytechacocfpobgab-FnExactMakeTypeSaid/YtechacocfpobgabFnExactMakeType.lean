/- The law FnExactMakeType, proved: whatever the input, the call returns true, and each argument reads behind it as before. -/
import Derived.Test.YtechacocfpobgabFacts
import Derived.Test.YtechacocfpobgabParts
import Derived.Test.YtechacocfpobgabMkS
import Derived.Test.YtechacocfpobgabArgsS
import Derived.WalkKit
import Derived.ProofKit
import Derived.OpenShut
import Derived.ShutString
import Derived.ChangeOld
import Derived.Below
import Derived.SliceStrings
namespace Go.Proofs.Ytechacocfpobgab.fnExactMakeType
open Go.ChangeShapes Go.WideShapes Go.ChangeAt Go.RowKit
open Go.ChangeMaps (open_string shut_string)
set_option linter.unusedVariables false

theorem walk (a0 : ByteArray) (w0 : a0.size ≤ maxLen) (w : World) (A1 : Option Addr) (len1 cap1 : Nat) (z1 : List ByteArray) (hl1 : len1 ≤ cap1) (hm1 : cap1 ≤ maxLen) (s1 : Strs w A1 len1 z1) (hz1 : ∀ x ∈ z1, x.size ≤ maxLen) :
    Calls Try.prog 5 #[.string a0, .slice A1 len1 cap1] w fun e w' => e = .returned (.bool true) ∧ Below w.heap.size w w' := by
  have hm := w0
  unfold maxLen at hm
  have hn1 : len1 ≤ maxLen := Nat.le_trans hl1 hm1
  by_cases hl : 1048576 < a0.size
  · go_enter Try.func5, Try.ntmps5
    go_wp2_with fail
    go_ret
    exact ⟨rfl, Below.refl _ _⟩
  · obtain ⟨o, ho⟩ : ∃ o, mkOf a0 z1 = o := ⟨_, rfl⟩
    have HO := hid ho
    clear ho
    have S1 := hid s1
    clear s1
    go_enter Try.func5, Try.ntmps5
    go_wp2_with fail
    refine (szStringS_any A1 len1 cap1 z1 1048576 w S1.out hz1 hn1 (Nat.le_refl _)).mono ?_
    rintro e u0 ⟨r, m0, rfl, rfl, hr⟩
    rcases hr with rfl | ⟨hr0, hr1, hr2⟩
    · go_wp2_with fail
      go_ret
      exact ⟨rfl, below_drewN' (Below.refl _ _) m0⟩
    · have hr0' : ¬ r < 0 := by omega
      clear hr0
      have b0 : Below w.heap.size w (w.drewN m0) := below_drewN' (Below.refl _ _) m0
      obtain ⟨v0, hv0⟩ : ∃ v, w.drewN m0 = v := ⟨_, rfl⟩
      have st0 : Strs v0 A1 len1 z1 := by rw [← hv0]; exact S1.out.drewN m0
      rw [hv0] at b0
      go_wp2_with fail
      clear hv0
      refine (toStringS_any A1 len1 cap1 z1 v0 st0 hr2).mono ?_
      rintro e v1 ⟨rfl, ho1, hb1⟩
      go_wp2_with fail
      refine (makeTypeS_any a0 _ len1 len1 z1 v1 ho1.strs hz1).mono ?_
      rintro e v2 ⟨rfl, hb2⟩
      rw [HO.out]
      have b02 : Below v0.heap.size v0 v2 := hb1.trans (hb2.mono hb1.size)
      have st2 := st0.below b02
      go_wp2_with fail
      refine (toStringS_any A1 len1 cap1 z1 v2 st2 hr2).mono ?_
      rintro e v3 ⟨rfl, ho3, hb3⟩
      go_wp2_with fail
      refine (makeTypeI_any a0 _ len1 len1 z1 v3 (Nat.le_refl _) ho3.strs hz1).mono ?_
      rintro e v4 ⟨rfl, hb4⟩
      rw [HO.out]
      have b24 : Below v2.heap.size v2 v4 := hb3.trans (hb4.mono hb3.size)
      have b04 : Below v0.heap.size v0 v4 := b02.trans (b24.mono b02.size)
      have st4 := st0.below b04
      have sx4 : Strs v4 (some ⟨v2.heap.size, 0, none⟩) len1 z1 := ho3.strs.below hb4
      go_wp2_with fail
      refine (toStringS_any A1 len1 cap1 z1 v4 st4 hr2).mono ?_
      rintro e v5 ⟨rfl, ho5, hb5⟩
      have sx5 := sx4.below hb5
      go_wp2_with fail
      refine (eqStringS_same _ _ len1 len1 len1 z1 v5 sx5 ho5.strs hr2).mono ?_
      rintro e v6 ⟨rfl, m6, rfl⟩
      go_wp2_with fail
      go_ret
      have b05 := b04.trans (hb5.mono b04.size)
      exact ⟨rfl, below_drewN' (b0.trans (b05.mono b0.size)) m6⟩

set_option maxRecDepth 100000 in
theorem lifted (os : Os) (started : os.Started) (H : Type) (enc : TypeId × Value → H) :
    ReturnsInHanded {} Try.checked os 5 .any (Rows.fnExactMakeTypeSpec.pre6 enc Try.prog Try.f5 Rows.fnExactMakeTypeRow.domain false) (Rows.fnExactMakeTypeSpec.post enc Try.prog Try.f5 false true false false) := by
  refine returnsInHanded_of_change (C := Try.checked) Facts.own started (by kernel_rfl) Try.func5
    (ChangeSpec.witness6 (enc := enc) (C := Try.checked) false ⟨#[], #[.string ByteArray.empty, .slice none 0 0], []⟩ 8 (by kernel_rfl) (by kernel_rfl) (by kernel_rfl) (by kernel_rfl)) ?_
  intro W base args ds gs before hval0 hW hcnd _
  have hval : ∀ (j : Nat) t v, Try.f5.params[j]? = some t → args[j]? = some v → Value.okWide Try.prog W .any base t v := hval0
  have hW' := hW
  obtain ⟨p, q, hA0, hV, rfl, hfz, hnd⟩ := hW
  have hA : DataW.TrodAll enc Try.prog W 0 (fun _ => true) true Try.f5.params.toList args.toList ds p := hA0
  rw [Try.params5] at hA hval
  obtain ⟨v0, vs0, d0, ds0, p0, q0, hargs, rfl, rfl, h0, r0⟩ := trodAll_cons hA
  obtain ⟨v1, vs1, d1, ds1, p1, q1, rfl, rfl, rfl, h1, r1⟩ := trodAll_cons r0
  obtain ⟨rfl, rfl, rfl⟩ := trodAll_nil r1
  obtain rfl : args = #[v0, v1] := by cases args; simp_all
  obtain ⟨rfl, rfl⟩ := trodVars_none hV
  have k0 := h0
  have lt0 : ∀ x ∈ p0, x.block < W.heap.size := by obtain ⟨m, hm⟩ := k0; exact DataW.trod_lt m _ _ _ hm
  obtain ⟨a0, rfl, e0a, e0b, w0⟩ := open_string Try.underlying9 (hval 0 9 v0 rfl rfl) h0
  have k1 := h1
  have lt1 : ∀ x ∈ p1, x.block < W.heap.size := by obtain ⟨m, hm⟩ := k1; exact DataW.trod_lt m _ _ _ hm
  obtain ⟨A1, len1, cap1, rfl⟩ := okWide_slice Try.underlying24 (hval 1 24 v1 rfl rfl)
  obtain ⟨z1, hl1, hm1, s1, hz1⟩ : ∃ zs, len1 ≤ cap1 ∧ cap1 ≤ maxLen ∧ Strs W A1 len1 zs ∧ ∀ x ∈ zs, x.size ≤ maxLen := by
    obtain ⟨fuel, hf⟩ := h1
    rcases open_strings Try.underlying24 Try.underlying9 (by kernel_rfl) hf with ⟨hcs, _⟩ | ⟨x, l, c, ss, hcs, hx0, hl, hm, hz, _, hcell, hws⟩
    · simp [Value.cells] at hcs
      obtain ⟨rfl, rfl, rfl⟩ := hcs
      exact ⟨[], Nat.le_refl _, Nat.zero_le _, ⟨rfl, fun h => absurd h (Nat.lt_irrefl 0)⟩, fun x hx => by cases hx⟩
    · simp [Value.cells] at hcs
      obtain ⟨rfl, rfl, rfl⟩ := hcs
      exact ⟨ss.take _, hl, hm, strs_of (by rw [hz]; exact hl) hcell, fun s hs => hws s (List.mem_of_mem_take hs)⟩
  clear hA0 hval0
  refine (walk a0 w0 W A1 len1 cap1 z1 hl1 hm1 s1 hz1).mono fun e W' ⟨he, bel⟩ => ?_
  subst he
  exact ⟨_, rfl, _, _, _, [], _, [], hW', trodAll_mk1 (shut_bool Try.underlying4 _), (trodAll_cons_mk (Below.trod Facts.laidOut (by kernel_rfl) (of_decide_eq_true (by kernel_rfl)) k0 bel lt0) (trodAll_cons_mk (Below.trod Facts.laidOut (by kernel_rfl) (of_decide_eq_true (by kernel_rfl)) k1 bel lt1) trodAll_mk0)), rfl, bel.frame _, fun h => by cases h⟩

theorem closed : joinedFacts Try.pinned.checked.prog 5 Try.f5 Rows.fnExactMakeTypeSpec Rows.fnExactMakeTypeRow = true := by
  simp only [joinedFacts, Bool.and_eq_true]
  refine ⟨⟨⟨⟨⟨⟨⟨⟨⟨⟨⟨⟨⟨⟨⟨⟨⟨⟨⟨⟨⟨⟨⟨⟨⟨⟨⟨⟨⟨⟨⟨?_, Facts.laidOut⟩, Facts.rowed⟩, ?_⟩, ?_⟩, ?_⟩, Facts.stops⟩, ?_⟩, Facts.knobs⟩, ?_⟩, ?_⟩, ?_⟩, ?_⟩, ?_⟩, ?_⟩, ?_⟩, ?_⟩, ?_⟩, ?_⟩, ?_⟩, ?_⟩, ?_⟩, ?_⟩, ?_⟩, Facts.heard⟩, Facts.may⟩,
    (congrArg (fun x => (Rows.fnExactMakeTypeRow.lifted == x)) Facts.lifts).trans (by kernel_rfl)⟩, (congrArg (fun x => (x == some Rows.fnExactMakeTypeRow.make)) Facts.makes).trans (by kernel_rfl)⟩, ?_⟩, ?_⟩, ?_⟩, ?_⟩
  all_goals kernel_rfl

theorem proved : Rows.FnExactMakeTypeSaid :=
  OpenClaim.holds_of_wide 5 Try.f5 rfl rfl rfl rfl rfl rfl rfl ⟨rfl, rfl, rfl, rfl, rfl⟩ rfl rfl rfl rfl rfl (by kernel_rfl) Try.func5 closed
    (of_decide_eq_true (by kernel_rfl)) (by unfold Func.isWrapper; rw [if_neg (of_decide_eq_false (by kernel_rfl))]; exact ⟨rfl, rfl⟩)
    (fun os started H enc _ => lifted os started H enc)
end Go.Proofs.Ytechacocfpobgab.fnExactMakeType
namespace Go.Proofs.Ytechacocfpobgab
theorem fnExactMakeType_holds : Rows.FnExactMakeTypeSaid := fnExactMakeType.proved
#print axioms fnExactMakeType_holds
end Go.Proofs.Ytechacocfpobgab
