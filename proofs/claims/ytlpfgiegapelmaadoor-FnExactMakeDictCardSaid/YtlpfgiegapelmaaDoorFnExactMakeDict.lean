/- The law FnExactMakeDict, proved: whatever the input, the call returns true, and each argument reads behind it as before. -/
import Derived.Test.YtlpfgiegapelmaaDoorFacts
import Derived.Test.YtlpfgiegapelmaaDoorDcU
import Derived.Test.YtlpfgiegapelmaaDoorFtx
import Derived.Test.YtlpfgiegapelmaaDoorTabN
import Derived.Test.YtlpfgiegapelmaaDoorDoor
import Derived.Test.YtlpfgiegapelmaaDoorCards
import Derived.Test.YtlpfgiegapelmaaDoorTie
import Derived.SevenTiedAt
import Derived.LaidMore
import Derived.WalkKit
import Derived.ProofKit
import Derived.OpenShut
import Derived.ShutString
import Derived.ChangeOld
import Derived.Below
import Derived.SliceStrings
namespace Go.Proofs.YtlpfgiegapelmaaDoor.fnExactMakeDict
open Go.ChangeShapes Go.WideShapes Go.ChangeAt Go.RowKit
open Go.ChangeMaps (open_string shut_string)
set_option linter.unusedVariables false

set_option maxHeartbeats 1600000 in
set_option maxRecDepth 100000 in
theorem walk (a0 : Int) (w0 : (Lit.int .i64 a0).wf = true) (w : World) (A1 : Option Addr) (len1 cap1 : Nat) (z1 : List ByteArray) (hl1 : len1 ≤ cap1) (hm1 : cap1 ≤ maxLen) (s1 : Strs w A1 len1 z1) (hz1 : ∀ x ∈ z1, x.size ≤ maxLen) (he : NoneW w) :
    Calls Tryd.prog 9 #[.int .i64 a0, .slice A1 len1 cap1] w fun e w' => e = .returned (.bool true) ∧ Below w.heap.size w w' := by
  have hn1 : len1 ≤ maxLen := Nat.le_trans hl1 hm1
  have hi : -9223372036854775808 ≤ a0 ∧ a0 ≤ 9223372036854775807 := by
    have h := w0
    simp [Lit.wf, IntKind.min, IntKind.max, IntKind.bits, IntKind.signed] at h
    omega
  obtain ⟨q, hq⟩ : ∃ q, stO (mkD a0 z1) = q := ⟨_, rfl⟩
  obtain ⟨b, hb⟩ : ∃ b, (mkD a0 z1).isSome = b := ⟨_, rfl⟩
  have HQ := hid hq
  have HB := hid hb
  have HI := hid hi
  clear hq hb hi
  have S0 := hid s1
  clear s1
  go_enter Tryd.func9, Tryd.ntmps9
  go_wp2_with fail
  refine (szStrings_any A1 len1 cap1 z1 1048576 w S0.out hz1 hn1 (Nat.le_refl _)).mono ?_
  rintro e u0 ⟨r, m0, rfl, rfl, hr⟩
  rcases hr with rfl | ⟨hr0, hr2⟩
  · go_wp2_with fail
    go_ret
    exact ⟨rfl, below_drewN' (Below.refl _ _) m0⟩
  · have hr0' : ¬ r < 0 := by omega
    clear hr0
    have hr3 : len1 ≤ 1048576 := by omega
    have b0 : Below w.heap.size w (w.drewN m0) := below_drewN' (Below.refl _ _) m0
    obtain ⟨v0, hv0⟩ : ∃ v, w.drewN m0 = v := ⟨_, rfl⟩
    have st0 : Strs v0 A1 len1 z1 := by rw [← hv0]; exact S0.out.drewN m0
    rw [hv0] at b0
    go_wp2_with fail
    clear hv0
    refine (toStringS_any A1 len1 cap1 z1 v0 st0 hr3).mono ?_
    rintro e v1 ⟨rfl, ho1, hb1⟩
    go_wp2_with fail
    refine (makeDictS_any a0 HI.out _ len1 len1 z1 v1 hr3 (Nat.le_refl _) ho1.strs hz1 q b HQ HB).mono ?_
    rintro e v2 ⟨rfl, hb2⟩
    have b02 : Below v0.heap.size v0 v2 := hb1.trans (hb2.mono hb1.size)
    have st2 := st0.below b02
    go_wp2_with fail
    refine (toStringS_any A1 len1 cap1 z1 v2 st2 hr3).mono ?_
    rintro e v3 ⟨rfl, ho3, hb3⟩
    go_wp2_with fail
    refine (makeDictI_any a0 HI.out _ len1 len1 z1 v3 hr3 (Nat.le_refl _) ho3.strs hz1 q b HQ HB).mono ?_
    rintro e v4 ⟨rfl, hb4⟩
    have b24 : Below v2.heap.size v2 v4 := hb3.trans (hb4.mono hb3.size)
    have b04 : Below v0.heap.size v0 v4 := b02.trans (b24.mono b02.size)
    have st4 := st0.below b04
    have sx4 : Strs v4 (some ⟨v2.heap.size, 0, none⟩) len1 z1 := ho3.strs.below hb4
    go_wp2_with fail
    refine (toStringS_any A1 len1 cap1 z1 v4 st4 hr3).mono ?_
    rintro e v5 ⟨rfl, ho5, hb5⟩
    have sx5 := sx4.below hb5
    go_wp2_with fail
    refine (eqStringS_same _ _ len1 len1 len1 z1 v5 sx5 ho5.strs hr3).mono ?_
    rintro e v6 ⟨rfl, m6, rfl⟩
    go_wp2_with fail
    go_ret
    have b05 := b04.trans (hb5.mono b04.size)
    exact ⟨rfl, below_drewN' (b0.trans (b05.mono b0.size)) m6⟩

set_option maxRecDepth 100000 in
theorem lifted (os : Os) (started : os.Started) (H : Type) (enc : TypeId × Value → H) :
    ReturnsInHanded {} Tryd.checked os 9 .any (fun w args => (Rows.fnExactMakeDictSpec.pre enc Tryd.prog Tryd.f9 [] false w args ∧ laidMetH Tryd.prog Rows.fnExactMakeDictRow.laid w) ∧ sizedMet enc Tryd.prog Tryd.f9 (OpenSpec.ofChange Rows.fnExactMakeDictSpec) false w args)
      (Rows.fnExactMakeDictSpec.post enc Tryd.prog Tryd.f9 false true false false) := by
  refine returnsInHanded_of_change_and (C := Tryd.checked) (X := fun w _ => laidMetH Tryd.prog Rows.fnExactMakeDictRow.laid w) (fun _ _ _ hh h => h.of_heap hh) Facts.own started (by kernel_rfl) Tryd.func9
    (ChangeSpec.witness_shaped (enc := enc) (C := Tryd.checked) (os := os) (X := fun w _ => laidMetH Tryd.prog Rows.fnExactMakeDictRow.laid w) false (World.doorLaid Tryd.prog 400 os) #[.int .i64 0, .slice none 0 0] 8 rfl (World.shaped_of_RefB (by kernel_rfl) (by kernel_rfl)) (by kernel_rfl) (by kernel_rfl) (by kernel_rfl) (laidMetH_of_parts3 (fuel := 8) (laidMet_of_run' 8 (by kernel_rfl) (by kernel_rfl)) (by kernel_rfl) (by kernel_rfl))) ?_
  intro W base args ds gs before hval0 hW _ _ hL _
  have he := errs_NoneW hL
  have hval : ∀ (j : Nat) t v, Tryd.f9.params[j]? = some t → args[j]? = some v → Value.okWide Tryd.prog W .any base t v := hval0
  have hW' := hW
  obtain ⟨p, q, hA0, hV, rfl, hfz, hnd⟩ := hW
  have hA : DataW.TrodAll enc Tryd.prog W 0 (fun _ => true) true Tryd.f9.params.toList args.toList ds p := hA0
  rw [Tryd.params9] at hA hval
  obtain ⟨v0, vs0, d0, ds0, p0, q0, hargs, rfl, rfl, h0, rr0⟩ := trodAll_cons hA
  obtain ⟨v1, vs1, d1, ds1, p1, q1, rfl, rfl, rfl, h1, rr1⟩ := trodAll_cons rr0
  obtain ⟨rfl, rfl, rfl⟩ := trodAll_nil rr1
  obtain rfl : args = #[v0, v1] := by cases args; simp_all
  obtain ⟨rfl, rfl⟩ := trodVars_none hV
  have k0 := h0
  have lt0 : ∀ x ∈ p0, x.block < W.heap.size := by obtain ⟨m, hm⟩ := k0; exact DataW.trod_lt m _ _ _ hm
  obtain ⟨a0, rfl, e0a, e0b, w0⟩ := open_int Tryd.underlying3 (hval 0 3 v0 rfl rfl) h0
  have k1 := h1
  have lt1 : ∀ x ∈ p1, x.block < W.heap.size := by obtain ⟨m, hm⟩ := k1; exact DataW.trod_lt m _ _ _ hm
  obtain ⟨A1, len1, cap1, rfl⟩ := okWide_slice Tryd.underlying24 (hval 1 24 v1 rfl rfl)
  obtain ⟨z1, hl1, hm1, s1, hz1⟩ : ∃ zs, len1 ≤ cap1 ∧ cap1 ≤ maxLen ∧ Strs W A1 len1 zs ∧ ∀ x ∈ zs, x.size ≤ maxLen := by
    obtain ⟨fuel, hf⟩ := h1
    rcases open_strings Tryd.underlying24 Tryd.underlying9 (by kernel_rfl) hf with ⟨hcs, _⟩ | ⟨x, l, c, ss, hcs, hx0, hl, hm, hz, _, hcell, hws⟩
    · simp [Value.cells] at hcs
      obtain ⟨rfl, rfl, rfl⟩ := hcs
      exact ⟨[], Nat.le_refl _, Nat.zero_le _, ⟨rfl, fun h => absurd h (Nat.lt_irrefl 0)⟩, fun x hx => by cases hx⟩
    · simp [Value.cells] at hcs
      obtain ⟨rfl, rfl, rfl⟩ := hcs
      exact ⟨ss.take _, hl, hm, strs_of (by rw [hz]; exact hl) hcell, fun s hs => hws s (List.mem_of_mem_take hs)⟩
  clear hA0 hval0
  refine (walk a0 w0 W A1 len1 cap1 z1 hl1 hm1 s1 hz1 he).mono fun e W' ⟨hend, bel⟩ => ?_
  subst hend
  exact ⟨_, rfl, _, _, _, [], _, [], hW', trodAll_mk1 (shut_bool Tryd.underlying4 _), (trodAll_cons_mk (Below.trod Facts.laidOut (by kernel_rfl) (of_decide_eq_true (by kernel_rfl)) k0 bel lt0) (trodAll_cons_mk (Below.trod Facts.laidOut (by kernel_rfl) (of_decide_eq_true (by kernel_rfl)) k1 bel lt1) trodAll_mk0)), rfl, bel.frame _, fun h => by cases h⟩

theorem closed : joinedFacts Tryd.pinned.checked.prog 9 Tryd.f9 Rows.fnExactMakeDictSpec Rows.fnExactMakeDictRow = true := by
  simp only [joinedFacts, Bool.and_eq_true]
  refine ⟨⟨⟨⟨⟨⟨⟨⟨⟨⟨⟨⟨⟨⟨⟨⟨⟨⟨⟨⟨⟨⟨⟨⟨⟨⟨⟨⟨⟨⟨⟨?_, Facts.laidOut⟩, Facts.rowed⟩, ?_⟩, ?_⟩, ?_⟩, Facts.stops⟩, ?_⟩, Facts.knobs⟩, ?_⟩, ?_⟩, ?_⟩, ?_⟩, ?_⟩, ?_⟩, ?_⟩, ?_⟩, ?_⟩, ?_⟩, ?_⟩, ?_⟩, ?_⟩, ?_⟩, ?_⟩, Facts.heard⟩, Facts.may⟩,
    (congrArg (fun x => (Rows.fnExactMakeDictRow.lifted == x)) Facts.lifts).trans (by kernel_rfl)⟩, (congrArg (fun x => (x == some Rows.fnExactMakeDictRow.make)) Facts.makes).trans (by kernel_rfl)⟩, ?_⟩, ?_⟩, ?_⟩, ?_⟩
  all_goals kernel_rfl

theorem proved : Rows.FnExactMakeDictSaid :=
  OpenClaim.holds_of_wide 9 Tryd.f9 rfl rfl rfl rfl rfl rfl rfl ⟨rfl, rfl, rfl, rfl, rfl⟩ rfl rfl rfl rfl rfl (by kernel_rfl) Tryd.func9 closed
    (of_decide_eq_true (by kernel_rfl)) (by unfold Func.isWrapper; rw [if_neg (of_decide_eq_false (by kernel_rfl))]; exact ⟨rfl, rfl⟩)
    (fun os started H enc _ => lifted os started H enc)
end Go.Proofs.YtlpfgiegapelmaaDoor.fnExactMakeDict
namespace Go.Proofs.YtlpfgiegapelmaaDoor
theorem fnExactMakeDict_holds : Rows.FnExactMakeDictCardSaid :=
  Claim7.holds_tied_plain_at .later [] Rows.fnExactMakeDictCard.laidKinds true Rows.fnExactMakeDictCard.stood.harness Rows.fnExactMakeDictCard.stood.looks
    fnExactMakeDict.proved (fun _ h => by cases h) (by kernel_rfl) (fun _ h => by cases h) fnExactMakeDict_row_tie rfl ⟨rfl, rfl⟩ (by kernel_rfl) rfl
    (fun f fn hf hfn => by
      obtain rfl : f = 9 := Option.some.inj ((show Tryd.prog.funcNamed Rows.fnExactMakeDictRow.func = some 9 by kernel_rfl).symm.trans hf) |>.symm
      obtain rfl : fn = Tryd.f9 := (Option.some.inj (Tryd.func9.symm.trans hfn)).symm
      exact ⟨by kernel_rfl, fun j t ht => by
        have hall : (Tryd.f9.params.toList.all fun u => !Tryd.prog.wantsStandIn u) = true := by kernel_rfl
        exact (show Tryd.prog.wantsStandIn t = false by simpa using List.all_eq_true.1 hall t (by simpa using Array.mem_of_getElem? ht))⟩)
    (by kernel_rfl)
#print axioms fnExactMakeDict_holds
end Go.Proofs.YtlpfgiegapelmaaDoor
