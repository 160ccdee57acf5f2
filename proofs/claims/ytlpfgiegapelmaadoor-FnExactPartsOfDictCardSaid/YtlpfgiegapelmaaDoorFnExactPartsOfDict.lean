/- The law FnExactPartsOfDict, proved: whatever the input, the call returns true, and each argument reads behind it as before. -/
import Derived.Test.YtlpfgiegapelmaaDoorFacts
import Derived.Test.YtlpfgiegapelmaaDoorDcT
import Derived.Test.YtlpfgiegapelmaaDoorTabN
import Derived.Test.YtlpfgiegapelmaaDoorDoor
import Derived.Test.YtlpfgiegapelmaaDoorCards
import Derived.Test.YtlpfgiegapelmaaDoorTie
import Derived.SevenTiedAt
import Derived.LaidMore
import Derived.WalkKit
import Derived.ProofKit
import Derived.OpenShut
import Derived.ShutString
import Derived.ChangeOld
import Derived.Below
namespace Go.Proofs.YtlpfgiegapelmaaDoor.fnExactPartsOfDict
open Go.ChangeShapes Go.WideShapes Go.ChangeAt Go.RowKit
open Go.ChangeMaps (open_string shut_string)
set_option linter.unusedVariables false

set_option maxHeartbeats 1600000 in
set_option maxRecDepth 100000 in
theorem walk (a0 : ByteArray) (w0 : a0.size ≤ maxLen) (w : World) (he : NoneW w) :
    Calls Tryd.prog 8 #[.string a0] w fun e w' => e = .returned (.bool true) ∧ Below w.heap.size w w' := by
  have hm := w0
  unfold maxLen at hm
  by_cases hl : 1048576 < a0.size
  · go_enter Tryd.func8, Tryd.ntmps8
    go_wp2_with fail
    go_ret
    exact ⟨rfl, Below.refl _ _⟩
  · obtain ⟨xs, hxs⟩ : ∃ xs, dpsOf a0.data.toList = xs := ⟨_, rfl⟩
    have hlen : xs.length ≤ 3 := by rw [← hxs]; exact dpsOf_len _
    have HS := hid (partsOfDictS_end a0 w0 w)
    have HI := hid (fun W => partsOfDictI_end a0 w0 W)
    rw [hxs] at HS
    simp only [hxs] at HI
    clear hxs
    obtain ⟨n, hn⟩ : ∃ n, xs.length = n := ⟨_, rfl⟩
    have HN := hid hn
    rw [hn] at hlen
    clear hn
    go_enter Tryd.func8, Tryd.ntmps8
    go_wp2_with fail
    refine HS.out.mono ?_
    rintro e u1 ⟨A1, cap1, rfl, hm1, hb1⟩
    rw [HN.out] at hm1 ⊢
    go_wp2_with fail
    refine (HI.out u1).mono ?_
    rintro e u2 ⟨A2, cap2, rfl, hm2, hb2⟩
    rw [HN.out] at hm2 ⊢
    have st1 : Strs u2 A1 n xs := hm1.strs.below hb2
    go_wp2_with fail
    refine (eqStringS_same A2 A1 n cap2 cap1 xs u2 hm2.strs st1 (by omega)).mono ?_
    rintro e u3 ⟨rfl, m3, rfl⟩
    have z12 := hb2.size
    rcases hm2 with ⟨rfl, hn0, hx0⟩ | ⟨g, rfl, hg, hown⟩
    · subst hn0
      have HX0 := hid hx0
      clear hx0
      go_wp2_with fail
      refine (markStringS_nil 1 cap2 (u2.drewN m3)).mono ?_
      rintro e u4 ⟨rfl, rfl⟩
      go_wp2_with fail
      refine (heldStringS_any none 1 0 cap2 (u2.drewN m3) ⟨rfl, fun h => absurd h (Nat.lt_irrefl 0)⟩ (by decide) (by decide)).mono ?_
      rintro e u5 ⟨rfl, hb5⟩
      go_wp2_with fail
      refine (HI.out u5).mono ?_
      rintro e u6 ⟨A6, cap6, rfl, hm6, hb6⟩
      rw [HN.out] at hm6 ⊢
      have st6 : Strs u6 A1 0 xs := (Strs.below (w := u2.drewN m3) (st1.drewN m3) (hb5.trans (hb6.mono hb5.size)))
      go_wp2_with fail
      refine (eqStringS_same A6 A1 0 cap6 cap1 xs u6 hm6.strs st6 (by decide)).mono ?_
      rintro e u7 ⟨rfl, m7, rfl⟩
      go_wp2_with fail
      refine (heldStringS_any none 1 0 cap2 (u6.drewN m7) ⟨rfl, fun h => absurd h (Nat.lt_irrefl 0)⟩ (by decide) (by decide)).mono ?_
      rintro e u8 ⟨rfl, hb8⟩
      go_wp2_with fail
      go_ret
      have z5 := hb5.size
      have z6 := hb6.size
      have z1 := hb1.size
      have h25 : Below u2.heap.size u2 u5 := (below_drewN' (Below.refl _ _) m3).trans hb5
      have h26 : Below u2.heap.size u2 u6 := h25.trans (hb6.mono h25.size)
      have h28 : Below u2.heap.size u2 u8 := (below_drewN' h26 m7).trans (hb8.mono h26.size)
      exact ⟨rfl, (hb1.trans (hb2.mono hb1.size)).trans (h28.mono (Nat.le_trans z1 z12))⟩
    · go_wp2_with fail
      refine (markStringS_any g 1 n cap2 xs (u2.drewN m3) hown (by decide) (by omega)).mono ?_
      rintro e u4 ⟨rfl, hmk, hbut⟩
      have z4 : u2.heap.size ≤ u4.heap.size := hbut.size
      have hk4 : ∀ k, k < u1.heap.size → u4.heap[k]? = u1.heap[k]? := fun k hk => (hbut.block k (by show k < u2.heap.size; omega) (by omega)).trans (hb2.block k hk)
      have HK4 := hid hk4
      clear hk4
      go_wp2_with fail
      refine (heldStringS_any (some ⟨g, 0, none⟩) 1 n cap2 u4 hmk.strs (by decide) (by omega)).mono ?_
      rintro e u5 ⟨rfl, hb5⟩
      go_wp2_with fail
      refine (HI.out u5).mono ?_
      rintro e u6 ⟨A6, cap6, rfl, hm6, hb6⟩
      rw [HN.out] at hm6 ⊢
      have z5 := hb5.size
      have z6 := hb6.size
      have st6 : Strs u6 A1 n xs := hm1.strs.keep (by omega) fun k hk => (hb6.block k (by omega)).trans ((hb5.block k (by omega)).trans (HK4.out k hk))
      have sm6 : Strs u6 (some ⟨g, 0, none⟩) n (marks 1 n) := (hmk.strs.below hb5).below hb6
      go_wp2_with fail
      refine (eqStringS_same A6 A1 n cap6 cap1 xs u6 hm6.strs st6 (by omega)).mono ?_
      rintro e u7 ⟨rfl, m7, rfl⟩
      go_wp2_with fail
      refine (heldStringS_any (some ⟨g, 0, none⟩) 1 n cap2 (u6.drewN m7) (sm6.drewN m7) (by decide) (by omega)).mono ?_
      rintro e u8 ⟨rfl, hb8⟩
      go_wp2_with fail
      go_ret
      have z1 := hb1.size
      have h24 : Below w.heap.size u2 u4 := ⟨hbut.os, hbut.tape, hbut.output, hbut.size, fun k hk => hbut.block k (by show k < u2.heap.size; omega) (by omega)⟩
      have h26 : Below w.heap.size u2 u6 := (h24.trans (hb5.mono (by omega))).trans (hb6.mono (by omega))
      have h28 : Below w.heap.size u2 u8 := (below_drewN' h26 m7).trans (hb8.mono (by show w.heap.size ≤ u6.heap.size; omega))
      exact ⟨rfl, (hb1.trans (hb2.mono hb1.size)).trans h28⟩

set_option maxRecDepth 100000 in
theorem lifted (os : Os) (started : os.Started) (H : Type) (enc : TypeId × Value → H) :
    ReturnsInHanded {} Tryd.checked os 8 .any (fun w args => (Rows.fnExactPartsOfDictSpec.pre enc Tryd.prog Tryd.f8 [] false w args ∧ laidMetH Tryd.prog Rows.fnExactPartsOfDictRow.laid w) ∧ sizedMet enc Tryd.prog Tryd.f8 (OpenSpec.ofChange Rows.fnExactPartsOfDictSpec) false w args)
      (Rows.fnExactPartsOfDictSpec.post enc Tryd.prog Tryd.f8 false true false false) := by
  refine returnsInHanded_of_change_and (C := Tryd.checked) (X := fun w _ => laidMetH Tryd.prog Rows.fnExactPartsOfDictRow.laid w) (fun _ _ _ hh h => h.of_heap hh) Facts.own started (by kernel_rfl) Tryd.func8
    (ChangeSpec.witness_shaped (enc := enc) (C := Tryd.checked) (os := os) (X := fun w _ => laidMetH Tryd.prog Rows.fnExactPartsOfDictRow.laid w) false (World.doorLaid Tryd.prog 400 os) #[.string ByteArray.empty] 8 rfl (World.shaped_of_RefB (by kernel_rfl) (by kernel_rfl)) (by kernel_rfl) (by kernel_rfl) (by kernel_rfl) (laidMetH_of_parts3 (fuel := 8) (laidMet_of_run' 8 (by kernel_rfl) (by kernel_rfl)) (by kernel_rfl) (by kernel_rfl))) ?_
  intro W base args ds gs before hval0 hW _ _ hL _
  have he := errs_NoneW hL
  have hval : ∀ (j : Nat) t v, Tryd.f8.params[j]? = some t → args[j]? = some v → Value.okWide Tryd.prog W .any base t v := hval0
  have hW' := hW
  obtain ⟨p, q, hA0, hV, rfl, hfz, hnd⟩ := hW
  have hA : DataW.TrodAll enc Tryd.prog W 0 (fun _ => true) true Tryd.f8.params.toList args.toList ds p := hA0
  rw [Tryd.params8] at hA hval
  obtain ⟨v0, vs0, d0, ds0, p0, q0, hargs, rfl, rfl, h0, rr0⟩ := trodAll_cons hA
  obtain ⟨rfl, rfl, rfl⟩ := trodAll_nil rr0
  obtain rfl : args = #[v0] := by cases args; simp_all
  obtain ⟨rfl, rfl⟩ := trodVars_none hV
  have k0 := h0
  have lt0 : ∀ x ∈ p0, x.block < W.heap.size := by obtain ⟨m, hm⟩ := k0; exact DataW.trod_lt m _ _ _ hm
  obtain ⟨a0, rfl, e0a, e0b, w0⟩ := open_string Tryd.underlying9 (hval 0 9 v0 rfl rfl) h0
  clear hA0 hval0
  refine (walk a0 w0 W  he).mono fun e W' ⟨hend, bel⟩ => ?_
  subst hend
  exact ⟨_, rfl, _, _, _, [], _, [], hW', trodAll_mk1 (shut_bool Tryd.underlying4 _), (trodAll_cons_mk (Below.trod Facts.laidOut (by kernel_rfl) (of_decide_eq_true (by kernel_rfl)) k0 bel lt0) trodAll_mk0), rfl, bel.frame _, fun h => by cases h⟩

theorem closed : joinedFacts Tryd.pinned.checked.prog 8 Tryd.f8 Rows.fnExactPartsOfDictSpec Rows.fnExactPartsOfDictRow = true := by
  simp only [joinedFacts, Bool.and_eq_true]
  refine ⟨⟨⟨⟨⟨⟨⟨⟨⟨⟨⟨⟨⟨⟨⟨⟨⟨⟨⟨⟨⟨⟨⟨⟨⟨⟨⟨⟨⟨⟨⟨?_, Facts.laidOut⟩, Facts.rowed⟩, ?_⟩, ?_⟩, ?_⟩, Facts.stops⟩, ?_⟩, Facts.knobs⟩, ?_⟩, ?_⟩, ?_⟩, ?_⟩, ?_⟩, ?_⟩, ?_⟩, ?_⟩, ?_⟩, ?_⟩, ?_⟩, ?_⟩, ?_⟩, ?_⟩, ?_⟩, Facts.heard⟩, Facts.may⟩,
    (congrArg (fun x => (Rows.fnExactPartsOfDictRow.lifted == x)) Facts.lifts).trans (by kernel_rfl)⟩, (congrArg (fun x => (x == some Rows.fnExactPartsOfDictRow.make)) Facts.makes).trans (by kernel_rfl)⟩, ?_⟩, ?_⟩, ?_⟩, ?_⟩
  all_goals kernel_rfl

theorem proved : Rows.FnExactPartsOfDictSaid :=
  OpenClaim.holds_of_wide 8 Tryd.f8 rfl rfl rfl rfl rfl rfl rfl ⟨rfl, rfl, rfl, rfl, rfl⟩ rfl rfl rfl rfl rfl (by kernel_rfl) Tryd.func8 closed
    (of_decide_eq_true (by kernel_rfl)) (by unfold Func.isWrapper; rw [if_neg (of_decide_eq_false (by kernel_rfl))]; exact ⟨rfl, rfl⟩)
    (fun os started H enc _ => lifted os started H enc)
end Go.Proofs.YtlpfgiegapelmaaDoor.fnExactPartsOfDict
namespace Go.Proofs.YtlpfgiegapelmaaDoor
theorem fnExactPartsOfDict_holds : Rows.FnExactPartsOfDictCardSaid :=
  Claim7.holds_tied_plain_at .later [] Rows.fnExactPartsOfDictCard.laidKinds true Rows.fnExactPartsOfDictCard.stood.harness Rows.fnExactPartsOfDictCard.stood.looks
    fnExactPartsOfDict.proved (fun _ h => by cases h) (by kernel_rfl) (fun _ h => by cases h) fnExactPartsOfDict_row_tie rfl ⟨rfl, rfl⟩ (by kernel_rfl) rfl
    (fun f fn hf hfn => by
      obtain rfl : f = 8 := Option.some.inj ((show Tryd.prog.funcNamed Rows.fnExactPartsOfDictRow.func = some 8 by kernel_rfl).symm.trans hf) |>.symm
      obtain rfl : fn = Tryd.f8 := (Option.some.inj (Tryd.func8.symm.trans hfn)).symm
      exact ⟨by kernel_rfl, fun j t ht => by
        have hall : (Tryd.f8.params.toList.all fun u => !Tryd.prog.wantsStandIn u) = true := by kernel_rfl
        exact (show Tryd.prog.wantsStandIn t = false by simpa using List.all_eq_true.1 hall t (by simpa using Array.mem_of_getElem? ht))⟩)
    (by kernel_rfl)
#print axioms fnExactPartsOfDict_holds
end Go.Proofs.YtlpfgiegapelmaaDoor
