/- The law FnMatch, proved: whatever the input, the call returns true, and each argument reads behind it as before. -/
import Derived.Test.YtechacocfpobgaaGreatFacts
import Derived.Test.YtechacocfpobgaaGreatDrawM
import Derived.Test.YtechacocfpobgaaGreatLawB
import Derived.Test.YtechacocfpobgaaGreatLawN
import Derived.Test.YtechacocfpobgaaGreatBvI
import Derived.Test.YtechacocfpobgaaGreatApW
import Derived.Test.YtechacocfpobgaaGreatMtK
import Derived.WalkKit
import Derived.ProofKit
import Derived.OpenShut
import Derived.ShutString
import Derived.ChangeOld
import Derived.Below
namespace Go.Proofs.YtechacocfpobgaaGreat.fnMatch
open Go.ChangeShapes Go.WideShapes Go.ChangeAt Go.RowKit
open Go.ChangeMaps (open_string shut_string)
set_option linter.unusedVariables false

set_option maxHeartbeats 1600000 in
set_option maxRecDepth 100000 in
theorem walk (w : World) (A0 : Option Addr) (len0 cap0 : Nat) (hl0 : len0 ≤ cap0) (hm0 : cap0 ≤ maxLen) (s0 : Bts w A0 len0) :
    Calls Tryz.prog 3 #[.slice A0 len0 cap0] w fun e w' => e = .returned (.bool true) ∧ Below w.heap.size w w' := by
  have hc0 : cap0 ≤ 9223372036854775807 := hm0
  have S0 := hid s0
  clear s0
  by_cases hlong : 1048576 < len0
  · have h1 : (1048576 : Int) < (len0 : Int) := by omega
    go_enter Tryz.func3, Tryz.ntmps3
    go_wp2_with fail
    go_ret
    exact ⟨rfl, Below.refl _ _⟩
  have h1 : ¬ (1048576 : Int) < (len0 : Int) := by omega
  go_enter Tryz.func3, Tryz.ntmps3
  go_wp2_with fail
  refine (drawMatchType_any A0 len0 cap0 w hl0 hm0 S0.out).mono ?_
  rintro e u1 ⟨a, b, rfl, ha, hb, hb1⟩
  have ha1 : a.size ≤ maxLen := by unfold maxLen; omega
  have hb1' : b.size ≤ maxLen := by unfold maxLen; omega
  obtain ⟨bb, zs, hz, HS, HI, HII, HF⟩ : ∃ (bb : Bool) (zs : List (ByteArray × ByteArray)), zs.length ≤ 6 ∧ Hid (∀ W, Calls Tryz.prog 8 #[.string a, .string b] W (TwoEnd bb zs W)) ∧ Hid (∀ W, Calls Tryz.prog 7 #[.string a, .string b] W (TwoEnd bb zs W)) ∧ Hid (∀ W, Calls Tryz.prog 10 #[.string a, .string b] W fun e w' => e = .returned (.bool bb) ∧ Below W.heap.size W w') ∧
      Hid (bb = true → (∀ z ∈ zs, z.1.size ≤ 100 ∧ z.2.size ≤ 100) ∧ apOf zs a.data.toList = some b.data.toList ∧ bvOf zs = true ∧ toldL zs = varsOf a.data.toList ∧ sizeOf' a.data.toList ≤ sizeOf' b.data.toList) := by
    have hS := fun W => matchTypeS_any a b W ha1 hb1'
    have hI := fun W => matchType_any a b W ha1 hb1'
    have hII := fun W => isInstance_any a b W ha1 hb1'
    unfold MatchEndS at hS
    unfold MatchEnd at hI
    rcases ho : mtOf a.data.toList b.data.toList with _ | g
    · simp only [ho] at hS hI hII
      exact ⟨false, [], by decide, fun W => (hS W).mono fun e w' h => ⟨h.1, h.2⟩, fun W => (hI W).mono fun e w' h => ⟨h.1, _, h.2, World.ownsRow_nil _ _ _ _⟩, fun W => (hII W).mono fun e w' h => h, fun h => by cases h⟩
    · simp only [ho] at hS hI hII
      refine ⟨true, told g, told_len g, fun W => (hS W).mono fun e w' h => ⟨h.1, h.2⟩, fun W => (hI W).mono fun e w' h => ⟨h.1, h.2⟩, fun W => (hII W).mono fun e w' h => h, fun _ => ⟨fun z hz => ?_, match_facts ho⟩⟩
      obtain ⟨c, t, _, hc, rfl⟩ := told_mem hz
      have := (mtOf_tidy ho c t hc).2.2
      rw [strOf_size, strOf_size]
      exact ⟨Nat.le_trans (show [c].length ≤ 1 from Nat.le_refl _) (by decide), by omega⟩
  obtain ⟨n, hn⟩ : ∃ n, zs.length = n := ⟨_, rfl⟩
  rw [hn] at hz
  have HN := hid hn
  clear hn
  go_wp2_with fail
  refine (HI.out u1).mono ?_
  rintro e u2 ⟨hb2, v2, rfl, ho2⟩
  rw [HN.out] at ho2
  obtain ⟨A2, c2, rfl, hnc2, hp2⟩ := own_pairs ho2
  clear ho2
  go_wp2_with fail
  refine (HS.out u2).mono ?_
  rintro e u3 ⟨hb3, v3, rfl, ho3⟩
  rw [HN.out] at ho3
  obtain ⟨A3, c3, rfl, hnc3, hp3⟩ := own_pairs ho3
  clear ho3
  have hp23 := hp2.below hb3
  have HP2 := hid hp23
  have HP3 := hid hp3
  have b13 := hb2.trans (hb3.mono hb2.size)
  have bw3 := hb1.trans (b13.mono hb1.size)
  clear hp2 hp3 hp23
  go_wp2_with fail
  refine (inBindings_same A2 A3 n c2 c3 zs u3 HP2.out HP3.out (by omega)).mono ?_
  rintro e u4 ⟨rfl, hb4⟩
  go_wp2_with fail
  refine (HII.out u4).mono ?_
  rintro e u5 ⟨rfl, hb5⟩
  have b35 := hb4.trans (hb5.mono hb4.size)
  have bw5 := bw3.trans (b35.mono bw3.size)
  have HP25 := hid (HP2.out.below b35)
  have HP35 := hid (HP3.out.below b35)
  cases bb
  · go_wp2_with fail
    refine (inBindings_same A2 A3 n c2 c3 zs u5 HP25.out HP35.out (by omega)).mono ?_
    rintro e v4 ⟨rfl, d4⟩
    go_wp2_with fail
    refine (HII.out v4).mono ?_
    rintro e v5 ⟨rfl, d5⟩
    go_wp2_with fail
    go_ret
    exact ⟨rfl, bw5.trans ((d4.trans (d5.mono d4.size)).mono bw5.size)⟩
  obtain ⟨f0, f1, f2, f3, f4⟩ := HF.out rfl
  have HAP := hid (fun W (h : Prs W A2 n zs) => apI_any A2 n c2 zs a W h (fun z hz => ⟨Nat.le_trans (f0 z hz).1 (by decide), Nat.le_trans (f0 z hz).2 (by decide)⟩) (by omega) ha1)
  have HBV := hid (fun W (h : Prs W A2 n zs) => bvI_any A2 n c2 zs W h (fun z hz => ⟨Nat.le_trans (f0 z hz).1 (by decide), Nat.le_trans (f0 z hz).2 (by decide)⟩) (by omega))
  simp only [f1, apS, strOf_back, Option.isSome_some] at HAP
  simp only [f2] at HBV
  obtain ⟨q, hq⟩ : ∃ q, strOf (varsOf a.data.toList) = q := ⟨_, rfl⟩
  have HQ := hid hq
  have F3 := hid f3
  obtain ⟨x, hx⟩ : ∃ z, sizeOf' a.data.toList = z := ⟨_, rfl⟩
  obtain ⟨y, hy⟩ : ∃ z, sizeOf' b.data.toList = z := ⟨_, rfl⟩
  have HX := hid hx
  have HY := hid hy
  rw [hx, hy] at f4
  have F0 := hid f0
  clear f0 f1 f2 f3 hq hx hy HF
  go_wp2_with fail
  refine (HAP.out u5 HP25.out).mono ?_
  rintro e u6 ⟨rfl, hb6⟩
  have bw6 := bw5.trans (hb6.mono bw5.size)
  have HP26 := hid (HP25.out.below hb6)
  clear HP25 HP35 HP2 HP3
  go_wp2_with fail
  go_loopw [11, 77] (fun s i wr => ∃ (k : Nat) (o : ByteArray), k ≤ n ∧ i = .int .i64 k ∧ s = .string o ∧ o.data.toList = toldL (zs.take k) ∧ o.size ≤ 100 * k ∧ Below w.heap.size w wr ∧ Below u6.heap.size u6 wr) (fun _ i _ => n - (intOf i).toNat)
  case atStart => exact ⟨0, _, Nat.zero_le _, rfl, rfl, rfl, Nat.le_refl _, bw6, Below.refl _ _⟩
  case round =>
    obtain ⟨k, o, hk, rfl, rfl, ho, hos, hbel, hb6r⟩ := hrel
    have HOO := hid ho
    clear ho
    by_cases hlt : k < n
    · obtain ⟨g, o2, rfl, hg, hca⟩ := HP26.out.2 (by omega)
      have hx : zs[k]? = some (zs[k]'(by have := HP26.out.1; omega)) := List.getElem?_eq_getElem _
      obtain ⟨ca, cb⟩ := hca k _ hx
      obtain ⟨⟨p, q2⟩, ex⟩ : ∃ z, zs[k]'(by have := HP26.out.1; omega) = z := ⟨_, rfl⟩
      rw [ex] at ca cb hx
      have hps : p.size ≤ 100 := (F0.out _ (List.mem_of_getElem? hx)).1
      have HT := hid (toldL_snoc hx)
      have ca' := cell_below ca hg hb6r
      have cb' := cell_below cb hg hb6r
      clear hca hx ex ca cb
      have i1 : (0 : Int) ≤ (k : Int) := by omega
      have i2 : (k : Int) < (n : Int) := by omega
      go_wp2_with fail
      go_roundw
      case rel =>
        refine ⟨k + 1, o ++ p, hlt, by go_num, rfl, ?_, ?_, hbel.alloc hbel.size _, hb6r.alloc hb6r.size _⟩
        · rw [HT.out, ← HOO.out]
          simp [ByteArray.data_append]
        · rw [ByteArray.size_append]
          omega
      case measure => simp [intOf]; omega
    · obtain rfl : k = n := by omega
      have hqo : q = o := by
        rw [← HQ.out, ← F3.out, ← strOf_back o, HOO.out, List.take_of_length_le (by have := HP26.out.1; omega)]
      subst hqo
      go_wp2_with fail
      refine (HBV.out _ (HP26.out.below hb6r)).mono ?_
      rintro e v1 ⟨rfl, d1⟩
      go_wp2_with fail
      refine (varsI_at a ha1 _ q HQ).mono ?_
      rintro e v2 ⟨rfl, d2⟩
      go_wp2_with fail
      refine (sizeI_at a ha1 _ x HX).mono ?_
      rintro e v3 ⟨rfl, d3⟩
      go_wp2_with fail
      refine (sizeI_at b hb1' _ y HY).mono ?_
      rintro e v4 ⟨rfl, d4⟩
      go_wp2_with fail
      go_ret
      exact ⟨rfl, hbel.trans ((d1.trans ((d2.trans ((d3.trans (d4.mono d3.size)).mono d2.size)).mono d1.size)).mono hbel.size)⟩

set_option maxRecDepth 100000 in
theorem lifted (os : Os) (started : os.Started) (H : Type) (enc : TypeId × Value → H) :
    ReturnsInHanded {} Tryz.checked os 3 .any (Rows.fnMatchSpec.pre6 enc Tryz.prog Tryz.f3 Rows.fnMatchRow.domain false) (Rows.fnMatchSpec.post enc Tryz.prog Tryz.f3 false true false false) := by
  refine returnsInHanded_of_change (C := Tryz.checked) Facts.own started (by kernel_rfl) Tryz.func3
    (ChangeSpec.witness6 (enc := enc) (C := Tryz.checked) false ⟨#[], #[.slice none 0 0], []⟩ 8 (by kernel_rfl) (by kernel_rfl) (by kernel_rfl) (by kernel_rfl)) ?_
  intro W base args ds gs before hval0 hW hcnd _
  have hval : ∀ (j : Nat) t v, Tryz.f3.params[j]? = some t → args[j]? = some v → Value.okWide Tryz.prog W .any base t v := hval0
  have hW' := hW
  obtain ⟨p, q, hA0, hV, rfl, hfz, hnd⟩ := hW
  have hA : DataW.TrodAll enc Tryz.prog W 0 (fun _ => true) true Tryz.f3.params.toList args.toList ds p := hA0
  rw [Tryz.params3] at hA hval
  obtain ⟨v0, vs0, d0, ds0, p0, q0, hargs, rfl, rfl, h0, r0⟩ := trodAll_cons hA
  obtain ⟨rfl, rfl, rfl⟩ := trodAll_nil r0
  obtain rfl : args = #[v0] := by cases args; simp_all
  obtain ⟨rfl, rfl⟩ := trodVars_none hV
  have k0 := h0
  have lt0 : ∀ x ∈ p0, x.block < W.heap.size := by obtain ⟨m, hm⟩ := k0; exact DataW.trod_lt m _ _ _ hm
  obtain ⟨A0, len0, cap0, rfl⟩ := okWide_slice Tryz.underlying22 (hval 0 22 v0 rfl rfl)
  obtain ⟨hl0, hm0, s0⟩ : len0 ≤ cap0 ∧ cap0 ≤ maxLen ∧ Bts W A0 len0 := by
    obtain ⟨fuel, hf⟩ := h0
    rcases open_ints Tryz.underlying22 Tryz.underlying5 (by kernel_rfl) hf with ⟨hcs, _⟩ | ⟨x, l, c, zs, hcs, hx0, hl, hm, hz, _, hcell, hws⟩
    · simp [Value.cells] at hcs
      obtain ⟨rfl, rfl, rfl⟩ := hcs
      exact ⟨Nat.le_refl _, Nat.zero_le _, fun h => absurd h (Nat.lt_irrefl 0)⟩
    · simp [Value.cells] at hcs
      obtain ⟨rfl, rfl, rfl⟩ := hcs
      exact ⟨hl, hm, bts_of (by rw [hz]; split <;> omega) hcell hws⟩
  clear hA0 hval0
  refine (walk  W A0 len0 cap0 hl0 hm0 s0).mono fun e W' ⟨he, bel⟩ => ?_
  subst he
  exact ⟨_, rfl, _, _, _, [], _, [], hW', trodAll_mk1 (shut_bool Tryz.underlying4 _), (trodAll_cons_mk (Below.trod Facts.laidOut (by kernel_rfl) (of_decide_eq_true (by kernel_rfl)) k0 bel lt0) trodAll_mk0), rfl, bel.frame _, fun h => by cases h⟩

theorem closed : joinedFacts Tryz.pinned.checked.prog 3 Tryz.f3 Rows.fnMatchSpec Rows.fnMatchRow = true := by
  simp only [joinedFacts, Bool.and_eq_true]
  refine ⟨⟨⟨⟨⟨⟨⟨⟨⟨⟨⟨⟨⟨⟨⟨⟨⟨⟨⟨⟨⟨⟨⟨⟨⟨⟨⟨⟨⟨⟨⟨?_, Facts.laidOut⟩, Facts.rowed⟩, ?_⟩, ?_⟩, ?_⟩, Facts.stops⟩, ?_⟩, Facts.knobs⟩, ?_⟩, ?_⟩, ?_⟩, ?_⟩, ?_⟩, ?_⟩, ?_⟩, ?_⟩, ?_⟩, ?_⟩, ?_⟩, ?_⟩, ?_⟩, ?_⟩, ?_⟩, Facts.heard⟩, Facts.may⟩,
    (congrArg (fun x => (Rows.fnMatchRow.lifted == x)) Facts.lifts).trans (by kernel_rfl)⟩, (congrArg (fun x => (x == some Rows.fnMatchRow.make)) Facts.makes).trans (by kernel_rfl)⟩, ?_⟩, ?_⟩, ?_⟩, ?_⟩
  all_goals kernel_rfl

theorem proved : Rows.FnMatchSaid :=
  OpenClaim.holds_of_wide 3 Tryz.f3 rfl rfl rfl rfl rfl rfl rfl ⟨rfl, rfl, rfl, rfl, rfl⟩ rfl rfl rfl rfl rfl (by kernel_rfl) Tryz.func3 closed
    (of_decide_eq_true (by kernel_rfl)) (by unfold Func.isWrapper; rw [if_neg (of_decide_eq_false (by kernel_rfl))]; exact ⟨rfl, rfl⟩)
    (fun os started H enc _ => lifted os started H enc)
end Go.Proofs.YtechacocfpobgaaGreat.fnMatch
namespace Go.Proofs.YtechacocfpobgaaGreat
theorem fnMatch_holds : Rows.FnMatchSaid := fnMatch.proved
#print axioms fnMatch_holds
end Go.Proofs.YtechacocfpobgaaGreat
