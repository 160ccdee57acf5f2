/- The law FnUnify, proved: whatever the input, the call returns true, and each argument reads behind it as before. -/
import Derived.Test.YtechacocfpobgaaGreatFacts
import Derived.Test.YtechacocfpobgaaGreatDrawM
import Derived.Test.YtechacocfpobgaaGreatLawB
import Derived.Test.YtechacocfpobgaaGreatLawO
import Derived.Test.YtechacocfpobgaaGreatBvI
import Derived.WalkKit
import Derived.ProofKit
import Derived.OpenShut
import Derived.ShutString
import Derived.ChangeOld
import Derived.Below
namespace Go.Proofs.YtechacocfpobgaaGreat.fnUnify
open Go.ChangeShapes Go.WideShapes Go.ChangeAt Go.RowKit
open Go.ChangeMaps (open_string shut_string)
set_option linter.unusedVariables false

set_option maxHeartbeats 1600000 in
set_option maxRecDepth 100000 in
theorem walk (w : World) (A0 : Option Addr) (len0 cap0 : Nat) (hl0 : len0 ≤ cap0) (hm0 : cap0 ≤ maxLen) (s0 : Bts w A0 len0) :
    Calls Tryz.prog 4 #[.slice A0 len0 cap0] w fun e w' => e = .returned (.bool true) ∧ Below w.heap.size w w' := by
  have hc0 : cap0 ≤ 9223372036854775807 := hm0
  have S0 := hid s0
  clear s0
  by_cases hlong : 1048576 < len0
  · have h1 : (1048576 : Int) < (len0 : Int) := by omega
    go_enter Tryz.func4, Tryz.ntmps4
    go_wp2_with fail
    go_ret
    exact ⟨rfl, Below.refl _ _⟩
  have h1 : ¬ (1048576 : Int) < (len0 : Int) := by omega
  go_enter Tryz.func4, Tryz.ntmps4
  go_wp2_with fail
  refine (drawUnifyTypes_any A0 len0 cap0 w hl0 hm0 S0.out).mono ?_
  rintro e u1 ⟨a, b, rfl, ha, hb, hb1⟩
  have ha1 : a.size ≤ maxLen := by unfold maxLen; omega
  have hb1' : b.size ≤ maxLen := by unfold maxLen; omega
  obtain ⟨bb, zs, hz, HS, HI, HC, HF⟩ : ∃ (bb : Bool) (zs : List (ByteArray × ByteArray)), zs.length ≤ 6 ∧ Hid (∀ W, Calls Tryz.prog 17 #[.string a, .string b] W (TwoEnd bb zs W)) ∧ Hid (∀ W, Calls Tryz.prog 16 #[.string a, .string b] W (TwoEnd bb zs W)) ∧ Hid (∀ W, Calls Tryz.prog 16 #[.string b, .string a] W (TwoEnd bb zs W)) ∧
      Hid ((bb = false → meetOf a.data.toList b.data.toList = none) ∧ (bb = true → (∀ z ∈ zs, z.1.size ≤ 100 ∧ z.2.size ≤ 100) ∧ meetOf a.data.toList b.data.toList = apOf zs a.data.toList ∧ apOf zs a.data.toList = apOf zs b.data.toList ∧ bvOf zs = true ∧ ∀ z z', z ∈ zs → z' ∈ zs → cvOf z'.2 z.1 = 0)) := by
    have hS := fun W => unifyTypesS_any a b W ha1 hb1'
    have hI := fun W => unifyTypes_any a b W ha1 hb1'
    have hC := fun W => unifyTypes_any b a W hb1' ha1
    unfold UnifyEndS at hS
    unfold UnifyEnd at hI hC
    simp only [uniOf_comm b.data.toList a.data.toList] at hC
    rcases ho : uniOf a.data.toList b.data.toList with _ | g
    · simp only [ho] at hS hI hC
      exact ⟨false, [], by decide, fun W => (hS W).mono fun e w' h => ⟨h.1, h.2⟩, fun W => (hI W).mono fun e w' h => ⟨h.1, _, h.2, World.ownsRow_nil _ _ _ _⟩, fun W => (hC W).mono fun e w' h => ⟨h.1, _, h.2, World.ownsRow_nil _ _ _ _⟩, fun _ => meet_no ho, fun h => by cases h⟩
    · simp only [ho] at hS hI hC
      refine ⟨true, told g, told_len g, fun W => (hS W).mono fun e w' h => ⟨h.1, h.2⟩, fun W => (hI W).mono fun e w' h => ⟨h.1, h.2⟩, fun W => (hC W).mono fun e w' h => ⟨h.1, h.2⟩, fun h => (by cases h), fun _ => ⟨fun z hz => ?_, meet_uni ho, (uni_both ho).1, (uni_both ho).2, fun z z' hz hz' => uni_gone ho hz hz'⟩⟩
      have := told_small (uniOf_short ho).2 z hz
      omega
  obtain ⟨n, hn⟩ : ∃ n, zs.length = n := ⟨_, rfl⟩
  rw [hn] at hz
  have HN := hid hn
  obtain ⟨m, hm⟩ : ∃ m, meetOf a.data.toList b.data.toList = m := ⟨_, rfl⟩
  have HMI := hid (fun W => meetI_any a b W ha1 hb1')
  have HMS := hid (fun W => meetS_any a b W ha1 hb1')
  simp only [hm] at HMI HMS
  obtain ⟨c, hc⟩ : ∃ c, apS m = c := ⟨_, rfl⟩
  obtain ⟨fi, hfi⟩ : ∃ c, m.isSome = c := ⟨_, rfl⟩
  simp only [hc, hfi] at HMI HMS
  have HM := hid hm
  have HCC := hid hc
  have HFI := hid hfi
  clear hn hm hc hfi
  go_wp2_with fail
  refine (HI.out u1).mono ?_
  rintro e u2 ⟨hb2, v2, rfl, ho2⟩
  rw [HN.out] at ho2
  obtain ⟨A2, c2, rfl, hnc2, hp2⟩ := own_pairs ho2
  clear ho2
  go_wp2_with fail
  refine (HS.out u2).mono ?_
  rintro e u3 ⟨hb3, v3, rfl, ho3⟩
  rw [HN.out] at ho3
  obtain ⟨A3, c3, rfl, hnc3, hp3⟩ := own_pairs ho3
  clear ho3
  have HP2 := hid (hp2.below hb3)
  have HP3 := hid hp3
  have b13 := hb2.trans (hb3.mono hb2.size)
  have bw3 := hb1.trans (b13.mono hb1.size)
  clear hp2 hp3
  go_wp2_with fail
  refine (HMI.out u3).mono ?_
  rintro e u4 ⟨rfl, hb4⟩
  go_wp2_with fail
  refine (HMS.out u4).mono ?_
  rintro e u5 ⟨rfl, hb5⟩
  have b35 := hb4.trans (hb5.mono hb4.size)
  have bw5 := bw3.trans (b35.mono bw3.size)
  go_wp2_with fail
  refine (inBindings_same A2 A3 n c2 c3 zs u5 (HP2.out.below b35) (HP3.out.below b35) (by omega)).mono ?_
  rintro e u6 ⟨rfl, hb6⟩
  have b36 := b35.trans (hb6.mono b35.size)
  have bw6 := bw3.trans (b36.mono bw3.size)
  have HP26 := hid (HP2.out.below b36)
  have HP36 := hid (HP3.out.below b36)
  cases bb
  · have hfi : fi = false := by
      rw [← HFI.out, ← HM.out, HF.out.1 rfl]
      rfl
    subst hfi
    go_wp2_with fail
    refine (inBindings_same A2 A3 n c2 c3 zs u6 HP26.out HP36.out (by omega)).mono ?_
    rintro e v4 ⟨rfl, d4⟩
    go_wp2_with fail
    go_ret
    exact ⟨rfl, bw6.trans (d4.mono bw6.size)⟩
  obtain ⟨f0, f1, f2, f3, f4⟩ := HF.out.2 rfl
  have hap := f1.symm.trans HM.out
  have hap2 := f2.symm.trans hap
  have hmax : ∀ z ∈ zs, z.1.size ≤ maxLen ∧ z.2.size ≤ maxLen := fun z hz => ⟨Nat.le_trans (f0 z hz).1 (by decide), Nat.le_trans (f0 z hz).2 (by decide)⟩
  have HAA := hid (fun W (h : Prs W A2 n zs) => apI_any A2 n c2 zs a W h hmax (by omega) ha1)
  have HAB := hid (fun W (h : Prs W A2 n zs) => apI_any A2 n c2 zs b W h hmax (by omega) hb1')
  have HBV := hid (fun W (h : Prs W A2 n zs) => bvI_any A2 n c2 zs W h hmax (by omega))
  simp only [hap, HCC.out, HFI.out] at HAA
  simp only [hap2, HCC.out, HFI.out] at HAB
  simp only [f3] at HBV
  have F0 := hid f0
  have F4 := hid f4
  have HIN := hid (show fi = true → (mtOf a.data.toList c.data.toList).isSome = true ∧ (mtOf b.data.toList c.data.toList).isSome = true ∧ c.size ≤ maxLen by
    intro h
    obtain ⟨l, hl⟩ := Option.isSome_iff_exists.1 (HFI.out.trans h)
    have hc : c = strOf l := by rw [← HCC.out, hl]; rfl
    have hme := HM.out.trans hl
    obtain ⟨k1, k2⟩ := meet_inst hme
    rw [hc, strOf_list]
    refine ⟨k1, k2, ?_⟩
    rw [hl] at hap
    obtain ⟨_, T, _, h4, h5⟩ := ap_some hap
    rw [strOf_size, h5]
    unfold maxLen
    omega)
  clear f0 f1 f2 f3 f4 HF HS HI HMI HMS hap hap2 hmax
  cases fi
  all_goals
    go_wp2_with fail
    go_loopw [99] (fun i wr => ∃ k : Nat, k ≤ n ∧ i = .int .i64 k ∧ Below u6.heap.size u6 wr) (fun i _ => n - (intOf i).toNat)
    case atStart => exact ⟨0, Nat.zero_le _, rfl, Below.refl _ _⟩
    case round =>
      obtain ⟨k, hk, rfl, hbel⟩ := hrel
      have zr := hbel.size
      by_cases hlt : k < n
      · obtain ⟨g, o2, rfl, hg, hca⟩ := HP26.out.2 (by omega)
        have hx : zs[k]? = some (zs[k]'(by have := HP26.out.1; omega)) := List.getElem?_eq_getElem _
        obtain ⟨ca, cb⟩ := hca k _ hx
        obtain ⟨⟨p, q⟩, ex⟩ : ∃ z, zs[k]'(by have := HP26.out.1; omega) = z := ⟨_, rfl⟩
        rw [ex] at ca cb hx
        have hmem := List.mem_of_getElem? hx
        have hps : p.size ≤ maxLen := Nat.le_trans (F0.out _ hmem).1 (by decide)
        have HMEM := hid hmem
        have HCA := hid hca
        have ca' := cell_below ca hg hbel
        have cb' := cell_below cb hg hbel
        clear hca hx ex ca cb hmem
        have i1 : (0 : Int) ≤ (k : Int) := by omega
        have i2 : (k : Int) < (n : Int) := by omega
        go_wp2_with fail
        have hb7 : Below u6.heap.size u6 (wr.alloc (.cells #[.string p, .string q] 33)) := hbel.alloc zr _
        have px := (blk_cells2 (heap_new1 wr (.cells #[.string p, .string q] 33))).1
        obtain ⟨w1, hw1⟩ : ∃ w1, wr.alloc (.cells #[.string p, .string q] 33) = w1 := ⟨_, rfl⟩
        have zw : wr.heap.size < w1.heap.size := by rw [← hw1]; simp only [World.size_alloc]; omega
        rw [hw1] at hb7 px ⊢
        clear hw1 ca' cb'
        go_loopw [105] (fun i wi => ∃ j : Nat, j ≤ n ∧ i = .int .i64 j ∧ Below w1.heap.size w1 wi) (fun i _ => n - (intOf i).toNat)
        case atStart => exact ⟨0, Nat.zero_le _, rfl, Below.refl _ _⟩
        case round =>
          obtain ⟨j, hj, rfl, hbj⟩ := hrel
          have zj := hbj.size
          have z7 := hb7.size
          have hbk := hb7.trans (hbj.mono z7)
          by_cases hlj : j < n
          · have hx : zs[j]? = some (zs[j]'(by have := HP26.out.1; omega)) := List.getElem?_eq_getElem _
            obtain ⟨ca, cb⟩ := HCA.out j _ hx
            obtain ⟨⟨p2, q2⟩, ex⟩ : ∃ z, zs[j]'(by have := HP26.out.1; omega) = z := ⟨_, rfl⟩
            rw [ex] at ca cb hx
            have hmem := List.mem_of_getElem? hx
            have hqs : q2.size ≤ maxLen := Nat.le_trans (F0.out _ hmem).2 (by decide)
            have HK := hid (F4.out _ _ HMEM.out hmem)
            have ca' := cell_below ca hg hbk
            have cb' := cell_below cb hg hbk
            have px' := cell_below (cell_below px (by exact zw) hbj) (by omega) (((Below.refl _ wr).alloc (Nat.le_refl _) (.cells #[.string p2, .string q2] 33)))
            clear hx ex ca cb hmem
            have j1 : (0 : Int) ≤ (j : Int) := by omega
            have j2 : (j : Int) < (n : Int) := by omega
            go_wp2_with fail
            refine (countVarI_at q2 p hqs hps _ 0 HK).mono ?_
            rintro e v1 ⟨rfl, d1⟩
            go_wp2_with fail
            go_roundw
            case rel => exact ⟨j + 1, hlj, by go_num, (hbj.alloc zj _).trans (d1.mono (by simp only [World.size_alloc]; omega))⟩
            case measure => simp [intOf]; omega
          · have hjn : j = n := by omega
            subst hjn
            go_wp2_with fail
            go_roundw
            case rel => exact ⟨k + 1, hlt, by go_num, hbk⟩
            case measure => simp [intOf]; omega
      · obtain rfl : k = n := by omega
        have bwr := bw6.trans (hbel.mono bw6.size)
        have HPr := hid (HP26.out.below hbel)
        go_wp2_with fail
        refine (HAA.out _ HPr.out).mono ?_
        rintro e v1 ⟨rfl, d1⟩
        go_wp2_with fail
        refine (HAB.out _ (HPr.out.below d1)).mono ?_
        rintro e v2 ⟨rfl, d2⟩
        have d12 := d1.trans (d2.mono d1.size)
        go_wp2_with fail
        refine (HC.out v2).mono ?_
        rintro e v3 ⟨d3, vo, rfl, ho⟩
        rw [HN.out] at ho
        obtain ⟨A4, c4, rfl, hnc4, hp4⟩ := own_pairs ho
        clear ho
        have d13 := d12.trans (d3.mono d12.size)
        have HP4 := hid hp4
        have HPr3 := hid (HPr.out.below d13)
        have bw3 := bwr.trans (d13.mono bwr.size)
        clear hp4
        go_wp2_with fail
        refine (HBV.out v3 HPr3.out).mono ?_
        rintro e v4 ⟨rfl, d4⟩
        have bw4 := bw3.trans (d4.mono bw3.size)
        go_wp2_with fail
        first
          | (refine (inBindings_same A4 A2 k c4 c2 zs v4 (HP4.out.below d4) (HPr3.out.below d4) (by omega)).mono ?_
             rintro e v5 ⟨rfl, d5⟩
             go_wp2_with fail
             go_ret
             exact ⟨rfl, bw4.trans (d5.mono bw4.size)⟩)
          | (obtain ⟨k1, k2, k3⟩ := HIN.out (by trivial)
             have HIa := isInstance_any a c v4 ha1 k3
             rw [k1] at HIa
             refine HIa.mono ?_
             rintro e v5 ⟨rfl, d5⟩
             go_wp2_with fail
             have HIb := isInstance_any b c v5 hb1' k3
             rw [k2] at HIb
             refine HIb.mono ?_
             rintro e v6 ⟨rfl, d6⟩
             have d46 := d4.trans ((d5.trans (d6.mono d5.size)).mono d4.size)
             have bw6' := bw3.trans (d46.mono bw3.size)
             go_wp2_with fail
             refine (inBindings_same A4 A2 k c4 c2 zs v6 (HP4.out.below d46) (HPr3.out.below d46) (by omega)).mono ?_
             rintro e v7 ⟨rfl, d7⟩
             go_wp2_with fail
             go_ret
             exact ⟨rfl, bw6'.trans (d7.mono bw6'.size)⟩)

set_option maxRecDepth 100000 in
theorem lifted (os : Os) (started : os.Started) (H : Type) (enc : TypeId × Value → H) :
    ReturnsInHanded {} Tryz.checked os 4 .any (Rows.fnUnifySpec.pre6 enc Tryz.prog Tryz.f4 Rows.fnUnifyRow.domain false) (Rows.fnUnifySpec.post enc Tryz.prog Tryz.f4 false true false false) := by
  refine returnsInHanded_of_change (C := Tryz.checked) Facts.own started (by kernel_rfl) Tryz.func4
    (ChangeSpec.witness6 (enc := enc) (C := Tryz.checked) false ⟨#[], #[.slice none 0 0], []⟩ 8 (by kernel_rfl) (by kernel_rfl) (by kernel_rfl) (by kernel_rfl)) ?_
  intro W base args ds gs before hval0 hW hcnd _
  have hval : ∀ (j : Nat) t v, Tryz.f4.params[j]? = some t → args[j]? = some v → Value.okWide Tryz.prog W .any base t v := hval0
  have hW' := hW
  obtain ⟨p, q, hA0, hV, rfl, hfz, hnd⟩ := hW
  have hA : DataW.TrodAll enc Tryz.prog W 0 (fun _ => true) true Tryz.f4.params.toList args.toList ds p := hA0
  rw [Tryz.params4] at hA hval
  obtain ⟨v0, vs0, d0, ds0, p0, q0, hargs, rfl, rfl, h0, r0⟩ := trodAll_cons hA
  obtain ⟨rfl, rfl, rfl⟩ := trodAll_nil r0
  obtain rfl : args = #[v0] := by cases args; simp_all
  obtain ⟨rfl, rfl⟩ := trodVars_none hV
  have k0 := h0
  have lt0 : ∀ x ∈ p0, x.block < W.heap.size := by obtain ⟨m, hm⟩ := k0; exact DataW.trod_lt m _ _ _ hm
  obtain ⟨A0, len0, cap0, rfl⟩ := okWide_slice Tryz.underlying22 (hval 0 22 v0 rfl rfl)
  obtain ⟨hl0, hm0, s0⟩ : len0 ≤ cap0 ∧ cap0 ≤ maxLen ∧ Bts W A0 len0 := by
    obtain ⟨fuel, hf⟩ := h0
    rcases open_ints Tryz.underlying22 Tryz.underlying5 (by kernel_rfl) hf with ⟨hcs, _⟩ | ⟨x, l, c, zs, hcs, hx0, hl, hm, hz, _, hcell, hws⟩
    · simp [Value.cells] at hcs
      obtain ⟨rfl, rfl, rfl⟩ := hcs
      exact ⟨Nat.le_refl _, Nat.zero_le _, fun h => absurd h (Nat.lt_irrefl 0)⟩
    · simp [Value.cells] at hcs
      obtain ⟨rfl, rfl, rfl⟩ := hcs
      exact ⟨hl, hm, bts_of (by rw [hz]; split <;> omega) hcell hws⟩
  clear hA0 hval0
  refine (walk  W A0 len0 cap0 hl0 hm0 s0).mono fun e W' ⟨he, bel⟩ => ?_
  subst he
  exact ⟨_, rfl, _, _, _, [], _, [], hW', trodAll_mk1 (shut_bool Tryz.underlying4 _), (trodAll_cons_mk (Below.trod Facts.laidOut (by kernel_rfl) (of_decide_eq_true (by kernel_rfl)) k0 bel lt0) trodAll_mk0), rfl, bel.frame _, fun h => by cases h⟩

theorem closed : joinedFacts Tryz.pinned.checked.prog 4 Tryz.f4 Rows.fnUnifySpec Rows.fnUnifyRow = true := by
  simp only [joinedFacts, Bool.and_eq_true]
  refine ⟨⟨⟨⟨⟨⟨⟨⟨⟨⟨⟨⟨⟨⟨⟨⟨⟨⟨⟨⟨⟨⟨⟨⟨⟨⟨⟨⟨⟨⟨⟨?_, Facts.laidOut⟩, Facts.rowed⟩, ?_⟩, ?_⟩, ?_⟩, Facts.stops⟩, ?_⟩, Facts.knobs⟩, ?_⟩, ?_⟩, ?_⟩, ?_⟩, ?_⟩, ?_⟩, ?_⟩, ?_⟩, ?_⟩, ?_⟩, ?_⟩, ?_⟩, ?_⟩, ?_⟩, ?_⟩, Facts.heard⟩, Facts.may⟩,
    (congrArg (fun x => (Rows.fnUnifyRow.lifted == x)) Facts.lifts).trans (by kernel_rfl)⟩, (congrArg (fun x => (x == some Rows.fnUnifyRow.make)) Facts.makes).trans (by kernel_rfl)⟩, ?_⟩, ?_⟩, ?_⟩, ?_⟩
  all_goals kernel_rfl

theorem proved : Rows.FnUnifySaid :=
  OpenClaim.holds_of_wide 4 Tryz.f4 rfl rfl rfl rfl rfl rfl rfl ⟨rfl, rfl, rfl, rfl, rfl⟩ rfl rfl rfl rfl rfl (by kernel_rfl) Tryz.func4 closed
    (of_decide_eq_true (by kernel_rfl)) (by unfold Func.isWrapper; rw [if_neg (of_decide_eq_false (by kernel_rfl))]; exact ⟨rfl, rfl⟩)
    (fun os started H enc _ => lifted os started H enc)
end Go.Proofs.YtechacocfpobgaaGreat.fnUnify
namespace Go.Proofs.YtechacocfpobgaaGreat
theorem fnUnify_holds : Rows.FnUnifySaid := fnUnify.proved
#print axioms fnUnify_holds
end Go.Proofs.YtechacocfpobgaaGreat
