/- The law FnMakeDict, proved: whatever the input, the call returns true, and each argument reads behind it as before. -/
import Derived.Test.YtlpfgiegapelmaaDoorFacts
import Derived.Test.YtlpfgiegapelmaaDoorDcV
import Derived.Test.YtlpfgiegapelmaaDoorDrawD
import Derived.Test.YtlpfgiegapelmaaDoorDraT
import Derived.Test.YtlpfgiegapelmaaDoorLawK
import Derived.Test.YtlpfgiegapelmaaDoorTabN
import Derived.Test.YtlpfgiegapelmaaDoorDoor
import Derived.Test.YtlpfgiegapelmaaDoorCards
import Derived.Test.YtlpfgiegapelmaaDoorTie
import Derived.SevenTiedAt
import Derived.LaidMore
import Derived.WalkKit
import Derived.ProofKit
import Derived.OpenShut
import Derived.ShutString
import Derived.ChangeOld
import Derived.Below
namespace Go.Proofs.YtlpfgiegapelmaaDoor.fnMakeDict
open Go.ChangeShapes Go.WideShapes Go.ChangeAt Go.RowKit
open Go.ChangeMaps (open_string shut_string)
set_option linter.unusedVariables false

set_option maxHeartbeats 1600000 in
set_option maxRecDepth 100000 in
theorem walk (w : World) (A0 : Option Addr) (len0 cap0 : Nat) (hl0 : len0 ≤ cap0) (hm0 : cap0 ≤ maxLen) (s0 : Bts w A0 len0) (A1 : Option Addr) (len1 cap1 : Nat) (hl1 : len1 ≤ cap1) (hm1 : cap1 ≤ maxLen) (s1 : Bts w A1 len1) (he : NoneW w) :
    Calls Tryd.prog 3 #[.slice A0 len0 cap0, .slice A1 len1 cap1] w fun e w' => e = .returned (.bool true) ∧ Below w.heap.size w w' := by
  have hA := hid s0
  have hB := hid s1
  clear s0 s1 he
  by_cases h0 : 1048576 < len0
  · go_enter Tryd.func3, Tryd.ntmps3
    go_wp2_with fail
    go_ret
    exact ⟨rfl, Below.refl _ _⟩
  by_cases h1 : 1048576 < len1
  · go_enter Tryd.func3, Tryd.ntmps3
    go_wp2_with fail
    go_ret
    exact ⟨rfl, Below.refl _ _⟩
  go_enter Tryd.func3, Tryd.ntmps3
  go_wp2_with fail
  refine (drawPartsOfDict_any A0 len0 cap0 w hl0 hm0 hA.out).mono ?_
  rintro e w1 ⟨d, rfl, hds, hb1⟩
  have D1 := hid hb1
  have hdm : d.size ≤ maxLen := by unfold maxLen; omega
  obtain ⟨xs, hxs⟩ : ∃ xs, dpsOf d.data.toList = xs := ⟨_, rfl⟩
  obtain ⟨i, hi⟩ : ∃ i, instOf d.data.toList = i := ⟨_, rfl⟩
  obtain ⟨v, hv⟩ : ∃ v, (dtOf d.data.toList).isSome = v := ⟨_, rfl⟩
  obtain ⟨L, hL⟩ : ∃ L, insIn d.data.toList = L := ⟨_, rfl⟩
  obtain ⟨sz, hsz⟩ : ∃ sz, szOf d.data.toList = sz := ⟨_, rfl⟩
  obtain ⟨dp, hdp⟩ : ∃ dp, depOf d.data.toList = dp := ⟨_, rfl⟩
  have hx3 : xs.length ≤ 3 := by rw [← hxs]; exact dpsOf_len _
  have HXS := hid hxs
  have HI := hid hi
  have HV := hid hv
  have HL := hid hL
  have HSZ := hid hsz
  have HDP := hid hdp
  obtain ⟨n, hn⟩ : ∃ n, xs.length = n := ⟨_, rfl⟩
  obtain ⟨l, hl⟩ : ∃ l, L.length = l := ⟨_, rfl⟩
  have hl10 : l ≤ 10 := by rw [← hl, ← hL]; exact insIn_len _
  rw [hn] at hx3
  have HN := hid hn
  have HLL := hid hl
  have PI := hid (fun W => partsOfDictI_any d W hdm)
  have PS := hid (fun W => partsOfDictS_any d W hdm)
  have NI := hid (fun W => instancesInI_any d W hdm)
  have NS := hid (fun W => instancesInS_any d W hdm)
  simp only [hxs, hn] at PI PS
  simp only [hL] at NI NS
  clear hb1 hxs hi hv hL hsz hdp hn hl
  go_wp2_with fail
  refine (PI.out w1).mono ?_
  rintro e w2 ⟨⟨v2, rfl, ho2⟩, hb2⟩
  obtain ⟨B2, c2, rfl, hc2, st2⟩ := own_made ho2
  have S2 := hid st2
  have D2 := hid (D1.out.trans (hb2.mono D1.out.size))
  clear hb2 ho2 st2
  go_wp2_with fail
  refine (instanceOfI_at d w2 hdm i HI).mono ?_
  rintro e w3 ⟨rfl, hb3⟩
  have S3 := hid (S2.out.below hb3)
  have D3 := hid (D2.out.trans (hb3.mono D2.out.size))
  clear hb3
  go_wp2_with fail
  refine (PS.out w3).mono ?_
  rintro e w4 ⟨⟨v4, rfl, ho4⟩, hb4⟩
  obtain ⟨B4, c4, rfl, hc4, st4⟩ := own_made ho4
  have S4 := hid (S3.out.below hb4)
  have T4 := hid st4
  have D4 := hid (D3.out.trans (hb4.mono D3.out.size))
  clear hb4 ho4 st4
  go_wp2_with fail
  refine (inTexts_any B2 B4 n n c2 c4 xs xs w4 S4.out T4.out (by omega) (by omega) true (hid (decide_eq_true rfl))).mono ?_
  rintro e w5 ⟨rfl, hb5⟩
  have S5 := hid (S4.out.below hb5)
  have D5 := hid (D4.out.trans (hb5.mono D4.out.size))
  clear hb5
  go_wp2_with fail
  refine (instanceOfS_at d w5 hdm i HI).mono ?_
  rintro e w6 ⟨rfl, hb6⟩
  have S6 := hid (S5.out.below hb6)
  have D6 := hid (D5.out.trans (hb6.mono D5.out.size))
  clear hb6
  go_wp2_with fail
  refine (dictValidI_at d w6 hdm v HV).mono ?_
  rintro e w7 ⟨rfl, hb7⟩
  have S7 := hid (S6.out.below hb7)
  have D7 := hid (D6.out.trans (hb7.mono D6.out.size))
  clear hb7
  go_wp2_with fail
  refine (dictValidS_at d w7 hdm v HV).mono ?_
  rintro e w8 ⟨rfl, hb8⟩
  have S8 := hid (S7.out.below hb8)
  have D8 := hid (D7.out.trans (hb8.mono D7.out.size))
  clear hb8
  go_wp2_with fail
  refine (NI.out w8).mono ?_
  rintro e w9 ⟨⟨v9, rfl, ho9⟩, hb9⟩
  obtain ⟨A9, c9, rfl, _, _, nu9⟩ := ho9.form
  rw [HLL.out] at nu9 ⊢
  have N9 := hid nu9.ints
  have S9 := hid (S8.out.below hb9)
  have D9 := hid (D8.out.trans (hb9.mono D8.out.size))
  clear hb9 ho9 nu9
  go_wp2_with fail
  refine (NS.out w9).mono ?_
  rintro e w10 ⟨⟨v10, rfl, ho10⟩, hb10⟩
  obtain ⟨A10, c10, rfl, _, _, nu10⟩ := ho10.form
  rw [HLL.out] at nu10 ⊢
  have N10 := hid nu10.ints
  have N9b := hid (N9.out.below hb10)
  have S10 := hid (S9.out.below hb10)
  have D10 := hid (D9.out.trans (hb10.mono D9.out.size))
  clear hb10 ho10 nu10
  go_wp2_with fail
  refine (inSame_any A9 A10 l l c9 c10 (zOf L) (zOf L) w10 N9b.out N10.out (by omega) (by omega) true (hid (decide_eq_true rfl))).mono ?_
  rintro e w11 ⟨rfl, hb11⟩
  have S11 := hid (S10.out.below hb11)
  have D11 := hid (D10.out.trans (hb11.mono D10.out.size))
  clear hb11
  go_wp2_with fail
  refine (drawMakeDict_any A1 len1 cap1 w11 hl1 hm1 (hB.out.below D11.out)).mono ?_
  rintro e w12 ⟨k, B12, n12, c12, ys, rfl, ⟨hk0, hk1⟩, hc12, hn12, st12, hys, hb12⟩
  have S12 := hid (S11.out.below hb12)
  have Y12 := hid st12
  have HYS := hid (fun (y : ByteArray) (h : y ∈ ys) => show y.size ≤ maxLen from by have := hys y h; unfold maxLen; omega)
  have D12 := hid (D11.out.trans (hb12.mono D11.out.size))
  clear hb12 st12 hys
  obtain ⟨r, hr⟩ : ∃ r, stO (mkD k ys) = r := ⟨_, rfl⟩
  obtain ⟨b, hb⟩ : ∃ b, (mkD k ys).isSome = b := ⟨_, rfl⟩
  have HR := hid hr
  have HBB := hid hb
  clear hr hb
  go_wp2_with fail
  refine (makeDictI_any k ⟨by omega, by omega⟩ B12 n12 c12 ys w12 (by omega) hc12 Y12.out HYS.out r b HR HBB).mono ?_
  rintro e w13 ⟨rfl, hb13⟩
  have S13 := hid (S12.out.below hb13)
  have Y13 := hid (Y12.out.below hb13)
  have D13 := hid (D12.out.trans (hb13.mono D12.out.size))
  clear hb13
  go_wp2_with fail
  refine (makeDictS_any k ⟨by omega, by omega⟩ B12 n12 c12 ys w13 (by omega) hc12 Y13.out HYS.out r b HR HBB).mono ?_
  rintro e w14 ⟨rfl, hb14⟩
  have S14 := hid (S13.out.below hb14)
  have D14 := hid (D13.out.trans (hb14.mono D13.out.size))
  clear hb14
  rcases hd : dtOf d.data.toList with _ | t
  · have hi1 : i = -1 := by rw [← HI.out]; unfold instOf; rw [hd]
    have hz1 : sz = -1 := by rw [← HSZ.out]; unfold szOf; rw [hd]
    have hp1 : dp = -1 := by rw [← HDP.out]; unfold depOf; rw [hd]
    have hn0 : n = 0 := by rw [← HN.out, ← HXS.out]; unfold dpsOf; rw [hd]; rfl
    have Z1 := hid hz1
    have P1 := hid hp1
    subst hi1
    subst hn0
    clear hz1 hp1 hd
    go_wp2_with fail
    refine (sizeOfDictI_at d w14 hdm sz HSZ).mono ?_
    rintro e w15 ⟨rfl, hb15⟩
    have D15 := hid (D14.out.trans (hb15.mono D14.out.size))
    rw [Z1.out]
    clear hb15
    go_wp2_with fail
    refine (depthOfDictI_at d w15 hdm dp HDP).mono ?_
    rintro e w16 ⟨rfl, hb16⟩
    have D16 := hid (D15.out.trans (hb16.mono D15.out.size))
    rw [P1.out]
    clear hb16
    go_wp2_with fail
    go_ret
    exact ⟨rfl, D16.out⟩
  · obtain ⟨c, ps⟩ := t
    obtain ⟨htx, hok, hlen⟩ := dtOf_text hd
    obtain ⟨hdg, hp3, _⟩ := (Dt.ok_nd c ps).1 hok
    obtain ⟨q, hq⟩ : ∃ q, c.toNat - 48 = q := ⟨_, rfl⟩
    have hq9 : q ≤ 9 := by have := dg_val hdg; omega
    have hi1 : i = (q : Int) := by rw [← HI.out, ← hq]; unfold instOf; rw [hd]
    have hx1 : xs = ps.map fun p => strOf p.text := by rw [← HXS.out]; unfold dpsOf; rw [hd]
    have hpn : ps.length = n := by rw [← HN.out, hx1, List.length_map]
    have hback := mkD_back hd
    rw [hq, HXS.out] at hback
    have HR2 := hid (show stO (mkD (q : Int) xs) = d by rw [hback]; exact (strOf_eq rfl).symm)
    have HB2 := hid (show (mkD (q : Int) xs).isSome = true by rw [hback]; rfl)
    have hsz1 : sz = ((1 + sizeL ps : Nat) : Int) := by rw [← HSZ.out]; unfold szOf; rw [hd]; show ((Dt.nd c ps).size : Int) = _; rw [Dt.size_nd]
    have hdp1 : dp = ((depthL ps : Nat) : Int) := by rw [← HDP.out]; unfold depOf; rw [hd]; show ((Dt.nd c ps).depth : Int) = _; rw [Dt.depth_nd]
    have hls := insIn_size hd
    rw [HL.out, HLL.out, Dt.size_nd] at hls
    have hsb := (Dt.nd c ps).size_le
    have hdb := (Dt.nd c ps).depth_le
    rw [← htx, Dt.size_nd] at hsb
    rw [← htx, Dt.depth_nd] at hdb
    obtain ⟨T, hT⟩ : ∃ T, sizeL ps = T := ⟨_, rfl⟩
    obtain ⟨U, hU⟩ : ∃ U, depthL ps = U := ⟨_, rfl⟩
    rw [hT] at hsz1 hls hsb
    rw [hU] at hdp1 hdb
    have hT1 : T ≤ 1200 := by omega
    have hU1 : U ≤ 1200 := by omega
    have HT := hid hT
    have HU := hid hU
    have HPN := hid hpn
    have HX := hid hx1
    have HPO := hid (part_ok hd)
    have Z1 := hid hsz1
    have P1 := hid hdp1
    have hxz : ∀ x ∈ xs, x.size ≤ maxLen := by
      intro x hx
      rw [hx1] at hx
      obtain ⟨p, hp, rfl⟩ := List.mem_map.1 hx
      have := (dtOf_text (part_ok hd p hp)).2.2
      rw [strOf_size]
      unfold maxLen
      omega
    have HXZ := hid hxz
    have hi0 : ¬ (q : Int) < 0 := by omega
    subst hi1
    clear hsz1 hdp1 hback htx hok hlen hdg hp3 hq hx1 hpn hT hU hd hxz hsb hdb
    go_wp2_with fail
    go_loopw [14, 15, 102] (fun s t j wr => ∃ k : Nat, k ≤ n ∧ j = .int .i64 k ∧ s = .int .i64 ((1 + sizeL (ps.take k) : Nat) : Int) ∧ t = .int .i64 ((depthL (ps.take k) : Nat) : Int) ∧ Below w14.heap.size w14 wr) (fun _ _ j _ => n - (intOf j).toNat)
    case atStart => exact ⟨0, Nat.zero_le _, rfl, rfl, rfl, Below.refl _ _⟩
    case round =>
      obtain ⟨k, hk, rfl, rfl, rfl, hbel⟩ := hrel
      have HBL := hid hbel
      by_cases hlt : k < n
      · obtain ⟨g, o, rfl, hg, hca⟩ := S14.out.2 (by omega)
        have hpk : k < ps.length := by rw [HPN.out]; exact hlt
        obtain ⟨p, hp⟩ : ∃ p, ps[k]? = some p := ⟨_, List.getElem?_eq_getElem hpk⟩
        have hxk : xs[k]? = some (strOf p.text) := by rw [HX.out, List.getElem?_map, hp]; rfl
        have ca := cell_below (hca k _ hxk) hg hbel
        have hpd := HPO.out p (List.mem_of_getElem? hp)
        obtain ⟨_, _, hpl⟩ := dtOf_text hpd
        have hps := p.size_le
        have hpp := p.depth_le
        have hsz2 := sizeL_snoc (ps.take k) p
        have hdp2 := depthL_snoc (ps.take k) p
        have htk : ps.take (k + 1) = ps.take k ++ [p] := by rw [List.take_add_one, hp]; rfl
        rw [← htk] at hsz2 hdp2
        have hle1 : sizeL (ps.take k) ≤ T := by
          rw [← HT.out]
          conv => rhs; rw [← List.take_append_drop k ps]
          exact sizeL_append _ _
        have hle2 : depthL (ps.take k) ≤ U := by
          rw [← HU.out]
          conv => rhs; rw [← List.take_append_drop k ps]
          exact depthL_append _ _
        obtain ⟨x, hx⟩ : ∃ x, strOf p.text = x := ⟨_, rfl⟩
        rw [hx] at ca
        have hxm : x.size ≤ maxLen := HXZ.out x (by rw [← hx]; exact List.mem_of_getElem? hxk)
        obtain ⟨a, ha⟩ : ∃ a, p.size = a := ⟨_, rfl⟩
        obtain ⟨z, hz⟩ : ∃ z, p.depth = z := ⟨_, rfl⟩
        have HS1 := hid (fun (W : World) => sizeOfDictI_at x W hxm (a : Int) (hid (by rw [← hx, strOf_list]; unfold szOf; rw [hpd]; show (p.size : Int) = _; rw [ha])))
        have HD1 := hid (fun (W : World) => depthOfDictI_at x W hxm (z : Int) (hid (by rw [← hx, strOf_list]; unfold depOf; rw [hpd]; show (p.depth : Int) = _; rw [hz])))
        obtain ⟨u, hu⟩ : ∃ u, sizeL (ps.take k) = u := ⟨_, rfl⟩
        obtain ⟨y, hy⟩ : ∃ y, depthL (ps.take k) = y := ⟨_, rfl⟩
        rw [ha] at hps hsz2
        rw [hz] at hpp hdp2
        rw [hu] at hsz2 hle1
        rw [hy] at hdp2 hle2
        rw [hu, hy]
        have HZ2 := hid hsz2
        have HP2 := hid hdp2
        have i1 : (0 : Int) ≤ (k : Int) := by omega
        have i2 : (k : Int) < (n : Int) := by omega
        have hw1 : IntKind.i64.wrap (((1 + u : Nat) : Int) + (a : Int)) = ((1 + (u + a) : Nat) : Int) := by rw [IntKind.wrap_i64]; omega
        have hw2 : IntKind.i64.wrap (1 + (z : Int)) = 1 + (z : Int) := by rw [IntKind.wrap_i64]; omega
        clear hca hp hxk hpd hx ha hz hu hy hsz2 hdp2 htk hbel
        by_cases hlt2 : y < z + 1
        all_goals
          go_wp2_with fail
          refine (HS1.out _).mono ?_
          rintro e w15 ⟨rfl, hb15⟩
          have B15 := hid (HBL.out.trans (hb15.mono HBL.out.size))
          have ca2 := cell_below ca (by have := HBL.out.size; omega) hb15
          clear hb15
          go_wp2_with fail
          refine (HD1.out _).mono ?_
          rintro e w16 ⟨rfl, hb16⟩
          have B16 := hid (B15.out.trans (hb16.mono B15.out.size))
          clear hb16
          go_wp2_with fail
          go_roundw
          case rel =>
            refine ⟨k + 1, by omega, by go_num, ?_, ?_, B16.out⟩
            · rw [HZ2.out]
              congr 1
              omega
            · rw [HP2.out]
              congr 1
              omega
          case measure => simp [intOf]; omega
      · have hkn : k = n := by omega
        subst hkn
        have D15 := hid (D14.out.trans (hbel.mono D14.out.size))
        have S15 := hid (S14.out.below hbel)
        have e1 : sizeL (ps.take k) = T := by rw [List.take_of_length_le (by have := HPN.out; omega), HT.out]
        have e2 : depthL (ps.take k) = U := by rw [List.take_of_length_le (by have := HPN.out; omega), HU.out]
        rw [e1, e2]
        clear e1 e2 hbel
        go_wp2_with fail
        refine (makeDictI_any (q : Int) ⟨by omega, by omega⟩ B2 k c2 xs _ (by omega) hc2 S15.out HXZ.out d true HR2 HB2).mono ?_
        rintro e w16 ⟨rfl, hb16⟩
        have D16 := hid (D15.out.trans (hb16.mono D15.out.size))
        clear hb16
        go_wp2_with fail
        refine (sizeOfDictI_at d w16 hdm sz HSZ).mono ?_
        rintro e w17 ⟨rfl, hb17⟩
        have D17 := hid (D16.out.trans (hb17.mono D16.out.size))
        rw [Z1.out]
        clear hb17
        go_wp2_with fail
        refine (depthOfDictI_at d w17 hdm dp HDP).mono ?_
        rintro e w18 ⟨rfl, hb18⟩
        have D18 := hid (D17.out.trans (hb18.mono D17.out.size))
        rw [P1.out]
        clear hb18
        go_wp2_with fail
        refine (NI.out w18).mono ?_
        rintro e w19 ⟨⟨v19, rfl, ho19⟩, hb19⟩
        obtain ⟨A19, c19, rfl, _, _, _⟩ := ho19.form
        rw [HLL.out]
        have D19 := hid (D18.out.trans (hb19.mono D18.out.size))
        have hlsi : (l : Int) ≤ ((1 + T : Nat) : Int) := by omega
        clear hb19 ho19
        go_wp2_with fail
        go_ret
        exact ⟨by simp; omega, D19.out⟩

set_option maxRecDepth 100000 in
theorem lifted (os : Os) (started : os.Started) (H : Type) (enc : TypeId × Value → H) :
    ReturnsInHanded {} Tryd.checked os 3 .any (fun w args => (Rows.fnMakeDictSpec.pre enc Tryd.prog Tryd.f3 [] false w args ∧ laidMetH Tryd.prog Rows.fnMakeDictRow.laid w) ∧ sizedMet enc Tryd.prog Tryd.f3 (OpenSpec.ofChange Rows.fnMakeDictSpec) false w args)
      (Rows.fnMakeDictSpec.post enc Tryd.prog Tryd.f3 false true false false) := by
  refine returnsInHanded_of_change_and (C := Tryd.checked) (X := fun w _ => laidMetH Tryd.prog Rows.fnMakeDictRow.laid w) (fun _ _ _ hh h => h.of_heap hh) Facts.own started (by kernel_rfl) Tryd.func3
    (ChangeSpec.witness_shaped (enc := enc) (C := Tryd.checked) (os := os) (X := fun w _ => laidMetH Tryd.prog Rows.fnMakeDictRow.laid w) false (World.doorLaid Tryd.prog 400 os) #[.slice none 0 0, .slice none 0 0] 8 rfl (World.shaped_of_RefB (by kernel_rfl) (by kernel_rfl)) (by kernel_rfl) (by kernel_rfl) (by kernel_rfl) (laidMetH_of_parts3 (fuel := 8) (laidMet_of_run' 8 (by kernel_rfl) (by kernel_rfl)) (by kernel_rfl) (by kernel_rfl))) ?_
  intro W base args ds gs before hval0 hW _ _ hL _
  have he := errs_NoneW hL
  have hval : ∀ (j : Nat) t v, Tryd.f3.params[j]? = some t → args[j]? = some v → Value.okWide Tryd.prog W .any base t v := hval0
  have hW' := hW
  obtain ⟨p, q, hA0, hV, rfl, hfz, hnd⟩ := hW
  have hA : DataW.TrodAll enc Tryd.prog W 0 (fun _ => true) true Tryd.f3.params.toList args.toList ds p := hA0
  rw [Tryd.params3] at hA hval
  obtain ⟨v0, vs0, d0, ds0, p0, q0, hargs, rfl, rfl, h0, rr0⟩ := trodAll_cons hA
  obtain ⟨v1, vs1, d1, ds1, p1, q1, rfl, rfl, rfl, h1, rr1⟩ := trodAll_cons rr0
  obtain ⟨rfl, rfl, rfl⟩ := trodAll_nil rr1
  obtain rfl : args = #[v0, v1] := by cases args; simp_all
  obtain ⟨rfl, rfl⟩ := trodVars_none hV
  have k0 := h0
  have lt0 : ∀ x ∈ p0, x.block < W.heap.size := by obtain ⟨m, hm⟩ := k0; exact DataW.trod_lt m _ _ _ hm
  obtain ⟨A0, len0, cap0, rfl⟩ := okWide_slice Tryd.underlying22 (hval 0 22 v0 rfl rfl)
  obtain ⟨hl0, hm0, s0⟩ : len0 ≤ cap0 ∧ cap0 ≤ maxLen ∧ Bts W A0 len0 := by
    obtain ⟨fuel, hf⟩ := h0
    rcases open_ints Tryd.underlying22 Tryd.underlying5 (by kernel_rfl) hf with ⟨hcs, _⟩ | ⟨x, l, c, zs, hcs, hx0, hl, hm, hz, _, hcell, hws⟩
    · simp [Value.cells] at hcs
      obtain ⟨rfl, rfl, rfl⟩ := hcs
      exact ⟨Nat.le_refl _, Nat.zero_le _, fun h => absurd h (Nat.lt_irrefl 0)⟩
    · simp [Value.cells] at hcs
      obtain ⟨rfl, rfl, rfl⟩ := hcs
      exact ⟨hl, hm, bts_of (by rw [hz]; split <;> omega) hcell hws⟩
  have k1 := h1
  have lt1 : ∀ x ∈ p1, x.block < W.heap.size := by obtain ⟨m, hm⟩ := k1; exact DataW.trod_lt m _ _ _ hm
  obtain ⟨A1, len1, cap1, rfl⟩ := okWide_slice Tryd.underlying22 (hval 1 22 v1 rfl rfl)
  obtain ⟨hl1, hm1, s1⟩ : len1 ≤ cap1 ∧ cap1 ≤ maxLen ∧ Bts W A1 len1 := by
    obtain ⟨fuel, hf⟩ := h1
    rcases open_ints Tryd.underlying22 Tryd.underlying5 (by kernel_rfl) hf with ⟨hcs, _⟩ | ⟨x, l, c, zs, hcs, hx0, hl, hm, hz, _, hcell, hws⟩
    · simp [Value.cells] at hcs
      obtain ⟨rfl, rfl, rfl⟩ := hcs
      exact ⟨Nat.le_refl _, Nat.zero_le _, fun h => absurd h (Nat.lt_irrefl 0)⟩
    · simp [Value.cells] at hcs
      obtain ⟨rfl, rfl, rfl⟩ := hcs
      exact ⟨hl, hm, bts_of (by rw [hz]; split <;> omega) hcell hws⟩
  clear hA0 hval0
  refine (walk  W A0 len0 cap0 hl0 hm0 s0 A1 len1 cap1 hl1 hm1 s1 he).mono fun e W' ⟨hend, bel⟩ => ?_
  subst hend
  exact ⟨_, rfl, _, _, _, [], _, [], hW', trodAll_mk1 (shut_bool Tryd.underlying4 _), (trodAll_cons_mk (Below.trod Facts.laidOut (by kernel_rfl) (of_decide_eq_true (by kernel_rfl)) k0 bel lt0) (trodAll_cons_mk (Below.trod Facts.laidOut (by kernel_rfl) (of_decide_eq_true (by kernel_rfl)) k1 bel lt1) trodAll_mk0)), rfl, bel.frame _, fun h => by cases h⟩

theorem closed : joinedFacts Tryd.pinned.checked.prog 3 Tryd.f3 Rows.fnMakeDictSpec Rows.fnMakeDictRow = true := by
  simp only [joinedFacts, Bool.and_eq_true]
  refine ⟨⟨⟨⟨⟨⟨⟨⟨⟨⟨⟨⟨⟨⟨⟨⟨⟨⟨⟨⟨⟨⟨⟨⟨⟨⟨⟨⟨⟨⟨⟨?_, Facts.laidOut⟩, Facts.rowed⟩, ?_⟩, ?_⟩, ?_⟩, Facts.stops⟩, ?_⟩, Facts.knobs⟩, ?_⟩, ?_⟩, ?_⟩, ?_⟩, ?_⟩, ?_⟩, ?_⟩, ?_⟩, ?_⟩, ?_⟩, ?_⟩, ?_⟩, ?_⟩, ?_⟩, ?_⟩, Facts.heard⟩, Facts.may⟩,
    (congrArg (fun x => (Rows.fnMakeDictRow.lifted == x)) Facts.lifts).trans (by kernel_rfl)⟩, (congrArg (fun x => (x == some Rows.fnMakeDictRow.make)) Facts.makes).trans (by kernel_rfl)⟩, ?_⟩, ?_⟩, ?_⟩, ?_⟩
  all_goals kernel_rfl

theorem proved : Rows.FnMakeDictSaid :=
  OpenClaim.holds_of_wide 3 Tryd.f3 rfl rfl rfl rfl rfl rfl rfl ⟨rfl, rfl, rfl, rfl, rfl⟩ rfl rfl rfl rfl rfl (by kernel_rfl) Tryd.func3 closed
    (of_decide_eq_true (by kernel_rfl)) (by unfold Func.isWrapper; rw [if_neg (of_decide_eq_false (by kernel_rfl))]; exact ⟨rfl, rfl⟩)
    (fun os started H enc _ => lifted os started H enc)
end Go.Proofs.YtlpfgiegapelmaaDoor.fnMakeDict
namespace Go.Proofs.YtlpfgiegapelmaaDoor
theorem fnMakeDict_holds : Rows.FnMakeDictCardSaid :=
  Claim7.holds_tied_plain_at .later [] Rows.fnMakeDictCard.laidKinds true Rows.fnMakeDictCard.stood.harness Rows.fnMakeDictCard.stood.looks
    fnMakeDict.proved (fun _ h => by cases h) (by kernel_rfl) (fun _ h => by cases h) fnMakeDict_row_tie rfl ⟨rfl, rfl⟩ (by kernel_rfl) rfl
    (fun f fn hf hfn => by
      obtain rfl : f = 3 := Option.some.inj ((show Tryd.prog.funcNamed Rows.fnMakeDictRow.func = some 3 by kernel_rfl).symm.trans hf) |>.symm
      obtain rfl : fn = Tryd.f3 := (Option.some.inj (Tryd.func3.symm.trans hfn)).symm
      exact ⟨by kernel_rfl, fun j t ht => by
        have hall : (Tryd.f3.params.toList.all fun u => !Tryd.prog.wantsStandIn u) = true := by kernel_rfl
        exact (show Tryd.prog.wantsStandIn t = false by simpa using List.all_eq_true.1 hall t (by simpa using Array.mem_of_getElem? ht))⟩)
    (by kernel_rfl)
#print axioms fnMakeDict_holds
end Go.Proofs.YtlpfgiegapelmaaDoor
