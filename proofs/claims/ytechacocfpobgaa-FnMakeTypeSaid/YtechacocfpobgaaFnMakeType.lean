/- The law FnMakeType, proved: whatever the input, the call returns true, and each argument reads behind it as before. -/
import Derived.Test.YtechacocfpobgaaFacts
import Derived.Test.YtechacocfpobgaaDrawC
import Derived.Test.YtechacocfpobgaaLawA
import Derived.Test.YtechacocfpobgaaPartsS
import Derived.Test.YtechacocfpobgaaMkS
import Derived.Test.YtechacocfpobgaaLawW
import Derived.WalkKit
import Derived.ProofKit
import Derived.OpenShut
import Derived.ShutString
import Derived.ChangeOld
import Derived.Below
namespace Go.Proofs.Ytechacocfpobgaa.fnMakeType
open Go.ChangeShapes Go.WideShapes Go.ChangeAt Go.RowKit
open Go.ChangeMaps (open_string shut_string)
set_option linter.unusedVariables false

theorem walk (w : World) (A0 : Option Addr) (len0 cap0 : Nat) (hl0 : len0 ≤ cap0) (hm0 : cap0 ≤ maxLen) (s0 : Bts w A0 len0) (A1 : Option Addr) (len1 cap1 : Nat) (hl1 : len1 ≤ cap1) (hm1 : cap1 ≤ maxLen) (s1 : Bts w A1 len1) :
    Calls Try.prog 3 #[.slice A0 len0 cap0, .slice A1 len1 cap1] w fun e w' => e = .returned (.bool true) ∧ Below w.heap.size w w' := by
  have hc0 : cap0 ≤ 9223372036854775807 := hm0
  have hc1 : cap1 ≤ 9223372036854775807 := hm1
  have S0 := hid s0
  have S1 := hid s1
  clear s0 s1
  by_cases hlong : 1048576 < len0
  · have h1 : (1048576 : Int) < (len0 : Int) := by omega
    go_enter Try.func3, Try.ntmps3
    go_wp2_with fail
    go_ret
    exact ⟨rfl, Below.refl _ _⟩
  have h1 : ¬ (1048576 : Int) < (len0 : Int) := by omega
  by_cases hlong1 : 1048576 < len1
  · have h2 : (1048576 : Int) < (len1 : Int) := by omega
    go_enter Try.func3, Try.ntmps3
    go_wp2_with fail
    go_ret
    exact ⟨rfl, Below.refl _ _⟩
  have h2 : ¬ (1048576 : Int) < (len1 : Int) := by omega
  go_enter Try.func3, Try.ntmps3
  go_wp2_with fail
  refine (drawPartsOf_any A0 len0 cap0 w hl0 hm0 S0.out).mono ?_
  rintro e u1 ⟨t, rfl, ht, hb1⟩
  have ht1 : t.size ≤ maxLen := by unfold maxLen; omega
  have S1' := hid (S1.out.below hb1)
  obtain ⟨ps, hps⟩ : ∃ ps, partsL t.data.toList = ps := ⟨_, rfl⟩
  have hpl := partsL_len t.data.toList
  rw [hps] at hpl
  obtain ⟨np, hnp⟩ : ∃ n, ps.length = n := ⟨_, rfl⟩
  rw [hnp] at hpl
  obtain ⟨hd, hhd⟩ : ∃ h, headOf t = h := ⟨_, rfl⟩
  have HHD := hid hhd
  obtain ⟨tv, htv⟩ : ∃ b, (tyOf t.data.toList).isSome = b := ⟨_, rfl⟩
  have HTV := hid htv
  have HPI := hid (partsIC_any t ht1 u1)
  have HPS := fun W => hid (partsS_any t ht1 W)
  rw [hps] at HPI
  simp only [hps] at HPS
  unfold PartsEndC at HPI
  unfold PartsEnd at HPS
  rw [hnp] at HPI
  simp only [hnp] at HPS
  have HPSN := hid hps
  have HNP := hid hnp
  clear hps hnp hhd htv
  go_wp2_with fail
  refine HPI.out.mono ?_
  rintro e u2 ⟨P1, c1, rfl, hcp, hM1, hb2⟩
  have st2 := hid hM1.strs
  clear hM1
  go_wp2_with fail
  refine (headI_at t ht1 _ hd HHD).mono ?_
  rintro e u3 ⟨rfl, hb3⟩
  go_wp2_with fail
  refine (HPS _).out.mono ?_
  rintro e u4 ⟨P2, c2, rfl, hM4, hb4⟩
  have st4 := hid hM4.strs
  clear hM4
  have b24 := hb3.trans (hb4.mono hb3.size)
  have st24 := hid (st2.out.below b24)
  go_wp2_with fail
  refine (inTexts_same P1 P2 np c1 c2 ps u4 st24.out st4.out (by omega)).mono ?_
  rintro e u5 ⟨rfl, m5, rfl⟩
  go_wp2_with fail
  have b45 : Below u4.heap.size u4 (u4.drewN m5) := below_drewN' (Below.refl _ _) m5
  refine (headS_at t ht1 _ hd HHD).mono ?_
  rintro e u6 ⟨rfl, hb6⟩
  go_wp2_with fail
  refine (typeValidI_at t _ ht1 tv HTV).mono ?_
  rintro e u7 ⟨rfl, hb7⟩
  go_wp2_with fail
  refine (typeValidS_at t _ ht1 tv HTV).mono ?_
  rintro e u8 ⟨rfl, hb8⟩
  have b48 := b45.trans ((hb6.trans ((hb7.trans (hb8.mono hb7.size)).mono hb6.size)).mono b45.size)
  have b28 := b24.trans (b48.mono b24.size)
  have b18 := hb2.trans (b28.mono hb2.size)
  have bw8 := hb1.trans (b18.mono hb1.size)
  have S8 := hid (S1'.out.below b18)
  go_wp2_with fail
  refine (drawMakeType_any A1 len1 cap1 u8 hl1 hm1 S8.out).mono ?_
  rintro e u9 ⟨nm, L, nl, cl, ls, rfl, hnm, hcl, hnl, hSL, hls, hb9⟩
  have HSL := hid hSL
  have HLS := hid (show ∀ x ∈ ls, x.size ≤ maxLen from fun x hx => Nat.le_trans (hls x hx) (by decide))
  obtain ⟨o, ho⟩ : ∃ o, mkOf nm ls = o := ⟨_, rfl⟩
  have HMI := hid (makeTypeI_any nm L nl cl ls u9 hcl hSL HLS.out)
  rw [ho] at HMI
  unfold MkEnd at HMI
  have HO := hid ho
  clear hSL hls ho
  go_wp2_with fail
  refine HMI.out.mono ?_
  rintro e u10 ⟨rfl, hb10⟩
  have HMS := hid (makeTypeS_any nm L nl cl ls u10 (HSL.out.below hb10) HLS.out)
  rw [HO.out] at HMS
  unfold MkEnd at HMS
  go_wp2_with fail
  refine HMS.out.mono ?_
  rintro e u11 ⟨rfl, hb11⟩
  have b911 := hb10.trans (hb11.mono hb10.size)
  have b811 := hb9.trans (b911.mono hb9.size)
  have bw11 := bw8.trans (b811.mono bw8.size)
  have b211 := b28.trans (b811.mono b28.size)
  rcases hoc : o with _ | l
  · subst hoc
    have hbX := bw11
    have stX := hid (st2.out.below b211)
    rcases htv : tv with _ | _
    · subst htv
      have hn0 : tyOf t.data.toList = none := by
        cases h : tyOf t.data.toList with
        | none => rfl
        | some T => have := HTV.out; rw [h] at this; cases this
      have hhe : hd.toList.isEmpty = true := by rw [← HHD.out, headOf, if_neg (by rw [hn0]; decide), ByteArray.toList_eq]; rfl
      have hn0' : np = 0 := by rw [← HNP.out, ← HPSN.out, partsL, hn0]; rfl
      subst hn0'
      go_wp2_with fail
      refine (typeValidI_at t _ ht1 false HTV).mono ?_
      rintro e y1 ⟨rfl, d1⟩
      go_wp2_with fail
      go_ret
      exact ⟨rfl, hbX.trans (d1.mono hbX.size)⟩
    · subst htv
      obtain ⟨T, hT⟩ := Option.isSome_iff_exists.1 HTV.out
      have hhe : hd.toList.isEmpty = false := by rw [← HHD.out, headOf, if_pos HTV.out, ByteArray.toList_eq, strOf_list]; rfl
      have HBK := hid (show mkOf hd ps = some t.data.toList by rw [← HHD.out, ← HPSN.out]; exact mk_back hT)
      have HSZ := hid (show sizeOf' t.data.toList = (T.size : Nat) by rw [sizeOf', hT])
      have HDP := hid (show depthOf' t.data.toList = (T.depth : Nat) by rw [depthOf', hT])
      have HPX := hid (show ps = T.kids.map fun a => strOf a.text by rw [← HPSN.out, partsL, hT])
      obtain ⟨eT, oT, zT⟩ := tyOf_text hT
      have HOT := hid oT
      have HZT := hid (show T.text.length ≤ 60 by rw [← eT]; exact zT)
      clear hT eT oT zT
      have HPM := hid (show ∀ x ∈ ps, x.size ≤ maxLen by
        intro x hx
        rw [HPX.out] at hx
        obtain ⟨k, hk, rfl⟩ := List.mem_map.1 hx
        rw [strOf_size]
        have := kid_len hk HZT.out
        unfold maxLen; omega)
      have hts : strOf t.data.toList = t := strOf_back t
      cases T with
      | lf c =>
        have hn0 : np = 0 := by rw [← HNP.out, HPX.out]; rfl
        subst hn0
        go_wp2_with fail
        refine wp_loop_rounds 1 ?_
        rw [rounds_succ]
        go_wp2_with fail
        refine (makeTypeI_any hd _ 0 c1 ps _ hcp stX.out HPM.out).mono ?_
        rintro e y1 ⟨he, d1⟩
        rw [HBK.out] at he
        have he' : e = .returned (.tuple #[.string t, .bool true]) := he.trans (by show Ending.returned (.tuple #[.string (strOf t.data.toList), .bool true]) = _; rw [hts])
        subst he'
        clear he
        go_wp2_with fail
        refine (sizeI_at t ht1 _ 1 (hid (by rw [HSZ.out]; rfl))).mono ?_
        rintro e y2 ⟨rfl, d2⟩
        go_wp2_with fail
        refine (depthI_at t ht1 _ 0 (hid (by rw [HDP.out]; rfl))).mono ?_
        rintro e y3 ⟨rfl, d3⟩
        go_wp2_with fail
        go_ret
        exact ⟨rfl, hbX.trans ((d1.trans ((d2.trans (d3.mono d2.size)).mono d1.size)).mono hbX.size)⟩
      | un c a =>
        have hn0 : np = 1 := by rw [← HNP.out, HPX.out]; rfl
        subst hn0
        obtain ⟨g, o, rfl, hg, hc⟩ := stX.out.2 Nat.one_pos
        obtain ⟨x, hx⟩ : ∃ x, strOf a.text = x := ⟨_, rfl⟩
        have hpx : ps = [x] := by rw [HPX.out, ← hx]; rfl
        have hza : a.text.length ≤ 60 := by have := HZT.out; simp [Ty.text] at this; omega
        have hxl : x.size ≤ maxLen := by rw [← hx, strOf_size]; unfold maxLen; omega
        obtain ⟨ks, kd⟩ := size_kid HOT.out.2 hza
        rw [hx] at ks kd
        have KS := hid ks
        have KD := hid kd
        have cx := by simpa using hc 0 x (by rw [hpx]; rfl)
        have ha1 : a.size ≤ 60 := Nat.le_trans (size_text a) hza
        have ha2 : a.depth ≤ 60 := Nat.le_trans (depth_text a) hza
        clear hc hx hpx ks kd
        go_wp2_with fail
        refine wp_loop_rounds 2 ?_
        rw [rounds_succ]
        go_wp2_with fail
        refine (sizeI_at x hxl _ (a.size : Nat) KS).mono ?_
        rintro e y1 ⟨rfl, d1⟩
        go_wp2_with fail
        refine (depthI_at x hxl _ (a.depth : Nat) KD).mono ?_
        rintro e y2 ⟨rfl, d2⟩
        have e12 := d1.trans (d2.mono d1.size)
        go_wp2_with fail
        rw [rounds_succ]
        go_wp2_with fail
        refine (makeTypeI_any hd _ 1 c1 ps _ hcp (stX.out.below e12) HPM.out).mono ?_
        rintro e y3 ⟨he, d3⟩
        rw [HBK.out] at he
        have he' : e = .returned (.tuple #[.string t, .bool true]) := he.trans (by show Ending.returned (.tuple #[.string (strOf t.data.toList), .bool true]) = _; rw [hts])
        subst he'
        clear he
        go_wp2_with fail
        refine (sizeI_at t ht1 _ (1 + (a.size : Nat)) (hid (by rw [HSZ.out]; simp [Ty.size]))).mono ?_
        rintro e y4 ⟨rfl, d4⟩
        go_wp2_with fail
        refine (depthI_at t ht1 _ (max 0 (1 + (a.depth : Nat))) (hid (by rw [HDP.out]; simp [Ty.depth]; omega))).mono ?_
        rintro e y5 ⟨rfl, d5⟩
        go_wp2_with fail
        go_ret
        have e35 := d3.trans ((d4.trans (d5.mono d4.size)).mono d3.size)
        exact ⟨rfl, hbX.trans ((e12.trans (e35.mono e12.size)).mono hbX.size)⟩
      | bi c a b =>
        have hn0 : np = 2 := by rw [← HNP.out, HPX.out]; rfl
        subst hn0
        obtain ⟨g, o, rfl, hg, hc⟩ := stX.out.2 (by omega)
        obtain ⟨x, hx⟩ : ∃ x, strOf a.text = x := ⟨_, rfl⟩
        obtain ⟨y, hy⟩ : ∃ x, strOf b.text = x := ⟨_, rfl⟩
        have hpx : ps = [x, y] := by rw [HPX.out, ← hx, ← hy]; rfl
        have hza : a.text.length ≤ 60 ∧ b.text.length ≤ 60 := by have := HZT.out; simp [Ty.text] at this; omega
        have hxl : x.size ≤ maxLen := by rw [← hx, strOf_size]; unfold maxLen; omega
        have hyl : y.size ≤ maxLen := by rw [← hy, strOf_size]; unfold maxLen; omega
        obtain ⟨ks, kd⟩ := size_kid HOT.out.2.1 hza.1
        obtain ⟨ks', kd'⟩ := size_kid HOT.out.2.2 hza.2
        rw [hx] at ks kd
        rw [hy] at ks' kd'
        have KS := hid ks
        have KD := hid kd
        have KS' := hid ks'
        have KD' := hid kd'
        have cx := by simpa using hc 0 x (by rw [hpx]; rfl)
        have CY := hid (hc 1 y (by rw [hpx]; rfl))
        have ha1 : a.size ≤ 60 := Nat.le_trans (size_text a) hza.1
        have ha2 : a.depth ≤ 60 := Nat.le_trans (depth_text a) hza.1
        have hb1' : b.size ≤ 60 := Nat.le_trans (size_text b) hza.2
        have hb2' : b.depth ≤ 60 := Nat.le_trans (depth_text b) hza.2
        clear hc hx hy hpx ks kd ks' kd'
        go_wp2_with fail
        refine wp_loop_rounds 3 ?_
        rw [rounds_succ]
        go_wp2_with fail
        refine (sizeI_at x hxl _ (a.size : Nat) KS).mono ?_
        rintro e y1 ⟨rfl, d1⟩
        go_wp2_with fail
        refine (depthI_at x hxl _ (a.depth : Nat) KD).mono ?_
        rintro e y2 ⟨rfl, d2⟩
        have e12 := d1.trans (d2.mono d1.size)
        have cy := cell_below CY.out hg e12
        clear cx
        go_wp2_with fail
        rw [rounds_succ]
        go_wp2_with fail
        refine (sizeI_at y hyl _ (b.size : Nat) KS').mono ?_
        rintro e z1 ⟨rfl, f1⟩
        go_wp2_with fail
        refine (depthI_at y hyl _ (b.depth : Nat) KD').mono ?_
        rintro e z2 ⟨rfl, f2⟩
        have g12 := e12.trans ((f1.trans (f2.mono f1.size)).mono e12.size)
        clear cy
        go_wp2_with fail
        rw [rounds_succ]
        go_wp2_with fail
        refine (makeTypeI_any hd _ 2 c1 ps _ hcp (stX.out.below g12) HPM.out).mono ?_
        rintro e y3 ⟨he, d3⟩
        rw [HBK.out] at he
        have he' : e = .returned (.tuple #[.string t, .bool true]) := he.trans (by show Ending.returned (.tuple #[.string (strOf t.data.toList), .bool true]) = _; rw [hts])
        subst he'
        clear he
        go_wp2_with fail
        refine (sizeI_at t ht1 _ (1 + (a.size : Nat) + (b.size : Nat)) (hid (by rw [HSZ.out]; simp [Ty.size]))).mono ?_
        rintro e y4 ⟨rfl, d4⟩
        go_wp2_with fail
        refine (depthI_at t ht1 _ (max (max 0 (1 + (a.depth : Nat))) (1 + (b.depth : Nat))) (hid (by rw [HDP.out]; simp [Ty.depth]; omega))).mono ?_
        rintro e y5 ⟨rfl, d5⟩
        go_wp2_with fail
        go_ret
        have e35 := d3.trans ((d4.trans (d5.mono d4.size)).mono d3.size)
        exact ⟨rfl, hbX.trans ((g12.trans (e35.mono g12.size)).mono hbX.size)⟩
  · subst hoc
    have hml := mk_len HO.out
    have hmz : (strOf l).size ≤ maxLen := by rw [strOf_size]; unfold maxLen; omega
    have HMH := hid (mk_head HO.out)
    have HPM2 := fun W => hid (partsI_any (strOf l) hmz W)
    have epl : partsL (strOf l).data.toList = ls := by rw [strOf_list]; exact mk_parts HO.out
    simp only [epl] at HPM2
    unfold PartsEnd at HPM2
    have hls2 : ls.length = nl := HSL.out.1
    simp only [hls2] at HPM2
    obtain ⟨mt, hmt⟩ : ∃ m, strOf l = m := ⟨_, rfl⟩
    have hmk : mkS (some l) = mt := hmt
    rw [hmt] at HMH hmz
    simp only [hmt] at HPM2
    have HLL := hid hls2
    clear epl hls2 hml hmt
    rw [hmk]
    go_wp2_with fail
    refine (headI_at mt hmz _ nm HMH).mono ?_
    rintro e q1 ⟨rfl, k1⟩
    go_wp2_with fail
    refine (HPM2 _).out.mono ?_
    rintro e q2 ⟨P3, c3, rfl, hM, k2⟩
    have k12 := k1.trans (k2.mono k1.size)
    have b9q := b911.trans (k12.mono b911.size)
    have sl := hid (HSL.out.below b9q)
    have sm := hid hM.strs
    clear hM
    go_wp2_with fail
    refine (inTexts_same P3 L nl c3 cl ls q2 sm.out sl.out (by omega)).mono ?_
    rintro e q3 ⟨rfl, m3, rfl⟩
    have k3 : Below q2.heap.size q2 (q2.drewN m3) := below_drewN' (Below.refl _ _) m3
    have kk := k12.trans (k3.mono k12.size)
    have hbX := bw11.trans (kk.mono bw11.size)
    have stX := hid (st2.out.below (b211.trans (kk.mono b211.size)))
    rcases htv : tv with _ | _
    · subst htv
      have hn0 : tyOf t.data.toList = none := by
        cases h : tyOf t.data.toList with
        | none => rfl
        | some T => have := HTV.out; rw [h] at this; cases this
      have hhe : hd.toList.isEmpty = true := by rw [← HHD.out, headOf, if_neg (by rw [hn0]; decide), ByteArray.toList_eq]; rfl
      have hn0' : np = 0 := by rw [← HNP.out, ← HPSN.out, partsL, hn0]; rfl
      subst hn0'
      go_wp2_with fail
      refine (typeValidI_at t _ ht1 false HTV).mono ?_
      rintro e y1 ⟨rfl, d1⟩
      go_wp2_with fail
      go_ret
      exact ⟨rfl, hbX.trans (d1.mono hbX.size)⟩
    · subst htv
      obtain ⟨T, hT⟩ := Option.isSome_iff_exists.1 HTV.out
      have hhe : hd.toList.isEmpty = false := by rw [← HHD.out, headOf, if_pos HTV.out, ByteArray.toList_eq, strOf_list]; rfl
      have HBK := hid (show mkOf hd ps = some t.data.toList by rw [← HHD.out, ← HPSN.out]; exact mk_back hT)
      have HSZ := hid (show sizeOf' t.data.toList = (T.size : Nat) by rw [sizeOf', hT])
      have HDP := hid (show depthOf' t.data.toList = (T.depth : Nat) by rw [depthOf', hT])
      have HPX := hid (show ps = T.kids.map fun a => strOf a.text by rw [← HPSN.out, partsL, hT])
      obtain ⟨eT, oT, zT⟩ := tyOf_text hT
      have HOT := hid oT
      have HZT := hid (show T.text.length ≤ 60 by rw [← eT]; exact zT)
      clear hT eT oT zT
      have HPM := hid (show ∀ x ∈ ps, x.size ≤ maxLen by
        intro x hx
        rw [HPX.out] at hx
        obtain ⟨k, hk, rfl⟩ := List.mem_map.1 hx
        rw [strOf_size]
        have := kid_len hk HZT.out
        unfold maxLen; omega)
      have hts : strOf t.data.toList = t := strOf_back t
      cases T with
      | lf c =>
        have hn0 : np = 0 := by rw [← HNP.out, HPX.out]; rfl
        subst hn0
        go_wp2_with fail
        refine wp_loop_rounds 1 ?_
        rw [rounds_succ]
        go_wp2_with fail
        refine (makeTypeI_any hd _ 0 c1 ps _ hcp stX.out HPM.out).mono ?_
        rintro e y1 ⟨he, d1⟩
        rw [HBK.out] at he
        have he' : e = .returned (.tuple #[.string t, .bool true]) := he.trans (by show Ending.returned (.tuple #[.string (strOf t.data.toList), .bool true]) = _; rw [hts])
        subst he'
        clear he
        go_wp2_with fail
        refine (sizeI_at t ht1 _ 1 (hid (by rw [HSZ.out]; rfl))).mono ?_
        rintro e y2 ⟨rfl, d2⟩
        go_wp2_with fail
        refine (depthI_at t ht1 _ 0 (hid (by rw [HDP.out]; rfl))).mono ?_
        rintro e y3 ⟨rfl, d3⟩
        go_wp2_with fail
        go_ret
        exact ⟨rfl, hbX.trans ((d1.trans ((d2.trans (d3.mono d2.size)).mono d1.size)).mono hbX.size)⟩
      | un c a =>
        have hn0 : np = 1 := by rw [← HNP.out, HPX.out]; rfl
        subst hn0
        obtain ⟨g, o, rfl, hg, hc⟩ := stX.out.2 Nat.one_pos
        obtain ⟨x, hx⟩ : ∃ x, strOf a.text = x := ⟨_, rfl⟩
        have hpx : ps = [x] := by rw [HPX.out, ← hx]; rfl
        have hza : a.text.length ≤ 60 := by have := HZT.out; simp [Ty.text] at this; omega
        have hxl : x.size ≤ maxLen := by rw [← hx, strOf_size]; unfold maxLen; omega
        obtain ⟨ks, kd⟩ := size_kid HOT.out.2 hza
        rw [hx] at ks kd
        have KS := hid ks
        have KD := hid kd
        have cx := by simpa using hc 0 x (by rw [hpx]; rfl)
        have ha1 : a.size ≤ 60 := Nat.le_trans (size_text a) hza
        have ha2 : a.depth ≤ 60 := Nat.le_trans (depth_text a) hza
        clear hc hx hpx ks kd
        go_wp2_with fail
        refine wp_loop_rounds 2 ?_
        rw [rounds_succ]
        go_wp2_with fail
        refine (sizeI_at x hxl _ (a.size : Nat) KS).mono ?_
        rintro e y1 ⟨rfl, d1⟩
        go_wp2_with fail
        refine (depthI_at x hxl _ (a.depth : Nat) KD).mono ?_
        rintro e y2 ⟨rfl, d2⟩
        have e12 := d1.trans (d2.mono d1.size)
        go_wp2_with fail
        rw [rounds_succ]
        go_wp2_with fail
        refine (makeTypeI_any hd _ 1 c1 ps _ hcp (stX.out.below e12) HPM.out).mono ?_
        rintro e y3 ⟨he, d3⟩
        rw [HBK.out] at he
        have he' : e = .returned (.tuple #[.string t, .bool true]) := he.trans (by show Ending.returned (.tuple #[.string (strOf t.data.toList), .bool true]) = _; rw [hts])
        subst he'
        clear he
        go_wp2_with fail
        refine (sizeI_at t ht1 _ (1 + (a.size : Nat)) (hid (by rw [HSZ.out]; simp [Ty.size]))).mono ?_
        rintro e y4 ⟨rfl, d4⟩
        go_wp2_with fail
        refine (depthI_at t ht1 _ (max 0 (1 + (a.depth : Nat))) (hid (by rw [HDP.out]; simp [Ty.depth]; omega))).mono ?_
        rintro e y5 ⟨rfl, d5⟩
        go_wp2_with fail
        go_ret
        have e35 := d3.trans ((d4.trans (d5.mono d4.size)).mono d3.size)
        exact ⟨rfl, hbX.trans ((e12.trans (e35.mono e12.size)).mono hbX.size)⟩
      | bi c a b =>
        have hn0 : np = 2 := by rw [← HNP.out, HPX.out]; rfl
        subst hn0
        obtain ⟨g, o, rfl, hg, hc⟩ := stX.out.2 (by omega)
        obtain ⟨x, hx⟩ : ∃ x, strOf a.text = x := ⟨_, rfl⟩
        obtain ⟨y, hy⟩ : ∃ x, strOf b.text = x := ⟨_, rfl⟩
        have hpx : ps = [x, y] := by rw [HPX.out, ← hx, ← hy]; rfl
        have hza : a.text.length ≤ 60 ∧ b.text.length ≤ 60 := by have := HZT.out; simp [Ty.text] at this; omega
        have hxl : x.size ≤ maxLen := by rw [← hx, strOf_size]; unfold maxLen; omega
        have hyl : y.size ≤ maxLen := by rw [← hy, strOf_size]; unfold maxLen; omega
        obtain ⟨ks, kd⟩ := size_kid HOT.out.2.1 hza.1
        obtain ⟨ks', kd'⟩ := size_kid HOT.out.2.2 hza.2
        rw [hx] at ks kd
        rw [hy] at ks' kd'
        have KS := hid ks
        have KD := hid kd
        have KS' := hid ks'
        have KD' := hid kd'
        have cx := by simpa using hc 0 x (by rw [hpx]; rfl)
        have CY := hid (hc 1 y (by rw [hpx]; rfl))
        have ha1 : a.size ≤ 60 := Nat.le_trans (size_text a) hza.1
        have ha2 : a.depth ≤ 60 := Nat.le_trans (depth_text a) hza.1
        have hb1' : b.size ≤ 60 := Nat.le_trans (size_text b) hza.2
        have hb2' : b.depth ≤ 60 := Nat.le_trans (depth_text b) hza.2
        clear hc hx hy hpx ks kd ks' kd'
        go_wp2_with fail
        refine wp_loop_rounds 3 ?_
        rw [rounds_succ]
        go_wp2_with fail
        refine (sizeI_at x hxl _ (a.size : Nat) KS).mono ?_
        rintro e y1 ⟨rfl, d1⟩
        go_wp2_with fail
        refine (depthI_at x hxl _ (a.depth : Nat) KD).mono ?_
        rintro e y2 ⟨rfl, d2⟩
        have e12 := d1.trans (d2.mono d1.size)
        have cy := cell_below CY.out hg e12
        clear cx
        go_wp2_with fail
        rw [rounds_succ]
        go_wp2_with fail
        refine (sizeI_at y hyl _ (b.size : Nat) KS').mono ?_
        rintro e z1 ⟨rfl, f1⟩
        go_wp2_with fail
        refine (depthI_at y hyl _ (b.depth : Nat) KD').mono ?_
        rintro e z2 ⟨rfl, f2⟩
        have g12 := e12.trans ((f1.trans (f2.mono f1.size)).mono e12.size)
        clear cy
        go_wp2_with fail
        rw [rounds_succ]
        go_wp2_with fail
        refine (makeTypeI_any hd _ 2 c1 ps _ hcp (stX.out.below g12) HPM.out).mono ?_
        rintro e y3 ⟨he, d3⟩
        rw [HBK.out] at he
        have he' : e = .returned (.tuple #[.string t, .bool true]) := he.trans (by show Ending.returned (.tuple #[.string (strOf t.data.toList), .bool true]) = _; rw [hts])
        subst he'
        clear he
        go_wp2_with fail
        refine (sizeI_at t ht1 _ (1 + (a.size : Nat) + (b.size : Nat)) (hid (by rw [HSZ.out]; simp [Ty.size]))).mono ?_
        rintro e y4 ⟨rfl, d4⟩
        go_wp2_with fail
        refine (depthI_at t ht1 _ (max (max 0 (1 + (a.depth : Nat))) (1 + (b.depth : Nat))) (hid (by rw [HDP.out]; simp [Ty.depth]; omega))).mono ?_
        rintro e y5 ⟨rfl, d5⟩
        go_wp2_with fail
        go_ret
        have e35 := d3.trans ((d4.trans (d5.mono d4.size)).mono d3.size)
        exact ⟨rfl, hbX.trans ((g12.trans (e35.mono g12.size)).mono hbX.size)⟩

set_option maxRecDepth 100000 in
theorem lifted (os : Os) (started : os.Started) (H : Type) (enc : TypeId × Value → H) :
    ReturnsInHanded {} Try.checked os 3 .any (Rows.fnMakeTypeSpec.pre6 enc Try.prog Try.f3 Rows.fnMakeTypeRow.domain false) (Rows.fnMakeTypeSpec.post enc Try.prog Try.f3 false true false false) := by
  refine returnsInHanded_of_change (C := Try.checked) Facts.own started (by kernel_rfl) Try.func3
    (ChangeSpec.witness6 (enc := enc) (C := Try.checked) false ⟨#[], #[.slice none 0 0, .slice none 0 0], []⟩ 8 (by kernel_rfl) (by kernel_rfl) (by kernel_rfl) (by kernel_rfl)) ?_
  intro W base args ds gs before hval0 hW hcnd _
  have hval : ∀ (j : Nat) t v, Try.f3.params[j]? = some t → args[j]? = some v → Value.okWide Try.prog W .any base t v := hval0
  have hW' := hW
  obtain ⟨p, q, hA0, hV, rfl, hfz, hnd⟩ := hW
  have hA : DataW.TrodAll enc Try.prog W 0 (fun _ => true) true Try.f3.params.toList args.toList ds p := hA0
  rw [Try.params3] at hA hval
  obtain ⟨v0, vs0, d0, ds0, p0, q0, hargs, rfl, rfl, h0, r0⟩ := trodAll_cons hA
  obtain ⟨v1, vs1, d1, ds1, p1, q1, rfl, rfl, rfl, h1, r1⟩ := trodAll_cons r0
  obtain ⟨rfl, rfl, rfl⟩ := trodAll_nil r1
  obtain rfl : args = #[v0, v1] := by cases args; simp_all
  obtain ⟨rfl, rfl⟩ := trodVars_none hV
  have k0 := h0
  have lt0 : ∀ x ∈ p0, x.block < W.heap.size := by obtain ⟨m, hm⟩ := k0; exact DataW.trod_lt m _ _ _ hm
  obtain ⟨A0, len0, cap0, rfl⟩ := okWide_slice Try.underlying22 (hval 0 22 v0 rfl rfl)
  obtain ⟨hl0, hm0, s0⟩ : len0 ≤ cap0 ∧ cap0 ≤ maxLen ∧ Bts W A0 len0 := by
    obtain ⟨fuel, hf⟩ := h0
    rcases open_ints Try.underlying22 Try.underlying5 (by kernel_rfl) hf with ⟨hcs, _⟩ | ⟨x, l, c, zs, hcs, hx0, hl, hm, hz, _, hcell, hws⟩
    · simp [Value.cells] at hcs
      obtain ⟨rfl, rfl, rfl⟩ := hcs
      exact ⟨Nat.le_refl _, Nat.zero_le _, fun h => absurd h (Nat.lt_irrefl 0)⟩
    · simp [Value.cells] at hcs
      obtain ⟨rfl, rfl, rfl⟩ := hcs
      exact ⟨hl, hm, bts_of (by rw [hz]; split <;> omega) hcell hws⟩
  have k1 := h1
  have lt1 : ∀ x ∈ p1, x.block < W.heap.size := by obtain ⟨m, hm⟩ := k1; exact DataW.trod_lt m _ _ _ hm
  obtain ⟨A1, len1, cap1, rfl⟩ := okWide_slice Try.underlying22 (hval 1 22 v1 rfl rfl)
  obtain ⟨hl1, hm1, s1⟩ : len1 ≤ cap1 ∧ cap1 ≤ maxLen ∧ Bts W A1 len1 := by
    obtain ⟨fuel, hf⟩ := h1
    rcases open_ints Try.underlying22 Try.underlying5 (by kernel_rfl) hf with ⟨hcs, _⟩ | ⟨x, l, c, zs, hcs, hx0, hl, hm, hz, _, hcell, hws⟩
    · simp [Value.cells] at hcs
      obtain ⟨rfl, rfl, rfl⟩ := hcs
      exact ⟨Nat.le_refl _, Nat.zero_le _, fun h => absurd h (Nat.lt_irrefl 0)⟩
    · simp [Value.cells] at hcs
      obtain ⟨rfl, rfl, rfl⟩ := hcs
      exact ⟨hl, hm, bts_of (by rw [hz]; split <;> omega) hcell hws⟩
  clear hA0 hval0
  refine (walk  W A0 len0 cap0 hl0 hm0 s0 A1 len1 cap1 hl1 hm1 s1).mono fun e W' ⟨he, bel⟩ => ?_
  subst he
  exact ⟨_, rfl, _, _, _, [], _, [], hW', trodAll_mk1 (shut_bool Try.underlying4 _), (trodAll_cons_mk (Below.trod Facts.laidOut (by kernel_rfl) (of_decide_eq_true (by kernel_rfl)) k0 bel lt0) (trodAll_cons_mk (Below.trod Facts.laidOut (by kernel_rfl) (of_decide_eq_true (by kernel_rfl)) k1 bel lt1) trodAll_mk0)), rfl, bel.frame _, fun h => by cases h⟩

theorem closed : joinedFacts Try.pinned.checked.prog 3 Try.f3 Rows.fnMakeTypeSpec Rows.fnMakeTypeRow = true := by
  simp only [joinedFacts, Bool.and_eq_true]
  refine ⟨⟨⟨⟨⟨⟨⟨⟨⟨⟨⟨⟨⟨⟨⟨⟨⟨⟨⟨⟨⟨⟨⟨⟨⟨⟨⟨⟨⟨⟨⟨?_, Facts.laidOut⟩, Facts.rowed⟩, ?_⟩, ?_⟩, ?_⟩, Facts.stops⟩, ?_⟩, Facts.knobs⟩, ?_⟩, ?_⟩, ?_⟩, ?_⟩, ?_⟩, ?_⟩, ?_⟩, ?_⟩, ?_⟩, ?_⟩, ?_⟩, ?_⟩, ?_⟩, ?_⟩, ?_⟩, Facts.heard⟩, Facts.may⟩,
    (congrArg (fun x => (Rows.fnMakeTypeRow.lifted == x)) Facts.lifts).trans (by kernel_rfl)⟩, (congrArg (fun x => (x == some Rows.fnMakeTypeRow.make)) Facts.makes).trans (by kernel_rfl)⟩, ?_⟩, ?_⟩, ?_⟩, ?_⟩
  all_goals kernel_rfl

theorem proved : Rows.FnMakeTypeSaid :=
  OpenClaim.holds_of_wide 3 Try.f3 rfl rfl rfl rfl rfl rfl rfl ⟨rfl, rfl, rfl, rfl, rfl⟩ rfl rfl rfl rfl rfl (by kernel_rfl) Try.func3 closed
    (of_decide_eq_true (by kernel_rfl)) (by unfold Func.isWrapper; rw [if_neg (of_decide_eq_false (by kernel_rfl))]; exact ⟨rfl, rfl⟩)
    (fun os started H enc _ => lifted os started H enc)
end Go.Proofs.Ytechacocfpobgaa.fnMakeType
namespace Go.Proofs.Ytechacocfpobgaa
theorem fnMakeType_holds : Rows.FnMakeTypeSaid := fnMakeType.proved
#print axioms fnMakeType_holds
end Go.Proofs.Ytechacocfpobgaa
