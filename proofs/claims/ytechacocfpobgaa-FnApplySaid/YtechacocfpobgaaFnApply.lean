/- The law FnApply, proved: whatever the input, the call returns true, and each argument reads behind it as before. -/
import Derived.Test.YtechacocfpobgaaFacts
import Derived.Test.YtechacocfpobgaaDrawL
import Derived.Test.YtechacocfpobgaaNdI
import Derived.Test.YtechacocfpobgaaFmtS
import Derived.Test.YtechacocfpobgaaBvI
import Derived.Test.YtechacocfpobgaaApT
import Derived.Test.YtechacocfpobgaaLawA
import Derived.Test.YtechacocfpobgaaParts
import Derived.Test.YtechacocfpobgaaSpecT
import Derived.Test.YtechacocfpobgaaPartsS
import Derived.WalkKit
import Derived.ProofKit
import Derived.OpenShut
import Derived.ShutString
import Derived.ChangeOld
import Derived.Below
namespace Go.Proofs.Ytechacocfpobgaa.fnApply
open Go.ChangeShapes Go.WideShapes Go.ChangeAt Go.RowKit
open Go.ChangeMaps (open_string shut_string)
set_option linter.unusedVariables false

theorem ap_parts {zs : List (ByteArray × ByteArray)} {t : ByteArray} {l : List UInt8} (h : apOf zs t.data.toList = some l) :
    ∃ xs : List ByteArray, xs.length = (partsL t.data.toList).length ∧
      (∀ (j : Nat) p, (partsL t.data.toList)[j]? = some p → p.size ≤ 60 ∧ ∃ x, xs[j]? = some x ∧ apOf zs p.data.toList = some x.data.toList) ∧
      (∀ x ∈ xs, x.size ≤ maxLen) ∧ (partsL t.data.toList ≠ [] → mkOf (headOf t) xs = some l) ∧
      (partsL t.data.toList = [] → (∀ z ∈ zs, z.1 = t → strOf l = z.2) ∧ ((∀ z ∈ zs, z.1 ≠ t) → strOf l = t)) := by
  obtain ⟨_, T, hT, hz, hl⟩ := ap_some h
  have hp : partsL t.data.toList = T.kids.map fun a => strOf a.text := by rw [partsL, hT]
  obtain ⟨eT, oT, zT⟩ := tyOf_text hT
  have hz60 : T.text.length ≤ 60 := by rw [← eT]; exact zT
  refine ⟨T.kids.map fun a => strOf (a.sub (once (bmap zs))).text, by rw [hp]; simp, ?_, ?_, ?_, ?_⟩
  · intro j p hj
    rw [hp, List.getElem?_map] at hj
    cases hk : T.kids[j]? with
    | none => rw [hk] at hj; cases hj
    | some a =>
      rw [hk] at hj
      simp at hj
      subst hj
      have ha := List.mem_of_getElem? hk
      refine ⟨by rw [strOf_size]; exact kid_len ha hz60, strOf (a.sub (once (bmap zs))).text, by rw [List.getElem?_map, hk]; rfl, ?_⟩
      rw [strOf_list, strOf_list]
      exact ap_kid hT h a ha
  · intro x hx
    obtain ⟨a, ha, rfl⟩ := List.mem_map.1 hx
    obtain ⟨_, _, _, h4, _⟩ := ap_some (ap_kid hT h a ha)
    rename_i T' _ 
    have h5 := ap_kid hT h a ha
    obtain ⟨_, T2, h6, h7, h8⟩ := ap_some h5
    rw [strOf_size, h8]
    unfold maxLen; omega
  · intro hne
    rw [hp] at hne
    exact ap_made hT h (fun e => hne (by rw [e]; rfl))
  · intro he
    rw [hp] at he
    obtain ⟨h1, h2⟩ := ap_leaf hT h (List.map_eq_nil_iff.1 he)
    refine ⟨fun z hz e => ?_, fun hn => ?_⟩
    · rw [h1 z hz (by rw [e]), strOf_back]
    · rw [h2 fun z hz e => hn z hz ?_, strOf_back]
      have := congrArg strOf e
      rwa [strOf_back, strOf_back] at this

theorem row_kept' {w w' : World} {base : Nat} {e : TypeId} {size n : Nat} {v : Value} {xs : List Value} (h : w.ownsRow base e size v n xs) (hb : Below w.heap.size w w') : w'.ownsRow base e size v n xs := by
  refine ⟨h.1, ?_⟩
  rcases h.2 with h | ⟨g, cap, cur, e1, h1, h2, r⟩
  · exact .inl h
  · exact .inr ⟨g, cap, cur, e1, h1, (hb.block g (Array.getElem?_eq_some_iff.1 h2).1).trans h2, r⟩

set_option maxHeartbeats 1600000 in
set_option maxRecDepth 100000 in
theorem walk (w : World) (A0 : Option Addr) (len0 cap0 : Nat) (hl0 : len0 ≤ cap0) (hm0 : cap0 ≤ maxLen) (s0 : Bts w A0 len0) (A1 : Option Addr) (len1 cap1 : Nat) (hl1 : len1 ≤ cap1) (hm1 : cap1 ≤ maxLen) (s1 : Bts w A1 len1) :
    Calls Try.prog 6 #[.slice A0 len0 cap0, .slice A1 len1 cap1] w fun e w' => e = .returned (.bool true) ∧ Below w.heap.size w w' := by
  have hc0 : cap0 ≤ 9223372036854775807 := hm0
  have hc1 : cap1 ≤ 9223372036854775807 := hm1
  have S0 := hid s0
  have S1 := hid s1
  clear s0 s1
  by_cases hlong : 1048576 < len0
  · have h1 : (1048576 : Int) < (len0 : Int) := by omega
    go_enter Try.func6, Try.ntmps6
    go_wp2_with fail
    go_ret
    exact ⟨rfl, Below.refl _ _⟩
  have h1 : ¬ (1048576 : Int) < (len0 : Int) := by omega
  by_cases hlong1 : 1048576 < len1
  · have h2 : (1048576 : Int) < (len1 : Int) := by omega
    go_enter Try.func6, Try.ntmps6
    go_wp2_with fail
    go_ret
    exact ⟨rfl, Below.refl _ _⟩
  have h2 : ¬ (1048576 : Int) < (len1 : Int) := by omega
  obtain ⟨i0, hi0, hz0, hz1, hz2⟩ := info_parts stringInfo
  go_enter Try.func6, Try.ntmps6
  go_wp2_with fail
  refine (drawApplyBindings_any A0 len0 cap0 w hl0 hm0 S0.out).mono ?_
  rintro e u1 ⟨B, n, c, zs, t, rfl, hnc, hn7, hp, hz, ht, hb1⟩
  have ht1 : t.size ≤ maxLen := by unfold maxLen; omega
  have HZM := hid (show ∀ z ∈ zs, z.1.size ≤ maxLen ∧ z.2.size ≤ maxLen from fun z h => ⟨Nat.le_trans (hz z h).1 (by decide), Nat.le_trans (hz z h).2 (by decide)⟩)
  have HP := hid hp
  have S1' := hid (S1.out.below hb1)
  obtain ⟨o, ho⟩ : ∃ o, apOf zs t.data.toList = o := ⟨_, rfl⟩
  have HI := hid (apI_any B n c zs t u1 HP.out HZM.out (by omega) ht1)
  have HS := hid (fun W (h : Prs W B n zs) => apS_any B n c zs t W h HZM.out (by omega) ht1)
  rw [ho] at HI
  simp only [ho] at HS
  obtain ⟨q, hq⟩ : ∃ q, apS o = q := ⟨_, rfl⟩
  obtain ⟨ok, hok⟩ : ∃ b, o.isSome = b := ⟨_, rfl⟩
  rw [hq, hok] at HI
  simp only [hq, hok] at HS
  have HO := hid ho
  have HQ := hid hq
  have HOK := hid hok
  have HZ := hid hz
  clear hp hz ho hq hok
  go_wp2_with fail
  refine HI.out.mono ?_
  rintro e u2 ⟨rfl, b2⟩
  go_wp2_with fail
  refine (HS.out _ (HP.out.below b2)).mono ?_
  rintro e u3 ⟨rfl, b3⟩
  have b13 := b2.trans (b3.mono b2.size)
  have S3 := hid (S1'.out.below b13)
  go_wp2_with fail
  refine (drawBindingsValid_any A1 len1 cap1 u3 hl1 hm1 S3.out).mono ?_
  rintro e u4 ⟨B2, n2, c2, ys, rfl, hnc2, hn72, hp2, hy, b4⟩
  have HYM := hid (show ∀ z ∈ ys, z.1.size ≤ maxLen ∧ z.2.size ≤ maxLen from fun z h => ⟨Nat.le_trans (hy z h).1 (by decide), Nat.le_trans (hy z h).2 (by decide)⟩)
  have HTOT := hid (show n2 + tot ys ≤ 1048576 by have h1 := tot_small hy; have h2 := hp2.1; omega)
  have HP2 := hid hp2
  have b14 := b13.trans (b4.mono b13.size)
  obtain ⟨bv, hbv⟩ : ∃ b, bvOf ys = b := ⟨_, rfl⟩
  obtain ⟨fm, hfm⟩ : ∃ b, fmtB ys = b := ⟨_, rfl⟩
  have HBI := hid (fun W (h : Prs W B2 n2 ys) => bvI_any B2 n2 c2 ys W h HYM.out (by omega))
  have HBS := hid (fun W (h : Prs W B2 n2 ys) => bvS_any B2 n2 c2 ys W h HYM.out (by omega))
  have HFI := hid (fun W (h : Prs W B2 n2 ys) => fmtI_any B2 n2 c2 ys W h HTOT.out)
  have HFS := hid (fun W (h : Prs W B2 n2 ys) => fmtS_any B2 n2 c2 ys W h HTOT.out)
  simp only [hbv] at HBI HBS
  simp only [hfm] at HFI HFS
  clear hp2 hy hbv hfm
  go_wp2_with fail
  refine (HBI.out _ HP2.out).mono ?_
  rintro e u5 ⟨rfl, b5⟩
  go_wp2_with fail
  refine (HBS.out _ (HP2.out.below b5)).mono ?_
  rintro e u6 ⟨rfl, b6⟩
  have b46 := b5.trans (b6.mono b5.size)
  go_wp2_with fail
  refine (HFI.out _ (HP2.out.below b46)).mono ?_
  rintro e u7 ⟨rfl, b7⟩
  have b47 := b46.trans (b7.mono b46.size)
  go_wp2_with fail
  refine (HFS.out _ (HP2.out.below b47)).mono ?_
  rintro e u8 ⟨rfl, b8⟩
  have b48 := b47.trans (b8.mono b47.size)
  have b18 := b14.trans (b48.mono b14.size)
  have bw8 := hb1.trans (b18.mono hb1.size)
  have HP8 := hid (HP.out.below b18)
  have HP28 := hid (HP2.out.below b48)
  clear HI HS
  cases ok
  · go_wp2_with fail
    refine (HBI.out _ HP28.out).mono ?_
    rintro e v5 ⟨rfl, d5⟩
    go_wp2_with fail
    refine (HBS.out _ (HP28.out.below d5)).mono ?_
    rintro e v6 ⟨rfl, d6⟩
    have d46 := d5.trans (d6.mono d5.size)
    go_wp2_with fail
    refine (HFI.out _ (HP28.out.below d46)).mono ?_
    rintro e v7 ⟨rfl, d7⟩
    have d47 := d46.trans (d7.mono d46.size)
    go_wp2_with fail
    refine (HFS.out _ (HP28.out.below d47)).mono ?_
    rintro e v8 ⟨rfl, d8⟩
    go_wp2_with fail
    go_ret
    exact ⟨rfl, bw8.trans ((d47.trans (d8.mono d47.size)).mono bw8.size)⟩
  clear HBI HBS HFI HFS HP28
  obtain ⟨l, hl⟩ := Option.isSome_iff_exists.1 HOK.out
  have hql : q = strOf l := by rw [← HQ.out, hl]; rfl
  have hap := HO.out
  rw [hl] at hap
  obtain ⟨xs, f1, f2, f3, f4, f5⟩ := ap_parts hap
  have HTY := hid (show (tyOf q.data.toList).isSome = true by rw [hql, strOf_list]; exact ap_ty hap)
  obtain ⟨ps, hps⟩ : ∃ ps, partsL t.data.toList = ps := ⟨_, rfl⟩
  have hpl := partsL_len t.data.toList
  rw [hps] at f1 f2 f4 f5 hpl
  obtain ⟨np, hnp⟩ : ∃ n, ps.length = n := ⟨_, rfl⟩
  rw [hnp] at hpl f1
  have HPI := fun W => hid (partsIC_any t ht1 W)
  simp only [hps] at HPI
  unfold PartsEndC at HPI
  simp only [hnp] at HPI
  obtain ⟨hd, hhd⟩ : ∃ h, headOf t = h := ⟨_, rfl⟩
  have HHD := hid hhd
  rw [hhd] at f4
  rw [← hql] at f5
  have F1 := hid f1
  have F2 := hid f2
  have F3 := hid f3
  have F4 := hid f4
  have F5 := hid f5
  have HPN := hid hnp
  have HQL := hid hql
  clear hl hap f1 f2 f3 f4 f5 hps hnp hhd hql
  go_wp2_with fail
  have bwA := bw8.alloc bw8.size (.cells #[] 9)
  have b8A : Below u8.heap.size u8 (u8.alloc (.cells #[] 9)) := (Below.refl _ _).alloc (Nat.le_refl _) _
  refine (HPI _).out.mono ?_
  rintro e u9 ⟨P, c9, rfl, hc9, hM, b9⟩
  have st9 := hid hM.strs
  have hmade : ∀ h, P.map Addr.block = some h → u8.heap.size < h := by
    intro h e
    rcases hM with ⟨rfl, _⟩ | ⟨g, rfl, hg, _⟩
    · cases e
    · injection e with e
      simp only [World.size_alloc] at hg
      have e' : g = h := e
      omega
  clear hM
  have bw9 := bwA.trans (b9.mono bwA.size)
  have b89 := b8A.trans (b9.mono b8A.size)
  have HP9 := hid (HP8.out.below b89)
  have z9 := b9.size
  have z8 := bw8.size
  simp only [World.size_alloc] at z9
  have hown0 : u9.ownsRow u8.heap.size 9 1 (.slice (some ⟨u8.heap.size, 0, none⟩) 0 0) 0 [] := own_empty ((b9.block _ (by simp only [World.size_alloc]; omega)).trans (heap_new1 _ _)) _ (Nat.le_refl _)
  have HW0 := hid hown0
  clear hown0 HPI
  by_cases hp0 : np = 0
  · subst hp0
    have hpn : ps = [] := List.eq_nil_of_length_eq_zero HPN.out
    obtain ⟨g1, g2⟩ := F5.out hpn
    have G1 := hid g1
    have G2 := hid g2
    clear g1 g2 hpn F1 F2 F3 F4 F5
    go_wp2_with fail
    refine wp_loop_rounds 1 ?_
    rw [rounds_succ]
    go_wp2_with fail
    go_loopw [135] (fun i wr => ∃ k : Nat, k ≤ n ∧ i = .int .i64 k ∧ (∀ j z, j < k → zs[j]? = some z → z.1 ≠ t) ∧ Below u9.heap.size u9 wr) (fun i _ => n - (intOf i).toNat)
    case atStart => exact ⟨0, Nat.zero_le _, rfl, (fun j z h => absurd h (Nat.not_lt_zero _)), Below.refl _ _⟩
    case round =>
      obtain ⟨k, hk, rfl, hno, hbel⟩ := hrel
      have HNO := hid hno
      have hbelw := bw9.trans (hbel.mono bw9.size)
      clear hno
      by_cases hlt : k < n
      · obtain ⟨g, o2, rfl, hg, hca⟩ := HP9.out.2 (by omega)
        have hx : zs[k]? = some (zs[k]'(by have := HP9.out.1; omega)) := List.getElem?_eq_getElem _
        obtain ⟨ca, cb⟩ := hca k _ hx
        obtain ⟨⟨x, y⟩, ex⟩ : ∃ z, zs[k]'(by have := HP9.out.1; omega) = z := ⟨_, rfl⟩
        rw [ex] at ca cb hx
        have HX := hid hx
        have ca' := cell_below ca hg hbel
        have cb' := cell_below cb hg hbel
        clear hca hx ex ca cb
        have i1 : (0 : Int) ≤ (k : Int) := by omega
        have i2 : (k : Int) < (n : Int) := by omega
        by_cases hxt : x = t
        · have hqy : q = y := G1.out (x, y) (List.mem_of_getElem? HX.out) hxt
          subst hxt
          subst hqy
          go_wp2_with fail
          go_ret
          exact ⟨rfl, hbelw.alloc hbelw.size _⟩
        · have hne : (x.toList == t.toList) = false := by
            refine Bool.eq_false_iff.2 fun h => hxt ?_
            have h1 : x.toList = t.toList := by simpa using h
            rw [ByteArray.toList_eq, ByteArray.toList_eq] at h1
            rw [← strOf_back x, ← strOf_back t, h1]
          go_wp2_with fail
          go_roundw
          case rel =>
            refine ⟨k + 1, hlt, by go_num, fun j z hj hz => ?_, hbel.alloc hbel.size _⟩
            by_cases e : j = k
            · subst e
              rw [HX.out] at hz
              injection hz with hz
              rw [← hz]
              exact hxt
            · exact HNO.out j z (by omega) hz
          case measure => simp [intOf]; omega
      · obtain rfl : k = n := by omega
        have hqt : q = t := G2.out fun z hz e => by
          obtain ⟨j, hj, hjz⟩ := List.getElem_of_mem hz
          exact HNO.out j z (by have := HP9.out.1; omega) (by rw [List.getElem?_eq_getElem hj, hjz]) e
        subst hqt
        go_wp2_with fail
        refine (typeValidI_at q _ ht1 true HTY).mono ?_
        rintro e v1 ⟨rfl, d1⟩
        go_wp2_with fail
        go_ret
        exact ⟨rfl, hbelw.trans (d1.mono hbelw.size)⟩
  · obtain ⟨g, o2, rfl, hg, hce⟩ := st9.out.2 (by omega)
    have hpn : ps ≠ [] := fun h => hp0 (by rw [← HPN.out, h]; rfl)
    have M4 := hid (F4.out hpn)
    have HCE := hid hce
    have HG8 := hid hce
    clear hpn F4 F5 hce
    go_wp2_with fail
    have hgl : u8.heap.size < g := hmade g rfl
    have i3 : (0 : Int) < (np : Int) := by omega
    go_loopw [12, 100] (fun v i wr => ∃ k : Nat, k ≤ np ∧ i = .int .i64 k ∧ wr.ownsRow u8.heap.size 9 1 v k ((xs.take k).map Value.string) ∧ (k = 0 → v.ownBlock = some u8.heap.size) ∧ (∀ (j : Nat) p, k ≤ j → ps[j]? = some p → wr.cell? ⟨g, o2 + j, none⟩ = some (.string p)) ∧ Below u8.heap.size u8 wr ∧ u9.heap.size ≤ wr.heap.size) (fun _ i _ => np - (intOf i).toNat)
    case atStart => exact ⟨0, Nat.zero_le _, rfl, HW0.out, fun _ => rfl, fun j p _ h => HCE.out j p h, b89, Nat.le_refl _⟩
    case round =>
      obtain ⟨k, hk, rfl, hown, hfirst, hcell, hbel, hz9⟩ := hrel
      have HW := hid hown
      have HC := hid hcell
      have HFI := hid hfirst
      have zr := hbel.size
      have hbelw := bw8.trans (hbel.mono z8)
      clear hown hcell hfirst
      by_cases hlt : k < np
      · have hx : ps[k]? = some (ps[k]'(by have := HPN.out; omega)) := List.getElem?_eq_getElem _
        obtain ⟨p, ex⟩ : ∃ z, ps[k]'(by have := HPN.out; omega) = z := ⟨_, rfl⟩
        rw [ex] at hx
        have cp := HC.out k p (Nat.le_refl _) hx
        obtain ⟨hp60, x, hxx, hap⟩ := F2.out k p hx
        have hpm : p.size ≤ maxLen := by unfold maxLen; omega
        have HI := hid (apI_any B n c zs p wr (HP8.out.below hbel) HZM.out (by omega) hpm)
        simp only [hap, apS, strOf_back, Option.isSome_some] at HI
        have HXX := hid hxx
        clear hx ex hxx hap
        have i1 : (0 : Int) ≤ (k : Int) := by omega
        have i2 : (k : Int) < (np : Int) := by omega
        go_wp2_with fail
        refine HI.out.mono ?_
        rintro e w1 ⟨rfl, d1⟩
        have HW1 := hid (row_kept' HW.out d1)
        have zw := d1.size
        go_wp2_with (at_builtin; refine wpList_append_own _ rfl _ _ 24 rfl u8.heap.size 9 i0 (.string ⟨#[]⟩) 1 16 Try.underlying24 hi0 hz0 hz1 hz2 rfl (by decide) _ k _ rfl (HW1.out.alloc _) ⟨w1.heap.size, 0, none⟩ 1 1 [.string x] rfl rfl ?c1 ?c2 ?c3 ?c4 ?c5 ?_)
        case c1 => exact news1 _ _ _
        case c2 =>
          intro u hu
          simp only [List.mem_singleton] at hu
          subst hu
          rfl
        case c3 => unfold maxLen; omega
        case c4 => omega
        case c5 => simp only [World.size_alloc]; omega
        intro v2 w2 hown2 hg2 hv2
        clear hv2
        have HO2 := hid hown2
        have HG2 := hid hg2
        have hzz := hg2.size
        simp only [World.size_alloc] at hzz
        clear hown2 hg2
        go_wp2_with fail
        go_roundw
        case rel =>
          refine ⟨k + 1, hlt, by go_num, ?_, fun h => absurd h (by omega), fun j y hj hy => ?_, ?_, by omega⟩
          · rw [List.take_add_one, HXX.out, List.map_append, List.map_take]
            exact HO2.out
          · have hjl := (List.getElem?_eq_some_iff.1 hy).1
            have hk0 : k = 0 := by have := HPN.out; omega
            have h1 := HC.out j y (by omega) hy
            have hb2 : (v2 = v2) := rfl
            have e1 : w2.heap[g]? = w1.heap[g]? := by
              rw [HG2.out.block g (by simp only [World.size_alloc]; omega) (by rw [HFI.out hk0]; intro e; injection e with e; omega)]
              exact Below.heap_alloc _ _ _ (by omega)
            rw [World.cell?_of_block (w := wr) (w' := w2) (a := ⟨g, o2 + j, none⟩) (e1.trans (d1.block g (by omega)))]
            exact h1
          · exact ((hbel.trans (d1.mono zr)).alloc (by omega) _).grown HG2.out (by simp only [World.size_alloc]; omega) (fun j hj => (HW1.out.lt j hj).1)
        case measure => simp [intOf]; omega
      · obtain rfl : k = np := by omega
        have hown := HW.out
        rw [List.take_of_length_le (by rw [F1.out]; exact Nat.le_refl _)] at hown
        obtain ⟨B3, c3, rfl, hc3, hst⟩ := own_made hown
        have HST := hid hst
        clear hown hst
        go_wp2_with fail
        refine (headI_at t ht1 _ hd HHD).mono ?_
        rintro e w1 ⟨rfl, d1⟩
        go_wp2_with fail
        refine (makeTypeI_any hd B3 k c3 xs w1 hc3 (HST.out.below d1) F3.out).mono ?_
        rintro e w2 ⟨he, d2⟩
        rw [M4.out] at he
        have he' : e = .returned (.tuple #[.string q, .bool true]) := he.trans (by show Ending.returned (.tuple #[.string (strOf l), .bool true]) = _; rw [HQL.out])
        subst he'
        clear he
        go_wp2_with fail
        go_ret
        exact ⟨rfl, hbelw.trans ((d1.trans (d2.mono d1.size)).mono hbelw.size)⟩

set_option maxRecDepth 100000 in
theorem lifted (os : Os) (started : os.Started) (H : Type) (enc : TypeId × Value → H) :
    ReturnsInHanded {} Try.checked os 6 .any (Rows.fnApplySpec.pre6 enc Try.prog Try.f6 Rows.fnApplyRow.domain false) (Rows.fnApplySpec.post enc Try.prog Try.f6 false true false false) := by
  refine returnsInHanded_of_change (C := Try.checked) Facts.own started (by kernel_rfl) Try.func6
    (ChangeSpec.witness6 (enc := enc) (C := Try.checked) false ⟨#[], #[.slice none 0 0, .slice none 0 0], []⟩ 8 (by kernel_rfl) (by kernel_rfl) (by kernel_rfl) (by kernel_rfl)) ?_
  intro W base args ds gs before hval0 hW hcnd _
  have hval : ∀ (j : Nat) t v, Try.f6.params[j]? = some t → args[j]? = some v → Value.okWide Try.prog W .any base t v := hval0
  have hW' := hW
  obtain ⟨p, q, hA0, hV, rfl, hfz, hnd⟩ := hW
  have hA : DataW.TrodAll enc Try.prog W 0 (fun _ => true) true Try.f6.params.toList args.toList ds p := hA0
  rw [Try.params6] at hA hval
  obtain ⟨v0, vs0, d0, ds0, p0, q0, hargs, rfl, rfl, h0, r0⟩ := trodAll_cons hA
  obtain ⟨v1, vs1, d1, ds1, p1, q1, rfl, rfl, rfl, h1, r1⟩ := trodAll_cons r0
  obtain ⟨rfl, rfl, rfl⟩ := trodAll_nil r1
  obtain rfl : args = #[v0, v1] := by cases args; simp_all
  obtain ⟨rfl, rfl⟩ := trodVars_none hV
  have k0 := h0
  have lt0 : ∀ x ∈ p0, x.block < W.heap.size := by obtain ⟨m, hm⟩ := k0; exact DataW.trod_lt m _ _ _ hm
  obtain ⟨A0, len0, cap0, rfl⟩ := okWide_slice Try.underlying22 (hval 0 22 v0 rfl rfl)
  obtain ⟨hl0, hm0, s0⟩ : len0 ≤ cap0 ∧ cap0 ≤ maxLen ∧ Bts W A0 len0 := by
    obtain ⟨fuel, hf⟩ := h0
    rcases open_ints Try.underlying22 Try.underlying5 (by kernel_rfl) hf with ⟨hcs, _⟩ | ⟨x, l, c, zs, hcs, hx0, hl, hm, hz, _, hcell, hws⟩
    · simp [Value.cells] at hcs
      obtain ⟨rfl, rfl, rfl⟩ := hcs
      exact ⟨Nat.le_refl _, Nat.zero_le _, fun h => absurd h (Nat.lt_irrefl 0)⟩
    · simp [Value.cells] at hcs
      obtain ⟨rfl, rfl, rfl⟩ := hcs
      exact ⟨hl, hm, bts_of (by rw [hz]; split <;> omega) hcell hws⟩
  have k1 := h1
  have lt1 : ∀ x ∈ p1, x.block < W.heap.size := by obtain ⟨m, hm⟩ := k1; exact DataW.trod_lt m _ _ _ hm
  obtain ⟨A1, len1, cap1, rfl⟩ := okWide_slice Try.underlying22 (hval 1 22 v1 rfl rfl)
  obtain ⟨hl1, hm1, s1⟩ : len1 ≤ cap1 ∧ cap1 ≤ maxLen ∧ Bts W A1 len1 := by
    obtain ⟨fuel, hf⟩ := h1
    rcases open_ints Try.underlying22 Try.underlying5 (by kernel_rfl) hf with ⟨hcs, _⟩ | ⟨x, l, c, zs, hcs, hx0, hl, hm, hz, _, hcell, hws⟩
    · simp [Value.cells] at hcs
      obtain ⟨rfl, rfl, rfl⟩ := hcs
      exact ⟨Nat.le_refl _, Nat.zero_le _, fun h => absurd h (Nat.lt_irrefl 0)⟩
    · simp [Value.cells] at hcs
      obtain ⟨rfl, rfl, rfl⟩ := hcs
      exact ⟨hl, hm, bts_of (by rw [hz]; split <;> omega) hcell hws⟩
  clear hA0 hval0
  refine (walk  W A0 len0 cap0 hl0 hm0 s0 A1 len1 cap1 hl1 hm1 s1).mono fun e W' ⟨he, bel⟩ => ?_
  subst he
  exact ⟨_, rfl, _, _, _, [], _, [], hW', trodAll_mk1 (shut_bool Try.underlying4 _), (trodAll_cons_mk (Below.trod Facts.laidOut (by kernel_rfl) (of_decide_eq_true (by kernel_rfl)) k0 bel lt0) (trodAll_cons_mk (Below.trod Facts.laidOut (by kernel_rfl) (of_decide_eq_true (by kernel_rfl)) k1 bel lt1) trodAll_mk0)), rfl, bel.frame _, fun h => by cases h⟩

theorem closed : joinedFacts Try.pinned.checked.prog 6 Try.f6 Rows.fnApplySpec Rows.fnApplyRow = true := by
  simp only [joinedFacts, Bool.and_eq_true]
  refine ⟨⟨⟨⟨⟨⟨⟨⟨⟨⟨⟨⟨⟨⟨⟨⟨⟨⟨⟨⟨⟨⟨⟨⟨⟨⟨⟨⟨⟨⟨⟨?_, Facts.laidOut⟩, Facts.rowed⟩, ?_⟩, ?_⟩, ?_⟩, Facts.stops⟩, ?_⟩, Facts.knobs⟩, ?_⟩, ?_⟩, ?_⟩, ?_⟩, ?_⟩, ?_⟩, ?_⟩, ?_⟩, ?_⟩, ?_⟩, ?_⟩, ?_⟩, ?_⟩, ?_⟩, ?_⟩, Facts.heard⟩, Facts.may⟩,
    (congrArg (fun x => (Rows.fnApplyRow.lifted == x)) Facts.lifts).trans (by kernel_rfl)⟩, (congrArg (fun x => (x == some Rows.fnApplyRow.make)) Facts.makes).trans (by kernel_rfl)⟩, ?_⟩, ?_⟩, ?_⟩, ?_⟩
  all_goals kernel_rfl

theorem proved : Rows.FnApplySaid :=
  OpenClaim.holds_of_wide 6 Try.f6 rfl rfl rfl rfl rfl rfl rfl ⟨rfl, rfl, rfl, rfl, rfl⟩ rfl rfl rfl rfl rfl (by kernel_rfl) Try.func6 closed
    (of_decide_eq_true (by kernel_rfl)) (by unfold Func.isWrapper; rw [if_neg (of_decide_eq_false (by kernel_rfl))]; exact ⟨rfl, rfl⟩)
    (fun os started H enc _ => lifted os started H enc)
end Go.Proofs.Ytechacocfpobgaa.fnApply
namespace Go.Proofs.Ytechacocfpobgaa
theorem fnApply_holds : Rows.FnApplySaid := fnApply.proved
#print axioms fnApply_holds
end Go.Proofs.Ytechacocfpobgaa
