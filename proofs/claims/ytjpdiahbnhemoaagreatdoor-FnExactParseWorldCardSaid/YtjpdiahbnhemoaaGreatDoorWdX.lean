/- Valid instances and worlds in the model. Valid worlds in the model: WorldValid, HasClass. -/
import Derived.Test.YtjpdiahbnhemoaaGreatDoorWdT
import Derived.Test.YtjpdiahbnhemoaaGreatDoorCh5
namespace Go.Proofs.YtjpdiahbnhemoaaGreatDoor
open Go.RowKit

theorem tyOf_head_var {l : List UInt8} {T : Ty} {c : UInt8} {r : List UInt8} (h : tyOf l = some T) (hl : l = c :: r) (hv : isVarB c = true) : r = [] := by
  obtain ⟨e, ho, _⟩ := tyOf_text h
  have hz : ar c = 0 := by
    revert hv
    refine u8_all (p := fun c => isVarB c = true → ar c = 0) ?_ c
    decide +kernel
  cases T with
  | lf d => rw [hl] at e; injection e
  | un d a =>
    rw [hl] at e
    injection e with e1 _
    subst e1
    have h1 := ho.1
    rw [hz] at h1
    cases h1
  | bi d a b =>
    rw [hl] at e
    injection e with e1 _
    subst e1
    have h1 := ho.1
    rw [hz] at h1
    cases h1
theorem bareB_head {t : ByteArray} (h0 : 0 < t.size) (ht : (tyOf t.data.toList).isSome = true) : bareB t = isVarB t[0] := by
  obtain ⟨T, hT⟩ := Option.isSome_iff_exists.1 ht
  have hl : t.data.toList = t[0] :: t.data.toList.drop 1 := by
    have h1 : 0 < t.data.toList.length := by simpa using h0
    have := List.drop_eq_getElem_cons h1
    rw [List.drop_zero] at this
    exact this
  rcases hv : isVarB t[0] with _ | _
  · refine bareB_not fun c hc hvc => ?_
    rw [hc] at hl
    injection hl with e1 _
    rw [← e1, hvc] at hv
    cases hv
  · have := tyOf_head_var hT hl hv
    rw [this] at hl
    rw [bareB_var hl, hv]
theorem varsOf_len (l : List UInt8) : (varsOf l).length ≤ 6 := by
  unfold varsOf
  split
  · exact varsIn_len _ _
  · exact Nat.zero_le _

set_option maxHeartbeats 8000000 in
set_option maxRecDepth 100000 in
theorem instanceValidS_any (A : Option Addr) (n cap : Nat) (zs : List (ByteArray × ByteArray)) (B : Option Addr) (m cap' : Nat) (x t : ByteArray) (D : Option Addr) (l c : Nat) (ns : List (ByteArray × ByteArray)) (w : World) (hcap : n ≤ cap) (hcm : cap ≤ maxLen) (ha : Prs w A n zs) (hz : ∀ z ∈ zs, z.2.size ≤ maxLen) (htt : t.size ≤ maxLen) (hl : l ≤ maxLen) (hd : Prs w D l ns) (hnz : ∀ z ∈ ns, z.1.size ≤ maxLen ∧ z.2.size ≤ maxLen) :
    Calls Tryz.prog 37 #[.agg #[.slice A n cap, .slice B m cap'], .agg #[.string x, .string t, .slice D l c]] w fun e w' => e = .returned (.bool (clsOf zs && insOk zs ⟨x, t, ns⟩)) ∧ Below w.heap.size w w' := by
  have b0 : ∀ o, Below w.heap.size w (w.alloc o) := fun o => (Below.refl _ _).alloc (Nat.le_refl _) o
  have HA := hid ha
  have HD := hid hd
  have HZ := hid hz
  have HNZ := hid hnz
  have HDL := hid hd.1
  have hn : n ≤ maxLen := Nat.le_trans hcap hcm
  have HIN := hid (insOk_needs zs x t ns)
  clear ha hd hz hnz
  unfold maxLen at hl
  have HB0 := hid ((b0 (.cells #[.slice A n cap, .slice B m cap'] 25)).alloc (b0 (.cells #[.slice A n cap, .slice B m cap'] 25)).size (.cells #[.string x, .string t, .slice D l c] 52))
  have HC0 := hid (show ((w.alloc (.cells #[.slice A n cap, .slice B m cap'] 25)).alloc (.cells #[.string x, .string t, .slice D l c] 52)).heap[w.heap.size]? = some (.cells #[.slice A n cap, .slice B m cap'] 25 (0, 0)) from by
    rw [Below.heap_alloc _ _ _ (by simp only [World.size_alloc]; omega)]
    exact heap_new1 w _)
  have HC1 := hid (show ((w.alloc (.cells #[.slice A n cap, .slice B m cap'] 25)).alloc (.cells #[.string x, .string t, .slice D l c] 52)).heap[w.heap.size + 1]? = some (.cells #[.string x, .string t, .slice D l c] 52 (0, 0)) from by
    have := heap_new1 (w.alloc (.cells #[.slice A n cap, .slice B m cap'] 25)) (.cells #[.string x, .string t, .slice D l c] 52)
    rw [World.size_alloc] at this
    exact this)
  have HOLD := hid (fun (W : World) (hW : Below ((w.alloc (.cells #[.slice A n cap, .slice B m cap'] 25)).alloc (.cells #[.string x, .string t, .slice D l c] 52)).heap.size ((w.alloc (.cells #[.slice A n cap, .slice B m cap'] 25)).alloc (.cells #[.string x, .string t, .slice D l c] 52)) W) =>
    show (Below w.heap.size w W ∧ w.heap.size + 1 < W.heap.size) ∧ W.cell? ⟨w.heap.size, 0, none⟩ = some (.slice A n cap) ∧ W.cell? ⟨w.heap.size, 1, none⟩ = some (.slice B m cap') ∧ W.cell? ⟨w.heap.size + 1, 0, none⟩ = some (.string x) ∧ W.cell? ⟨w.heap.size + 1, 1, none⟩ = some (.string t) ∧ W.cell? ⟨w.heap.size + 1, 2, none⟩ = some (.slice D l c) from by
    have h1 := (hW.block w.heap.size (by simp only [World.size_alloc]; omega)).trans HC0.out
    have h2 := (hW.block (w.heap.size + 1) (by simp only [World.size_alloc]; omega)).trans HC1.out
    exact ⟨⟨HB0.out.trans (hW.mono HB0.out.size), by have := hW.size; simp only [World.size_alloc] at this; omega⟩, cell_blk h1 (j := 0) rfl, cell_blk h1 (j := 1) rfl, cell_blk h2 (j := 0) rfl, cell_blk h2 (j := 1) rfl, cell_blk h2 (j := 2) rfl⟩)
  obtain ⟨r1, hr1⟩ : ∃ b, clsOf zs = b := ⟨_, rfl⟩
  have HR1 := hid hr1
  rw [hr1]
  clear hr1
  go_enter Tryz.func37, Tryz.ntmps37
  go_wp2_with fail
  refine (l3Classes_any A n cap zs _ hcap hcm (HA.out.below HB0.out) HZ.out).mono ?_
  rintro e w1 ⟨rfl, c1⟩
  rw [HR1.out]
  rcases r1 with _ | _
  · go_wp2_with fail
    go_ret
    exact ⟨rfl, (HOLD.out w1 c1).1.1⟩
  · obtain ⟨⟨hb1, hz1⟩, q0, q1, q2, q3, q4⟩ := HOLD.out w1 c1
    have C1 := hid c1
    clear c1
    obtain ⟨ix0, hix0⟩ : ∃ k, idxC zs x = k := ⟨_, rfl⟩
    have HIX0 := hid hix0
    have hneg0 := idxC_neg zs x
    rw [hix0] at hneg0
    go_wp2_with fail
    refine (l3Class_any A B n cap m cap' zs x w1 hn (HA.out.below hb1) ix0 HIX0).mono ?_
    rintro e w2 ⟨rfl, c2⟩
    have C2 := hid (C1.out.trans (c2.mono C1.out.size))
    clear q0 q1 q2 q3 q4 c2 hix0
    obtain ⟨⟨hb2, hz2⟩, q0, q1, q2, q3, q4⟩ := HOLD.out w2 C2.out
    by_cases hx0 : ix0 < 0
    · have HF := hid (show insOk zs ⟨x, t, ns⟩ = false by rw [HIN.out]; show ((hasNm zs x && _) && _) = false; rw [hneg0.1 hx0]; rfl)
      clear hneg0
      go_wp2_with fail
      go_ret
      exact ⟨by rw [HF.out]; rfl, hb2⟩
    · have HNM := hid (show hasNm zs x = true by rw [← Bool.not_eq_false]; exact fun h => hx0 (hneg0.2 h))
      clear hneg0
      obtain ⟨tv0, htv0⟩ : ∃ b, (tyOf t.data.toList).isSome = b := ⟨_, rfl⟩
      have HTV0 := hid htv0
      clear htv0
      go_wp2_with fail
      refine (typeValidS_at t w2 htt tv0 HTV0).mono ?_
      rintro e w3 ⟨rfl, c3⟩
      have C3 := hid (C2.out.trans (c3.mono C2.out.size))
      clear q0 q1 q2 q3 q4 c3
      obtain ⟨⟨hb3, hz3⟩, q0, q1, q2, q3, q4⟩ := HOLD.out w3 C3.out
      rcases tv0 with _ | _
      · have HF := hid (show insOk zs ⟨x, t, ns⟩ = false by rw [HIN.out]; show ((_ && (_ && (tyOf t.data.toList).isSome)) && _) = false; rw [HTV0.out]; simp)
        go_wp2_with fail
        go_ret
        exact ⟨by rw [HF.out]; rfl, hb3⟩
      · have h0 : 0 < t.size := by
          obtain ⟨T, hT⟩ := Option.isSome_iff_exists.1 HTV0.out
          exact size_pos hT
        have HBH := hid (bareB_head h0 HTV0.out)
        have h0i : (0 : Int) < (t.size : Int) := by omega
        have htt' : t.size ≤ 2 ^ 63 - 1 := htt
        obtain ⟨d, hd0⟩ : ∃ d, t[0] = d := ⟨_, rfl⟩
        rw [hd0] at HBH
        by_cases h20 : t.size ≤ 20
        · have h20i : ¬ (20 : Int) < (t.size : Int) := by omega
          obtain ⟨vb, hvb⟩ : ∃ b, isVarB d = b := ⟨_, rfl⟩
          have HVB := hid hvb
          rw [hvb] at HBH
          clear hvb
          go_wp2_with fail
          refine (l1Variable_at d vb HVB w3).mono ?_
          rintro e w4 ⟨rfl, rfl⟩
          rcases vb with _ | _
          · by_cases h3 : l ≤ 3
            · have h3i : ¬ (3 : Int) < (l : Int) := by omega
              have HREST := hid (show insOk zs ⟨x, t, ns⟩ = ns.all (needOk zs t) by
                rw [HIN.out, HBH.out]
                show ((hasNm zs x && (decide (t.size ≤ 20) && (tyOf t.data.toList).isSome)) && _) = _
                rw [HNM.out, HTV0.out, decide_eq_true h20, decide_eq_true (show ns.length ≤ 3 by rw [HDL.out]; exact h3)]
                rfl)
              clear hd0
              go_wp2_with fail
              go_loopw [49] (fun i wr => ∃ k : Nat, k ≤ l ∧ i = .int .i64 k ∧ (ns.take k).all (needOk zs t) = true ∧ Below ((w.alloc (.cells #[.slice A n cap, .slice B m cap'] 25)).alloc (.cells #[.string x, .string t, .slice D l c] 52)).heap.size ((w.alloc (.cells #[.slice A n cap, .slice B m cap'] 25)).alloc (.cells #[.string x, .string t, .slice D l c] 52)) wr) (fun i _ => l - (intOf i).toNat)
              case atStart => exact ⟨0, Nat.zero_le _, rfl, rfl, C3.out⟩
              case round =>
                obtain ⟨k, hk, rfl, hall, hbel⟩ := hrel
                have HALL := hid hall
                have HBEL := hid hbel
                clear hall q0 q1 q2 q3 q4
                obtain ⟨⟨hbw, hzw⟩, q0, q1, q2, q3, q4⟩ := HOLD.out wr hbel
                clear hbel
                by_cases hlt : k < l
                · obtain ⟨g, o, rfl, hg, hca⟩ := HD.out.2 (by omega)
                  have hx : ns[k]? = some (ns[k]'(by have := HDL.out; omega)) := List.getElem?_eq_getElem _
                  obtain ⟨ca, cb⟩ := hca k _ hx
                  have hs := HNZ.out _ (List.mem_of_getElem? hx)
                  obtain ⟨⟨p, u⟩, ex⟩ : ∃ z, ns[k]'(by have := HDL.out; omega) = z := ⟨_, rfl⟩
                  rw [ex] at ca cb hx hs
                  have HX := hid (all_snoc (p := needOk zs t) hx)
                  have ca' := cell_below ca hg hbw
                  have cb' := cell_below cb hg hbw
                  clear hca hx ex ca cb
                  have i1 : (0 : Int) ≤ (k : Int) := by omega
                  have i2 : (k : Int) < (l : Int) := by omega
                  have hu : u.size ≤ maxLen := hs.2
                  clear hs
                  obtain ⟨C, HC⟩ : ∃ C : World → Prop, Hid (∀ w', C w' ↔ (Below (wr.heap.size + 1) (wr.alloc (.cells #[.string p, .string u] 49)) w')) := ⟨_, hid fun _ => Iff.rfl⟩
                  have HBW := hid (fun (W : World) (hW : C W) => show Below wr.heap.size wr W from ((Below.refl wr.heap.size wr).alloc (Nat.le_refl _) _).trans (((HC.out W).1 hW).mono (by omega)))
                  have HWO := hid (fun (W : World) (hW : C W) => HOLD.out W (HBEL.out.trans ((HBW.out W hW).mono HBEL.out.size)))
                  have HWR := hid (fun (W : World) (hW : C W) => (HWO.out W hW).1.1)
                  have HCC := hid (fun (W : World) (hW : C W) => show W.cell? ⟨wr.heap.size, 0, none⟩ = some (.string p) ∧ W.cell? ⟨wr.heap.size, 1, none⟩ = some (.string u) ∧ W.cell? ⟨w.heap.size, 0, none⟩ = some (.slice A n cap) ∧ W.cell? ⟨w.heap.size, 1, none⟩ = some (.slice B m cap') ∧ W.cell? ⟨w.heap.size + 1, 1, none⟩ = some (.string t) from by
                    have h := (HC.out W).1 hW
                    have hc := blk_cells2 (heap_new1 wr (.cells #[.string p, .string u] 49))
                    obtain ⟨_, y0, y1, _, y3, _⟩ := HWO.out W hW
                    exact ⟨cell_below hc.1 (by simp only [World.size_alloc]; omega) (by simpa only [World.size_alloc] using h), cell_below hc.2 (by simp only [World.size_alloc]; omega) (by simpa only [World.size_alloc] using h), y0, y1, y3⟩)
                  have HCB := hid (fun (W W' : World) (hW : C W) (hb : Below W.heap.size W W') => show C W' from (HC.out W').2 (((HC.out W).1 hW).trans (hb.mono (by have := ((HC.out W).1 hW).size; simpa only [World.size_alloc] using this))))
                  have HC1' := hid ((HC.out (wr.alloc (.cells #[.string p, .string u] 49)).drew).2 (Below.refl _ _).drew)
                  obtain ⟨ix, hix⟩ : ∃ k, idxC zs p = k := ⟨_, rfl⟩
                  have HIX := hid hix
                  have hneg := idxC_neg zs p
                  rw [hix] at hneg
                  obtain ⟨tv, htv⟩ : ∃ b, (tyOf u.data.toList).isSome = b := ⟨_, rfl⟩
                  have HTV := hid htv
                  obtain ⟨s1, hs1⟩ : ∃ s, strOf (varsOf u.data.toList) = s := ⟨_, rfl⟩
                  obtain ⟨s2, hs2⟩ : ∃ s, strOf (varsOf t.data.toList) = s := ⟨_, rfl⟩
                  have hs1' : s1.data.toList = varsOf u.data.toList := by rw [← hs1]; rfl
                  have hs2' : s2.data.toList = varsOf t.data.toList := by rw [← hs2]; rfl
                  have HS1 := hid hs1
                  have HS2 := hid hs2
                  have z1 : s1.size ≤ maxLen := by
                    have e : s1.size = s1.data.toList.length := by simp
                    have := varsOf_len u.data.toList
                    rw [e, hs1']
                    unfold maxLen
                    omega
                  have z2 : s2.size ≤ maxLen := by
                    have e : s2.size = s2.data.toList.length := by simp
                    have := varsOf_len t.data.toList
                    rw [e, hs2']
                    unfold maxLen
                    omega
                  have HWI := hid (l3Within_any s1 s2 z1 z2)
                  obtain ⟨wi, hwi⟩ : ∃ b, inB s1.data.toList s2.data.toList = b := ⟨_, rfl⟩
                  rw [hwi] at HWI
                  obtain ⟨nm, hnm⟩ : ∃ b, hasNm zs p = b := ⟨_, rfl⟩
                  rw [hnm] at hneg
                  have hixd : decide (ix < 0) = !nm := by
                    rcases nm with _ | _
                    · exact decide_eq_true (hneg.2 rfl)
                    · exact decide_eq_false fun h => by cases hneg.1 h
                  obtain ⟨sh, hsh⟩ : ∃ b, decide (20 < u.size) = b := ⟨_, rfl⟩
                  have hsh1 : decide ((20 : Int) < (u.size : Int)) = sh := by rw [← hsh, decide_eq_decide]; omega
                  have HOK := hid (show needOk zs t (p, u) = ((nm && (!sh && tv)) && wi) by
                    show ((hasNm zs p && (decide (u.size ≤ 20) && (tyOf u.data.toList).isSome)) && inB (varsOf u.data.toList) (varsOf t.data.toList)) = _
                    rw [hnm, htv, ← hs1', ← hs2', hwi, ← hsh]
                    congr 3
                    by_cases h : u.size ≤ 20
                    · rw [decide_eq_true h, decide_eq_false (by omega)]; rfl
                    · rw [decide_eq_false h, decide_eq_true (by omega)]; rfl)
                  have hgood : ((nm && (!sh && tv)) && wi) = false → (clsOf zs && insOk zs ⟨x, t, ns⟩) = false := fun h => by
                    rw [HR1.out, HREST.out, Bool.true_and]
                    refine Bool.eq_false_iff.2 fun e => ?_
                    have := HX.out
                    rw [HOK.out, h, Bool.and_false] at this
                    have h2 : (ns.take (k + 1)).all (needOk zs t) = true := List.all_eq_true.2 fun z hz => List.all_eq_true.1 e z (List.mem_of_mem_take hz)
                    rw [h2] at this
                    cases this
                  rw [HR1.out, Bool.true_and] at hgood
                  have HGOOD := hid hgood
                  clear hgood hsh hnm hwi hs1 hs2 hs1' hs2' htv hix hneg z1 z2
                  rcases nm with _ | _ <;> rcases sh with _ | _ <;> rcases tv with _ | _
                  all_goals
                    go_wp2_with fail
                    refine wp_region_loose (C := C) 27 (by kernel_rfl) (by kernel_rfl) HC1'.out ?_
                    simp only [List.take_succ_cons, List.take_zero]
                    refine walk_by fun W hnil hval hcall hany hskip => ?_
                    iterate 27 (first
                      | (refine hskip _ _ _ _ (fun _ => by rfl) ?_
                         simp only [Act.put, List.setIfInBounds_toArray, List.set_cons_zero, List.set_cons_succ])
                      | (refine hval _ _ _ _ (fun _ => by rfl) ⟨_, fun q hq w' hw' => by
                           obtain ⟨x0, x1, x2, x3, x4⟩ := HCC.out w' hw'
                           first | (go_simp; done) | (go_simp; rfl), ?_⟩
                         simp only [Act.put, List.setIfInBounds_toArray, List.set_cons_zero, List.set_cons_succ])
                      | (refine hcall _ _ _ _ (fun _ => by rfl) ⟨53, _, _, fun q hq w' hw' => ⟨by first | (go_simp; done) | (go_simp; rfl), (l3Class_any A B n cap m cap' zs p w' hn (HA.out.below (HWR.out w' hw')) ix HIX).mono fun e w'' h => ⟨h.1, HCB.out _ _ hw' h.2⟩⟩, ?_⟩
                         simp only [Act.put, List.setIfInBounds_toArray, List.set_cons_zero, List.set_cons_succ])
                      | (refine hcall _ _ _ _ (fun _ => by rfl) ⟨52, _, _, fun q hq w' hw' => ⟨by first | (go_simp; done) | (go_simp; rfl), (typeValidS_at u w' hu _ HTV).mono fun e w'' h => ⟨h.1, HCB.out _ _ hw' h.2⟩⟩, ?_⟩
                         simp only [Act.put, List.setIfInBounds_toArray, List.set_cons_zero, List.set_cons_succ])
                      | (refine hcall _ _ _ _ (fun _ => by rfl) ⟨56, _, _, fun q hq w' hw' => ⟨by first | (go_simp; done) | (go_simp; rfl), (varsS_at u hu w' s1 HS1).mono fun e w'' h => ⟨h.1, HCB.out _ _ hw' h.2⟩⟩, ?_⟩
                         simp only [Act.put, List.setIfInBounds_toArray, List.set_cons_zero, List.set_cons_succ])
                      | (refine hcall _ _ _ _ (fun _ => by rfl) ⟨56, _, _, fun q hq w' hw' => ⟨by first | (go_simp; done) | (go_simp; rfl), (varsS_at t htt w' s2 HS2).mono fun e w'' h => ⟨h.1, HCB.out _ _ hw' h.2⟩⟩, ?_⟩
                         simp only [Act.put, List.setIfInBounds_toArray, List.set_cons_zero, List.set_cons_succ])
                      | (refine hcall _ _ _ _ (fun _ => by rfl) ⟨55, _, _, fun q hq w' hw' => ⟨by first | (go_simp; done) | (go_simp; rfl), (HWI.out w').mono fun e w'' h => ⟨h.1, by rw [h.2]; exact hw'⟩⟩, ?_⟩
                         simp only [Act.put, List.setIfInBounds_toArray, List.set_cons_zero, List.set_cons_succ]))
                    refine hnil _ _ ?_
                    intro qv hqv w' hw'
                    simp only [List.drop_succ_cons, List.drop_zero]
                    have hb' := HWR.out w' hw'
                    have hb'' := HBW.out w' hw'
                    obtain ⟨y0, y1, y2, y3, y4⟩ := HCC.out w' hw'
                    clear hnil hval hcall hany hskip
                    rcases wi with _ | _
                    all_goals
                      go_wp2_with fail
                      first
                        | (go_ret
                           exact ⟨by rw [HGOOD.out rfl]; rfl, hb'⟩)
                        | (go_roundw
                           case rel => exact ⟨k + 1, hlt, by go_num, by rw [HX.out, HALL.out, HOK.out]; rfl, HBEL.out.trans (hb''.mono HBEL.out.size)⟩
                           case measure => simp [intOf]; omega)
                · have HE := hid (show ns.all (needOk zs t) = true by
                    have h := HALL.out
                    rwa [List.take_of_length_le (by have := HDL.out; omega)] at h)
                  go_wp2_with fail
                  go_ret
                  exact ⟨by rw [HREST.out, HE.out]; rfl, hbw⟩
            · have HF := hid (show insOk zs ⟨x, t, ns⟩ = false by rw [HIN.out, decide_eq_false (show ¬ ns.length ≤ 3 by rw [HDL.out]; exact h3)]; simp)
              have h3i : (3 : Int) < (l : Int) := by omega
              clear hd0
              go_wp2_with fail
              go_ret
              exact ⟨by rw [HF.out]; rfl, hb3⟩
          · have HF := hid (show insOk zs ⟨x, t, ns⟩ = false by rw [HIN.out, HBH.out]; simp)
            clear hd0
            go_wp2_with fail
            go_ret
            exact ⟨by rw [HF.out]; rfl, hb3⟩
        · have HF := hid (show insOk zs ⟨x, t, ns⟩ = false by rw [HIN.out]; show ((_ && (decide (t.size ≤ 20) && _)) && _) = false; rw [decide_eq_false h20]; simp)
          have h20i : (20 : Int) < (t.size : Int) := by omega
          clear hd0
          go_wp2_with fail
          go_ret
          exact ⟨by rw [HF.out]; rfl, hb3⟩

end Go.Proofs.YtjpdiahbnhemoaaGreatDoor

namespace Go.Proofs.YtjpdiahbnhemoaaGreatDoor
open Go.RowKit

set_option maxHeartbeats 4000000 in
set_option maxRecDepth 100000 in
theorem worldValidS_any (A : Option Addr) (n cap : Nat) (zs : List (ByteArray × ByteArray)) (B : Option Addr) (m cap' : Nat) (is : List Ins) (w : World) (hcap : n ≤ cap) (hcm : cap ≤ maxLen) (ha : Prs w A n zs) (hz : ∀ z ∈ zs, z.2.size ≤ maxLen) (hm : m ≤ maxLen) (hb : Inss w B m is) (hok : ∀ i ∈ is, InsOk i) :
    Calls Tryz.prog 23 #[.agg #[.slice A n cap, .slice B m cap']] w fun e w' => e = .returned (.bool (wdOf zs is)) ∧ Below w.heap.size w w' := by
  have b0 : ∀ o, Below w.heap.size w (w.alloc o) := fun o => (Below.refl _ _).alloc (Nat.le_refl _) o
  have HA := hid ha
  have HB := hid hb
  have HO := hid hok
  have HZ := hid hz
  have HLEN := hid hb.1
  have HC0 := hid (show (w.alloc (.cells #[.slice A n cap, .slice B m cap'] 25)).heap[w.heap.size]? = some (.cells #[.slice A n cap, .slice B m cap'] 25 (0, 0)) from heap_new1 w _)
  clear ha hb hok hz
  unfold maxLen at hm
  go_enter Tryz.func23, Tryz.ntmps23
  go_wp2_with fail
  go_loopw [8] (fun i wr => ∃ k : Nat, k ≤ m ∧ i = .int .i64 k ∧ ((is.take k).all fun i => clsOf zs && insOk zs i) = true ∧ Below w.heap.size w wr ∧ w.heap.size < wr.heap.size ∧ wr.heap[w.heap.size]? = some (.cells #[.slice A n cap, .slice B m cap'] 25 (0, 0))) (fun i _ => m - (intOf i).toNat)
  case atStart => exact ⟨0, Nat.zero_le _, rfl, rfl, b0 _, by simp only [World.size_alloc]; omega, HC0.out⟩
  case round =>
    obtain ⟨k, hk, rfl, hall, hbel, hsz, hblk⟩ := hrel
    have HBLK := hid hblk
    have HALL := hid hall
    clear hblk hall
    by_cases hlt : k < m
    · obtain ⟨g, o, rfl, hg, hca⟩ := HB.out.2 (by omega)
      have hx : is[k]? = some (is[k]'(by have := HLEN.out; omega)) := List.getElem?_eq_getElem _
      obtain ⟨ca, cb, D, l, c3, cc, hl, hp⟩ := hca k _ hx
      have hs := HO.out _ (List.mem_of_getElem? hx)
      obtain ⟨⟨p, u, ns⟩, ex⟩ : ∃ z, is[k]'(by have := HLEN.out; omega) = z := ⟨_, rfl⟩
      rw [ex] at ca cb hx hs hp
      have HX := hid (all_snoc (p := fun i => clsOf zs && insOk zs i) hx)
      have HMEM := hid (List.mem_of_getElem? hx)
      have ca' := cell_below ca hg hbel
      have cb' := cell_below cb hg hbel
      have cc' := cell_below cc hg hbel
      have HP := hid hp
      have HS := hid hs.2.2
      have hu : u.size ≤ maxLen := hs.2.1
      clear hca hx ex ca cb cc hp hs
      have i1 : (0 : Int) ≤ (k : Int) := by omega
      have i2 : (k : Int) < (m : Int) := by omega
      have HB1 := hid (show Below w.heap.size w (wr.alloc (.cells #[.string p, .string u, .slice D l c3] 52)) from hbel.alloc hbel.size _)
      have HBLK1 := hid ((Below.heap_alloc wr (.cells #[.string p, .string u, .slice D l c3] 52) _ hsz).trans HBLK.out)
      have q0 := cell_blk HBLK1.out (j := 0) rfl
      have q1 := cell_blk HBLK1.out (j := 1) rfl
      go_wp2_with fail
      refine (instanceValidS_any A n cap zs _ m cap' p u D l c3 ns _ hcap hcm (HA.out.below HB1.out) HZ.out hu hl (HP.out.below HB1.out) HS.out).mono ?_
      rintro e w2 ⟨rfl, c2⟩
      have HB2 := hid (HB1.out.trans (c2.mono HB1.out.size))
      have hz2 : w.heap.size < w2.heap.size := by have := c2.size; simp only [World.size_alloc] at this; omega
      have HBLK2 := hid ((c2.block w.heap.size (by simp only [World.size_alloc]; omega)).trans HBLK1.out)
      clear q0 q1 c2
      obtain ⟨b, hb⟩ : ∃ b, (clsOf zs && insOk zs ⟨p, u, ns⟩) = b := ⟨_, rfl⟩
      have HBB := hid hb
      rw [hb]
      clear hb
      cases b
      · have HNO := hid (show wdOf zs is = false by
          unfold wdOf
          refine Bool.eq_false_iff.2 fun e => ?_
          rw [Bool.and_eq_true, Bool.and_eq_true] at e
          have h := HBB.out
          rw [e.2.1, List.all_eq_true.1 e.2.2 _ HMEM.out] at h
          cases h)
        go_wp2_with fail
        go_ret
        exact ⟨by rw [HNO.out]; rfl, HB2.out⟩
      · go_wp2_with fail
        go_roundw
        case rel => exact ⟨k + 1, hlt, by go_num, by rw [HX.out, HALL.out, HBB.out]; rfl, HB2.out, hz2, HBLK2.out⟩
        case measure => simp [intOf]; omega
    · have HE := hid (show (is.all fun i => clsOf zs && insOk zs i) = true by
        have h := HALL.out
        rwa [List.take_of_length_le (by have := HLEN.out; omega)] at h)
      have q0 := cell_blk HBLK.out (j := 0) rfl
      have q1 := cell_blk HBLK.out (j := 1) rfl
      obtain ⟨r1, hr1⟩ : ∃ b, clsOf zs = b := ⟨_, rfl⟩
      have HR1 := hid hr1
      clear hr1
      go_wp2_with fail
      refine (l3Classes_any A n cap zs _ hcap hcm (HA.out.below hbel) HZ.out).mono ?_
      rintro e w1 ⟨rfl, c1⟩
      have hb1 := hbel.trans (c1.mono hbel.size)
      have q2 := cell_blk ((c1.block w.heap.size hsz).trans HBLK.out) (j := 1) rfl
      clear q0 q1
      rw [HR1.out]
      cases r1
      · go_wp2_with fail
        go_ret
        exact ⟨by unfold wdOf; rw [HR1.out]; simp, hb1⟩
      · have HW := hid (show wdOf zs is = decide (m ≤ 10) by
          unfold wdOf
          rw [HR1.out, HLEN.out]
          have h := HE.out
          rw [HR1.out] at h
          rw [show is.all (insOk zs) = true from h]
          simp)
        go_wp2_with fail
        go_ret
        exact ⟨by rw [HW.out, show decide (m ≤ 10) = decide ((m : Int) ≤ 10) by rw [decide_eq_decide]; omega]; rfl, hb1⟩

theorem idxC_pos (zs : List (ByteArray × ByteArray)) (s : ByteArray) : decide (0 ≤ idxC zs s) = hasNm zs s := by
  rcases h : hasNm zs s with _ | _
  · exact decide_eq_false (by have := (idxC_neg zs s).2 h; omega)
  · exact decide_eq_true (by
      rcases Int.lt_or_le (idxC zs s) 0 with h2 | h2
      · rw [(idxC_neg zs s).1 h2] at h; cases h
      · exact h2)

end Go.Proofs.YtjpdiahbnhemoaaGreatDoor
