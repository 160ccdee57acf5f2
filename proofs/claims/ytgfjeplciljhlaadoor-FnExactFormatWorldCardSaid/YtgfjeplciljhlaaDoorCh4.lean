/- Whether instances and classes are valid, in the program. -/
import Derived.Test.YtgfjeplciljhlaaDoorCh3
namespace Go.Proofs.YtgfjeplciljhlaaDoor
open Go.RowKit

theorem insOk_needs (zs : List (ByteArray × ByteArray)) (x t : ByteArray) (ns : List (ByteArray × ByteArray)) : insOk zs ⟨x, t, ns⟩ = (ndOk zs (x, t) && (!bareB t && (decide (ns.length ≤ 3) && ns.all (needOk zs t)))) := rfl
theorem bareB_var {t : ByteArray} {c : UInt8} (h : t.data.toList = [c]) : bareB t = isVarB c := by unfold bareB; rw [h]
theorem bareB_not {t : ByteArray} (h : ∀ c, t.data.toList = [c] → isVarB c = true → False) : bareB t = false := by
  unfold bareB
  split
  · rename_i c e
    exact Bool.eq_false_iff.2 fun hv => h c e hv
  · rfl

set_option maxHeartbeats 8000000 in
set_option maxRecDepth 100000 in
theorem check_any (x t : ByteArray) (B : Option Addr) (m c : Nat) (ns : List (ByteArray × ByteArray)) (A : Option Addr) (n cap : Nat) (zs : List (ByteArray × ByteArray)) (w : World) (ht : t.size ≤ maxLen) (hm : m ≤ maxLen) (hb : Prs w B m ns) (hnz : ∀ z ∈ ns, z.1.size ≤ maxLen ∧ z.2.size ≤ maxLen) (hn : n ≤ maxLen) (ha : Prs w A n zs) (he : WErrs w) :
    Calls Tryd.prog 44 #[.agg #[.string x, .string t, .slice B m c], .slice A n cap] w fun e w' => (∃ v, e = .returned v ∧ IsErr v (!insOk zs ⟨x, t, ns⟩)) ∧ Below w.heap.size w w' := by
  have b0 : ∀ o, Below w.heap.size w (w.alloc o) := fun o => (Below.refl _ _).alloc (Nat.le_refl _) o
  obtain ⟨t1, a1, k1, g1⟩ := he.head
  have HA := hid ha
  have HB := hid hb
  have HN := hid hnz
  have HE := hid he
  have HC0 := hid (show (w.alloc (.cells #[.string x, .string t, .slice B m c] 31)).heap[w.heap.size]? = some (.cells #[.string x, .string t, .slice B m c] 31 (0, 0)) from heap_new1 w _)
  have HK1 := hid (fun (W : World) (hW : Below w.heap.size w W) => cell_below k1 g1 hW)
  have q1 := cell_blk HC0.out (j := 1) rfl
  clear ha hb hnz he k1
  go_enter Tryd.func44, Tryd.ntmps44
  go_wp2_with fail
  refine (readVariable_any t ht _).mono ?_
  rintro e w1 ⟨hb1, hv⟩
  have hz1 : w.heap.size < w1.heap.size := by have := hb1.size; simp only [World.size_alloc] at this; omega
  have HB1 := hid ((b0 (.cells #[.string x, .string t, .slice B m c] 31)).trans (hb1.mono (by simp only [World.size_alloc]; omega)))
  have HBLK := hid ((hb1.block w.heap.size (by simp only [World.size_alloc]; omega)).trans HC0.out)
  clear q1 hb1
  obtain ⟨pv, bare, rfl, hbare⟩ : ∃ pv bare, e = .returned (.tuple #[pv, .bool bare]) ∧ bareB t = bare := by
    rcases hv with ⟨h, rfl⟩ | ⟨d, b, h1, h2, rfl, _⟩
    · exact ⟨_, _, rfl, bareB_not h⟩
    · exact ⟨_, _, rfl, by rw [bareB_var h1, h2]⟩
  clear hv
  obtain ⟨C, HC⟩ : ∃ C : World → Prop, Hid (∀ w', C w' ↔ Below w1.heap.size w1 w') := ⟨_, hid fun _ => Iff.rfl⟩
  have HWR := hid (fun (W : World) (hW : C W) => show Below w.heap.size w W from HB1.out.trans (((HC.out W).1 hW).mono HB1.out.size))
  have HCC := hid (fun (W : World) (hW : C W) => show W.cell? ⟨w.heap.size, 0, none⟩ = some (.string x) ∧ W.cell? ⟨w.heap.size, 1, none⟩ = some (.string t) ∧ W.cell? ⟨w.heap.size, 2, none⟩ = some (.slice B m c) ∧ W.cell? ⟨1, 0, none⟩ = some (.iface t1 (.pointer (some a1))) from by
    have hW' := (HC.out W).1 hW
    exact ⟨cell_below (cell_blk HBLK.out (j := 0) rfl) hz1 hW', cell_below (cell_blk HBLK.out (j := 1) rfl) hz1 hW', cell_below (cell_blk HBLK.out (j := 2) rfl) hz1 hW', HK1.out W (HWR.out W hW)⟩)
  have HCB := hid (fun (W W' : World) (hW : C W) (hb : Below W.heap.size W W') => show C W' from (HC.out W').2 (((HC.out W).1 hW).trans (hb.mono ((HC.out W).1 hW).size)))
  have HCP := hid (fun (W : World) (hW : C W) => checkPlace_any x t A n cap zs W ht hn (HA.out.below (HWR.out W hW)) (HE.out.below (HWR.out W hW)).clas (HE.out.below (HWR.out W hW)).type)
  have HCN := hid (fun (W : World) (hW : C W) => checkNeeds_any x t B m c ns A n cap zs W ht hm (HB.out.below (HWR.out W hW)) HN.out hn (HA.out.below (HWR.out W hW)) (HE.out.below (HWR.out W hW)))
  obtain ⟨n1, hn1⟩ : ∃ b, ndOk zs (x, t) = b := ⟨_, rfl⟩
  obtain ⟨n2, hn2⟩ : ∃ b, (decide (ns.length ≤ 3) && ns.all (needOk zs t)) = b := ⟨_, rfl⟩
  rw [hn1] at HCP
  rw [hn2] at HCN
  have HOK := hid (show insOk zs ⟨x, t, ns⟩ = (n1 && (!bare && n2)) by rw [insOk_needs, hn1, hn2, hbare])
  have HC1 := hid ((HC.out w1.drew).2 (Below.refl _ _).drew)
  clear hn1 hn2 hbare
  go_wp2_with fail
  refine wp_region_loose (C := C) 11 (by kernel_rfl) (by kernel_rfl) HC1.out ?_
  simp only [List.take_succ_cons, List.take_zero]
  refine walk_by fun W hnil hval hcall hany hskip => ?_
  iterate 11 (first
    | (refine hval _ _ _ _ (fun _ => by rfl) ⟨_, fun q hq w' hw' => by
         obtain ⟨x0, x1, x2, x3⟩ := HCC.out w' hw'
         first | (go_simp; done) | (go_simp; rfl), ?_⟩
       simp only [Act.put, List.setIfInBounds_toArray, List.set_cons_zero, List.set_cons_succ])
    | (refine hany _ _ _ _ (fun _ => by rfl) ⟨86, _, fun v => IsErr v (!n1), fun q hq w' hw' => ⟨by first | (go_simp; done) | (go_simp; rfl), (HCP.out w' hw').mono fun e w'' h => ⟨h.1.choose, h.1.choose_spec.1, h.1.choose_spec.2, HCB.out _ _ hw' h.2⟩⟩, ?_⟩
       simp only [Act.put, List.setIfInBounds_toArray, List.set_cons_zero, List.set_cons_succ])
    | (refine hany _ _ _ _ (fun _ => by rfl) ⟨88, _, fun v => IsErr v (!n2), fun q hq w' hw' => ⟨by first | (go_simp; done) | (go_simp; rfl), (HCN.out w' hw').mono fun e w'' h => ⟨h.1.choose, h.1.choose_spec.1, h.1.choose_spec.2, HCB.out _ _ hw' h.2⟩⟩, ?_⟩
       simp only [Act.put, List.setIfInBounds_toArray, List.set_cons_zero, List.set_cons_succ])
    | (refine hcall _ _ _ _ (fun _ => by rfl) ⟨87, _, _, fun q hq w' hw' => by
         refine ⟨by (go_simp; rfl), ?_⟩
         exact (unlessV _ _ w').mono fun e w'' h => ⟨h.1, by rw [h.2]; exact hw'⟩, ?_⟩
       simp only [Act.put, List.setIfInBounds_toArray, List.set_cons_zero, List.set_cons_succ]))
  refine hnil _ _ ?_
  intro q hq w' hw'
  simp only [List.drop_succ_cons, List.drop_zero]
  have hb' := HWR.out w' hw'
  obtain ⟨hq1, hq2, _⟩ := hq
  clear hnil hval hcall hany hskip HCC HCB HCP HCN HWR HC HC1
  obtain ⟨v2, hv2⟩ : ∃ v, q.headD undef = v := ⟨_, rfl⟩
  obtain ⟨v1, hv1⟩ : ∃ v, q.tail.headD undef = v := ⟨_, rfl⟩
  rw [hv2] at hq1 ⊢
  rw [hv1] at hq2 ⊢
  have HQ := hid hq1
  have HP := hid hq2
  have H5 : Hid (IsErr (errIf (!bare) (.iface t1 (.pointer (some a1)))) (!!bare)) := hid (errIf_is (IsErr.some t1 a1) (!bare))
  obtain ⟨v3, hv3⟩ : ∃ v, errIf (!bare) (.iface t1 (.pointer (some a1))) = v := ⟨_, rfl⟩
  rw [hv3] at H5 ⊢
  clear hq1 hq2 hv2 hv3 hv1
  have hz' := hb'.size
  rcases HP.out.form with rfl | ⟨T1, P1, rfl⟩ <;> rcases HQ.out.form with rfl | ⟨T2, P2, rfl⟩ <;> rcases H5.out.form with rfl | ⟨T3, P3, rfl⟩
  all_goals
    go_wp2_with (first
      | (go_at_call 42
         refine (joinNew3 _ _ _ _ _ _ _ HP.out H5.out HQ.out).mono ?_
         rintro e w5 ⟨⟨v5, rfl, hv5⟩, b5⟩
         have HV5 := hid hv5
         clear hv5)
      | fail)
    go_ret
    exact ⟨⟨_, rfl, by rw [HOK.out, Bool.not_and, Bool.not_and]; exact HV5.out⟩, hb'.trans (b5.mono hz')⟩

set_option maxHeartbeats 8000000 in
set_option maxRecDepth 100000 in
theorem checkClasses_any (A : Option Addr) (n cap : Nat) (zs : List (ByteArray × ByteArray)) (B : Option Addr) (m cap' : Nat) (w : World) (hn : n ≤ maxLen) (ha : Prs w A n zs) (ht : tot zs ≤ 1048576) (he : WErrs w) :
    Calls Tryd.prog 43 #[.agg #[.slice A n cap, .slice B m cap']] w fun e w' => (∃ v, e = .returned v ∧ IsErr v (!clsOf zs)) ∧ Below w.heap.size w w' := by
  have b0 : ∀ o, Below w.heap.size w (w.alloc o) := fun o => (Below.refl _ _).alloc (Nat.le_refl _) o
  obtain ⟨t0, a0, k0, g0⟩ := he.count
  have HA := hid ha
  have HE := hid he
  have hlen := ha.1
  have HK0 := hid (fun (W : World) (hW : Below w.heap.size w W) => cell_below k0 g0 hW)
  clear ha he k0
  unfold maxLen at hn
  by_cases h14 : 1 ≤ n ∧ n ≤ 4
  · obtain ⟨h1, h4⟩ := h14
    have HCL := hid (show clsOf zs = clsGo [] zs by unfold clsOf; rw [hlen, decide_eq_true h1, decide_eq_true h4]; rfl)
    have HLEN := hid hlen
    clear hlen
    have h1i : ((n : Int) == 0) = false := by simp; omega
    have h4i : ¬ (4 : Int) < (n : Int) := by omega
    go_enter Tryd.func43, Tryd.ntmps43
    go_wp2_with fail
    go_loopw [3, 4, 21] (fun v s i wr => ∃ k : Nat, k ≤ n ∧ i = .int .i64 k ∧ (∃ sb : ByteArray, s = .string sb ∧ sb.data.toList = nmsL (zs.take k)) ∧ IsErr v (!clsGo [] (zs.take k)) ∧ Below w.heap.size w wr) (fun _ _ i _ => n - (intOf i).toNat)
    case atStart => exact ⟨0, Nat.zero_le _, rfl, ⟨_, rfl, rfl⟩, IsErr.nil, b0 _⟩
    case round =>
      obtain ⟨k, hk, rfl, ⟨sb, rfl, hsb⟩, hv, hbel⟩ := hrel
      have HV := hid hv
      have HS := hid hsb
      clear hv hsb
      by_cases hlt : k < n
      · obtain ⟨g, o, rfl, hg, hca⟩ := HA.out.2 (by omega)
        have hx : zs[k]? = some (zs[k]'(by have := HLEN.out; omega)) := List.getElem?_eq_getElem _
        obtain ⟨ca, cb⟩ := hca k _ hx
        obtain ⟨⟨p, u⟩, ex⟩ : ∃ z, zs[k]'(by have := HLEN.out; omega) = z := ⟨_, rfl⟩
        rw [ex] at ca cb hx
        have HX := hid (clsGo_snoc hx)
        have HNM := hid (nmsL_snoc hx)
        have ca' := cell_below ca hg hbel
        have cb' := cell_below cb hg hbel
        have hmem := tot_mem (List.mem_of_getElem? hx)
        have hnl := nmsL_len (zs.take k)
        have htk := tot_take_le zs k
        have hsz : sb.size ≤ 1048576 := by
          have e : sb.size = sb.data.toList.length := by simp
          rw [e, HS.out]; omega
        simp only at hmem
        clear hca hx ex ca cb hnl htk
        have i1 : (0 : Int) ≤ (k : Int) := by omega
        have i2 : (k : Int) < (n : Int) := by omega
        have hcat : ¬ 9223372036854775807 < sb.size + p.size := by omega
        have hp : p.size ≤ 1048576 := by omega
        have hu : u.size ≤ 1048576 := by omega
        have hb1 : Below w.heap.size w (wr.alloc (.cells #[.string p, .string u] 108)) := hbel.alloc hbel.size _
        have HE1 := hid (HE.out.below hb1)
        go_wp2_with fail
        refine (checkBehind_any p u sb _ hp hu (by omega) HE1.out.name HE1.out.supers).mono ?_
        rintro e w1 ⟨⟨v1, rfl, hv1⟩, c1⟩
        have HV1 := hid hv1
        have HB1 := hid (hb1.trans (c1.mono hb1.size))
        have hc1 := (blk_cells2 ((c1.block wr.heap.size (by simp only [World.size_alloc]; omega)).trans (heap_new1 wr (.cells #[.string p, .string u] 108)))).1
        have hzw : wr.heap.size < w1.heap.size := by have := c1.size; simp only [World.size_alloc] at this; omega
        clear hv1 c1
        rcases HV.out.form with rfl | ⟨T1, P1, rfl⟩ <;> rcases HV1.out.form with rfl | ⟨T2, P2, rfl⟩
        all_goals
          go_wp2_with (first
            | (go_at_call 42
               refine (joinNew2 _ _ _ _ _ HV.out HV1.out).mono ?_
               rintro e w5 ⟨⟨v5, rfl, hv5⟩, b5⟩
               have HV5 := hid hv5
               have hc5 := cell_below hc1 hzw b5
               clear hv5)
            | fail)
          go_roundw
          case rel => exact ⟨k + 1, hlt, by go_num, ⟨_, rfl, by rw [ByteArray.data_append, Array.toList_append, HS.out, HNM.out]⟩, by rw [HX.out, Bool.not_and, ← HS.out]; exact HV5.out, HB1.out.trans (b5.mono HB1.out.size)⟩
          case measure => simp [intOf]; omega
      · have HALL := hid (show clsGo [] (zs.take k) = clsGo [] zs by rw [List.take_of_length_le (by have := HLEN.out; omega)])
        go_wp2_with fail
        go_ret
        rw [HCL.out, ← HALL.out]
        exact ⟨⟨_, rfl, HV.out⟩, hbel⟩
  · have HCL := hid (show clsOf zs = false by
      unfold clsOf
      rw [hlen]
      by_cases h1 : 1 ≤ n
      · rw [decide_eq_false (show ¬ n ≤ 4 from fun h => h14 ⟨h1, h⟩), Bool.and_false]; rfl
      · rw [decide_eq_false h1]; rfl)
    clear hlen
    have h0 := HK0.out _ (b0 (.cells #[.slice A n cap, .slice B m cap'] 26))
    by_cases h1 : n = 0
    · subst h1
      clear h14
      go_enter Tryd.func43, Tryd.ntmps43
      go_wp2_with fail
      go_ret
      rw [HCL.out]
      exact ⟨⟨_, rfl, IsErr.some _ _⟩, b0 _⟩
    · have h1i : ((n : Int) == 0) = false := by simp; omega
      have h4i : (4 : Int) < (n : Int) := by omega
      clear h14 h1
      go_enter Tryd.func43, Tryd.ntmps43
      go_wp2_with fail
      go_ret
      rw [HCL.out]
      exact ⟨⟨_, rfl, IsErr.some _ _⟩, b0 _⟩

end Go.Proofs.YtgfjeplciljhlaaDoor
