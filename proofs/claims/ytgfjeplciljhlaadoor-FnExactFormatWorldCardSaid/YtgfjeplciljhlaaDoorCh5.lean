/- Whether worlds are valid, in the program: World.check, WorldValid, InstanceValid, HasClass. -/
import Derived.Test.YtgfjeplciljhlaaDoorCh4
namespace Go.Proofs.YtgfjeplciljhlaaDoor
open Go.RowKit

set_option maxHeartbeats 8000000 in
set_option maxRecDepth 100000 in
theorem wcheck_any (A : Option Addr) (n cap : Nat) (zs : List (ByteArray × ByteArray)) (B : Option Addr) (m cap' : Nat) (is : List Ins) (w : World) (hn : n ≤ maxLen) (ha : Prs w A n zs) (_hm : m ≤ maxLen) (hb : Inss w B m is) (hok : ∀ i ∈ is, InsOk i) (ht : tot zs ≤ 1048576) (he : WErrs w) :
    Calls Tryd.prog 51 #[.agg #[.slice A n cap, .slice B m cap']] w fun e w' => (∃ v, e = .returned v ∧ IsErr v (!wdOf zs is)) ∧ Below w.heap.size w w' := by
  have b0 : ∀ o, Below w.heap.size w (w.alloc o) := fun o => (Below.refl _ _).alloc (Nat.le_refl _) o
  obtain ⟨t0, a0, k0, g0⟩ := he.count
  have HA := hid ha
  have HB := hid hb
  have HE := hid he
  have HO := hid hok
  have hlen := hb.1
  have HC0 := hid (show (w.alloc (.cells #[.slice A n cap, .slice B m cap'] 26)).heap[w.heap.size]? = some (.cells #[.slice A n cap, .slice B m cap'] 26 (0, 0)) from heap_new1 w _)
  have HK0 := hid (fun (W : World) (hW : Below w.heap.size w W) => cell_below k0 g0 hW)
  clear ha hb he hok k0
  by_cases h10 : m ≤ 10
  · have HL := hid (show decide (is.length ≤ 10) = true from decide_eq_true (by omega))
    have HLEN := hid hlen
    clear hlen
    have h10i : ¬ (10 : Int) < (m : Int) := by omega
    go_enter Tryd.func51, Tryd.ntmps51
    go_wp2_with fail
    refine (checkClasses_any A n cap zs B m cap' _ hn (HA.out.below (b0 _)) ht (HE.out.below (b0 _))).mono ?_
    rintro e w1 ⟨⟨v1, rfl, hv1⟩, c1⟩
    have HV1 := hid hv1
    have HB1 := hid ((b0 (.cells #[.slice A n cap, .slice B m cap'] 26)).trans (c1.mono (by simp only [World.size_alloc]; omega)))
    have hz1 : w.heap.size < w1.heap.size := by have := c1.size; simp only [World.size_alloc] at this; omega
    have HBLK1 := hid ((c1.block w.heap.size (by simp only [World.size_alloc]; omega)).trans HC0.out)
    have q1 := cell_blk HBLK1.out (j := 1) rfl
    clear hv1 c1
    go_wp2_with fail
    go_loopw [3, 16] (fun v i wr => ∃ k : Nat, k ≤ m ∧ i = .int .i64 k ∧ IsErr v (!(clsOf zs && (is.take k).all (insOk zs))) ∧ Below w.heap.size w wr ∧ w.heap.size < wr.heap.size ∧ wr.heap[w.heap.size]? = some (.cells #[.slice A n cap, .slice B m cap'] 26 (0, 0))) (fun _ i _ => m - (intOf i).toNat)
    case atStart => exact ⟨0, Nat.zero_le _, rfl, by show IsErr v1 (!(clsOf zs && true)); rw [Bool.and_true]; exact HV1.out, HB1.out, hz1, HBLK1.out⟩
    case round =>
      obtain ⟨k, hk, rfl, hv, hbel, hsz, hblk⟩ := hrel
      have HBLK := hid hblk
      have HV := hid hv
      clear hblk hv q1
      by_cases hlt : k < m
      · obtain ⟨g, o, rfl, hg, hca⟩ := HB.out.2 (by omega)
        have hx : is[k]? = some (is[k]'(by have := HLEN.out; omega)) := List.getElem?_eq_getElem _
        obtain ⟨ca, cb, D, l, c3, cc, hl, hp⟩ := hca k _ hx
        have hs := HO.out _ (List.mem_of_getElem? hx)
        obtain ⟨⟨p, u, ns⟩, ex⟩ : ∃ z, is[k]'(by have := HLEN.out; omega) = z := ⟨_, rfl⟩
        rw [ex] at ca cb hx hs hp
        have HX := hid (all_snoc (p := insOk zs) hx)
        have ca' := cell_below ca hg hbel
        have cb' := cell_below cb hg hbel
        have cc' := cell_below cc hg hbel
        have HP := hid hp
        have HS := hid hs.2.2
        have hu : u.size ≤ maxLen := hs.2.1
        clear hca hx ex ca cb cc hp hs
        have i1 : (0 : Int) ≤ (k : Int) := by omega
        have i2 : (k : Int) < (m : Int) := by omega
        have hb1 : Below w.heap.size w (wr.alloc (.cells #[.string p, .string u, .slice D l c3] 31)) := hbel.alloc hbel.size _
        have HB1 := hid hb1
        have q0 := cell_blk ((Below.heap_alloc wr (.cells #[.string p, .string u, .slice D l c3] 31) _ hsz).trans HBLK.out) (j := 0) rfl
        clear hb1
        go_wp2_with fail
        refine (check_any p u D l c3 ns A n cap zs _ hu hl (HP.out.below HB1.out) HS.out hn (HA.out.below HB1.out) (HE.out.below HB1.out)).mono ?_
        rintro e w2 ⟨⟨v2, rfl, hv2⟩, c2⟩
        have HV2 := hid hv2
        have HB2 := hid (HB1.out.trans (c2.mono HB1.out.size))
        have hz2 : w.heap.size < w2.heap.size := by have := c2.size; simp only [World.size_alloc] at this; omega
        have HBLK2 := hid ((c2.block w.heap.size (by simp only [World.size_alloc]; omega)).trans ((Below.heap_alloc wr (.cells #[.string p, .string u, .slice D l c3] 31) _ hsz).trans HBLK.out))
        clear hv2 c2 q0
        rcases HV.out.form with rfl | ⟨T1, P1, rfl⟩ <;> rcases HV2.out.form with rfl | ⟨T2, P2, rfl⟩
        all_goals
          go_wp2_with (first
            | (go_at_call 42
               refine (joinNew2 _ _ _ _ _ HV.out HV2.out).mono ?_
               rintro e w5 ⟨⟨v5, rfl, hv5⟩, b5⟩
               have HV5 := hid hv5
               clear hv5)
            | fail)
          go_roundw
          case rel => exact ⟨k + 1, hlt, by go_num, by rw [HX.out, ← Bool.and_assoc, Bool.not_and]; exact HV5.out, HB2.out.trans (b5.mono HB2.out.size), Nat.lt_of_lt_of_le hz2 b5.size, (b5.block _ hz2).trans HBLK2.out⟩
          case measure => simp [intOf]; omega
      · have HALL := hid (show (is.take k).all (insOk zs) = is.all (insOk zs) by rw [List.take_of_length_le (by have := HLEN.out; omega)])
        go_wp2_with fail
        go_ret
        unfold wdOf
        rw [HL.out, Bool.true_and, ← HALL.out]
        exact ⟨⟨_, rfl, HV.out⟩, hbel⟩
  · have HL := hid (show wdOf zs is = false by unfold wdOf; rw [decide_eq_false (by omega)]; rfl)
    clear hlen
    have h10i : (10 : Int) < (m : Int) := by omega
    have h0 := HK0.out _ (b0 (.cells #[.slice A n cap, .slice B m cap'] 26))
    go_enter Tryd.func51, Tryd.ntmps51
    go_wp2_with fail
    go_ret
    rw [HL.out]
    exact ⟨⟨_, rfl, IsErr.some _ _⟩, b0 _⟩

theorem IsErr.false {v : Value} (h : IsErr v Bool.false) : v = .nilIface := by
  rcases h with ⟨_, h⟩ | ⟨h, _⟩
  · exact h
  · cases h
theorem IsErr.true {v : Value} (h : IsErr v Bool.true) : ∃ t a, v = .iface t (.pointer (Option.some a)) := by
  rcases h with ⟨h, _⟩ | ⟨_, h⟩
  · cases h
  · exact h

set_option maxHeartbeats 1000000 in
set_option maxRecDepth 100000 in
theorem worldValidI_any (A : Option Addr) (n cap : Nat) (zs : List (ByteArray × ByteArray)) (B : Option Addr) (m cap' : Nat) (is : List Ins) (w : World) (hn : n ≤ maxLen) (ha : Prs w A n zs) (hm : m ≤ maxLen) (hb : Inss w B m is) (hok : ∀ i ∈ is, InsOk i) (ht : tot zs ≤ 1048576) (he : WErrs w) :
    Calls Tryd.prog 13 #[.agg #[.slice A n cap, .slice B m cap']] w fun e w' => e = .returned (.bool (wdOf zs is)) ∧ Below w.heap.size w w' := by
  have b0 : ∀ o, Below w.heap.size w (w.alloc o) := fun o => (Below.refl _ _).alloc (Nat.le_refl _) o
  have HC := hid (wcheck_any A n cap zs B m cap' is _ hn (ha.below (b0 (.cells #[.slice A n cap, .slice B m cap'] 26))) hm (hb.below (b0 _)) hok ht (he.below (b0 _)))
  obtain ⟨b, hb'⟩ : ∃ b, wdOf zs is = b := ⟨_, rfl⟩
  rw [hb'] at HC ⊢
  clear ha hb hok he hb'
  go_enter Tryd.func13, Tryd.ntmps13
  go_wp2_with fail
  refine HC.out.mono ?_
  rintro e w1 ⟨⟨v1, rfl, hv1⟩, c1⟩
  cases b
  · obtain ⟨T, P, rfl⟩ := hv1.true
    go_wp2_with fail
    go_ret
    exact ⟨rfl, (b0 _).trans (c1.mono (b0 _).size)⟩
  · obtain rfl := hv1.false
    go_wp2_with fail
    go_ret
    exact ⟨rfl, (b0 _).trans (c1.mono (b0 _).size)⟩

set_option maxHeartbeats 4000000 in
set_option maxRecDepth 100000 in
theorem instanceValidI_any (A : Option Addr) (n cap : Nat) (zs : List (ByteArray × ByteArray)) (B : Option Addr) (m cap' : Nat) (x t : ByteArray) (D : Option Addr) (l c : Nat) (ns : List (ByteArray × ByteArray)) (w : World) (hn : n ≤ maxLen) (ha : Prs w A n zs) (ht : tot zs ≤ 1048576) (htt : t.size ≤ maxLen) (hl : l ≤ maxLen) (hd : Prs w D l ns) (hnz : ∀ z ∈ ns, z.1.size ≤ maxLen ∧ z.2.size ≤ maxLen) (he : WErrs w) :
    Calls Tryd.prog 11 #[.agg #[.slice A n cap, .slice B m cap'], .agg #[.string x, .string t, .slice D l c]] w fun e w' => e = .returned (.bool (clsOf zs && insOk zs ⟨x, t, ns⟩)) ∧ Below w.heap.size w w' := by
  have b0 : ∀ o, Below w.heap.size w (w.alloc o) := fun o => (Below.refl _ _).alloc (Nat.le_refl _) o
  obtain ⟨w1, hw1⟩ : ∃ w1, (w.alloc (.cells #[.slice A n cap, .slice B m cap'] 26)).alloc (.cells #[.string x, .string t, .slice D l c] 31) = w1 := ⟨_, rfl⟩
  have HB1 := hid (show Below w.heap.size w w1 by rw [← hw1]; exact (b0 _).alloc (b0 _).size _)
  have hz1 : w.heap.size + 1 < w1.heap.size := by rw [← hw1]; simp only [World.size_alloc]; omega
  have hc0 : w1.heap[w.heap.size]? = some (.cells #[.slice A n cap, .slice B m cap'] 26 (0, 0)) := by
    rw [← hw1, Below.heap_alloc _ _ _ (by simp only [World.size_alloc]; omega)]
    exact heap_new1 w _
  have hc1 : w1.heap[w.heap.size + 1]? = some (.cells #[.string x, .string t, .slice D l c] 31 (0, 0)) := by
    have := heap_new1 (w.alloc (.cells #[.slice A n cap, .slice B m cap'] 26)) (.cells #[.string x, .string t, .slice D l c] 31)
    rw [World.size_alloc, hw1] at this
    exact this
  obtain ⟨C, HC⟩ : ∃ C : World → Prop, Hid (∀ w', C w' ↔ Below w1.heap.size w1 w') := ⟨_, hid fun _ => Iff.rfl⟩
  have HWR := hid (fun (W : World) (hW : C W) => show Below w.heap.size w W from HB1.out.trans (((HC.out W).1 hW).mono HB1.out.size))
  have HCC := hid (fun (W : World) (hW : C W) => show W.cell? ⟨w.heap.size, 0, none⟩ = some (.slice A n cap) ∧ W.cell? ⟨w.heap.size, 1, none⟩ = some (.slice B m cap') ∧ W.cell? ⟨w.heap.size + 1, 0, none⟩ = some (.string x) ∧ W.cell? ⟨w.heap.size + 1, 1, none⟩ = some (.string t) ∧ W.cell? ⟨w.heap.size + 1, 2, none⟩ = some (.slice D l c) from by
    have hW' := (HC.out W).1 hW
    have hz0 : w.heap.size < w1.heap.size := by omega
    exact ⟨cell_below (cell_blk hc0 (j := 0) rfl) hz0 hW', cell_below (cell_blk hc0 (j := 1) rfl) hz0 hW', cell_below (cell_blk hc1 (j := 0) rfl) hz1 hW', cell_below (cell_blk hc1 (j := 1) rfl) hz1 hW', cell_below (cell_blk hc1 (j := 2) rfl) hz1 hW'⟩)
  have HCB := hid (fun (W W' : World) (hW : C W) (hb : Below W.heap.size W W') => show C W' from (HC.out W').2 (((HC.out W).1 hW).trans (hb.mono ((HC.out W).1 hW).size)))
  have HCL := hid (fun (W : World) (hW : C W) => checkClasses_any A n cap zs B m cap' W hn (ha.below (HWR.out W hW)) ht (he.below (HWR.out W hW)))
  have HCN := hid (fun (W : World) (hW : C W) => check_any x t D l c ns A n cap zs W htt hl (hd.below (HWR.out W hW)) hnz hn (ha.below (HWR.out W hW)) (he.below (HWR.out W hW)))
  obtain ⟨n1, hn1⟩ : ∃ b, clsOf zs = b := ⟨_, rfl⟩
  obtain ⟨n2, hn2⟩ : ∃ b, insOk zs ⟨x, t, ns⟩ = b := ⟨_, rfl⟩
  rw [hn1] at HCL ⊢
  rw [hn2] at HCN ⊢
  have HW1 := hid hw1
  have HC1 := hid ((HC.out w1.drew).2 (Below.refl _ _).drew)
  clear hn1 hn2 ha hd hnz he hw1 hc0 hc1
  go_enter Tryd.func11, Tryd.ntmps11
  go_wp2_with fail
  rw [HW1.out]
  refine wp_region_loose (C := C) 6 (by kernel_rfl) (by kernel_rfl) HC1.out ?_
  simp only [List.take_succ_cons, List.take_zero]
  refine walk_by fun W hnil hval hcall hany hskip => ?_
  iterate 6 (first
    | (refine hval _ _ _ _ (fun _ => by rfl) ⟨_, fun q hq w' hw' => by
         obtain ⟨x0, x1, x2, x3, x4⟩ := HCC.out w' hw'
         first | (go_simp; done) | (go_simp; rfl), ?_⟩
       simp only [Act.put, List.setIfInBounds_toArray, List.set_cons_zero, List.set_cons_succ])
    | (refine hany _ _ _ _ (fun _ => by rfl) ⟨43, _, fun v => IsErr v (!n1), fun q hq w' hw' => ⟨by first | (go_simp; done) | (go_simp; rfl), (HCL.out w' hw').mono fun e w'' h => ⟨h.1.choose, h.1.choose_spec.1, h.1.choose_spec.2, HCB.out _ _ hw' h.2⟩⟩, ?_⟩
       simp only [Act.put, List.setIfInBounds_toArray, List.set_cons_zero, List.set_cons_succ])
    | (refine hany _ _ _ _ (fun _ => by rfl) ⟨44, _, fun v => IsErr v (!n2), fun q hq w' hw' => ⟨by first | (go_simp; done) | (go_simp; rfl), (HCN.out w' hw').mono fun e w'' h => ⟨h.1.choose, h.1.choose_spec.1, h.1.choose_spec.2, HCB.out _ _ hw' h.2⟩⟩, ?_⟩
       simp only [Act.put, List.setIfInBounds_toArray, List.set_cons_zero, List.set_cons_succ]))
  refine hnil _ _ ?_
  intro q hq w' hw'
  simp only [List.drop_succ_cons, List.drop_zero]
  have hb' := HWR.out w' hw'
  obtain ⟨hq1, hq2, _⟩ := hq
  clear hnil hval hcall hany hskip HCC HCB HCL HCN HWR HC HC1
  obtain ⟨v2, hv2⟩ : ∃ v, q.headD undef = v := ⟨_, rfl⟩
  obtain ⟨v1, hv1⟩ : ∃ v, q.tail.headD undef = v := ⟨_, rfl⟩
  rw [hv2] at hq1 ⊢
  rw [hv1] at hq2 ⊢
  have HQ := hid hq1
  have HP := hid hq2
  clear hq1 hq2 hv2 hv1
  have hz' := hb'.size
  rcases n1 with _ | _ <;> rcases n2 with _ | _
  · obtain ⟨T1, P1, rfl⟩ := HP.out.true
    obtain ⟨T2, P2, rfl⟩ := HQ.out.true
    go_wp2_with (go_at_call 42; refine (joinNew2 _ _ _ _ _ HP.out HQ.out).mono ?_; rintro e w5 ⟨⟨v5, rfl, hv5⟩, b5⟩; obtain ⟨T5, P5, rfl⟩ := hv5.true)
    go_ret
    exact ⟨rfl, hb'.trans (b5.mono hz')⟩
  · obtain ⟨T1, P1, rfl⟩ := HP.out.true
    obtain rfl := HQ.out.false
    go_wp2_with (go_at_call 42; refine (joinNew2 _ _ _ _ _ HP.out HQ.out).mono ?_; rintro e w5 ⟨⟨v5, rfl, hv5⟩, b5⟩; obtain ⟨T5, P5, rfl⟩ := hv5.true)
    go_ret
    exact ⟨rfl, hb'.trans (b5.mono hz')⟩
  · obtain rfl := HP.out.false
    obtain ⟨T2, P2, rfl⟩ := HQ.out.true
    go_wp2_with (go_at_call 42; refine (joinNew2 _ _ _ _ _ HP.out HQ.out).mono ?_; rintro e w5 ⟨⟨v5, rfl, hv5⟩, b5⟩; obtain ⟨T5, P5, rfl⟩ := hv5.true)
    go_ret
    exact ⟨rfl, hb'.trans (b5.mono hz')⟩
  · obtain rfl := HP.out.false
    obtain rfl := HQ.out.false
    go_wp2_with (go_at_call 42; refine (joinNew2 _ _ _ _ _ HP.out HQ.out).mono ?_; rintro e w5 ⟨⟨v5, rfl, hv5⟩, b5⟩; obtain rfl := hv5.false)
    go_ret
    exact ⟨rfl, hb'.trans (b5.mono hz')⟩

set_option maxHeartbeats 1000000 in
set_option maxRecDepth 100000 in
theorem hasClassI_any (A : Option Addr) (n cap : Nat) (zs : List (ByteArray × ByteArray)) (B : Option Addr) (m cap' : Nat) (is : List Ins) (s : ByteArray) (w : World) (hn : n ≤ maxLen) (ha : Prs w A n zs) (hm : m ≤ maxLen) (hb : Inss w B m is) (hok : ∀ i ∈ is, InsOk i) (ht : tot zs ≤ 1048576) (he : WErrs w) :
    Calls Tryd.prog 34 #[.agg #[.slice A n cap, .slice B m cap'], .string s] w fun e w' => e = .returned (.bool (wdOf zs is && hasNm zs s)) ∧ Below w.heap.size w w' := by
  have b0 : ∀ o, Below w.heap.size w (w.alloc o) := fun o => (Below.refl _ _).alloc (Nat.le_refl _) o
  have HWV := hid (worldValidI_any A n cap zs B m cap' is _ hn (ha.below (b0 (.cells #[.slice A n cap, .slice B m cap'] 26))) hm (hb.below (b0 _)) hok ht (he.below (b0 _)))
  have HHN := hid (fun (W : World) (hW : Below w.heap.size w W) => hasName_any A n cap zs s W hn (ha.below hW))
  have HC0 := hid (show (w.alloc (.cells #[.slice A n cap, .slice B m cap'] 26)).heap[w.heap.size]? = some (.cells #[.slice A n cap, .slice B m cap'] 26 (0, 0)) from heap_new1 w _)
  obtain ⟨b, hb'⟩ : ∃ b, wdOf zs is = b := ⟨_, rfl⟩
  rw [hb'] at HWV ⊢
  obtain ⟨b2, hb2⟩ : ∃ b, hasNm zs s = b := ⟨_, rfl⟩
  rw [hb2] at HHN ⊢
  clear ha hb hok he hb' hb2
  go_enter Tryd.func34, Tryd.ntmps34
  go_wp2_with fail
  refine HWV.out.mono ?_
  rintro e w1 ⟨rfl, c1⟩
  have hb1 := (b0 (.cells #[.slice A n cap, .slice B m cap'] 26)).trans (c1.mono (b0 _).size)
  have q0 := cell_blk ((c1.block w.heap.size (by simp only [World.size_alloc]; omega)).trans HC0.out) (j := 0) rfl
  cases b
  · go_wp2_with fail
    go_ret
    exact ⟨rfl, hb1⟩
  · go_wp2_with fail
    refine (HHN.out _ hb1).mono ?_
    rintro e w2 ⟨rfl, c2⟩
    go_wp2_with fail
    go_ret
    exact ⟨rfl, hb1.trans (c2.mono hb1.size)⟩

end Go.Proofs.YtgfjeplciljhlaaDoor
