/- FormatWorld in the model. -/
import Derived.Test.YtmbfahpljgdeaaaDoorFwW
import Derived.Test.YtmbfahpljgdeaaaDoorNdS
import Derived.Test.YtmbfahpljgdeaaaDoorWdX
namespace Go.Proofs.YtmbfahpljgdeaaaDoor
open Go.RowKit
set_option linter.unusedVariables false

theorem toL_emp (y : ByteArray) : (y.toList == []) = decide (y.data.toList = []) := by
  rw [ByteArray.toList_eq]
  rcases y.data.toList with _ | ⟨a, l⟩ <;> simp

set_option maxHeartbeats 4000000 in
set_option maxRecDepth 100000 in
theorem formatWorldS_any (A : Option Addr) (n cap : Nat) (zs : List (ByteArray × ByteArray)) (B : Option Addr) (m cap' : Nat) (is : List Ins) (w : World) (hcap : n ≤ cap) (hcm : cap ≤ maxLen) (ha : Prs w A n zs) (hz : ∀ z ∈ zs, z.2.size ≤ maxLen) (hm : m ≤ maxLen) (hb : Inss w B m is) (hok : ∀ i ∈ is, InsOk i) (hn1 : n ≤ 1048576) (ht1 : tot zs ≤ 1048576) (hm1 : m + inssTot is ≤ 1048576) (v : Bool) (hv : Hid (wdOf zs is = v)) (S : ByteArray) (hS : Hid (fwOf v (wdT zs is) = S)) :
    Calls Tryd.prog 27 #[.agg #[.slice A n cap, .slice B m cap']] w fun e w' => e = .returned (.string S) ∧ Below w.heap.size w w' := by
  have HA := hid ha
  have HB := hid hb
  have HZL := hid ha.1
  have HIL := hid hb.1
  have b0 : ∀ o, Below w.heap.size w (w.alloc o) := fun o => (Below.refl _ _).alloc (Nat.le_refl _) o
  have HC0 := hid (heap_new1 w (.cells #[.slice A n cap, .slice B m cap'] 31))
  have HWV := hid (worldValidS_any A n cap zs B m cap' is _ hcap hcm (ha.below (b0 (.cells #[.slice A n cap, .slice B m cap'] 31))) hz hm (hb.below (b0 _)) hok)
  rw [hv.out] at HWV
  have HT := hid ht1
  have HM := hid hm1
  have hmm : m ≤ 1048576 := by omega
  clear ha hb hz hok ht1 hm1
  go_enter Tryd.func27, Tryd.ntmps27
  go_wp2_with fail
  refine HWV.out.mono ?_
  rintro e w1 ⟨rfl, b1⟩
  have z1 : w.heap.size < w1.heap.size := by have := b1.size; simp only [World.size_alloc] at this; omega
  have B1 := hid ((b0 (.cells #[.slice A n cap, .slice B m cap'] 31)).trans (b1.mono (b0 _).size))
  have E1 := hid ((b1.block w.heap.size (by simp only [World.size_alloc]; omega)).trans HC0.out)
  have q0 := cell_blk E1.out (j := 0) rfl
  clear b1
  cases v
  · have hs : S = ⟨#[]⟩ := hS.out.symm
    subst hs
    go_wp2_with fail
    go_ret
    exact ⟨rfl, B1.out⟩
  · have hs : strOf (wdT zs is) = S := hS.out
    have HS := hid hs
    clear hs
    go_wp2_with fail
    go_loopw [3, 14] (fun o i wr => ∃ (k : Nat) (b : ByteArray), k ≤ n ∧ i = .int .i64 k ∧ o = .string b ∧ b.data.toList = clL (zs.take k) ∧ Below w.heap.size w wr ∧ w.heap.size < wr.heap.size ∧ wr.heap[w.heap.size]? = some (.cells #[.slice A n cap, .slice B m cap'] 31 (0, 0))) (fun _ i _ => n - (intOf i).toNat)
    case atStart => exact ⟨0, _, Nat.zero_le _, rfl, rfl, by rw [List.take_zero]; rfl, B1.out, z1, E1.out⟩
    case round =>
      obtain ⟨k, b, hk, rfl, rfl, hb, hbel, hsz, hblk⟩ := hrel
      have hbs : b.size ≤ 3145728 := by
        have e : b.size = b.data.toList.length := by simp
        rw [e, hb]
        have h1 := clL_len (zs.take k)
        have h2 := HT.out
        have h3 := tot_take_le zs k
        simp only [List.length_take] at h1
        omega
      have HB2 := hid hb
      have HBLK := hid hblk
      clear hb hblk q0
      by_cases hlt : k < n
      · obtain ⟨g, o, rfl, hg, hca⟩ := HA.out.2 (by omega)
        have hx : zs[k]? = some (zs[k]'(by have := HZL.out; omega)) := List.getElem?_eq_getElem _
        obtain ⟨ca, cb⟩ := hca k _ hx
        have hms := tot_mem (List.mem_of_getElem? hx)
        obtain ⟨⟨x, y⟩, ex⟩ : ∃ z, zs[k]'(by have := HZL.out; omega) = z := ⟨_, rfl⟩
        rw [ex] at ca cb hx hms
        have hxs : x.size + y.size ≤ 1048576 := by have := HT.out; simp only at hms; omega
        have hxs1 : x.size ≤ 1048576 := by omega
        have hys1 : y.size ≤ 1048576 := by omega
        have HTK := hid (show zs.take (k + 1) = zs.take k ++ [(x, y)] by rw [List.take_add_one, hx]; rfl)
        have ca' := cell_below ca hg hbel
        have cb' := cell_below cb hg hbel
        clear hca hx ex ca cb hms
        have i1 : (0 : Int) ≤ (k : Int) := by omega
        have i2 : (k : Int) < (n : Int) := by omega
        obtain ⟨fy, hfy⟩ : ∃ f, decide (y.data.toList = []) = f := ⟨_, rfl⟩
        have hy := toL_emp y
        rw [hfy] at hy
        have HY := hid hfy
        clear hfy
        have HCT := hid (show clsT (x, y) = x.data.toList ++ (if fy = true then [] else 60 :: y.data.toList) by
          unfold clsT
          rw [← HY.out]
          show x.data.toList ++ (if y.data.toList = [] then [] else 60 :: y.data.toList) = _
          by_cases h : y.data.toList = []
          · rw [if_pos h, if_pos (decide_eq_true h)]
          · rw [if_neg h, if_neg (by rw [decide_eq_false h]; decide)])
        by_cases h0 : k = 0
        · have HK0 := hid (show clL (zs.take (k + 1)) = b.data.toList ++ clsT (x, y) by
            rw [HTK.out, HB2.out, h0, List.take_zero, List.nil_append, clL_one]; rfl)
          have h1 : ¬ (0 : Int) < (k : Int) := by omega
          clear h0
          cases fy
          all_goals
            go_wp2_with fail
            go_roundw
            case rel =>
              refine ⟨k + 1, _, hlt, by go_num, rfl, ?_, hbel.alloc hbel.size _, by simp only [World.size_alloc]; omega, (Below.heap_alloc _ _ _ hsz).trans HBLK.out⟩
              rw [HK0.out, HCT.out]
              simp [ByteArray.data_append]
            case measure => simp [intOf]; omega
        · have HK0 := hid (show clL (zs.take (k + 1)) = b.data.toList ++ 32 :: clsT (x, y) by
            rw [HTK.out, clL_snoc (by
              intro e
              have := congrArg List.length e
              rw [List.length_take, HZL.out] at this
              simp at this
              omega), HB2.out])
          have h1 : (0 : Int) < (k : Int) := by omega
          clear h0
          cases fy
          all_goals
            go_wp2_with fail
            go_roundw
            case rel =>
              refine ⟨k + 1, _, hlt, by go_num, rfl, ?_, hbel.alloc hbel.size _, by simp only [World.size_alloc]; omega, (Below.heap_alloc _ _ _ hsz).trans HBLK.out⟩
              rw [HK0.out, HCT.out]
              simp [ByteArray.data_append]
            case measure => simp [intOf]; omega
      · have HBC := hid (show b.data.toList = wdT zs [] by
          rw [wdT_nil, HB2.out, List.take_of_length_le (by have := HZL.out; omega)])
        have q1 := cell_blk HBLK.out (j := 1) rfl
        have HW := hid hbel
        go_wp2_with fail
        go_loopw [3, 39] (fun o i wr2 => ∃ (k : Nat) (b : ByteArray), k ≤ m ∧ i = .int .i64 k ∧ o = .string b ∧ b.data.toList = wdT zs (is.take k) ∧ Below w.heap.size w wr2) (fun _ i _ => m - (intOf i).toNat)
        case atStart => exact ⟨0, _, Nat.zero_le _, rfl, rfl, by rw [List.take_zero]; exact HBC.out, HW.out⟩
        case round =>
          obtain ⟨k, b, hk, rfl, rfl, hb, hbel⟩ := hrel
          have hbs : b.size ≤ 8388608 := by
            have e : b.size = b.data.toList.length := by simp
            rw [e, hb]
            have h1 := wdT_len zs (is.take k)
            have h2 := HT.out
            have h3 := inssTot_take_le is k
            have h4 := HM.out
            have h5 := HZL.out
            simp only [List.length_take] at h1
            omega
          have HB3 := hid hb
          clear hb q1
          by_cases hlt : k < m
          · obtain ⟨g, o, rfl, hg, hca⟩ := HB.out.2 (by omega)
            have hx : is[k]? = some (is[k]'(by have := HIL.out; omega)) := List.getElem?_eq_getElem _
            obtain ⟨ca, cb, D, l, c3, cc, hl, hp⟩ := hca k _ hx
            have hms := inssTot_mem (List.mem_of_getElem? hx)
            obtain ⟨⟨p, u, ns⟩, ex⟩ : ∃ z, is[k]'(by have := HIL.out; omega) = z := ⟨_, rfl⟩
            rw [ex] at ca cb hx hp hms
            have hit : insTot ⟨p, u, ns⟩ ≤ 1048576 := by have := HM.out; omega
            have HTK := hid (wdT_snoc zs hx)
            have ca' := cell_below ca hg hbel
            have cb' := cell_below cb hg hbel
            have cc' := cell_below cc hg hbel
            have HP := hid (hp.below hbel)
            obtain ⟨q, hq⟩ : ∃ q, strOf (insL ⟨p, u, ns⟩) = q := ⟨_, rfl⟩
            have HQ := hid hq
            have hqs : q.size ≤ 2097154 := by
              rw [← hq, strOf_size]
              have := insL_len ⟨p, u, ns⟩
              omega
            clear hca hx ex ca cb cc hp hms hq
            have i1 : (0 : Int) ≤ (k : Int) := by omega
            have i2 : (k : Int) < (m : Int) := by omega
            have HB4 := hid (hbel.alloc hbel.size (.cells #[.string p, .string u, .slice D l c3] 45))
            have HFI := hid (formatInstanceS_any p u D l c3 ns (wr.alloc (.cells #[.string p, .string u, .slice D l c3] 45)) (HP.out.below ((Below.refl _ _).alloc (Nat.le_refl _) _)) hit)
            rw [HQ.out] at HFI
            go_wp2_with fail
            refine HFI.out.mono ?_
            rintro e w3 ⟨rfl, b3⟩
            have HB5 := hid (HB4.out.trans (b3.mono HB4.out.size))
            clear b3
            go_wp2_with fail
            go_roundw
            case rel =>
              refine ⟨k + 1, _, hlt, by go_num, rfl, ?_, HB5.out⟩
              rw [HTK.out, ← HB3.out]
              simp [ByteArray.data_append, ← HQ.out, strOf]
            case measure => simp [intOf]; omega
          · have HE := hid (show S = b by
              rw [← HS.out]
              have h := HB3.out
              rw [List.take_of_length_le (by have := HIL.out; omega)] at h
              exact (strOf_eq h).symm)
            go_wp2_with fail
            go_ret
            rw [HE.out]
            exact ⟨rfl, hbel⟩

end Go.Proofs.YtmbfahpljgdeaaaDoor
