/- Valid worlds in the model: l3Class, l3Capital, l3Classes, l3Within. Valid worlds in the model: l3Classes. -/
import Derived.Test.YtjpdiahbnhemoaaGreatDoorJn
import Derived.Test.YtjpdiahbnhemoaaGreatDoorSpecT
import Derived.OwnWalk
import Derived.Test.YtjpdiahbnhemoaaGreatDoorLoose
namespace Go.Proofs.YtjpdiahbnhemoaaGreatDoor
open Go.RowKit

/-- Which class has a name. -/
def idxC (zs : List (ByteArray × ByteArray)) (s : ByteArray) : Int := if hasNm zs s = true then ((zs.findIdx fun z => z.1.toList == s.toList : Nat) : Int) else -1
theorem idxC_neg (zs : List (ByteArray × ByteArray)) (s : ByteArray) : (idxC zs s < 0) ↔ hasNm zs s = false := by
  unfold idxC
  split
  · rename_i h
    rw [h]
    constructor
    · intro h; omega
    · intro h; cases h
  · rename_i h
    simp only [Bool.not_eq_true] at h
    rw [h]
    simp
theorem idxC_at {zs : List (ByteArray × ByteArray)} {s : ByteArray} {k : Nat} {z : ByteArray × ByteArray} (h : zs[k]? = some z) (he : z.1 = s) (hno : ∀ (j : Nat) y, j < k → zs[j]? = some y → y.1 ≠ s) : idxC zs s = (k : Int) := by
  have hm : hasNm zs s = true := List.any_eq_true.2 ⟨z, List.mem_of_getElem? h, by rw [he]; simp⟩
  unfold idxC
  rw [if_pos hm]
  obtain ⟨hk, e⟩ := List.getElem?_eq_some_iff.1 h
  have : (zs.findIdx fun z => z.1.toList == s.toList) = k := by
    rw [List.findIdx_eq hk]
    refine ⟨by rw [e, he]; simp, fun j hj => ?_⟩
    exact ba_ne (hno j (zs[j]) hj (List.getElem?_eq_getElem _))
  rw [this]
theorem idxC_no {zs : List (ByteArray × ByteArray)} {s : ByteArray} (hno : ∀ (j : Nat) y, zs[j]? = some y → y.1 ≠ s) : idxC zs s = -1 := by
  unfold idxC
  rw [if_neg]
  intro h
  obtain ⟨z, hz, e⟩ := List.any_eq_true.1 h
  obtain ⟨j, hj, rfl⟩ := List.getElem_of_mem hz
  rw [ba_ne (hno j _ (List.getElem?_eq_getElem hj))] at e
  cases e
set_option maxHeartbeats 1000000 in
set_option maxRecDepth 100000 in
theorem l3Class_any (A B : Option Addr) (n cap m cap' : Nat) (zs : List (ByteArray × ByteArray)) (s : ByteArray) (w : World) (hn : n ≤ maxLen) (ha : Prs w A n zs) (k : Int) (hk : Hid (idxC zs s = k)) :
    Calls Tryz.prog 53 #[.agg #[.slice A n cap, .slice B m cap'], .string s] w fun e w' => e = .returned (.int .i64 k) ∧ Below w.heap.size w w' := by
  have HA := hid ha
  clear ha
  unfold maxLen at hn
  go_enter Tryz.func53, Tryz.ntmps53
  go_wp2_with fail
  go_loopw [10] (fun i wr => ∃ j : Nat, j ≤ n ∧ i = .int .i64 j ∧ (∀ q z, q < j → zs[q]? = some z → z.1 ≠ s) ∧ Below w.heap.size w wr) (fun i _ => n - (intOf i).toNat)
  case atStart => exact ⟨0, Nat.zero_le _, rfl, (fun j z h => absurd h (Nat.not_lt_zero _)), (Below.refl _ _).alloc (Nat.le_refl _) _⟩
  case round =>
    obtain ⟨j, hj, rfl, hno, hbel⟩ := hrel
    have HNO := hid hno
    clear hno
    by_cases hlt : j < n
    · obtain ⟨g, o, rfl, hg, hca⟩ := HA.out.2 (by omega)
      have hx : zs[j]? = some (zs[j]'(by have := HA.out.1; omega)) := List.getElem?_eq_getElem _
      obtain ⟨ca, cb⟩ := hca j _ hx
      obtain ⟨⟨x, y⟩, ex⟩ : ∃ z, zs[j]'(by have := HA.out.1; omega) = z := ⟨_, rfl⟩
      rw [ex] at ca cb hx
      have HX := hid hx
      have ca' := cell_below ca hg hbel
      have cb' := cell_below cb hg hbel
      clear hca hx ex ca cb
      have i1 : (0 : Int) ≤ (j : Int) := by omega
      have i2 : (j : Int) < (n : Int) := by omega
      by_cases hxs : x = s
      · subst hxs
        have hkj : k = (j : Int) := by rw [← hk.out]; exact idxC_at HX.out rfl HNO.out
        go_wp2_with fail
        go_ret
        exact ⟨by first | rfl | (rw [hkj]; rfl), hbel.alloc hbel.size _⟩
      · have hne := ba_ne hxs
        go_wp2_with fail
        go_roundw
        case rel =>
          refine ⟨j + 1, hlt, by go_num, fun q z hq hz => ?_, hbel.alloc hbel.size _⟩
          by_cases e : q = j
          · subst e
            rw [HX.out] at hz
            injection hz with hz
            rw [← hz]
            exact hxs
          · exact HNO.out q z (by omega) hz
        case measure => simp [intOf]; omega
    · have hkj : k = -1 := by
        rw [← hk.out]
        refine idxC_no fun q y hq => HNO.out q y ?_ hq
        have h1 := (List.getElem?_eq_some_iff.1 hq).1
        have h2 := HA.out.1
        omega
      go_wp2_with fail
      go_ret
      exact ⟨by first | rfl | (rw [hkj]; rfl), hbel⟩

set_option maxHeartbeats 400000 in
theorem l1In_any (n lo hi : Int) (w : World) : Calls Tryz.prog 57 #[.int .i64 n, .int .i64 lo, .int .i64 hi] w fun e w' => e = .returned (.bool (decide (lo ≤ n) && decide (n ≤ hi))) ∧ w' = w := by
  by_cases h1 : lo ≤ n
  · by_cases h2 : n ≤ hi
    · go_enter Tryz.func57, Tryz.ntmps57
      go_wp2_with fail
      go_ret
      exact ⟨by rw [decide_eq_true h1, decide_eq_true h2]; rfl, rfl⟩
    · go_enter Tryz.func57, Tryz.ntmps57
      go_wp2_with fail
      go_ret
      exact ⟨by rw [decide_eq_false (show ¬ n ≤ hi by omega)]; rfl, rfl⟩
  · go_enter Tryz.func57, Tryz.ntmps57
    go_wp2_with fail
    go_ret
    exact ⟨by rw [decide_eq_false (show ¬ lo ≤ n by omega)]; rfl, rfl⟩

set_option maxHeartbeats 400000 in
theorem l3Capital_any (s : ByteArray) (w : World) : Calls Tryz.prog 51 #[.string s] w fun e w' => e = .returned (.bool (isNm s.data.toList)) ∧ w' = w := by
  by_cases h1 : s.size = 1
  · obtain ⟨c, hc, hx⟩ := one_list h1
    have h0 : 0 < s.size := by omega
    have hx0 := hx h0
    have e : isNm s.data.toList = (decide ((65 : Int) ≤ (c.toNat : Int)) && decide ((c.toNat : Int) ≤ 84)) := by
      rw [hc]
      show (decide (65 ≤ c.toNat) && decide (c.toNat ≤ 84)) = _
      congr 1 <;> rw [decide_eq_decide] <;> omega
    have e2 : wrap64 (c.toNat : Int) = (c.toNat : Int) := by
      have := c.toNat_lt
      unfold wrap64
      omega
    have HE := hid e
    clear e hx hc
    go_enter Tryz.func51, Tryz.ntmps51
    go_wp2_with fail
    refine (l1In_any _ _ _ _).mono ?_
    rintro e w' ⟨rfl, rfl⟩
    go_wp2_with fail
    go_ret
    exact ⟨by rw [HE.out]; rfl, rfl⟩
  · rw [isNm_size h1]
    have h2 : ((s.size : Int) == 1) = false := by simp; omega
    go_enter Tryz.func51, Tryz.ntmps51
    go_wp2_with fail
    go_ret
    exact ⟨rfl, rfl⟩

theorem findI_neg (l : List UInt8) (c : UInt8) : (findI l c < 0) ↔ l.contains c = false := by
  unfold findI
  rcases h : l.findIdx? (· == c) with _ | k
  · rw [List.findIdx?_eq_none_iff] at h
    refine ⟨fun _ => ?_, fun _ => by decide⟩
    refine Bool.eq_false_iff.2 fun e => ?_
    have := h c (List.contains_iff_mem.1 e)
    simp at this
  · rw [List.findIdx?_eq_some_iff_getElem] at h
    obtain ⟨hk, hc, _⟩ := h
    constructor
    · intro h
      have h' : (k : Int) < 0 := h
      omega
    · intro e
      have : l.contains c = true := List.contains_iff_mem.2 (by have h2 : l[k] = c := by simpa using hc
                                                                rw [← h2]; exact List.getElem_mem hk)
      rw [e] at this
      cases this

set_option maxHeartbeats 1000000 in
set_option maxRecDepth 100000 in
theorem l3Within_any (s t : ByteArray) (hs : s.size ≤ maxLen) (ht : t.size ≤ maxLen) (w : World) : Calls Tryz.prog 55 #[.string s, .string t] w fun e w' => e = .returned (.bool (inB s.data.toList t.data.toList)) ∧ w' = w := by
  have hl : s.data.toList.length = s.size := by simp
  have HL := hid hl
  clear hl
  unfold maxLen at hs
  go_enter Tryz.func55, Tryz.ntmps55
  go_wp2_with fail
  go_loopw [8] (fun i wr => ∃ k : Nat, k ≤ s.size ∧ i = .int .i64 k ∧ inB (s.data.toList.take k) t.data.toList = true ∧ wr = w) (fun i _ => s.size - (intOf i).toNat)
  case atStart => exact ⟨0, Nat.zero_le _, rfl, rfl, rfl⟩
  case round =>
    obtain ⟨k, hk, rfl, hin, rfl⟩ := hrel
    have HIN := hid hin
    clear hin
    by_cases hlt : k < s.size
    · have hc := byte_at hlt
      have HSN := hid (inB_snoc (t := t.data.toList) hc)
      obtain ⟨q, hq⟩ : ∃ q, findI t.data.toList s[k] = q := ⟨_, rfl⟩
      have hneg := findI_neg t.data.toList s[k]
      rw [hq] at hneg
      have HQ := hid hq
      have HNEG := hid hneg
      have i1 : (0 : Int) ≤ (k : Int) := by omega
      have i2 : (k : Int) < (s.size : Int) := by omega
      clear hc hq hneg
      by_cases hq0 : q < 0
      · have HF := hid (show inB s.data.toList t.data.toList = false from inB_take (k + 1) (by rw [HSN.out, HNEG.out.1 hq0, Bool.and_false]))
        go_wp2_with (first | (go_at_call 68; refine (l13Find_at t _ _ ht q HQ).mono ?_; rintro e w' ⟨rfl, rfl⟩) | fail)
        go_ret
        exact ⟨by rw [HF.out]; rfl, rfl⟩
      · have HT := hid (show inB (s.data.toList.take (k + 1)) t.data.toList = true by
          rw [HSN.out, HIN.out, Bool.true_and]
          rw [← Bool.not_eq_false]
          exact fun h => hq0 (HNEG.out.2 h))
        go_wp2_with (first | (go_at_call 68; refine (l13Find_at t _ _ ht q HQ).mono ?_; rintro e w' ⟨rfl, rfl⟩) | fail)
        go_roundw
        case rel => exact ⟨k + 1, hlt, by go_num, HT.out, by trivial⟩
        case measure => simp [intOf]; omega
    · have e : s.data.toList.take k = s.data.toList := List.take_of_length_le (by rw [HL.out]; omega)
      have HE := hid e
      clear e
      go_wp2_with fail
      go_ret
      have h := HIN.out
      rw [HE.out] at h
      exact ⟨by rw [h]; rfl, rfl⟩

end Go.Proofs.YtjpdiahbnhemoaaGreatDoor

namespace Go.Proofs.YtjpdiahbnhemoaaGreatDoor
open Go.RowKit

theorem Prs.take {w : World} {A : Option Addr} {n : Nat} {zs : List (ByteArray × ByteArray)} (h : Prs w A n zs) (k : Nat) (hk : k ≤ n) : Prs w A k (zs.take k) := by
  refine ⟨by rw [List.length_take, h.1]; omega, fun hk0 => ?_⟩
  obtain ⟨g, o, rfl, hg, hc⟩ := h.2 (by omega)
  refine ⟨g, o, rfl, hg, fun j z hj => hc j z ?_⟩
  rw [List.getElem?_take] at hj
  split at hj
  · exact hj
  · cases hj
theorem clsOf_false {zs : List (ByteArray × ByteArray)} {k : Nat} (h : clsGo [] (zs.take k) = false) : clsOf zs = false := by
  unfold clsOf
  rw [clsGo_take h, Bool.and_false]
theorem ext_one {u : ByteArray} {l : Nat} (h : l < u.size) : (u.extract l (l + 1)).data.toList = [u[l]] := by
  rw [ByteArray.data_extract, Array.toList_extract]
  have hl : l < u.data.toList.length := by simpa using h
  rw [List.extract_eq_take_drop, List.drop_eq_getElem_cons hl]
  simp
  rfl
theorem ascB_le1 {l : List UInt8} (h : l.length ≤ 1) : ascB l = true := by
  match l, h with
  | [], _ => rfl
  | [_], _ => rfl

set_option maxHeartbeats 8000000 in
set_option maxRecDepth 100000 in
theorem l3Classes_any (A : Option Addr) (n cap : Nat) (zs : List (ByteArray × ByteArray)) (w : World) (hcap : n ≤ cap) (hcm : cap ≤ maxLen) (ha : Prs w A n zs) (hz : ∀ z ∈ zs, z.2.size ≤ maxLen) :
    Calls Tryz.prog 38 #[.slice A n cap] w fun e w' => e = .returned (.bool (clsOf zs)) ∧ Below w.heap.size w w' := by
  have HA := hid ha
  have HZ := hid hz
  have HLEN := hid ha.1
  have HPT := hid (fun (k : Nat) (hk : k ≤ n) => ha.take k hk)
  clear ha hz
  have hn : n ≤ maxLen := Nat.le_trans hcap hcm
  unfold maxLen at hcm
  go_enter Tryz.func38, Tryz.ntmps38
  go_wp2_with fail
  go_loopw [8] (fun i wr => ∃ k : Nat, k ≤ n ∧ i = .int .i64 k ∧ clsGo [] (zs.take k) = true ∧ Below w.heap.size w wr) (fun i _ => n - (intOf i).toNat)
  case atStart => exact ⟨0, Nat.zero_le _, rfl, rfl, Below.refl _ _⟩
  case round =>
    obtain ⟨k, hk, rfl, hcl, hbel⟩ := hrel
    have HCL := hid hcl
    clear hcl
    by_cases hlt : k < n
    · obtain ⟨g, o, rfl, hg, hca⟩ := HA.out.2 (by omega)
      have hx : zs[k]? = some (zs[k]'(by have := HLEN.out; omega)) := List.getElem?_eq_getElem _
      obtain ⟨ca, cb⟩ := hca k _ hx
      have hu := HZ.out _ (List.mem_of_getElem? hx)
      obtain ⟨⟨x, u⟩, ex⟩ : ∃ z, zs[k]'(by have := HLEN.out; omega) = z := ⟨_, rfl⟩
      rw [ex] at ca cb hx hu
      have HX := hid hx
      have HSN := hid (clsGo_snoc hx)
      have ca' := cell_below ca hg hbel
      have cb' := cell_below cb hg hbel
      have HCA := hid hca
      clear hca hx ex ca cb
      have hgw : g < wr.heap.size := Nat.lt_of_lt_of_le hg hbel.size
      have i1 : (0 : Int) ≤ (k : Int) := by omega
      have i2 : (k : Int) < (n : Int) := by omega
      have i3 : (k : Int) ≤ (cap : Int) := by omega
      have HHC := hid (blk_cells2 (heap_new1 wr (.cells #[.string x, .string u] 47)))
      have HHG := hid (show ∀ (W : World), Below (wr.heap.size + 1) (wr.alloc (.cells #[.string x, .string u] 47)) W → Below wr.heap.size wr W from fun W h => ((Below.refl _ _).alloc (Nat.le_refl _) _).trans (h.mono (by omega)))
      -- what stands in the class, and the one before it
      have HQ : Hid (∃ q : ByteArray, ∀ j, k = j + 1 → (∃ z, zs[j]? = some z ∧ z.1 = q) ∧ wr.cell? ⟨g, o + j * 2, none⟩ = some (.string q)) := by
        refine hid ?_
        rcases k with _ | j
        · exact ⟨⟨#[]⟩, fun j h => by omega⟩
        · obtain ⟨z, hz⟩ : ∃ z, zs[j]? = some z := ⟨zs[j]'(by have := HLEN.out; omega), List.getElem?_eq_getElem _⟩
          exact ⟨z.1, fun i hi => by
            obtain rfl : i = j := by omega
            exact ⟨⟨z, hz, rfl⟩, cell_below (HCA.out i z hz).1 hg hbel⟩⟩
      obtain ⟨q, hq⟩ := HQ.out
      have HQQ := hid hq
      clear hq HQ
      obtain ⟨C, HC⟩ : ∃ C : World → Prop, Hid (∀ w', C w' ↔ Below (wr.heap.size + 1) (wr.alloc (.cells #[.string x, .string u] 47)) w') := ⟨_, hid fun _ => Iff.rfl⟩
      have HCC := hid (fun (W : World) (hW : C W) => show W.cell? ⟨wr.heap.size, 0, none⟩ = some (.string x) ∧ W.cell? ⟨wr.heap.size, 1, none⟩ = some (.string u) from by
        have h := (HC.out W).1 hW
        exact ⟨cell_below HHC.out.1 (by simp only [World.size_alloc]; omega) (by simpa only [World.size_alloc] using h), cell_below HHC.out.2 (by simp only [World.size_alloc]; omega) (by simpa only [World.size_alloc] using h)⟩)
      have HWR := hid (fun (W : World) (hW : C W) => HHG.out W ((HC.out W).1 hW))
      have HCB := hid (fun (W W' : World) (hW : C W) (hb : Below W.heap.size W W') => show C W' from (HC.out W').2 (((HC.out W).1 hW).trans (hb.mono (by have := ((HC.out W).1 hW).size; simpa only [World.size_alloc] using this))))
      have HC1 := hid ((HC.out (wr.alloc (.cells #[.string x, .string u] 47)).drew).2 (Below.refl _ _).drew)
      obtain ⟨n1, hn1⟩ : ∃ b, isNm x.data.toList = b := ⟨_, rfl⟩
      have HN1 := hid hn1
      have HCAP := hid (fun (W : World) => l3Capital_any x W)
      rw [hn1] at HCAP
      clear hn1
      rcases n1 with _ | _
      · have HNO := hid (show clsOf zs = false from clsOf_false (k := k + 1) (by rw [HSN.out, behind_def, HN1.out]; simp))
        go_wp2_with fail
        refine wp_region_loose (C := C) 18 (by kernel_rfl) (by kernel_rfl) HC1.out ?_
        simp only [List.take_succ_cons, List.take_zero]
        refine walk_by fun W hnil hval hcall hany hskip => ?_
        iterate 18 (first
          | (refine hskip _ _ _ _ (fun _ => by rfl) ?_
             simp only [Act.put, List.setIfInBounds_toArray, List.set_cons_zero, List.set_cons_succ])
          | (refine hval _ _ _ _ (fun _ => by rfl) ⟨_, fun q hq w' hw' => by
               obtain ⟨x0, x1⟩ := HCC.out w' hw'
               first | (go_simp; done) | (go_simp; rfl), ?_⟩
             simp only [Act.put, List.setIfInBounds_toArray, List.set_cons_zero, List.set_cons_succ])
          | (refine hcall _ _ _ _ (fun _ => by rfl) ⟨51, _, _, fun q hq w' hw' => ⟨by first | (go_simp; done) | (go_simp; rfl), (HCAP.out w').mono fun e w'' h => ⟨h.1, by rw [h.2]; exact hw'⟩⟩, ?_⟩
             simp only [Act.put, List.setIfInBounds_toArray, List.set_cons_zero, List.set_cons_succ]))
        refine hnil _ _ ?_
        intro q hq w' hw'
        simp only [List.drop_succ_cons, List.drop_zero]
        have hb' := HWR.out w' hw'
        clear hnil hval hcall hany hskip
        go_wp2_with fail
        go_ret
        exact ⟨by rw [HNO.out]; rfl, hbel.trans (hb'.mono hbel.size)⟩
      · obtain ⟨b, hb, hb2⟩ := isNm_one HN1.out
        have HBB := hid hb
        clear hb
        -- the order of the names
        obtain ⟨n2, hn2⟩ : ∃ c, ascB (nmsL (zs.take k) ++ x.data.toList) = c := ⟨_, rfl⟩
        have HN2 := hid hn2
        have hgr : (k = 0 ∧ n2 = true) ∨ ∃ j, k = j + 1 ∧ wr.cell? ⟨g, o + j * 2, none⟩ = some (.string q) ∧ Op.bytesLess q.toList x.toList = n2 := by
          rcases k with _ | j
          · refine .inl ⟨rfl, ?_⟩
            rw [← hn2, HBB.out]
            exact ascB_le1 (by simp [nmsL])
          · obtain ⟨⟨z, hz, hzq⟩, hcz⟩ := HQQ.out j rfl
            refine .inr ⟨j, rfl, hcz, ?_⟩
            have hzm : isNm z.1.data.toList = true := clsGo_names [] HCL.out z (by
              have : (zs.take (j + 1))[j]? = some z := by rw [List.getElem?_take, if_pos (by omega)]; exact hz
              exact List.mem_of_getElem? this)
            obtain ⟨a, hqa, _⟩ := isNm_one hzm
            have h := behind_model (z := (x, u)) HCL.out hz hqa HBB.out
            rw [← hn2, show (x, u).1 = x from rfl] at *
            rw [h, ByteArray.toList_eq, ByteArray.toList_eq, ← hzq, hqa, HBB.out, less_one]
        clear hn2
        rcases hgr with ⟨h0, hn2⟩ | ⟨j, hj, hcz, hless⟩
        · have HG := hid h0
          have hg0 : decide (0 < k) = false := decide_eq_false (by omega)
          clear h0
          subst hn2
          go_wp2_with fail
          refine wp_region_loose (C := C) 18 (by kernel_rfl) (by kernel_rfl) HC1.out ?_
          simp only [List.take_succ_cons, List.take_zero]
          refine walk_by fun W hnil hval hcall hany hskip => ?_
          iterate 18 (first
            | (refine hskip _ _ _ _ (fun _ => by rfl) ?_
               simp only [Act.put, List.setIfInBounds_toArray, List.set_cons_zero, List.set_cons_succ])
            | (refine hval _ _ _ _ (fun _ => by rfl) ⟨_, fun q hq w' hw' => by
                 obtain ⟨x0, x1⟩ := HCC.out w' hw'
                 try have x2 := HCZ.out w' hw'
                 first | (go_simp; done) | (go_simp; rfl), ?_⟩
               simp only [Act.put, List.setIfInBounds_toArray, List.set_cons_zero, List.set_cons_succ])
            | (refine hcall _ _ _ _ (fun _ => by rfl) ⟨51, _, _, fun q hq w' hw' => ⟨by first | (go_simp; done) | (go_simp; rfl), (HCAP.out w').mono fun e w'' h => ⟨h.1, by rw [h.2]; exact hw'⟩⟩, ?_⟩
               simp only [Act.put, List.setIfInBounds_toArray, List.set_cons_zero, List.set_cons_succ]))
          refine hnil _ _ ?_
          intro qv hqv w' hw'
          simp only [List.drop_succ_cons, List.drop_zero]
          clear hnil hval hcall hany hskip
          obtain ⟨x0, x1⟩ := HCC.out w' hw'
          go_wp2_with fail
          go_loopw [35] (fun i wr' => ∃ l : Nat, l ≤ u.size ∧ i = .int .i64 l ∧ ascB (u.data.toList.take l) = true ∧ inB (u.data.toList.take l) (nmsL (zs.take k)) = true ∧ C wr') (fun i _ => u.size - (intOf i).toNat)
          case atStart => exact ⟨0, Nat.zero_le _, rfl, rfl, rfl, hw'⟩
          case round =>
            obtain ⟨l, hl, rfl, has, hin, hcw⟩ := hrel
            have HAS := hid has
            have HIN := hid hin
            clear has hin x0 x1
            obtain ⟨x0, x1⟩ := HCC.out wr hcw
            have HCR := hid ((HC.out wr.drew).2 (((HC.out wr).1 hcw).drew))
            by_cases hll : l < u.size
            · have l1 : (0 : Int) ≤ (l : Int) := by omega
              have l2 : (l : Int) < (u.size : Int) := by omega
              have hus : u.size ≤ 2 ^ 63 - 1 := hu
              have hby := byte_at hll
              have HIS := hid (inB_snoc (t := nmsL (zs.take k)) hby)
              have hex : (u.extract l (l + 1)).data.toList = [u[l]] := ext_one hll
              have hnh := names_has (zs := zs.take k) (clsGo_names [] HCL.out) u[l] (u.extract l (l + 1)) hex
              obtain ⟨ix, hix⟩ : ∃ ix, idxC (zs.take k) (u.extract l (l + 1)) = ix := ⟨_, rfl⟩
              have HIX := hid hix
              have hneg := idxC_neg (zs.take k) (u.extract l (l + 1))
              rw [hix, ← hnh] at hneg
              obtain ⟨n3, hn3⟩ : ∃ c, (nmsL (zs.take k)).contains u[l] = c := ⟨_, rfl⟩
              rw [hn3] at hneg
              have HN3 := hid hn3
              have hixd : decide (ix < 0) = !n3 := by
                rcases n3 with _ | _
                · exact decide_eq_true (hneg.2 rfl)
                · exact decide_eq_false fun h => by cases hneg.1 h
              -- the order of the letters
              obtain ⟨n4, hn4⟩ : ∃ c, ascB (u.data.toList.take (l + 1)) = c := ⟨_, rfl⟩
              have HN4 := hid hn4
              have hord : (l = 0 ∧ n4 = true) ∨ ∃ j, ∃ (hj : j < u.size), l = j + 1 ∧ decide (u[l].toNat ≤ u[j].toNat) = !n4 := by
                rcases l with _ | j
                · exact .inl ⟨rfl, by rw [← hn4]; exact ascB_le1 (by rw [List.length_take]; omega)⟩
                · refine .inr ⟨j, by omega, rfl, ?_⟩
                  have h := ascB_step (byte_at (show j < u.size by omega)) hby
                  rw [HAS.out, Bool.true_and] at h
                  rw [← hn4, h]
                  rcases hd : decide (u[j] < u[j + 1]) with _ | _
                  · exact decide_eq_true (by have := of_decide_eq_false hd; rw [UInt8.lt_iff_toNat_lt] at this; omega)
                  · exact decide_eq_false (by have := of_decide_eq_true hd; rw [UInt8.lt_iff_toNat_lt] at this; omega)
              clear hex hnh hix hneg hn3 hn4 hby
              have l3 : (l : Int) + 1 ≤ (u.size : Int) := by omega
              have l4 : (0 : Int) ≤ (l : Int) + 1 := by omega
              have l5 : (l : Int) ≤ (l : Int) + 1 := by omega
              have HNO := hid (show (n3 && n4) = false → clsOf zs = false from fun h => by
                refine clsOf_false (k := k + 1) ?_
                rw [HSN.out, behind_def, show (x, u).2 = u from rfl]
                rcases n4 with _ | _
                · rw [ascB_take (l + 1) HN4.out]; simp
                · rcases n3 with _ | _
                  · rw [inB_take (l + 1) (show inB (u.data.toList.take (l + 1)) (nmsL (zs.take k)) = false by rw [HIS.out, HN3.out, Bool.and_false])]; simp
                  · cases h)
              have hsum : IntKind.i64.wrap ((l : Int) + 1) = (l : Int) + 1 := by rw [IntKind.wrap_i64]; omega
              have hton : ((l : Int) + 1).toNat = l + 1 := by omega
              rcases n3 with _ | _
              · go_wp2_with fail
                refine wp_region_loose (C := C) 27 (by kernel_rfl) (by kernel_rfl) HCR.out ?_
                simp only [List.take_succ_cons, List.take_zero]
                refine walk_by fun W hnil hval hcall hany hskip => ?_
                iterate 27 (first
                  | (refine hskip _ _ _ _ (fun _ => by rfl) ?_
                     simp only [Act.put, List.setIfInBounds_toArray, List.set_cons_zero, List.set_cons_succ])
                  | (refine hval _ _ _ _ (fun _ => by rfl) ⟨_, fun q hq w' hw' => by
                       obtain ⟨x0, x1⟩ := HCC.out w' hw'
                       first | (go_simp; done) | (go_simp; rfl), ?_⟩
                     simp only [Act.put, List.setIfInBounds_toArray, List.set_cons_zero, List.set_cons_succ])
                  | (refine hcall _ _ _ _ (fun _ => by rfl) ⟨53, _, _, fun q hq w' hw' => ⟨by first | (go_simp; done) | (go_simp; rfl), (l3Class_any _ none k cap 0 0 (zs.take k) (u.extract l (l + 1)) w' (Nat.le_trans hk hn) ((HPT.out k hk).below (hbel.trans ((HWR.out w' hw').mono hbel.size))) ix HIX).mono fun e w'' h => ⟨h.1, HCB.out _ _ hw' h.2⟩⟩, ?_⟩
                     simp only [Act.put, List.setIfInBounds_toArray, List.set_cons_zero, List.set_cons_succ]))
                refine hnil _ _ ?_
                intro qv hqv w' hw'
                simp only [List.drop_succ_cons, List.drop_zero]
                obtain ⟨x0, x1⟩ := HCC.out w' hw'
                have hb' := HWR.out w' hw'
                clear hnil hval hcall hany hskip hsum hton
                go_wp2_with fail
                go_ret
                exact ⟨by rw [HNO.out rfl]; rfl, hbel.trans (hb'.mono hbel.size)⟩
              · rcases hord with ⟨h0, h4⟩ | ⟨j, hj, hlj, hcmp⟩
                · have HL0 := hid h0
                  have hl0 : decide (0 < l) = false := decide_eq_false (by omega)
                  subst h4
                  clear h0
                  go_wp2_with fail
                  refine wp_region_loose (C := C) 27 (by kernel_rfl) (by kernel_rfl) HCR.out ?_
                  simp only [List.take_succ_cons, List.take_zero]
                  refine walk_by fun W hnil hval hcall hany hskip => ?_
                  iterate 27 (first
                    | (refine hskip _ _ _ _ (fun _ => by rfl) ?_
                       simp only [Act.put, List.setIfInBounds_toArray, List.set_cons_zero, List.set_cons_succ])
                    | (refine hval _ _ _ _ (fun _ => by rfl) ⟨_, fun q hq w' hw' => by
                         obtain ⟨x0, x1⟩ := HCC.out w' hw'
                         first | (go_simp; done) | (go_simp; rfl), ?_⟩
                       simp only [Act.put, List.setIfInBounds_toArray, List.set_cons_zero, List.set_cons_succ])
                    | (refine hcall _ _ _ _ (fun _ => by rfl) ⟨53, _, _, fun q hq w' hw' => ⟨by first | (go_simp; done) | (go_simp; rfl), (l3Class_any _ none k cap 0 0 (zs.take k) (u.extract l (l + 1)) w' (Nat.le_trans hk hn) ((HPT.out k hk).below (hbel.trans ((HWR.out w' hw').mono hbel.size))) ix HIX).mono fun e w'' h => ⟨h.1, HCB.out _ _ hw' h.2⟩⟩, ?_⟩
                       simp only [Act.put, List.setIfInBounds_toArray, List.set_cons_zero, List.set_cons_succ]))
                  refine hnil _ _ ?_
                  intro qv hqv w' hw'
                  simp only [List.drop_succ_cons, List.drop_zero]
                  clear hnil hval hcall hany hskip hsum hton
                  go_wp2_with fail
                  go_roundw
                  case rel => exact ⟨l + 1, hll, by go_num, HN4.out, by rw [HIS.out, HIN.out, HN3.out]; rfl, hw'⟩
                  case measure => simp [intOf]; omega
                · have hl0 : 0 < l := by omega
                  have hsub : IntKind.i64.wrap ((l : Int) - 1) = (j : Int) := by rw [IntKind.wrap_i64]; omega
                  have j1 : (0 : Int) ≤ (j : Int) := by omega
                  have j2 : (j : Int) < (u.size : Int) := by omega
                  have HJL := hid hlj
                  clear hlj
                  rcases n4 with _ | _
                  · go_wp2_with fail
                    refine wp_region_loose (C := C) 27 (by kernel_rfl) (by kernel_rfl) HCR.out ?_
                    simp only [List.take_succ_cons, List.take_zero]
                    refine walk_by fun W hnil hval hcall hany hskip => ?_
                    iterate 27 (first
                      | (refine hskip _ _ _ _ (fun _ => by rfl) ?_
                         simp only [Act.put, List.setIfInBounds_toArray, List.set_cons_zero, List.set_cons_succ])
                      | (refine hval _ _ _ _ (fun _ => by rfl) ⟨_, fun q hq w' hw' => by
                           obtain ⟨x0, x1⟩ := HCC.out w' hw'
                           first | (go_simp; done) | (go_simp; rfl), ?_⟩
                         simp only [Act.put, List.setIfInBounds_toArray, List.set_cons_zero, List.set_cons_succ])
                      | (refine hcall _ _ _ _ (fun _ => by rfl) ⟨53, _, _, fun q hq w' hw' => ⟨by first | (go_simp; done) | (go_simp; rfl), (l3Class_any _ none k cap 0 0 (zs.take k) (u.extract l (l + 1)) w' (Nat.le_trans hk hn) ((HPT.out k hk).below (hbel.trans ((HWR.out w' hw').mono hbel.size))) ix HIX).mono fun e w'' h => ⟨h.1, HCB.out _ _ hw' h.2⟩⟩, ?_⟩
                         simp only [Act.put, List.setIfInBounds_toArray, List.set_cons_zero, List.set_cons_succ]))
                    refine hnil _ _ ?_
                    intro qv hqv w' hw'
                    simp only [List.drop_succ_cons, List.drop_zero]
                    obtain ⟨x0, x1⟩ := HCC.out w' hw'
                    have hb' := HWR.out w' hw'
                    clear hnil hval hcall hany hskip hsum hton hsub
                    go_wp2_with fail
                    go_ret
                    exact ⟨by rw [HNO.out rfl]; rfl, hbel.trans (hb'.mono hbel.size)⟩
                  · go_wp2_with fail
                    refine wp_region_loose (C := C) 27 (by kernel_rfl) (by kernel_rfl) HCR.out ?_
                    simp only [List.take_succ_cons, List.take_zero]
                    refine walk_by fun W hnil hval hcall hany hskip => ?_
                    iterate 27 (first
                      | (refine hskip _ _ _ _ (fun _ => by rfl) ?_
                         simp only [Act.put, List.setIfInBounds_toArray, List.set_cons_zero, List.set_cons_succ])
                      | (refine hval _ _ _ _ (fun _ => by rfl) ⟨_, fun q hq w' hw' => by
                           obtain ⟨x0, x1⟩ := HCC.out w' hw'
                           first | (go_simp; done) | (go_simp; rfl), ?_⟩
                         simp only [Act.put, List.setIfInBounds_toArray, List.set_cons_zero, List.set_cons_succ])
                      | (refine hcall _ _ _ _ (fun _ => by rfl) ⟨53, _, _, fun q hq w' hw' => ⟨by first | (go_simp; done) | (go_simp; rfl), (l3Class_any _ none k cap 0 0 (zs.take k) (u.extract l (l + 1)) w' (Nat.le_trans hk hn) ((HPT.out k hk).below (hbel.trans ((HWR.out w' hw').mono hbel.size))) ix HIX).mono fun e w'' h => ⟨h.1, HCB.out _ _ hw' h.2⟩⟩, ?_⟩
                         simp only [Act.put, List.setIfInBounds_toArray, List.set_cons_zero, List.set_cons_succ]))
                    refine hnil _ _ ?_
                    intro qv hqv w' hw'
                    simp only [List.drop_succ_cons, List.drop_zero]
                    clear hnil hval hcall hany hskip hsum hton hsub
                    go_wp2_with fail
                    go_roundw
                    case rel => exact ⟨l + 1, hll, by go_num, HN4.out, by rw [HIS.out, HIN.out, HN3.out]; rfl, hw'⟩
                    case measure => simp [intOf]; omega
            · have HU := hid (show behind (nmsL (zs.take k)) (x, u) = true by
                have h1 := HAS.out
                have h2 := HIN.out
                have hul : u.data.toList.length = u.size := by simp
                rw [List.take_of_length_le (by omega)] at h1 h2
                rw [behind_def, show (x, u).1 = x from rfl, show (x, u).2 = u from rfl, HN1.out, HN2.out, h1, h2]
                rfl)
              have hb' := HWR.out wr hcw
              go_wp2_with fail
              go_roundw
              case rel => exact ⟨k + 1, hlt, by go_num, by rw [HSN.out, HCL.out, HU.out]; rfl, hbel.trans (hb'.mono hbel.size)⟩
              case measure => simp [intOf]; omega
        · have HJ := hid hj
          have hg0 : 0 < k := by omega
          have hsub : IntKind.i64.wrap ((k : Int) - 1) = (j : Int) := by rw [IntKind.wrap_i64]; omega
          have j1 : (0 : Int) ≤ (j : Int) := by omega
          have j2 : (j : Int) < (n : Int) := by omega
          have HCZ := hid (fun (W : World) (hW : C W) => cell_below hcz hgw (HWR.out W hW))
          clear hj hcz
          rcases n2 with _ | _
          · have HNO := hid (show clsOf zs = false from clsOf_false (k := k + 1) (by rw [HSN.out, behind_def, show (x, u).1 = x from rfl, HN2.out]; simp))
            go_wp2_with fail
            refine wp_region_loose (C := C) 18 (by kernel_rfl) (by kernel_rfl) HC1.out ?_
            simp only [List.take_succ_cons, List.take_zero]
            refine walk_by fun W hnil hval hcall hany hskip => ?_
            iterate 18 (first
              | (refine hskip _ _ _ _ (fun _ => by rfl) ?_
                 simp only [Act.put, List.setIfInBounds_toArray, List.set_cons_zero, List.set_cons_succ])
              | (refine hval _ _ _ _ (fun _ => by rfl) ⟨_, fun q hq w' hw' => by
                   obtain ⟨x0, x1⟩ := HCC.out w' hw'
                   try have x2 := HCZ.out w' hw'
                   first | (go_simp; done) | (go_simp; rfl), ?_⟩
                 simp only [Act.put, List.setIfInBounds_toArray, List.set_cons_zero, List.set_cons_succ])
              | (refine hcall _ _ _ _ (fun _ => by rfl) ⟨51, _, _, fun q hq w' hw' => ⟨by first | (go_simp; done) | (go_simp; rfl), (HCAP.out w').mono fun e w'' h => ⟨h.1, by rw [h.2]; exact hw'⟩⟩, ?_⟩
                 simp only [Act.put, List.setIfInBounds_toArray, List.set_cons_zero, List.set_cons_succ]))
            refine hnil _ _ ?_
            intro qv hqv w' hw'
            simp only [List.drop_succ_cons, List.drop_zero]
            obtain ⟨x0, x1⟩ := HCC.out w' hw'
            have hb' := HWR.out w' hw'
            clear hnil hval hcall hany hskip
            go_wp2_with fail
            go_ret
            exact ⟨by rw [HNO.out]; rfl, hbel.trans (hb'.mono hbel.size)⟩
          · go_wp2_with fail
            refine wp_region_loose (C := C) 18 (by kernel_rfl) (by kernel_rfl) HC1.out ?_
            simp only [List.take_succ_cons, List.take_zero]
            refine walk_by fun W hnil hval hcall hany hskip => ?_
            iterate 18 (first
              | (refine hskip _ _ _ _ (fun _ => by rfl) ?_
                 simp only [Act.put, List.setIfInBounds_toArray, List.set_cons_zero, List.set_cons_succ])
              | (refine hval _ _ _ _ (fun _ => by rfl) ⟨_, fun q hq w' hw' => by
                   obtain ⟨x0, x1⟩ := HCC.out w' hw'
                   try have x2 := HCZ.out w' hw'
                   first | (go_simp; done) | (go_simp; rfl), ?_⟩
                 simp only [Act.put, List.setIfInBounds_toArray, List.set_cons_zero, List.set_cons_succ])
              | (refine hcall _ _ _ _ (fun _ => by rfl) ⟨51, _, _, fun q hq w' hw' => ⟨by first | (go_simp; done) | (go_simp; rfl), (HCAP.out w').mono fun e w'' h => ⟨h.1, by rw [h.2]; exact hw'⟩⟩, ?_⟩
                 simp only [Act.put, List.setIfInBounds_toArray, List.set_cons_zero, List.set_cons_succ]))
            refine hnil _ _ ?_
            intro qv hqv w' hw'
            simp only [List.drop_succ_cons, List.drop_zero]
            clear hnil hval hcall hany hskip
            obtain ⟨x0, x1⟩ := HCC.out w' hw'
            go_wp2_with fail
            go_loopw [35] (fun i wr' => ∃ l : Nat, l ≤ u.size ∧ i = .int .i64 l ∧ ascB (u.data.toList.take l) = true ∧ inB (u.data.toList.take l) (nmsL (zs.take k)) = true ∧ C wr') (fun i _ => u.size - (intOf i).toNat)
            case atStart => exact ⟨0, Nat.zero_le _, rfl, rfl, rfl, hw'⟩
            case round =>
              obtain ⟨l, hl, rfl, has, hin, hcw⟩ := hrel
              have HAS := hid has
              have HIN := hid hin
              clear has hin x0 x1
              obtain ⟨x0, x1⟩ := HCC.out wr hcw
              have HCR := hid ((HC.out wr.drew).2 (((HC.out wr).1 hcw).drew))
              by_cases hll : l < u.size
              · have l1 : (0 : Int) ≤ (l : Int) := by omega
                have l2 : (l : Int) < (u.size : Int) := by omega
                have hus : u.size ≤ 2 ^ 63 - 1 := hu
                have hby := byte_at hll
                have HIS := hid (inB_snoc (t := nmsL (zs.take k)) hby)
                have hex : (u.extract l (l + 1)).data.toList = [u[l]] := ext_one hll
                have hnh := names_has (zs := zs.take k) (clsGo_names [] HCL.out) u[l] (u.extract l (l + 1)) hex
                obtain ⟨ix, hix⟩ : ∃ ix, idxC (zs.take k) (u.extract l (l + 1)) = ix := ⟨_, rfl⟩
                have HIX := hid hix
                have hneg := idxC_neg (zs.take k) (u.extract l (l + 1))
                rw [hix, ← hnh] at hneg
                obtain ⟨n3, hn3⟩ : ∃ c, (nmsL (zs.take k)).contains u[l] = c := ⟨_, rfl⟩
                rw [hn3] at hneg
                have HN3 := hid hn3
                have hixd : decide (ix < 0) = !n3 := by
                  rcases n3 with _ | _
                  · exact decide_eq_true (hneg.2 rfl)
                  · exact decide_eq_false fun h => by cases hneg.1 h
                -- the order of the letters
                obtain ⟨n4, hn4⟩ : ∃ c, ascB (u.data.toList.take (l + 1)) = c := ⟨_, rfl⟩
                have HN4 := hid hn4
                have hord : (l = 0 ∧ n4 = true) ∨ ∃ j, ∃ (hj : j < u.size), l = j + 1 ∧ decide (u[l].toNat ≤ u[j].toNat) = !n4 := by
                  rcases l with _ | j
                  · exact .inl ⟨rfl, by rw [← hn4]; exact ascB_le1 (by rw [List.length_take]; omega)⟩
                  · refine .inr ⟨j, by omega, rfl, ?_⟩
                    have h := ascB_step (byte_at (show j < u.size by omega)) hby
                    rw [HAS.out, Bool.true_and] at h
                    rw [← hn4, h]
                    rcases hd : decide (u[j] < u[j + 1]) with _ | _
                    · exact decide_eq_true (by have := of_decide_eq_false hd; rw [UInt8.lt_iff_toNat_lt] at this; omega)
                    · exact decide_eq_false (by have := of_decide_eq_true hd; rw [UInt8.lt_iff_toNat_lt] at this; omega)
                clear hex hnh hix hneg hn3 hn4 hby
                have l3 : (l : Int) + 1 ≤ (u.size : Int) := by omega
                have l4 : (0 : Int) ≤ (l : Int) + 1 := by omega
                have l5 : (l : Int) ≤ (l : Int) + 1 := by omega
                have HNO := hid (show (n3 && n4) = false → clsOf zs = false from fun h => by
                  refine clsOf_false (k := k + 1) ?_
                  rw [HSN.out, behind_def, show (x, u).2 = u from rfl]
                  rcases n4 with _ | _
                  · rw [ascB_take (l + 1) HN4.out]; simp
                  · rcases n3 with _ | _
                    · rw [inB_take (l + 1) (show inB (u.data.toList.take (l + 1)) (nmsL (zs.take k)) = false by rw [HIS.out, HN3.out, Bool.and_false])]; simp
                    · cases h)
                have hsum : IntKind.i64.wrap ((l : Int) + 1) = (l : Int) + 1 := by rw [IntKind.wrap_i64]; omega
                have hton : ((l : Int) + 1).toNat = l + 1 := by omega
                rcases n3 with _ | _
                · go_wp2_with fail
                  refine wp_region_loose (C := C) 27 (by kernel_rfl) (by kernel_rfl) HCR.out ?_
                  simp only [List.take_succ_cons, List.take_zero]
                  refine walk_by fun W hnil hval hcall hany hskip => ?_
                  iterate 27 (first
                    | (refine hskip _ _ _ _ (fun _ => by rfl) ?_
                       simp only [Act.put, List.setIfInBounds_toArray, List.set_cons_zero, List.set_cons_succ])
                    | (refine hval _ _ _ _ (fun _ => by rfl) ⟨_, fun q hq w' hw' => by
                         obtain ⟨x0, x1⟩ := HCC.out w' hw'
                         first | (go_simp; done) | (go_simp; rfl), ?_⟩
                       simp only [Act.put, List.setIfInBounds_toArray, List.set_cons_zero, List.set_cons_succ])
                    | (refine hcall _ _ _ _ (fun _ => by rfl) ⟨53, _, _, fun q hq w' hw' => ⟨by first | (go_simp; done) | (go_simp; rfl), (l3Class_any _ none k cap 0 0 (zs.take k) (u.extract l (l + 1)) w' (Nat.le_trans hk hn) ((HPT.out k hk).below (hbel.trans ((HWR.out w' hw').mono hbel.size))) ix HIX).mono fun e w'' h => ⟨h.1, HCB.out _ _ hw' h.2⟩⟩, ?_⟩
                       simp only [Act.put, List.setIfInBounds_toArray, List.set_cons_zero, List.set_cons_succ]))
                  refine hnil _ _ ?_
                  intro qv hqv w' hw'
                  simp only [List.drop_succ_cons, List.drop_zero]
                  obtain ⟨x0, x1⟩ := HCC.out w' hw'
                  have hb' := HWR.out w' hw'
                  clear hnil hval hcall hany hskip hsum hton
                  go_wp2_with fail
                  go_ret
                  exact ⟨by rw [HNO.out rfl]; rfl, hbel.trans (hb'.mono hbel.size)⟩
                · rcases hord with ⟨h0, h4⟩ | ⟨j, hj, hlj, hcmp⟩
                  · have HL0 := hid h0
                    have hl0 : decide (0 < l) = false := decide_eq_false (by omega)
                    subst h4
                    clear h0
                    go_wp2_with fail
                    refine wp_region_loose (C := C) 27 (by kernel_rfl) (by kernel_rfl) HCR.out ?_
                    simp only [List.take_succ_cons, List.take_zero]
                    refine walk_by fun W hnil hval hcall hany hskip => ?_
                    iterate 27 (first
                      | (refine hskip _ _ _ _ (fun _ => by rfl) ?_
                         simp only [Act.put, List.setIfInBounds_toArray, List.set_cons_zero, List.set_cons_succ])
                      | (refine hval _ _ _ _ (fun _ => by rfl) ⟨_, fun q hq w' hw' => by
                           obtain ⟨x0, x1⟩ := HCC.out w' hw'
                           first | (go_simp; done) | (go_simp; rfl), ?_⟩
                         simp only [Act.put, List.setIfInBounds_toArray, List.set_cons_zero, List.set_cons_succ])
                      | (refine hcall _ _ _ _ (fun _ => by rfl) ⟨53, _, _, fun q hq w' hw' => ⟨by first | (go_simp; done) | (go_simp; rfl), (l3Class_any _ none k cap 0 0 (zs.take k) (u.extract l (l + 1)) w' (Nat.le_trans hk hn) ((HPT.out k hk).below (hbel.trans ((HWR.out w' hw').mono hbel.size))) ix HIX).mono fun e w'' h => ⟨h.1, HCB.out _ _ hw' h.2⟩⟩, ?_⟩
                         simp only [Act.put, List.setIfInBounds_toArray, List.set_cons_zero, List.set_cons_succ]))
                    refine hnil _ _ ?_
                    intro qv hqv w' hw'
                    simp only [List.drop_succ_cons, List.drop_zero]
                    clear hnil hval hcall hany hskip hsum hton
                    go_wp2_with fail
                    go_roundw
                    case rel => exact ⟨l + 1, hll, by go_num, HN4.out, by rw [HIS.out, HIN.out, HN3.out]; rfl, hw'⟩
                    case measure => simp [intOf]; omega
                  · have hl0 : 0 < l := by omega
                    have hsub : IntKind.i64.wrap ((l : Int) - 1) = (j : Int) := by rw [IntKind.wrap_i64]; omega
                    have j1 : (0 : Int) ≤ (j : Int) := by omega
                    have j2 : (j : Int) < (u.size : Int) := by omega
                    have HJL := hid hlj
                    clear hlj
                    rcases n4 with _ | _
                    · go_wp2_with fail
                      refine wp_region_loose (C := C) 27 (by kernel_rfl) (by kernel_rfl) HCR.out ?_
                      simp only [List.take_succ_cons, List.take_zero]
                      refine walk_by fun W hnil hval hcall hany hskip => ?_
                      iterate 27 (first
                        | (refine hskip _ _ _ _ (fun _ => by rfl) ?_
                           simp only [Act.put, List.setIfInBounds_toArray, List.set_cons_zero, List.set_cons_succ])
                        | (refine hval _ _ _ _ (fun _ => by rfl) ⟨_, fun q hq w' hw' => by
                             obtain ⟨x0, x1⟩ := HCC.out w' hw'
                             first | (go_simp; done) | (go_simp; rfl), ?_⟩
                           simp only [Act.put, List.setIfInBounds_toArray, List.set_cons_zero, List.set_cons_succ])
                        | (refine hcall _ _ _ _ (fun _ => by rfl) ⟨53, _, _, fun q hq w' hw' => ⟨by first | (go_simp; done) | (go_simp; rfl), (l3Class_any _ none k cap 0 0 (zs.take k) (u.extract l (l + 1)) w' (Nat.le_trans hk hn) ((HPT.out k hk).below (hbel.trans ((HWR.out w' hw').mono hbel.size))) ix HIX).mono fun e w'' h => ⟨h.1, HCB.out _ _ hw' h.2⟩⟩, ?_⟩
                           simp only [Act.put, List.setIfInBounds_toArray, List.set_cons_zero, List.set_cons_succ]))
                      refine hnil _ _ ?_
                      intro qv hqv w' hw'
                      simp only [List.drop_succ_cons, List.drop_zero]
                      obtain ⟨x0, x1⟩ := HCC.out w' hw'
                      have hb' := HWR.out w' hw'
                      clear hnil hval hcall hany hskip hsum hton hsub
                      go_wp2_with fail
                      go_ret
                      exact ⟨by rw [HNO.out rfl]; rfl, hbel.trans (hb'.mono hbel.size)⟩
                    · go_wp2_with fail
                      refine wp_region_loose (C := C) 27 (by kernel_rfl) (by kernel_rfl) HCR.out ?_
                      simp only [List.take_succ_cons, List.take_zero]
                      refine walk_by fun W hnil hval hcall hany hskip => ?_
                      iterate 27 (first
                        | (refine hskip _ _ _ _ (fun _ => by rfl) ?_
                           simp only [Act.put, List.setIfInBounds_toArray, List.set_cons_zero, List.set_cons_succ])
                        | (refine hval _ _ _ _ (fun _ => by rfl) ⟨_, fun q hq w' hw' => by
                             obtain ⟨x0, x1⟩ := HCC.out w' hw'
                             first | (go_simp; done) | (go_simp; rfl), ?_⟩
                           simp only [Act.put, List.setIfInBounds_toArray, List.set_cons_zero, List.set_cons_succ])
                        | (refine hcall _ _ _ _ (fun _ => by rfl) ⟨53, _, _, fun q hq w' hw' => ⟨by first | (go_simp; done) | (go_simp; rfl), (l3Class_any _ none k cap 0 0 (zs.take k) (u.extract l (l + 1)) w' (Nat.le_trans hk hn) ((HPT.out k hk).below (hbel.trans ((HWR.out w' hw').mono hbel.size))) ix HIX).mono fun e w'' h => ⟨h.1, HCB.out _ _ hw' h.2⟩⟩, ?_⟩
                           simp only [Act.put, List.setIfInBounds_toArray, List.set_cons_zero, List.set_cons_succ]))
                      refine hnil _ _ ?_
                      intro qv hqv w' hw'
                      simp only [List.drop_succ_cons, List.drop_zero]
                      clear hnil hval hcall hany hskip hsum hton hsub
                      go_wp2_with fail
                      go_roundw
                      case rel => exact ⟨l + 1, hll, by go_num, HN4.out, by rw [HIS.out, HIN.out, HN3.out]; rfl, hw'⟩
                      case measure => simp [intOf]; omega
              · have HU := hid (show behind (nmsL (zs.take k)) (x, u) = true by
                  have h1 := HAS.out
                  have h2 := HIN.out
                  have hul : u.data.toList.length = u.size := by simp
                  rw [List.take_of_length_le (by omega)] at h1 h2
                  rw [behind_def, show (x, u).1 = x from rfl, show (x, u).2 = u from rfl, HN1.out, HN2.out, h1, h2]
                  rfl)
                have hb' := HWR.out wr hcw
                go_wp2_with fail
                go_roundw
                case rel => exact ⟨k + 1, hlt, by go_num, by rw [HSN.out, HCL.out, HU.out]; rfl, hbel.trans (hb'.mono hbel.size)⟩
                case measure => simp [intOf]; omega
    · have HALL := hid (show clsGo [] zs = true by
        have h := HCL.out
        rwa [List.take_of_length_le (by have := HLEN.out; omega)] at h)
      have HOF := hid (show clsOf zs = (decide (1 ≤ n) && decide (n ≤ 4)) by unfold clsOf; rw [HALL.out, HLEN.out, Bool.and_true])
      go_wp2_with fail
      refine (l1In_any _ _ _ _).mono ?_
      rintro e w' ⟨rfl, rfl⟩
      go_wp2_with fail
      go_ret
      refine ⟨?_, hbel⟩
      rw [HOF.out, show decide (1 ≤ n) = decide ((1 : Int) ≤ (n : Int)) by rw [decide_eq_decide]; omega, show decide (n ≤ 4) = decide ((n : Int) ≤ 4) by rw [decide_eq_decide]; omega]
      rfl

end Go.Proofs.YtjpdiahbnhemoaaGreatDoor
