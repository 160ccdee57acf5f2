/- Valid worlds in the model: l3Class, l3Capital, l3Classes, l3Within. -/
import Derived.Test.YtmpmalcjfckemaaDoorWdW
import Derived.Test.YtmpmalcjfckemaaDoorSpecT
import Derived.Test.YtmpmalcjfckemaaDoorErr
import Derived.OwnWalk
namespace Go.Proofs.YtmpmalcjfckemaaDoor
open Go.RowKit

/-- Which class has a name. -/
def idxC (zs : List (ByteArray × ByteArray)) (s : ByteArray) : Int := if hasNm zs s = true then ((zs.findIdx fun z => z.1.toList == s.toList : Nat) : Int) else -1
theorem idxC_neg (zs : List (ByteArray × ByteArray)) (s : ByteArray) : (idxC zs s < 0) ↔ hasNm zs s = false := by
  unfold idxC
  split
  · rename_i h
    rw [h]
    constructor
    · intro h; omega
    · intro h; cases h
  · rename_i h
    simp only [Bool.not_eq_true] at h
    rw [h]
    simp
theorem idxC_at {zs : List (ByteArray × ByteArray)} {s : ByteArray} {k : Nat} {z : ByteArray × ByteArray} (h : zs[k]? = some z) (he : z.1 = s) (hno : ∀ (j : Nat) y, j < k → zs[j]? = some y → y.1 ≠ s) : idxC zs s = (k : Int) := by
  have hm : hasNm zs s = true := List.any_eq_true.2 ⟨z, List.mem_of_getElem? h, by rw [he]; simp⟩
  unfold idxC
  rw [if_pos hm]
  obtain ⟨hk, e⟩ := List.getElem?_eq_some_iff.1 h
  have : (zs.findIdx fun z => z.1.toList == s.toList) = k := by
    rw [List.findIdx_eq hk]
    refine ⟨by rw [e, he]; simp, fun j hj => ?_⟩
    exact ba_ne (hno j (zs[j]) hj (List.getElem?_eq_getElem _))
  rw [this]
theorem idxC_no {zs : List (ByteArray × ByteArray)} {s : ByteArray} (hno : ∀ (j : Nat) y, zs[j]? = some y → y.1 ≠ s) : idxC zs s = -1 := by
  unfold idxC
  rw [if_neg]
  intro h
  obtain ⟨z, hz, e⟩ := List.any_eq_true.1 h
  obtain ⟨j, hj, rfl⟩ := List.getElem_of_mem hz
  rw [ba_ne (hno j _ (List.getElem?_eq_getElem hj))] at e
  cases e
set_option maxHeartbeats 1000000 in
set_option maxRecDepth 100000 in
theorem l3Class_any (A B : Option Addr) (n cap m cap' : Nat) (zs : List (ByteArray × ByteArray)) (s : ByteArray) (w : World) (hn : n ≤ maxLen) (ha : Prs w A n zs) (k : Int) (hk : Hid (idxC zs s = k)) :
    Calls Tryd.prog 36 #[.agg #[.slice A n cap, .slice B m cap'], .string s] w fun e w' => e = .returned (.int .i64 k) ∧ Below w.heap.size w w' := by
  have HA := hid ha
  clear ha
  unfold maxLen at hn
  go_enter Tryd.func36, Tryd.ntmps36
  go_wp2_with fail
  go_loopw [10] (fun i wr => ∃ j : Nat, j ≤ n ∧ i = .int .i64 j ∧ (∀ q z, q < j → zs[q]? = some z → z.1 ≠ s) ∧ Below w.heap.size w wr) (fun i _ => n - (intOf i).toNat)
  case atStart => exact ⟨0, Nat.zero_le _, rfl, (fun j z h => absurd h (Nat.not_lt_zero _)), (Below.refl _ _).alloc (Nat.le_refl _) _⟩
  case round =>
    obtain ⟨j, hj, rfl, hno, hbel⟩ := hrel
    have HNO := hid hno
    clear hno
    by_cases hlt : j < n
    · obtain ⟨g, o, rfl, hg, hca⟩ := HA.out.2 (by omega)
      have hx : zs[j]? = some (zs[j]'(by have := HA.out.1; omega)) := List.getElem?_eq_getElem _
      obtain ⟨ca, cb⟩ := hca j _ hx
      obtain ⟨⟨x, y⟩, ex⟩ : ∃ z, zs[j]'(by have := HA.out.1; omega) = z := ⟨_, rfl⟩
      rw [ex] at ca cb hx
      have HX := hid hx
      have ca' := cell_below ca hg hbel
      have cb' := cell_below cb hg hbel
      clear hca hx ex ca cb
      have i1 : (0 : Int) ≤ (j : Int) := by omega
      have i2 : (j : Int) < (n : Int) := by omega
      by_cases hxs : x = s
      · subst hxs
        have hkj : k = (j : Int) := by rw [← hk.out]; exact idxC_at HX.out rfl HNO.out
        go_wp2_with fail
        go_ret
        exact ⟨by first | rfl | (rw [hkj]; rfl), hbel.alloc hbel.size _⟩
      · have hne := ba_ne hxs
        go_wp2_with fail
        go_roundw
        case rel =>
          refine ⟨j + 1, hlt, by go_num, fun q z hq hz => ?_, hbel.alloc hbel.size _⟩
          by_cases e : q = j
          · subst e
            rw [HX.out] at hz
            injection hz with hz
            rw [← hz]
            exact hxs
          · exact HNO.out q z (by omega) hz
        case measure => simp [intOf]; omega
    · have hkj : k = -1 := by
        rw [← hk.out]
        refine idxC_no fun q y hq => HNO.out q y ?_ hq
        have h1 := (List.getElem?_eq_some_iff.1 hq).1
        have h2 := HA.out.1
        omega
      go_wp2_with fail
      go_ret
      exact ⟨by first | rfl | (rw [hkj]; rfl), hbel⟩

set_option maxHeartbeats 400000 in
theorem l1In_any (n lo hi : Int) (w : World) : Calls Tryd.prog 52 #[.int .i64 n, .int .i64 lo, .int .i64 hi] w fun e w' => e = .returned (.bool (decide (lo ≤ n) && decide (n ≤ hi))) ∧ w' = w := by
  by_cases h1 : lo ≤ n
  · by_cases h2 : n ≤ hi
    · go_enter Tryd.func52, Tryd.ntmps52
      go_wp2_with fail
      go_ret
      exact ⟨by rw [decide_eq_true h1, decide_eq_true h2]; rfl, rfl⟩
    · go_enter Tryd.func52, Tryd.ntmps52
      go_wp2_with fail
      go_ret
      exact ⟨by rw [decide_eq_false (show ¬ n ≤ hi by omega)]; rfl, rfl⟩
  · go_enter Tryd.func52, Tryd.ntmps52
    go_wp2_with fail
    go_ret
    exact ⟨by rw [decide_eq_false (show ¬ lo ≤ n by omega)]; rfl, rfl⟩

set_option maxHeartbeats 400000 in
theorem l3Capital_any (s : ByteArray) (w : World) : Calls Tryd.prog 51 #[.string s] w fun e w' => e = .returned (.bool (isNm s.data.toList)) ∧ w' = w := by
  by_cases h1 : s.size = 1
  · obtain ⟨c, hc, hx⟩ := one_list h1
    have h0 : 0 < s.size := by omega
    have hx0 := hx h0
    have e : isNm s.data.toList = (decide ((65 : Int) ≤ (c.toNat : Int)) && decide ((c.toNat : Int) ≤ 84)) := by
      rw [hc]
      show (decide (65 ≤ c.toNat) && decide (c.toNat ≤ 84)) = _
      congr 1 <;> rw [decide_eq_decide] <;> omega
    have e2 : wrap64 (c.toNat : Int) = (c.toNat : Int) := by
      have := c.toNat_lt
      unfold wrap64
      omega
    have HE := hid e
    clear e hx hc
    go_enter Tryd.func51, Tryd.ntmps51
    go_wp2_with fail
    refine (l1In_any _ _ _ _).mono ?_
    rintro e w' ⟨rfl, rfl⟩
    go_wp2_with fail
    go_ret
    exact ⟨by rw [HE.out]; rfl, rfl⟩
  · rw [isNm_size h1]
    have h2 : ((s.size : Int) == 1) = false := by simp; omega
    go_enter Tryd.func51, Tryd.ntmps51
    go_wp2_with fail
    go_ret
    exact ⟨rfl, rfl⟩

theorem findI_neg (l : List UInt8) (c : UInt8) : (findI l c < 0) ↔ l.contains c = false := by
  unfold findI
  rcases h : l.findIdx? (· == c) with _ | k
  · rw [List.findIdx?_eq_none_iff] at h
    refine ⟨fun _ => ?_, fun _ => by decide⟩
    refine Bool.eq_false_iff.2 fun e => ?_
    have := h c (List.contains_iff_mem.1 e)
    simp at this
  · rw [List.findIdx?_eq_some_iff_getElem] at h
    obtain ⟨hk, hc, _⟩ := h
    constructor
    · intro h
      have h' : (k : Int) < 0 := h
      omega
    · intro e
      have : l.contains c = true := List.contains_iff_mem.2 (by have h2 : l[k] = c := by simpa using hc
                                                                rw [← h2]; exact List.getElem_mem hk)
      rw [e] at this
      cases this

set_option maxHeartbeats 1000000 in
set_option maxRecDepth 100000 in
theorem l3Within_any (s t : ByteArray) (hs : s.size ≤ maxLen) (ht : t.size ≤ maxLen) (w : World) : Calls Tryd.prog 49 #[.string s, .string t] w fun e w' => e = .returned (.bool (inB s.data.toList t.data.toList)) ∧ w' = w := by
  have hl : s.data.toList.length = s.size := by simp
  have HL := hid hl
  clear hl
  unfold maxLen at hs
  go_enter Tryd.func49, Tryd.ntmps49
  go_wp2_with fail
  go_loopw [8] (fun i wr => ∃ k : Nat, k ≤ s.size ∧ i = .int .i64 k ∧ inB (s.data.toList.take k) t.data.toList = true ∧ wr = w) (fun i _ => s.size - (intOf i).toNat)
  case atStart => exact ⟨0, Nat.zero_le _, rfl, rfl, rfl⟩
  case round =>
    obtain ⟨k, hk, rfl, hin, rfl⟩ := hrel
    have HIN := hid hin
    clear hin
    by_cases hlt : k < s.size
    · have hc := byte_at hlt
      have HSN := hid (inB_snoc (t := t.data.toList) hc)
      obtain ⟨q, hq⟩ : ∃ q, findI t.data.toList s[k] = q := ⟨_, rfl⟩
      have hneg := findI_neg t.data.toList s[k]
      rw [hq] at hneg
      have HQ := hid hq
      have HNEG := hid hneg
      have i1 : (0 : Int) ≤ (k : Int) := by omega
      have i2 : (k : Int) < (s.size : Int) := by omega
      clear hc hq hneg
      by_cases hq0 : q < 0
      · have HF := hid (show inB s.data.toList t.data.toList = false from inB_take (k + 1) (by rw [HSN.out, HNEG.out.1 hq0, Bool.and_false]))
        go_wp2_with (first | (go_at_call 62; refine (l13Find_at t _ _ ht q HQ).mono ?_; rintro e w' ⟨rfl, rfl⟩) | fail)
        go_ret
        exact ⟨by rw [HF.out]; rfl, rfl⟩
      · have HT := hid (show inB (s.data.toList.take (k + 1)) t.data.toList = true by
          rw [HSN.out, HIN.out, Bool.true_and]
          rw [← Bool.not_eq_false]
          exact fun h => hq0 (HNEG.out.2 h))
        go_wp2_with (first | (go_at_call 62; refine (l13Find_at t _ _ ht q HQ).mono ?_; rintro e w' ⟨rfl, rfl⟩) | fail)
        go_roundw
        case rel => exact ⟨k + 1, hlt, by go_num, HT.out, by trivial⟩
        case measure => simp [intOf]; omega
    · have e : s.data.toList.take k = s.data.toList := List.take_of_length_le (by rw [HL.out]; omega)
      have HE := hid e
      clear e
      go_wp2_with fail
      go_ret
      have h := HIN.out
      rw [HE.out] at h
      exact ⟨by rw [h]; rfl, rfl⟩

end Go.Proofs.YtmpmalcjfckemaaDoor
