/- Valid worlds in the model: WorldValid, HasClass. -/
import Derived.Test.YtmpmalcjfckemaaDoorWdV
namespace Go.Proofs.YtmpmalcjfckemaaDoor
open Go.RowKit

set_option maxHeartbeats 4000000 in
set_option maxRecDepth 100000 in
theorem worldValidS_any (A : Option Addr) (n cap : Nat) (zs : List (ByteArray × ByteArray)) (B : Option Addr) (m cap' : Nat) (is : List Ins) (w : World) (hcap : n ≤ cap) (hcm : cap ≤ maxLen) (ha : Prs w A n zs) (hz : ∀ z ∈ zs, z.2.size ≤ maxLen) (hm : m ≤ maxLen) (hb : Inss w B m is) (hok : ∀ i ∈ is, InsOk i) :
    Calls Tryd.prog 20 #[.agg #[.slice A n cap, .slice B m cap']] w fun e w' => e = .returned (.bool (wdOf zs is)) ∧ Below w.heap.size w w' := by
  have b0 : ∀ o, Below w.heap.size w (w.alloc o) := fun o => (Below.refl _ _).alloc (Nat.le_refl _) o
  have HA := hid ha
  have HB := hid hb
  have HO := hid hok
  have HZ := hid hz
  have HLEN := hid hb.1
  have HC0 := hid (show (w.alloc (.cells #[.slice A n cap, .slice B m cap'] 34)).heap[w.heap.size]? = some (.cells #[.slice A n cap, .slice B m cap'] 34 (0, 0)) from heap_new1 w _)
  clear ha hb hok hz
  unfold maxLen at hm
  go_enter Tryd.func20, Tryd.ntmps20
  go_wp2_with fail
  go_loopw [8] (fun i wr => ∃ k : Nat, k ≤ m ∧ i = .int .i64 k ∧ ((is.take k).all fun i => clsOf zs && insOk zs i) = true ∧ Below w.heap.size w wr ∧ w.heap.size < wr.heap.size ∧ wr.heap[w.heap.size]? = some (.cells #[.slice A n cap, .slice B m cap'] 34 (0, 0))) (fun i _ => m - (intOf i).toNat)
  case atStart => exact ⟨0, Nat.zero_le _, rfl, rfl, b0 _, by simp only [World.size_alloc]; omega, HC0.out⟩
  case round =>
    obtain ⟨k, hk, rfl, hall, hbel, hsz, hblk⟩ := hrel
    have HBLK := hid hblk
    have HALL := hid hall
    clear hblk hall
    by_cases hlt : k < m
    · obtain ⟨g, o, rfl, hg, hca⟩ := HB.out.2 (by omega)
      have hx : is[k]? = some (is[k]'(by have := HLEN.out; omega)) := List.getElem?_eq_getElem _
      obtain ⟨ca, cb, D, l, c3, cc, hl, hp⟩ := hca k _ hx
      have hs := HO.out _ (List.mem_of_getElem? hx)
      obtain ⟨⟨p, u, ns⟩, ex⟩ : ∃ z, is[k]'(by have := HLEN.out; omega) = z := ⟨_, rfl⟩
      rw [ex] at ca cb hx hs hp
      have HX := hid (all_snoc (p := fun i => clsOf zs && insOk zs i) hx)
      have HMEM := hid (List.mem_of_getElem? hx)
      have ca' := cell_below ca hg hbel
      have cb' := cell_below cb hg hbel
      have cc' := cell_below cc hg hbel
      have HP := hid hp
      have HS := hid hs.2.2
      have hu : u.size ≤ maxLen := hs.2.1
      clear hca hx ex ca cb cc hp hs
      have i1 : (0 : Int) ≤ (k : Int) := by omega
      have i2 : (k : Int) < (m : Int) := by omega
      have HB1 := hid (show Below w.heap.size w (wr.alloc (.cells #[.string p, .string u, .slice D l c3] 58)) from hbel.alloc hbel.size _)
      have HBLK1 := hid ((Below.heap_alloc wr (.cells #[.string p, .string u, .slice D l c3] 58) _ hsz).trans HBLK.out)
      have q0 := cell_blk HBLK1.out (j := 0) rfl
      have q1 := cell_blk HBLK1.out (j := 1) rfl
      go_wp2_with fail
      refine (instanceValidS_any A n cap zs _ m cap' p u D l c3 ns _ hcap hcm (HA.out.below HB1.out) HZ.out hu hl (HP.out.below HB1.out) HS.out).mono ?_
      rintro e w2 ⟨rfl, c2⟩
      have HB2 := hid (HB1.out.trans (c2.mono HB1.out.size))
      have hz2 : w.heap.size < w2.heap.size := by have := c2.size; simp only [World.size_alloc] at this; omega
      have HBLK2 := hid ((c2.block w.heap.size (by simp only [World.size_alloc]; omega)).trans HBLK1.out)
      clear q0 q1 c2
      obtain ⟨b, hb⟩ : ∃ b, (clsOf zs && insOk zs ⟨p, u, ns⟩) = b := ⟨_, rfl⟩
      have HBB := hid hb
      rw [hb]
      clear hb
      cases b
      · have HNO := hid (show wdOf zs is = false by
          unfold wdOf
          refine Bool.eq_false_iff.2 fun e => ?_
          rw [Bool.and_eq_true, Bool.and_eq_true] at e
          have h := HBB.out
          rw [e.2.1, List.all_eq_true.1 e.2.2 _ HMEM.out] at h
          cases h)
        go_wp2_with fail
        go_ret
        exact ⟨by rw [HNO.out]; rfl, HB2.out⟩
      · go_wp2_with fail
        go_roundw
        case rel => exact ⟨k + 1, hlt, by go_num, by rw [HX.out, HALL.out, HBB.out]; rfl, HB2.out, hz2, HBLK2.out⟩
        case measure => simp [intOf]; omega
    · have HE := hid (show (is.all fun i => clsOf zs && insOk zs i) = true by
        have h := HALL.out
        rwa [List.take_of_length_le (by have := HLEN.out; omega)] at h)
      have q0 := cell_blk HBLK.out (j := 0) rfl
      have q1 := cell_blk HBLK.out (j := 1) rfl
      obtain ⟨r1, hr1⟩ : ∃ b, clsOf zs = b := ⟨_, rfl⟩
      have HR1 := hid hr1
      clear hr1
      go_wp2_with fail
      refine (l3Classes_any A n cap zs _ hcap hcm (HA.out.below hbel) HZ.out).mono ?_
      rintro e w1 ⟨rfl, c1⟩
      have hb1 := hbel.trans (c1.mono hbel.size)
      have q2 := cell_blk ((c1.block w.heap.size hsz).trans HBLK.out) (j := 1) rfl
      clear q0 q1
      rw [HR1.out]
      cases r1
      · go_wp2_with fail
        go_ret
        exact ⟨by unfold wdOf; rw [HR1.out]; simp, hb1⟩
      · have HW := hid (show wdOf zs is = decide (m ≤ 10) by
          unfold wdOf
          rw [HR1.out, HLEN.out]
          have h := HE.out
          rw [HR1.out] at h
          rw [show is.all (insOk zs) = true from h]
          simp)
        go_wp2_with fail
        go_ret
        exact ⟨by rw [HW.out, show decide (m ≤ 10) = decide ((m : Int) ≤ 10) by rw [decide_eq_decide]; omega]; rfl, hb1⟩

theorem idxC_pos (zs : List (ByteArray × ByteArray)) (s : ByteArray) : decide (0 ≤ idxC zs s) = hasNm zs s := by
  rcases h : hasNm zs s with _ | _
  · exact decide_eq_false (by have := (idxC_neg zs s).2 h; omega)
  · exact decide_eq_true (by
      rcases Int.lt_or_le (idxC zs s) 0 with h2 | h2
      · rw [(idxC_neg zs s).1 h2] at h; cases h
      · exact h2)

set_option maxHeartbeats 1000000 in
set_option maxRecDepth 100000 in
theorem hasClassS_any (A : Option Addr) (n cap : Nat) (zs : List (ByteArray × ByteArray)) (B : Option Addr) (m cap' : Nat) (is : List Ins) (s : ByteArray) (w : World) (hcap : n ≤ cap) (hcm : cap ≤ maxLen) (ha : Prs w A n zs) (hz : ∀ z ∈ zs, z.2.size ≤ maxLen) (hm : m ≤ maxLen) (hb : Inss w B m is) (hok : ∀ i ∈ is, InsOk i) :
    Calls Tryd.prog 28 #[.agg #[.slice A n cap, .slice B m cap'], .string s] w fun e w' => e = .returned (.bool (wdOf zs is && hasNm zs s)) ∧ Below w.heap.size w w' := by
  have b0 : ∀ o, Below w.heap.size w (w.alloc o) := fun o => (Below.refl _ _).alloc (Nat.le_refl _) o
  have hn : n ≤ maxLen := Nat.le_trans hcap hcm
  obtain ⟨ix, hix⟩ : ∃ k, idxC zs s = k := ⟨_, rfl⟩
  have hp := idxC_pos zs s
  rw [hix] at hp
  have HWV := hid (worldValidS_any A n cap zs B m cap' is _ hcap hcm (ha.below (b0 (.cells #[.slice A n cap, .slice B m cap'] 34))) hz hm (hb.below (b0 _)) hok)
  have HHN := hid (fun (W : World) (hW : Below w.heap.size w W) => l3Class_any A B n cap m cap' zs s W hn (ha.below hW) ix (hid hix))
  have HC0 := hid (show (w.alloc (.cells #[.slice A n cap, .slice B m cap'] 34)).heap[w.heap.size]? = some (.cells #[.slice A n cap, .slice B m cap'] 34 (0, 0)) from heap_new1 w _)
  obtain ⟨b, hb'⟩ : ∃ b, wdOf zs is = b := ⟨_, rfl⟩
  rw [hb'] at HWV ⊢
  obtain ⟨b2, hb2⟩ : ∃ b, hasNm zs s = b := ⟨_, rfl⟩
  rw [hb2] at hp ⊢
  clear ha hb hok hz hb' hb2 hix
  go_enter Tryd.func28, Tryd.ntmps28
  go_wp2_with fail
  refine HWV.out.mono ?_
  rintro e w1 ⟨rfl, c1⟩
  have hb1 := (b0 (.cells #[.slice A n cap, .slice B m cap'] 34)).trans (c1.mono (b0 _).size)
  have q0 := cell_blk ((c1.block w.heap.size (by simp only [World.size_alloc]; omega)).trans HC0.out) (j := 0) rfl
  have q1 := cell_blk ((c1.block w.heap.size (by simp only [World.size_alloc]; omega)).trans HC0.out) (j := 1) rfl
  cases b
  · go_wp2_with fail
    go_ret
    exact ⟨rfl, hb1⟩
  · have HP := hid hp
    clear hp
    go_wp2_with fail
    refine (HHN.out _ hb1).mono ?_
    rintro e w2 ⟨rfl, c2⟩
    go_wp2_with fail
    go_ret
    exact ⟨by rw [← HP.out]; rfl, hb1.trans (c2.mono hb1.size)⟩

end Go.Proofs.YtmpmalcjfckemaaDoor
