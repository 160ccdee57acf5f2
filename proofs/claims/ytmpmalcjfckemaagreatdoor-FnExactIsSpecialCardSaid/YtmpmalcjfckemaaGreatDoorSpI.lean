/- Whether an instance is special to another one: IsSpecial, in the program and in the model. -/
import Derived.Test.YtmpmalcjfckemaaGreatDoorNv
import Derived.Test.YtmpmalcjfckemaaGreatDoorMtV
import Derived.Deep.RegionHeld3
namespace Go.Proofs.YtmpmalcjfckemaaGreatDoor
open Go.RowKit
set_option linter.unusedVariables false

set_option maxHeartbeats 400000 in
theorem hasInstanceI_any (A : Option Addr) (n cap : Nat) (B : Option Addr) (m cap' : Nat) (i : Int) (w : World) (hm : m ≤ maxLen) (v : Bool) (hv : Hid ((decide (0 ≤ i) && decide (i < (m : Int))) = v)) :
    Calls Tryz.prog 59 #[.agg #[.slice A n cap, .slice B m cap'], .int .i64 i] w fun e w' => e = .returned (.bool v) ∧ Below w.heap.size w w' := by
  have b0 : ∀ o, Below w.heap.size w (w.alloc o) := fun o => (Below.refl _ _).alloc (Nat.le_refl _) o
  by_cases h0 : 0 ≤ i
  · by_cases h1 : i < (m : Int)
    · have HV := hid (show true = v by rw [← hv.out, decide_eq_true h0, decide_eq_true h1]; rfl)
      go_enter Tryz.func59, Tryz.ntmps59
      go_wp2_with fail
      go_ret
      exact ⟨by rw [← HV.out]; rfl, b0 _⟩
    · have HV := hid (show false = v by rw [← hv.out, decide_eq_true h0, decide_eq_false h1]; rfl)
      go_enter Tryz.func59, Tryz.ntmps59
      go_wp2_with fail
      go_ret
      exact ⟨by rw [← HV.out]; rfl, b0 _⟩
  · have HV := hid (show false = v by rw [← hv.out, decide_eq_false h0]; rfl)
    go_enter Tryz.func59, Tryz.ntmps59
    go_wp2_with fail
    go_ret
    exact ⟨by rw [← HV.out]; rfl, b0 _⟩

set_option maxHeartbeats 1000000 in
set_option maxRecDepth 100000 in
theorem isSpecI_any (A : Option Addr) (n cap : Nat) (B : Option Addr) (m cap' : Nat) (is : List Ins) (i k : Nat) (a b : Ins) (w : World) (hm : m ≤ maxLen) (hb : Inss w B m is) (hok : ∀ i ∈ is, InsOk i) (hi : is[i]? = some a) (hk : is[k]? = some b) :
    Calls Tryz.prog 64 #[.agg #[.slice A n cap, .slice B m cap'], .int .i64 (i : Int), .int .i64 (k : Int)] w fun e w' => e = .returned (.bool (spI a b)) ∧ Below w.heap.size w w' := by
  have b0 : ∀ o, Below w.heap.size w (w.alloc o) := fun o => (Below.refl _ _).alloc (Nat.le_refl _) o
  have him : i < m := by have := (List.getElem?_eq_some_iff.1 hi).1; have := hb.1; omega
  have hkm : k < m := by have := (List.getElem?_eq_some_iff.1 hk).1; have := hb.1; omega
  obtain ⟨g, o, rfl, hg, hca⟩ := hb.2 (by omega)
  obtain ⟨a0, a1, D1, l1, c1, a2, _, _⟩ := hca i a hi
  obtain ⟨d0, d1, D2, l2, c2, d2, _, _⟩ := hca k b hk
  have hoa := hok a (List.mem_of_getElem? hi)
  have hob := hok b (List.mem_of_getElem? hk)
  obtain ⟨ac, at', an⟩ := a
  obtain ⟨bc, bt, bn⟩ := b
  have HII := hid (fun (W : World) => isInstance_any bt at' W hob.2.1 hoa.2.1)
  have HV := hid (show spI ⟨ac, at', an⟩ ⟨bc, bt, bn⟩ = ((ac.toList == bc.toList) && (mtOf bt.data.toList at'.data.toList).isSome) from rfl)
  obtain ⟨v1, e1⟩ : ∃ v, (mtOf bt.data.toList at'.data.toList).isSome = v := ⟨_, rfl⟩
  rw [e1] at HII HV
  have i0 : (0 : Int) ≤ (i : Int) := by omega
  have i1 : (i : Int) < (m : Int) := by omega
  have i2 : (0 : Int) ≤ (k : Int) := by omega
  have i3 : (k : Int) < (m : Int) := by omega
  obtain ⟨W, hW⟩ : ∃ W, w.alloc (.cells #[.slice A n cap, .slice (some ⟨g, o, none⟩) m cap'] 31) = W := ⟨_, rfl⟩
  have hWc := heap_new1 w (.cells #[.slice A n cap, .slice (some ⟨g, o, none⟩) m cap'] 31)
  rw [hW] at hWc
  have HBW := hid (show Below w.heap.size w W by rw [← hW]; exact b0 _)
  have hWz : w.heap.size < W.heap.size := by rw [← hW]; simp only [World.size_alloc]; omega
  have p1 : W.cell? ⟨w.heap.size, 1, none⟩ = some (.slice (some ⟨g, o, none⟩) m cap') := cell_blk hWc rfl
  have a0' := cell_below a0 hg HBW.out
  have a1' := cell_below a1 hg HBW.out
  have a2' := cell_below a2 hg HBW.out
  have d0' := cell_below d0 hg HBW.out
  have d1' := cell_below d1 hg HBW.out
  have d2' := cell_below d2 hg HBW.out
  have n0 := World.new_ne W _ p1
  have n1 := World.new_ne W _ a0'
  have n2 := World.new_ne W _ a1'
  have n3 := World.new_ne W _ a2'
  have n4 := World.new_ne W _ d0'
  have n5 := World.new_ne W _ d1'
  have n6 := World.new_ne W _ d2'
  clear hca hoa hob hok hb hi hk e1 him hkm a0 a1 a2 d0 d1 d2 hWc
  have HB2 := hid (fun o1 o2 => show Below w.heap.size w ((W.alloc o1).alloc o2).drew from ((HBW.out.alloc HBW.out.size o1).alloc (by have := HBW.out.size; simp only [World.size_alloc]; omega) o2).drew)
  obtain ⟨q, hq⟩ : ∃ q, (ac.toList == bc.toList) = q := ⟨_, rfl⟩
  rw [hq] at HV
  cases q
  all_goals
    go_enter Tryz.func64, Tryz.ntmps64
    go_wp2_with fail
    go_region_held3 (fun w' => w'.cell? ⟨w.heap.size, 1, none⟩ = some (.slice (some ⟨g, o, none⟩) m cap') ∧ w'.cell? ⟨g, o + i * 3, none⟩ = some (.string ac) ∧ w'.cell? ⟨g, o + i * 3 + 1, none⟩ = some (.string at') ∧ w'.cell? ⟨g, o + i * 3 + 2, none⟩ = some (.slice D1 l1 c1) ∧ w'.cell? ⟨g, o + k * 3, none⟩ = some (.string bc) ∧ w'.cell? ⟨g, o + k * 3 + 1, none⟩ = some (.string bt) ∧ w'.cell? ⟨g, o + k * 3 + 2, none⟩ = some (.slice D2 l2 c2)) (go_keep) (fail)
    all_goals
      go_wp2_with (go_at_call 81; refine (HII.out _).mono ?_; rintro e w2 ⟨rfl, b2⟩)
      go_ret
      first
        | exact ⟨by rw [HV.out]; rfl, HB2.out _ _⟩
        | exact ⟨by rw [HV.out]; rfl, (HB2.out _ _).trans (b2.mono (HB2.out _ _).size)⟩

set_option maxHeartbeats 2000000 in
set_option maxRecDepth 100000 in
theorem isSpecialI_any (A : Option Addr) (n cap : Nat) (zs : List (ByteArray × ByteArray)) (B : Option Addr) (m cap' : Nat) (is : List Ins) (i k : Int) (w : World) (hn : n ≤ maxLen) (ha : Prs w A n zs) (hm : m ≤ maxLen) (hb : Inss w B m is) (hok : ∀ i ∈ is, InsOk i) (ht : tot zs ≤ 1048576) (he : WErrs w) :
    Calls Tryz.prog 30 #[.agg #[.slice A n cap, .slice B m cap'], .int .i64 i, .int .i64 k] w fun e w' => e = .returned (.bool (wdOf zs is && spB is i k)) ∧ Below w.heap.size w w' := by
  have b0 : ∀ o, Below w.heap.size w (w.alloc o) := fun o => (Below.refl _ _).alloc (Nat.le_refl _) o
  obtain ⟨w1, hw1⟩ : ∃ w1, w.alloc (.cells #[.slice A n cap, .slice B m cap'] 31) = w1 := ⟨_, rfl⟩
  have k0 := b0 (.cells #[.slice A n cap, .slice B m cap'] 31)
  have k2 := heap_new1 w (.cells #[.slice A n cap, .slice B m cap'] 31)
  rw [hw1] at k0 k2
  have z1 : w.heap.size < w1.heap.size := by rw [← hw1]; simp only [World.size_alloc]; omega
  have HC := hid (fun (W : World) (hW : Below w1.heap.size w1 W) => show (W.cell? ⟨w.heap.size, 0, none⟩ = some (.slice A n cap) ∧ W.cell? ⟨w.heap.size, 1, none⟩ = some (.slice B m cap')) ∧ Below w.heap.size w W from
    ⟨⟨cell_blk ((hW.block _ z1).trans k2) rfl, cell_blk ((hW.block _ z1).trans k2) rfl⟩, k0.trans (hW.mono k0.size)⟩)
  have HWV := hid (worldValidI_any A n cap zs B m cap' is w1 hn (ha.below k0) hm (hb.below k0) hok ht (he.below k0))
  have HIL := hid hb.1
  obtain ⟨h1, e1⟩ : ∃ v, (decide (0 ≤ i) && decide (i < (m : Int))) = v := ⟨_, rfl⟩
  obtain ⟨h2, e2⟩ : ∃ v, (decide (0 ≤ k) && decide (k < (m : Int))) = v := ⟨_, rfl⟩
  have HI1 := hid (fun (W : World) => hasInstanceI_any A n cap B m cap' i W hm h1 (hid e1))
  have HI2 := hid (fun (W : World) => hasInstanceI_any A n cap B m cap' k W hm h2 (hid e2))
  have HSP := hid (fun (W : World) (hW : Below w.heap.size w W) (i k : Nat) (a b : Ins) (hi : is[i]? = some a) (hk : is[k]? = some b) => isSpecI_any A n cap B m cap' is i k a b W hm (hb.below hW) hok hi hk)
  have E1 := hid e1
  have E2 := hid e2
  obtain ⟨bw, ew⟩ : ∃ b, wdOf zs is = b := ⟨_, rfl⟩
  rw [ew] at HWV ⊢
  have HW1 := hid hw1
  clear ha hb hok he k0 k2 hw1 e1 e2 ew
  go_enter Tryz.func30, Tryz.ntmps30
  go_wp2_with fail
  rw [HW1.out]
  refine HWV.out.mono ?_
  rintro e w2 ⟨rfl, c2⟩
  have B2 := hid c2
  clear c2
  obtain ⟨⟨p0, p1⟩, bel2⟩ := HC.out w2 B2.out
  cases bw
  · go_wp2_with fail
    go_ret
    exact ⟨rfl, bel2⟩
  · go_wp2_with fail
    refine (HI1.out _).mono ?_
    rintro e w3 ⟨rfl, c3⟩
    have B3 := hid (B2.out.trans (c3.mono B2.out.size))
    clear c3 p0 p1 bel2
    obtain ⟨⟨p0, p1⟩, bel3⟩ := HC.out w3 B3.out
    cases h1
    · have hf := spB_neg (is := is) (i := i) (k := k) (by
        have h := E1.out
        have hl := HIL.out
        simp only [Bool.and_eq_false_iff, decide_eq_false_iff_not] at h
        omega)
      have HF := hid hf
      clear hf
      go_wp2_with fail
      go_ret
      exact ⟨by rw [HF.out]; rfl, bel3⟩
    · go_wp2_with fail
      refine (HI2.out _).mono ?_
      rintro e w4 ⟨rfl, c4⟩
      have B4 := hid (B3.out.trans (c4.mono B3.out.size))
      clear c4 p0 p1 bel3
      obtain ⟨⟨p0, p1⟩, bel4⟩ := HC.out w4 B4.out
      cases h2
      · have hf := spB_neg (is := is) (i := i) (k := k) (by
          have h := E2.out
          have hl := HIL.out
          simp only [Bool.and_eq_false_iff, decide_eq_false_iff_not] at h
          omega)
        have HF := hid hf
        clear hf
        go_wp2_with fail
        go_ret
        exact ⟨by rw [HF.out]; rfl, bel4⟩
      · have hi := E1.out
        have hk := E2.out
        simp only [Bool.and_eq_true, decide_eq_true_eq] at hi hk
        obtain ⟨i', rfl⟩ : ∃ i' : Nat, i = (i' : Int) := ⟨i.toNat, by omega⟩
        obtain ⟨k', rfl⟩ : ∃ k' : Nat, k = (k' : Int) := ⟨k.toNat, by omega⟩
        have hl := HIL.out
        obtain ⟨a, hi'⟩ : ∃ a, is[i']? = some a := ⟨_, List.getElem?_eq_getElem (by omega)⟩
        obtain ⟨b, hk'⟩ : ∃ b, is[k']? = some b := ⟨_, List.getElem?_eq_getElem (by omega)⟩
        have HF := hid (spB_at hi' hk')
        have HS := hid (fun W hW => HSP.out W hW i' k' _ _ hi' hk')
        clear hi' hk' hi hk hl
        go_wp2_with fail
        refine (HS.out _ bel4).mono ?_
        rintro e w5 ⟨rfl, c5⟩
        go_wp2_with fail
        go_ret
        exact ⟨by rw [HF.out]; rfl, bel4.trans (c5.mono bel4.size)⟩

end Go.Proofs.YtmpmalcjfckemaaGreatDoor
