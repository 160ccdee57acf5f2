/- Whether an instance is special to another one: IsSpecial, in the program and in the model. Whether an instance is special to another one: IsSpecial in the model. -/
import Derived.Test.YtcahcnhpaocdaaaGreatDoorNv
import Derived.Test.YtcahcnhpaocdaaaGreatDoorMtV
import Derived.Deep.RegionHeld3
import Derived.Test.YtcahcnhpaocdaaaGreatDoorLoose
import Derived.Deep.Cut
namespace Go.Proofs.YtcahcnhpaocdaaaGreatDoor
open Go.RowKit
set_option linter.unusedVariables false

set_option maxHeartbeats 400000 in
theorem hasInstanceI_any (A : Option Addr) (n cap : Nat) (B : Option Addr) (m cap' : Nat) (i : Int) (w : World) (hm : m ≤ maxLen) (v : Bool) (hv : Hid ((decide (0 ≤ i) && decide (i < (m : Int))) = v)) :
    Calls Tryz.prog 56 #[.agg #[.slice A n cap, .slice B m cap'], .int .i64 i] w fun e w' => e = .returned (.bool v) ∧ Below w.heap.size w w' := by
  have b0 : ∀ o, Below w.heap.size w (w.alloc o) := fun o => (Below.refl _ _).alloc (Nat.le_refl _) o
  by_cases h0 : 0 ≤ i
  · by_cases h1 : i < (m : Int)
    · have HV := hid (show true = v by rw [← hv.out, decide_eq_true h0, decide_eq_true h1]; rfl)
      go_enter Tryz.func56, Tryz.ntmps56
      go_wp2_with fail
      go_ret
      exact ⟨by rw [← HV.out]; rfl, b0 _⟩
    · have HV := hid (show false = v by rw [← hv.out, decide_eq_true h0, decide_eq_false h1]; rfl)
      go_enter Tryz.func56, Tryz.ntmps56
      go_wp2_with fail
      go_ret
      exact ⟨by rw [← HV.out]; rfl, b0 _⟩
  · have HV := hid (show false = v by rw [← hv.out, decide_eq_false h0]; rfl)
    go_enter Tryz.func56, Tryz.ntmps56
    go_wp2_with fail
    go_ret
    exact ⟨by rw [← HV.out]; rfl, b0 _⟩

set_option maxHeartbeats 1000000 in
set_option maxRecDepth 100000 in
theorem isSpecI_any (A : Option Addr) (n cap : Nat) (B : Option Addr) (m cap' : Nat) (is : List Ins) (i k : Nat) (a b : Ins) (w : World) (hm : m ≤ maxLen) (hb : Inss w B m is) (hok : ∀ i ∈ is, InsOk i) (hi : is[i]? = some a) (hk : is[k]? = some b) :
    Calls Tryz.prog 94 #[.agg #[.slice A n cap, .slice B m cap'], .int .i64 (i : Int), .int .i64 (k : Int)] w fun e w' => e = .returned (.bool (spI a b)) ∧ Below w.heap.size w w' := by
  have b0 : ∀ o, Below w.heap.size w (w.alloc o) := fun o => (Below.refl _ _).alloc (Nat.le_refl _) o
  have him : i < m := by have := (List.getElem?_eq_some_iff.1 hi).1; have := hb.1; omega
  have hkm : k < m := by have := (List.getElem?_eq_some_iff.1 hk).1; have := hb.1; omega
  obtain ⟨g, o, rfl, hg, hca⟩ := hb.2 (by omega)
  obtain ⟨a0, a1, D1, l1, c1, a2, _, _⟩ := hca i a hi
  obtain ⟨d0, d1, D2, l2, c2, d2, _, _⟩ := hca k b hk
  have hoa := hok a (List.mem_of_getElem? hi)
  have hob := hok b (List.mem_of_getElem? hk)
  obtain ⟨ac, at', an⟩ := a
  obtain ⟨bc, bt, bn⟩ := b
  have HII := hid (fun (W : World) => isInstance_any bt at' W hob.2.1 hoa.2.1)
  have HV := hid (show spI ⟨ac, at', an⟩ ⟨bc, bt, bn⟩ = ((ac.toList == bc.toList) && (mtOf bt.data.toList at'.data.toList).isSome) from rfl)
  obtain ⟨v1, e1⟩ : ∃ v, (mtOf bt.data.toList at'.data.toList).isSome = v := ⟨_, rfl⟩
  rw [e1] at HII HV
  have i0 : (0 : Int) ≤ (i : Int) := by omega
  have i1 : (i : Int) < (m : Int) := by omega
  have i2 : (0 : Int) ≤ (k : Int) := by omega
  have i3 : (k : Int) < (m : Int) := by omega
  obtain ⟨W, hW⟩ : ∃ W, w.alloc (.cells #[.slice A n cap, .slice (some ⟨g, o, none⟩) m cap'] 31) = W := ⟨_, rfl⟩
  have hWc := heap_new1 w (.cells #[.slice A n cap, .slice (some ⟨g, o, none⟩) m cap'] 31)
  rw [hW] at hWc
  have HBW := hid (show Below w.heap.size w W by rw [← hW]; exact b0 _)
  have hWz : w.heap.size < W.heap.size := by rw [← hW]; simp only [World.size_alloc]; omega
  have p1 : W.cell? ⟨w.heap.size, 1, none⟩ = some (.slice (some ⟨g, o, none⟩) m cap') := cell_blk hWc rfl
  have a0' := cell_below a0 hg HBW.out
  have a1' := cell_below a1 hg HBW.out
  have a2' := cell_below a2 hg HBW.out
  have d0' := cell_below d0 hg HBW.out
  have d1' := cell_below d1 hg HBW.out
  have d2' := cell_below d2 hg HBW.out
  have n0 := World.new_ne W _ p1
  have n1 := World.new_ne W _ a0'
  have n2 := World.new_ne W _ a1'
  have n3 := World.new_ne W _ a2'
  have n4 := World.new_ne W _ d0'
  have n5 := World.new_ne W _ d1'
  have n6 := World.new_ne W _ d2'
  clear hca hoa hob hok hb hi hk e1 him hkm a0 a1 a2 d0 d1 d2 hWc
  have HB2 := hid (fun o1 o2 => show Below w.heap.size w ((W.alloc o1).alloc o2).drew from ((HBW.out.alloc HBW.out.size o1).alloc (by have := HBW.out.size; simp only [World.size_alloc]; omega) o2).drew)
  obtain ⟨q, hq⟩ : ∃ q, (ac.toList == bc.toList) = q := ⟨_, rfl⟩
  rw [hq] at HV
  cases q
  all_goals
    go_enter Tryz.func94, Tryz.ntmps94
    go_wp2_with fail
    go_region_held3 (fun w' => w'.cell? ⟨w.heap.size, 1, none⟩ = some (.slice (some ⟨g, o, none⟩) m cap') ∧ w'.cell? ⟨g, o + i * 3, none⟩ = some (.string ac) ∧ w'.cell? ⟨g, o + i * 3 + 1, none⟩ = some (.string at') ∧ w'.cell? ⟨g, o + i * 3 + 2, none⟩ = some (.slice D1 l1 c1) ∧ w'.cell? ⟨g, o + k * 3, none⟩ = some (.string bc) ∧ w'.cell? ⟨g, o + k * 3 + 1, none⟩ = some (.string bt) ∧ w'.cell? ⟨g, o + k * 3 + 2, none⟩ = some (.slice D2 l2 c2)) (go_keep) (fail)
    all_goals
      go_wp2_with (go_at_call 78; refine (HII.out _).mono ?_; rintro e w2 ⟨rfl, b2⟩)
      go_ret
      first
        | exact ⟨by rw [HV.out]; rfl, HB2.out _ _⟩
        | exact ⟨by rw [HV.out]; rfl, (HB2.out _ _).trans (b2.mono (HB2.out _ _).size)⟩

end Go.Proofs.YtcahcnhpaocdaaaGreatDoor

namespace Go.Proofs.YtcahcnhpaocdaaaGreatDoor
open Go.RowKit
set_option linter.unusedVariables false

set_option maxHeartbeats 4000000 in
set_option maxRecDepth 100000 in
theorem isSpecialS_any (A : Option Addr) (n cap : Nat) (zs : List (ByteArray × ByteArray)) (B : Option Addr) (m cap' : Nat) (is : List Ins) (i k : Int) (w : World) (hcap : n ≤ cap) (hcm : cap ≤ maxLen) (ha : Prs w A n zs) (hz : ∀ z ∈ zs, z.2.size ≤ maxLen) (hm : m ≤ maxLen) (hb : Inss w B m is) (hok : ∀ i ∈ is, InsOk i) :
    Calls Tryz.prog 60 #[.agg #[.slice A n cap, .slice B m cap'], .int .i64 i, .int .i64 k] w fun e w' => e = .returned (.bool (wdOf zs is && spB is i k)) ∧ Below w.heap.size w w' := by
  have b0 : ∀ o, Below w.heap.size w (w.alloc o) := fun o => (Below.refl _ _).alloc (Nat.le_refl _) o
  obtain ⟨w1, hw1⟩ : ∃ w1, w.alloc (.cells #[.slice A n cap, .slice B m cap'] 31) = w1 := ⟨_, rfl⟩
  have k0 := b0 (.cells #[.slice A n cap, .slice B m cap'] 31)
  have k2 := heap_new1 w (.cells #[.slice A n cap, .slice B m cap'] 31)
  rw [hw1] at k0 k2
  have z1 : w.heap.size < w1.heap.size := by rw [← hw1]; simp only [World.size_alloc]; omega
  have HC := hid (fun (W : World) (hW : Below w1.heap.size w1 W) => show (W.cell? ⟨w.heap.size, 0, none⟩ = some (.slice A n cap) ∧ W.cell? ⟨w.heap.size, 1, none⟩ = some (.slice B m cap')) ∧ Below w.heap.size w W from
    ⟨⟨cell_blk ((hW.block _ z1).trans k2) rfl, cell_blk ((hW.block _ z1).trans k2) rfl⟩, k0.trans (hW.mono k0.size)⟩)
  have HWV := hid (worldValidS_any A n cap zs B m cap' is w1 hcap hcm (ha.below k0) hz hm (hb.below k0) hok)
  have HIL := hid hb.1
  have HB := hid hb
  have HOK := hid hok
  obtain ⟨h1, e1⟩ : ∃ v, (decide (0 ≤ i) && decide (i ≤ (m : Int) - 1)) = v := ⟨_, rfl⟩
  obtain ⟨h2, e2⟩ : ∃ v, (decide (0 ≤ k) && decide (k ≤ (m : Int) - 1)) = v := ⟨_, rfl⟩
  have hi1 := fun (W : World) => l1In_any i 0 ((m : Int) - 1) W
  have hi2 := fun (W : World) => l1In_any k 0 ((m : Int) - 1) W
  rw [e1] at hi1
  rw [e2] at hi2
  have HI1 := hid hi1
  have HI2 := hid hi2
  have E1 := hid e1
  have E2 := hid e2
  obtain ⟨bw, ew⟩ : ∃ b, wdOf zs is = b := ⟨_, rfl⟩
  rw [ew] at HWV ⊢
  have HW1 := hid hw1
  unfold maxLen at hm
  have hm1 : IntKind.i64.wrap ((m : Int) - 1) = (m : Int) - 1 := by rw [IntKind.wrap_i64]; omega
  clear ha hb hok k0 k2 hw1 e1 e2 ew hi1 hi2
  go_enter Tryz.func60, Tryz.ntmps60
  go_wp2_with fail
  rw [HW1.out]
  refine HWV.out.mono ?_
  rintro e w2 ⟨rfl, c2⟩
  have B2 := hid c2
  clear c2
  obtain ⟨⟨p0, p1⟩, bel2⟩ := HC.out w2 B2.out
  cases bw
  · go_wp2_with fail
    go_ret
    exact ⟨rfl, bel2⟩
  · go_wp2_with fail
    refine (HI1.out _).mono ?_
    rintro e w3 ⟨rfl, hw3⟩
    obtain rfl := hw3.symm
    cases h1
    · have hf := spB_neg (is := is) (i := i) (k := k) (by
        have h := E1.out
        have hl := HIL.out
        simp only [Bool.and_eq_false_iff, decide_eq_false_iff_not] at h
        omega)
      have HF := hid hf
      clear hf
      go_wp2_with fail
      go_ret
      exact ⟨by rw [HF.out]; rfl, bel2⟩
    · go_wp2_with fail
      refine (HI2.out _).mono ?_
      rintro e w4 ⟨rfl, hw4⟩
      obtain rfl := hw4.symm
      cases h2
      · have hf := spB_neg (is := is) (i := i) (k := k) (by
          have h := E2.out
          have hl := HIL.out
          simp only [Bool.and_eq_false_iff, decide_eq_false_iff_not] at h
          omega)
        have HF := hid hf
        clear hf
        go_wp2_with fail
        go_ret
        exact ⟨by rw [HF.out]; rfl, bel2⟩
      · have hi := E1.out
        have hk := E2.out
        simp only [Bool.and_eq_true, decide_eq_true_eq] at hi hk
        obtain ⟨i', rfl⟩ : ∃ i' : Nat, i = (i' : Int) := ⟨i.toNat, by omega⟩
        obtain ⟨k', rfl⟩ : ∃ k' : Nat, k = (k' : Int) := ⟨k.toNat, by omega⟩
        have hl := HIL.out
        obtain ⟨a, hi'⟩ : ∃ a, is[i']? = some a := ⟨_, List.getElem?_eq_getElem (by omega)⟩
        obtain ⟨b, hk'⟩ : ∃ b, is[k']? = some b := ⟨_, List.getElem?_eq_getElem (by omega)⟩
        have HF := hid (spB_at hi' hk')
        obtain ⟨g, o, rfl, hg, hca⟩ := HB.out.2 (by omega)
        obtain ⟨a0, a1, _, _, _, _, _, _⟩ := hca i' a hi'
        obtain ⟨d0, d1, _, _, _, _, _, _⟩ := hca k' b hk'
        have hoa := HOK.out a (List.mem_of_getElem? hi')
        have hob := HOK.out b (List.mem_of_getElem? hk')
        obtain ⟨ac, at', an⟩ := a
        obtain ⟨bc, bt, bn⟩ := b
        have i0 : (0 : Int) ≤ (i' : Int) := by omega
        have i1 : (i' : Int) < (m : Int) := by omega
        have i2 : (0 : Int) ≤ (k' : Int) := by omega
        have i3 : (k' : Int) < (m : Int) := by omega
        obtain ⟨v1, hv1⟩ : ∃ v, (mtOf bt.data.toList at'.data.toList).isSome = v := ⟨_, rfl⟩
        obtain ⟨q, hq⟩ : ∃ q, (ac.toList == bc.toList) = q := ⟨_, rfl⟩
        have HV := hid (show spI ⟨ac, at', an⟩ ⟨bc, bt, bn⟩ = (q && v1) by rw [← hq, ← hv1]; rfl)
        obtain ⟨C, HCl⟩ : ∃ C : World → Prop, Hid (∀ W, C W ↔ Below w1.heap.size w1 W) := ⟨_, hid fun _ => Iff.rfl⟩
        have HCC := hid (fun (W : World) (hW : C W) => show W.cell? ⟨w.heap.size, 1, none⟩ = some (.slice (some ⟨g, o, none⟩) m cap') ∧ W.cell? ⟨g, o + i' * 3, none⟩ = some (.string ac) ∧ W.cell? ⟨g, o + i' * 3 + 1, none⟩ = some (.string at') ∧ W.cell? ⟨g, o + k' * 3, none⟩ = some (.string bc) ∧ W.cell? ⟨g, o + k' * 3 + 1, none⟩ = some (.string bt) from by
          obtain ⟨⟨_, h1⟩, h2⟩ := HC.out W ((HCl.out W).1 hW)
          exact ⟨h1, cell_below a0 hg h2, cell_below a1 hg h2, cell_below d0 hg h2, cell_below d1 hg h2⟩)
        have HCN := hid (fun (W : World) (hW : C W) => show Calls Tryz.prog 75 #[.string bt, .string at'] W fun e w' => e = .returned (.bool v1) ∧ C w' from (isInstanceS_any bt at' W hob.2.1 hoa.2.1).mono fun e w' h => ⟨by rw [h.1, hv1], (HCl.out w').2 (((HCl.out W).1 hW).trans (h.2.mono ((HCl.out W).1 hW).size))⟩)
        have HC2 := hid ((HCl.out w2.drew).2 B2.out.drew)
        clear hca hoa hob a0 a1 d0 d1 hi' hk' hi hk hl hv1 p0 p1
        cases q
        all_goals
          go_wp2_with fail
          refine wp_region_loose (C := C) 32 (by kernel_rfl) (by kernel_rfl) HC2.out ?_
          simp only [List.take_succ_cons, List.take_zero]
          refine walk_by fun W hnil hval hcall hany hskip => ?_
          iterate 32 (first
            | (refine hval _ _ _ _ (fun _ => by rfl) ⟨_, fun q hq w' hw' => by
                 obtain ⟨x0, x1, x2, x3, x4⟩ := HCC.out w' hw'
                 first | (go_simp; done) | (go_simp; rfl), ?_⟩
               simp only [Act.put, List.setIfInBounds_toArray, List.set_cons_zero, List.set_cons_succ])
            | (refine hcall _ _ _ _ (fun _ => by rfl) ⟨75, _, .bool v1, fun q hq w' hw' => ⟨by first | (go_simp; done) | (go_simp; rfl), HCN.out w' hw'⟩, ?_⟩
               simp only [Act.put, List.setIfInBounds_toArray, List.set_cons_zero, List.set_cons_succ])
            | (refine hskip _ _ _ _ (fun _ => by rfl) ?_
               simp only [Act.put, List.setIfInBounds_toArray, List.set_cons_zero, List.set_cons_succ]))
          refine hnil _ _ ?_
          intro q hq w' hw'
          simp only [List.drop_succ_cons, List.drop_zero]
          have hb' := (HC.out w' ((HCl.out w').1 hw')).2
          clear hnil hval hcall hany hskip HCC HCN
          go_wp2_with fail
          go_ret
          exact ⟨by rw [HF.out, HV.out]; rfl, hb'⟩

end Go.Proofs.YtcahcnhpaocdaaaGreatDoor
