/- Whether an instance is special to another one: IsSpecial in the model. -/
import Derived.Test.YtmpmalcjfckemaaGreatDoorSpI
import Derived.Test.YtmpmalcjfckemaaGreatDoorLoose
import Derived.Deep.Cut
namespace Go.Proofs.YtmpmalcjfckemaaGreatDoor
open Go.RowKit
set_option linter.unusedVariables false

set_option maxHeartbeats 4000000 in
set_option maxRecDepth 100000 in
theorem isSpecialS_any (A : Option Addr) (n cap : Nat) (zs : List (ByteArray × ByteArray)) (B : Option Addr) (m cap' : Nat) (is : List Ins) (i k : Int) (w : World) (hcap : n ≤ cap) (hcm : cap ≤ maxLen) (ha : Prs w A n zs) (hz : ∀ z ∈ zs, z.2.size ≤ maxLen) (hm : m ≤ maxLen) (hb : Inss w B m is) (hok : ∀ i ∈ is, InsOk i) :
    Calls Tryz.prog 29 #[.agg #[.slice A n cap, .slice B m cap'], .int .i64 i, .int .i64 k] w fun e w' => e = .returned (.bool (wdOf zs is && spB is i k)) ∧ Below w.heap.size w w' := by
  have b0 : ∀ o, Below w.heap.size w (w.alloc o) := fun o => (Below.refl _ _).alloc (Nat.le_refl _) o
  obtain ⟨w1, hw1⟩ : ∃ w1, w.alloc (.cells #[.slice A n cap, .slice B m cap'] 31) = w1 := ⟨_, rfl⟩
  have k0 := b0 (.cells #[.slice A n cap, .slice B m cap'] 31)
  have k2 := heap_new1 w (.cells #[.slice A n cap, .slice B m cap'] 31)
  rw [hw1] at k0 k2
  have z1 : w.heap.size < w1.heap.size := by rw [← hw1]; simp only [World.size_alloc]; omega
  have HC := hid (fun (W : World) (hW : Below w1.heap.size w1 W) => show (W.cell? ⟨w.heap.size, 0, none⟩ = some (.slice A n cap) ∧ W.cell? ⟨w.heap.size, 1, none⟩ = some (.slice B m cap')) ∧ Below w.heap.size w W from
    ⟨⟨cell_blk ((hW.block _ z1).trans k2) rfl, cell_blk ((hW.block _ z1).trans k2) rfl⟩, k0.trans (hW.mono k0.size)⟩)
  have HWV := hid (worldValidS_any A n cap zs B m cap' is w1 hcap hcm (ha.below k0) hz hm (hb.below k0) hok)
  have HIL := hid hb.1
  have HB := hid hb
  have HOK := hid hok
  obtain ⟨h1, e1⟩ : ∃ v, (decide (0 ≤ i) && decide (i ≤ (m : Int) - 1)) = v := ⟨_, rfl⟩
  obtain ⟨h2, e2⟩ : ∃ v, (decide (0 ≤ k) && decide (k ≤ (m : Int) - 1)) = v := ⟨_, rfl⟩
  have hi1 := fun (W : World) => l1In_any i 0 ((m : Int) - 1) W
  have hi2 := fun (W : World) => l1In_any k 0 ((m : Int) - 1) W
  rw [e1] at hi1
  rw [e2] at hi2
  have HI1 := hid hi1
  have HI2 := hid hi2
  have E1 := hid e1
  have E2 := hid e2
  obtain ⟨bw, ew⟩ : ∃ b, wdOf zs is = b := ⟨_, rfl⟩
  rw [ew] at HWV ⊢
  have HW1 := hid hw1
  unfold maxLen at hm
  have hm1 : IntKind.i64.wrap ((m : Int) - 1) = (m : Int) - 1 := by rw [IntKind.wrap_i64]; omega
  clear ha hb hok k0 k2 hw1 e1 e2 ew hi1 hi2
  go_enter Tryz.func29, Tryz.ntmps29
  go_wp2_with fail
  rw [HW1.out]
  refine HWV.out.mono ?_
  rintro e w2 ⟨rfl, c2⟩
  have B2 := hid c2
  clear c2
  obtain ⟨⟨p0, p1⟩, bel2⟩ := HC.out w2 B2.out
  cases bw
  · go_wp2_with fail
    go_ret
    exact ⟨rfl, bel2⟩
  · go_wp2_with fail
    refine (HI1.out _).mono ?_
    rintro e w3 ⟨rfl, hw3⟩
    obtain rfl := hw3.symm
    cases h1
    · have hf := spB_neg (is := is) (i := i) (k := k) (by
        have h := E1.out
        have hl := HIL.out
        simp only [Bool.and_eq_false_iff, decide_eq_false_iff_not] at h
        omega)
      have HF := hid hf
      clear hf
      go_wp2_with fail
      go_ret
      exact ⟨by rw [HF.out]; rfl, bel2⟩
    · go_wp2_with fail
      refine (HI2.out _).mono ?_
      rintro e w4 ⟨rfl, hw4⟩
      obtain rfl := hw4.symm
      cases h2
      · have hf := spB_neg (is := is) (i := i) (k := k) (by
          have h := E2.out
          have hl := HIL.out
          simp only [Bool.and_eq_false_iff, decide_eq_false_iff_not] at h
          omega)
        have HF := hid hf
        clear hf
        go_wp2_with fail
        go_ret
        exact ⟨by rw [HF.out]; rfl, bel2⟩
      · have hi := E1.out
        have hk := E2.out
        simp only [Bool.and_eq_true, decide_eq_true_eq] at hi hk
        obtain ⟨i', rfl⟩ : ∃ i' : Nat, i = (i' : Int) := ⟨i.toNat, by omega⟩
        obtain ⟨k', rfl⟩ : ∃ k' : Nat, k = (k' : Int) := ⟨k.toNat, by omega⟩
        have hl := HIL.out
        obtain ⟨a, hi'⟩ : ∃ a, is[i']? = some a := ⟨_, List.getElem?_eq_getElem (by omega)⟩
        obtain ⟨b, hk'⟩ : ∃ b, is[k']? = some b := ⟨_, List.getElem?_eq_getElem (by omega)⟩
        have HF := hid (spB_at hi' hk')
        obtain ⟨g, o, rfl, hg, hca⟩ := HB.out.2 (by omega)
        obtain ⟨a0, a1, _, _, _, _, _, _⟩ := hca i' a hi'
        obtain ⟨d0, d1, _, _, _, _, _, _⟩ := hca k' b hk'
        have hoa := HOK.out a (List.mem_of_getElem? hi')
        have hob := HOK.out b (List.mem_of_getElem? hk')
        obtain ⟨ac, at', an⟩ := a
        obtain ⟨bc, bt, bn⟩ := b
        have i0 : (0 : Int) ≤ (i' : Int) := by omega
        have i1 : (i' : Int) < (m : Int) := by omega
        have i2 : (0 : Int) ≤ (k' : Int) := by omega
        have i3 : (k' : Int) < (m : Int) := by omega
        obtain ⟨v1, hv1⟩ : ∃ v, (mtOf bt.data.toList at'.data.toList).isSome = v := ⟨_, rfl⟩
        obtain ⟨q, hq⟩ : ∃ q, (ac.toList == bc.toList) = q := ⟨_, rfl⟩
        have HV := hid (show spI ⟨ac, at', an⟩ ⟨bc, bt, bn⟩ = (q && v1) by rw [← hq, ← hv1]; rfl)
        obtain ⟨C, HCl⟩ : ∃ C : World → Prop, Hid (∀ W, C W ↔ Below w1.heap.size w1 W) := ⟨_, hid fun _ => Iff.rfl⟩
        have HCC := hid (fun (W : World) (hW : C W) => show W.cell? ⟨w.heap.size, 1, none⟩ = some (.slice (some ⟨g, o, none⟩) m cap') ∧ W.cell? ⟨g, o + i' * 3, none⟩ = some (.string ac) ∧ W.cell? ⟨g, o + i' * 3 + 1, none⟩ = some (.string at') ∧ W.cell? ⟨g, o + k' * 3, none⟩ = some (.string bc) ∧ W.cell? ⟨g, o + k' * 3 + 1, none⟩ = some (.string bt) from by
          obtain ⟨⟨_, h1⟩, h2⟩ := HC.out W ((HCl.out W).1 hW)
          exact ⟨h1, cell_below a0 hg h2, cell_below a1 hg h2, cell_below d0 hg h2, cell_below d1 hg h2⟩)
        have HCN := hid (fun (W : World) (hW : C W) => show Calls Tryz.prog 63 #[.string bt, .string at'] W fun e w' => e = .returned (.bool v1) ∧ C w' from (isInstanceS_any bt at' W hob.2.1 hoa.2.1).mono fun e w' h => ⟨by rw [h.1, hv1], (HCl.out w').2 (((HCl.out W).1 hW).trans (h.2.mono ((HCl.out W).1 hW).size))⟩)
        have HC2 := hid ((HCl.out w2.drew).2 B2.out.drew)
        clear hca hoa hob a0 a1 d0 d1 hi' hk' hi hk hl hv1 p0 p1
        cases q
        all_goals
          go_wp2_with fail
          refine wp_region_loose (C := C) 32 (by kernel_rfl) (by kernel_rfl) HC2.out ?_
          simp only [List.take_succ_cons, List.take_zero]
          refine walk_by fun W hnil hval hcall hany hskip => ?_
          iterate 32 (first
            | (refine hval _ _ _ _ (fun _ => by rfl) ⟨_, fun q hq w' hw' => by
                 obtain ⟨x0, x1, x2, x3, x4⟩ := HCC.out w' hw'
                 first | (go_simp; done) | (go_simp; rfl), ?_⟩
               simp only [Act.put, List.setIfInBounds_toArray, List.set_cons_zero, List.set_cons_succ])
            | (refine hcall _ _ _ _ (fun _ => by rfl) ⟨63, _, .bool v1, fun q hq w' hw' => ⟨by first | (go_simp; done) | (go_simp; rfl), HCN.out w' hw'⟩, ?_⟩
               simp only [Act.put, List.setIfInBounds_toArray, List.set_cons_zero, List.set_cons_succ])
            | (refine hskip _ _ _ _ (fun _ => by rfl) ?_
               simp only [Act.put, List.setIfInBounds_toArray, List.set_cons_zero, List.set_cons_succ]))
          refine hnil _ _ ?_
          intro q hq w' hw'
          simp only [List.drop_succ_cons, List.drop_zero]
          have hb' := (HC.out w' ((HCl.out w').1 hw')).2
          clear hnil hval hcall hany hskip HCC HCN
          go_wp2_with fail
          go_ret
          exact ⟨by rw [HF.out, HV.out]; rfl, hb'⟩

end Go.Proofs.YtmpmalcjfckemaaGreatDoor
