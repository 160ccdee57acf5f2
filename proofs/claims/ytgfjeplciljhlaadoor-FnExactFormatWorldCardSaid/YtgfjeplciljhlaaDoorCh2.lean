/- Whether needs and instances are valid, in the program. -/
import Derived.Test.YtgfjeplciljhlaaDoorChk
namespace Go.Proofs.YtgfjeplciljhlaaDoor
open Go.RowKit

set_option maxHeartbeats 8000000 in
set_option maxRecDepth 100000 in
theorem checkPlace_any (x y : ByteArray) (A : Option Addr) (n cap : Nat) (zs : List (ByteArray × ByteArray)) (w : World) (hy : y.size ≤ maxLen) (hn : n ≤ maxLen) (ha : Prs w A n zs) (e1 : ErrAt w 6) (e2 : ErrAt w 4) :
    Calls Tryd.prog 86 #[.agg #[.string x, .string y], .slice A n cap] w fun e w' => (∃ v, e = .returned v ∧ IsErr v (!ndOk zs (x, y))) ∧ Below w.heap.size w w' := by
  have b0 : ∀ o, Below w.heap.size w (w.alloc o) := fun o => (Below.refl _ _).alloc (Nat.le_refl _) o
  obtain ⟨t1, a1, k1, g1⟩ := e1
  obtain ⟨t2, a2, k2, g2⟩ := e2
  obtain ⟨w1, hw1⟩ : ∃ w1, w.alloc (.cells #[.string x, .string y] 28) = w1 := ⟨_, rfl⟩
  have HB1 := hid (show Below w.heap.size w w1 by rw [← hw1]; exact b0 _)
  have hz1 : w.heap.size < w1.heap.size := by rw [← hw1]; simp only [World.size_alloc]; omega
  have hc1 := blk_cells2 (heap_new1 w (.cells #[.string x, .string y] 28))
  rw [hw1] at hc1
  obtain ⟨C, HC⟩ : ∃ C : World → Prop, Hid (∀ w', C w' ↔ Below w1.heap.size w1 w') := ⟨_, hid fun _ => Iff.rfl⟩
  have HCC := hid (fun (W : World) (hW : C W) => show W.cell? ⟨w.heap.size, 0, none⟩ = some (.string x) ∧ W.cell? ⟨w.heap.size, 1, none⟩ = some (.string y) ∧ W.cell? ⟨6, 0, none⟩ = some (.iface t1 (.pointer (some a1))) ∧ W.cell? ⟨4, 0, none⟩ = some (.iface t2 (.pointer (some a2))) from by
    have hW' := (HC.out W).1 hW
    exact ⟨cell_below hc1.1 hz1 hW', cell_below hc1.2 hz1 hW', cell_below (cell_below k1 g1 HB1.out) (Nat.lt_of_lt_of_le g1 HB1.out.size) hW', cell_below (cell_below k2 g2 HB1.out) (Nat.lt_of_lt_of_le g2 HB1.out.size) hW'⟩)
  have HCB := hid (fun (W W' : World) (hW : C W) (hb : Below W.heap.size W W') => show C W' from (HC.out W').2 (((HC.out W).1 hW).trans (hb.mono ((HC.out W).1 hW).size)))
  have HHN := hid (fun (W : World) (hW : C W) => hasName_any A n cap zs x W hn ((ha.below HB1.out).below ((HC.out W).1 hW)))
  have HTV := hid (fun (W : World) => typeValidI_any y W hy)
  obtain ⟨n1, hn1⟩ : ∃ b, hasNm zs x = b := ⟨_, rfl⟩
  obtain ⟨n2, hn2⟩ : ∃ b, (tyOf y.data.toList).isSome = b := ⟨_, rfl⟩
  rw [hn1] at HHN
  rw [hn2] at HTV
  have HBH := hid (show ndOk zs (x, y) = (n1 && (decide (y.size ≤ 20) && n2)) by show (hasNm zs x && (decide (y.size ≤ 20) && (tyOf y.data.toList).isSome)) = _; rw [hn1, hn2])
  have HW1 := hid hw1
  have HC1 := hid ((HC.out w1.drew).2 (Below.refl _ _).drew)
  clear hc1 hn1 hn2 hw1 k1 k2 ha
  obtain ⟨n3, hn3⟩ : ∃ b, decide (y.size ≤ 20) = b := ⟨_, rfl⟩
  rw [hn3] at HBH
  have hle : decide ((y.size : Int) ≤ 20) = n3 := by rw [← hn3, decide_eq_decide]; omega
  clear hn3
  rcases n3 with _ | _
  all_goals
    go_enter Tryd.func86, Tryd.ntmps86
    go_wp2_with fail
    rw [HW1.out]
    refine wp_region_loose (C := C) 17 (by kernel_rfl) (by kernel_rfl) HC1.out ?_
    simp only [List.take_succ_cons, List.take_zero]
    refine walk_by fun W hnil hval hcall hany hskip => ?_
    iterate 17 (first
      | (refine hskip _ _ _ _ (fun _ => by rfl) ?_
         simp only [Act.put, List.setIfInBounds_toArray, List.set_cons_zero, List.set_cons_succ])
      | (refine hval _ _ _ _ (fun _ => by rfl) ⟨_, fun q hq w' hw' => by
           obtain ⟨x0, x1, x2, x3⟩ := HCC.out w' hw'
           first | (go_simp; done) | (go_simp; rfl), ?_⟩
         simp only [Act.put, List.setIfInBounds_toArray, List.set_cons_zero, List.set_cons_succ])
      | (refine hcall _ _ _ _ (fun _ => by rfl) ⟨77, _, _, fun q hq w' hw' => ⟨by first | (go_simp; done) | (go_simp; rfl), (HHN.out w' hw').mono fun e w'' h => ⟨h.1, HCB.out _ _ hw' h.2⟩⟩, ?_⟩
         simp only [Act.put, List.setIfInBounds_toArray, List.set_cons_zero, List.set_cons_succ])
      | (refine hcall _ _ _ _ (fun _ => by rfl) ⟨14, _, _, fun q hq w' hw' => ⟨by first | (go_simp; done) | (go_simp; rfl), (HTV.out w').mono fun e w'' h => ⟨h.1, HCB.out _ _ hw' h.2⟩⟩, ?_⟩
         simp only [Act.put, List.setIfInBounds_toArray, List.set_cons_zero, List.set_cons_succ])
      | (refine hcall _ _ _ _ (fun _ => by rfl) ⟨87, _, _, fun q hq w' hw' => by
           refine ⟨by (go_simp; rfl), ?_⟩
           exact (unlessV _ _ w').mono fun e w'' h => ⟨h.1, by rw [h.2]; exact hw'⟩, ?_⟩
         simp only [Act.put, List.setIfInBounds_toArray, List.set_cons_zero, List.set_cons_succ]))
    refine hnil _ _ ?_
    intro q hq w' hw'
    simp only [List.drop_succ_cons, List.drop_zero]
    have hb' := (HC.out w').1 hw'
    clear hnil hval hcall hany hskip
    rcases n1 with _ | _ <;> rcases n2 with _ | _
    all_goals
      simp only [errIf]
      go_wp2_with (first
        | (go_at_call 42
           refine (joinNew2 _ _ _ _ _ (by first | exact IsErr.nil | exact IsErr.some _ _) (by first | exact IsErr.nil | exact IsErr.some _ _)).mono ?_
           rintro e w5 ⟨⟨v5, rfl, hv5⟩, b5⟩)
        | fail)
      go_ret
      rw [HBH.out]
      exact ⟨⟨v5, rfl, hv5⟩, HB1.out.trans ((hb'.trans (b5.mono hb'.size)).mono HB1.out.size)⟩

end Go.Proofs.YtgfjeplciljhlaaDoor
