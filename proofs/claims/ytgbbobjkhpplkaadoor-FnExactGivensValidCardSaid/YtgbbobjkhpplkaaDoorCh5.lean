/- Whether classes, needs, instances, worlds are valid, in the program. Whether needs and instances are valid, in the program. Whether the needs of an instance are valid, in the program. Whether instances and classes are valid, in the program. Whether worlds are valid, in the program: World.check, WorldValid, InstanceValid, HasClass. -/
import Derived.Test.YtgbbobjkhpplkaaDoorJn
import Derived.Test.YtgbbobjkhpplkaaDoorLoose
namespace Go.Proofs.YtgbbobjkhpplkaaDoor
open Go.RowKit

/-- A variable of the program holds an error. -/
def ErrAt (w : World) (k : Nat) : Prop := ∃ t a, w.cell? ⟨k, 0, none⟩ = some (.iface t (.pointer (some a))) ∧ k < w.heap.size
theorem ErrAt.below {w w' : World} {k : Nat} (h : ErrAt w k) (hb : Below w.heap.size w w') : ErrAt w' k := by
  obtain ⟨t, a, hc, hk⟩ := h
  exact ⟨t, a, cell_below hc hk hb, Nat.lt_of_lt_of_le hk hb.size⟩
theorem bel_und {w w' : World} (h : Below w.drew.heap.size w.drew w') : Below w.heap.size w w' := ⟨h.os, h.tape, h.output, h.size, h.block⟩
/-- Two errors joined. -/
theorem join2_any (v1 v2 : Value) (b1 b2 : Bool) (h1 : IsErr v1 b1) (h2 : IsErr v2 b2) (g cap : Nat) (w : World) (c1 : w.cell? ⟨g, 0, none⟩ = some v1) (c2 : w.cell? ⟨g, 1, none⟩ = some v2) (hg : g < w.heap.size) :
    Calls Tryd.prog 48 #[.slice (some ⟨g, 0, none⟩) 2 cap] w fun e w' => (∃ v, e = .returned v ∧ IsErr v (b1 || b2)) ∧ Below w.heap.size w w' := by
  have h := join_any g 0 2 cap [(v1, b1), (v2, b2)] w rfl (by omega) (fun p hp => by
    simp only [List.mem_cons, List.not_mem_nil, or_false] at hp
    rcases hp with rfl | rfl
    · exact h1
    · exact h2) (fun j p hj => by
    have hjl := (List.getElem?_eq_some_iff.1 hj).1
    simp only [List.length_cons, List.length_nil] at hjl
    have : j = 0 ∨ j = 1 := by omega
    rcases this with rfl | rfl
    · simp at hj; subst hj; exact c1
    · simp at hj; subst hj; exact c2) hg
  have e : ([(v1, b1), (v2, b2)].any fun p => p.2) = (b1 || b2) := by simp
  rw [e] at h
  exact h

/-- Two errors joined, as a call lays them. -/
theorem joinNew2 (W : World) (v1 v2 : Value) (b1 b2 : Bool) (h1 : IsErr v1 b1) (h2 : IsErr v2 b2) :
    Calls Tryd.prog 48 #[.slice (some ⟨W.heap.size, 0, none⟩) 2 2] (W.alloc (.cells #[v1, v2] 70)) fun e w' => (∃ v, e = .returned v ∧ IsErr v (b1 || b2)) ∧ Below W.heap.size W w' := by
  have hc := blk_cells2 (heap_new1 W (.cells #[v1, v2] 70))
  refine (join2_any v1 v2 b1 b2 h1 h2 W.heap.size 2 _ hc.1 hc.2 (by simp only [World.size_alloc]; omega)).mono fun e w' h => ⟨h.1, ((Below.refl _ _).alloc (Nat.le_refl _) _).trans (h.2.mono (by simp only [World.size_alloc]; omega))⟩

/-- An error unless all is well. -/
def errIf (b : Bool) (v : Value) : Value := match b with | true => .nilIface | false => v
theorem errIf_is {v : Value} (h : IsErr v true) (b : Bool) : IsErr (errIf b v) (!b) := by
  cases b
  · exact h
  · exact IsErr.nil
theorem unlessV (b : Bool) (v : Value) (w : World) : Calls Tryd.prog 58 #[.bool b, v] w fun e w' => e = .returned (errIf b v) ∧ w' = w := by
  cases b
  · exact unlessF v w
  · exact unlessT v w

set_option maxHeartbeats 8000000 in
set_option maxRecDepth 100000 in
theorem checkBehind_any (x y names : ByteArray) (w : World) (hx : x.size ≤ 1048576) (hy : y.size ≤ 1048576) (hn : names.size ≤ 1048576 * 16) (e1 : ErrAt w 2) (e2 : ErrAt w 3) :
    Calls Tryd.prog 55 #[.agg #[.string x, .string y], .string names] w fun e w' => (∃ v, e = .returned v ∧ IsErr v (!behind names.data.toList (x, y))) ∧ Below w.heap.size w w' := by
  have b0 : ∀ o, Below w.heap.size w (w.alloc o) := fun o => (Below.refl _ _).alloc (Nat.le_refl _) o
  obtain ⟨t1, a1, k1, g1⟩ := e1
  obtain ⟨t2, a2, k2, g2⟩ := e2
  obtain ⟨w1, hw1⟩ : ∃ w1, w.alloc (.cells #[.string x, .string y] 66) = w1 := ⟨_, rfl⟩
  have HB1 := hid (show Below w.heap.size w w1 by rw [← hw1]; exact b0 _)
  have hz1 : w.heap.size < w1.heap.size := by rw [← hw1]; simp only [World.size_alloc]; omega
  have hc1 := blk_cells2 (heap_new1 w (.cells #[.string x, .string y] 66))
  rw [hw1] at hc1
  obtain ⟨C, HC⟩ : ∃ C : World → Prop, Hid (∀ w', C w' ↔ Below w1.heap.size w1 w') := ⟨_, hid fun _ => Iff.rfl⟩
  have HCC := hid (fun (W : World) (hW : C W) => show W.cell? ⟨w.heap.size, 0, none⟩ = some (.string x) ∧ W.cell? ⟨w.heap.size, 1, none⟩ = some (.string y) ∧ W.cell? ⟨2, 0, none⟩ = some (.iface t1 (.pointer (some a1))) ∧ W.cell? ⟨3, 0, none⟩ = some (.iface t2 (.pointer (some a2))) from by
    have hW' := (HC.out W).1 hW
    exact ⟨cell_below hc1.1 hz1 hW', cell_below hc1.2 hz1 hW', cell_below (cell_below k1 g1 HB1.out) (Nat.lt_of_lt_of_le g1 HB1.out.size) hW', cell_below (cell_below k2 g2 HB1.out) (Nat.lt_of_lt_of_le g2 HB1.out.size) hW'⟩)
  have HCB := hid (fun (W W' : World) (hW : C W) (hb : Below W.heap.size W W') => show C W' from (HC.out W').2 (((HC.out W).1 hW).trans (hb.mono ((HC.out W).1 hW).size)))
  have hcat : ¬ 9223372036854775807 < names.size + x.size := by omega
  have HNM := hid (isName_any x)
  have HSI := hid (standIn_any y names (by unfold maxLen; omega))
  have HAX := hid (isAscending_any (names ++ x) (by rw [ByteArray.size_append]; unfold maxLen; omega))
  have HAY := hid (isAscending_any y (by unfold maxLen; omega))
  have HE := hid (behind_def names.data.toList (x, y))
  obtain ⟨n1, hn1⟩ : ∃ b, isNm x.data.toList = b := ⟨_, rfl⟩
  obtain ⟨n2, hn2⟩ : ∃ b, ascB (names ++ x).data.toList = b := ⟨_, rfl⟩
  obtain ⟨n3, hn3⟩ : ∃ b, ascB y.data.toList = b := ⟨_, rfl⟩
  obtain ⟨n4, hn4⟩ : ∃ b, inB y.data.toList names.data.toList = b := ⟨_, rfl⟩
  rw [hn1] at HNM
  rw [hn4] at HSI
  rw [hn2] at HAX
  rw [hn3] at HAY
  have HBH := hid (show behind names.data.toList (x, y) = ((n1 && n2) && (n3 && n4)) by rw [HE.out]; show ((isNm x.data.toList && ascB (names.data.toList ++ x.data.toList)) && (ascB y.data.toList && inB y.data.toList names.data.toList)) = _; rw [hn1, hn3, hn4, ← hn2, ByteArray.data_append, Array.toList_append])
  have HW1 := hid hw1
  have HC1 := hid ((HC.out w1.drew).2 (Below.refl _ _).drew)
  clear hc1 hn1 hn2 hn3 hn4 hw1 k1 k2 HE
  rcases n1 with _ | _ <;> rcases n3 with _ | _
  all_goals
    go_enter Tryd.func55, Tryd.ntmps55
    go_wp2_with fail
    rw [HW1.out]
    refine wp_region_loose (C := C) 23 (by kernel_rfl) (by kernel_rfl) HC1.out ?_
    simp only [List.take_succ_cons, List.take_zero]
    refine walk_by fun W hnil hval hcall hany hskip => ?_
    iterate 23 (first
      | (refine hskip _ _ _ _ (fun _ => by rfl) ?_
         simp only [Act.put, List.setIfInBounds_toArray, List.set_cons_zero, List.set_cons_succ])
      | (refine hval _ _ _ _ (fun _ => by rfl) ⟨_, fun q hq w' hw' => by
           obtain ⟨x0, x1, x2, x3⟩ := HCC.out w' hw'
           first | (go_simp; done) | (go_simp; rfl), ?_⟩
         simp only [Act.put, List.setIfInBounds_toArray, List.set_cons_zero, List.set_cons_succ])
      | (refine hcall _ _ _ _ (fun _ => by rfl) ⟨65, _, _, fun q hq w' hw' => ⟨by first | (go_simp; done) | (go_simp; rfl), (HNM.out w').mono fun e w'' h => ⟨h.1, by rw [h.2]; exact hw'⟩⟩, ?_⟩
         simp only [Act.put, List.setIfInBounds_toArray, List.set_cons_zero, List.set_cons_succ])
      | (refine hcall _ _ _ _ (fun _ => by rfl) ⟨67, _, _, fun q hq w' hw' => ⟨by first | (go_simp; done) | (go_simp; rfl), (HSI.out w').mono fun e w'' h => ⟨h.1, by rw [h.2]; exact hw'⟩⟩, ?_⟩
         simp only [Act.put, List.setIfInBounds_toArray, List.set_cons_zero, List.set_cons_succ])
      | (refine hcall _ _ _ _ (fun _ => by rfl) ⟨66, _, _, fun q hq w' hw' => ⟨by first | (go_simp; done) | (go_simp; rfl), (HAX.out w').mono fun e w'' h => ⟨h.1, HCB.out _ _ hw' h.2⟩⟩, ?_⟩
         simp only [Act.put, List.setIfInBounds_toArray, List.set_cons_zero, List.set_cons_succ])
      | (refine hcall _ _ _ _ (fun _ => by rfl) ⟨66, _, _, fun q hq w' hw' => ⟨by first | (go_simp; done) | (go_simp; rfl), (HAY.out w').mono fun e w'' h => ⟨h.1, HCB.out _ _ hw' h.2⟩⟩, ?_⟩
         simp only [Act.put, List.setIfInBounds_toArray, List.set_cons_zero, List.set_cons_succ])
      | (refine hcall _ _ _ _ (fun _ => by rfl) ⟨58, _, _, fun q hq w' hw' => by
           refine ⟨by (go_simp; rfl), ?_⟩
           exact (unlessV _ _ w').mono fun e w'' h => ⟨h.1, by rw [h.2]; exact hw'⟩, ?_⟩
         simp only [Act.put, List.setIfInBounds_toArray, List.set_cons_zero, List.set_cons_succ]))
    refine hnil _ _ ?_
    intro q hq w' hw'
    simp only [List.drop_succ_cons, List.drop_zero]
    have hb' := (HC.out w').1 hw'
    clear hnil hval hcall hany hskip
    rcases n2 with _ | _ <;> rcases n4 with _ | _
    all_goals
      simp only [errIf]
      go_wp2_with (first
        | (go_at_call 48
           refine (joinNew2 _ _ _ _ _ (by first | exact IsErr.nil | exact IsErr.some _ _) (by first | exact IsErr.nil | exact IsErr.some _ _)).mono ?_
           rintro e w5 ⟨⟨v5, rfl, hv5⟩, b5⟩)
        | fail)
      go_ret
      rw [HBH.out]
      exact ⟨⟨v5, rfl, hv5⟩, HB1.out.trans ((hb'.trans (b5.mono hb'.size)).mono HB1.out.size)⟩

end Go.Proofs.YtgbbobjkhpplkaaDoor

namespace Go.Proofs.YtgbbobjkhpplkaaDoor
open Go.RowKit

set_option maxHeartbeats 8000000 in
set_option maxRecDepth 100000 in
theorem checkPlace_any (x y : ByteArray) (A : Option Addr) (n cap : Nat) (zs : List (ByteArray × ByteArray)) (w : World) (hy : y.size ≤ maxLen) (hn : n ≤ maxLen) (ha : Prs w A n zs) (e1 : ErrAt w 4) (e2 : ErrAt w 5) :
    Calls Tryd.prog 57 #[.agg #[.string x, .string y], .slice A n cap] w fun e w' => (∃ v, e = .returned v ∧ IsErr v (!ndOk zs (x, y))) ∧ Below w.heap.size w w' := by
  have b0 : ∀ o, Below w.heap.size w (w.alloc o) := fun o => (Below.refl _ _).alloc (Nat.le_refl _) o
  obtain ⟨t1, a1, k1, g1⟩ := e1
  obtain ⟨t2, a2, k2, g2⟩ := e2
  obtain ⟨w1, hw1⟩ : ∃ w1, w.alloc (.cells #[.string x, .string y] 45) = w1 := ⟨_, rfl⟩
  have HB1 := hid (show Below w.heap.size w w1 by rw [← hw1]; exact b0 _)
  have hz1 : w.heap.size < w1.heap.size := by rw [← hw1]; simp only [World.size_alloc]; omega
  have hc1 := blk_cells2 (heap_new1 w (.cells #[.string x, .string y] 45))
  rw [hw1] at hc1
  obtain ⟨C, HC⟩ : ∃ C : World → Prop, Hid (∀ w', C w' ↔ Below w1.heap.size w1 w') := ⟨_, hid fun _ => Iff.rfl⟩
  have HCC := hid (fun (W : World) (hW : C W) => show W.cell? ⟨w.heap.size, 0, none⟩ = some (.string x) ∧ W.cell? ⟨w.heap.size, 1, none⟩ = some (.string y) ∧ W.cell? ⟨4, 0, none⟩ = some (.iface t1 (.pointer (some a1))) ∧ W.cell? ⟨5, 0, none⟩ = some (.iface t2 (.pointer (some a2))) from by
    have hW' := (HC.out W).1 hW
    exact ⟨cell_below hc1.1 hz1 hW', cell_below hc1.2 hz1 hW', cell_below (cell_below k1 g1 HB1.out) (Nat.lt_of_lt_of_le g1 HB1.out.size) hW', cell_below (cell_below k2 g2 HB1.out) (Nat.lt_of_lt_of_le g2 HB1.out.size) hW'⟩)
  have HCB := hid (fun (W W' : World) (hW : C W) (hb : Below W.heap.size W W') => show C W' from (HC.out W').2 (((HC.out W).1 hW).trans (hb.mono ((HC.out W).1 hW).size)))
  have HHN := hid (fun (W : World) (hW : C W) => hasName_any A n cap zs x W hn ((ha.below HB1.out).below ((HC.out W).1 hW)))
  have HTV := hid (fun (W : World) => typeValidI_any y W hy)
  obtain ⟨n1, hn1⟩ : ∃ b, hasNm zs x = b := ⟨_, rfl⟩
  obtain ⟨n2, hn2⟩ : ∃ b, (tyOf y.data.toList).isSome = b := ⟨_, rfl⟩
  rw [hn1] at HHN
  rw [hn2] at HTV
  have HBH := hid (show ndOk zs (x, y) = (n1 && (decide (y.size ≤ 20) && n2)) by show (hasNm zs x && (decide (y.size ≤ 20) && (tyOf y.data.toList).isSome)) = _; rw [hn1, hn2])
  have HW1 := hid hw1
  have HC1 := hid ((HC.out w1.drew).2 (Below.refl _ _).drew)
  clear hc1 hn1 hn2 hw1 k1 k2 ha
  obtain ⟨n3, hn3⟩ : ∃ b, decide (y.size ≤ 20) = b := ⟨_, rfl⟩
  rw [hn3] at HBH
  have hle : decide ((y.size : Int) ≤ 20) = n3 := by rw [← hn3, decide_eq_decide]; omega
  clear hn3
  rcases n3 with _ | _
  all_goals
    go_enter Tryd.func57, Tryd.ntmps57
    go_wp2_with fail
    rw [HW1.out]
    refine wp_region_loose (C := C) 17 (by kernel_rfl) (by kernel_rfl) HC1.out ?_
    simp only [List.take_succ_cons, List.take_zero]
    refine walk_by fun W hnil hval hcall hany hskip => ?_
    iterate 17 (first
      | (refine hskip _ _ _ _ (fun _ => by rfl) ?_
         simp only [Act.put, List.setIfInBounds_toArray, List.set_cons_zero, List.set_cons_succ])
      | (refine hval _ _ _ _ (fun _ => by rfl) ⟨_, fun q hq w' hw' => by
           obtain ⟨x0, x1, x2, x3⟩ := HCC.out w' hw'
           first | (go_simp; done) | (go_simp; rfl), ?_⟩
         simp only [Act.put, List.setIfInBounds_toArray, List.set_cons_zero, List.set_cons_succ])
      | (refine hcall _ _ _ _ (fun _ => by rfl) ⟨50, _, _, fun q hq w' hw' => ⟨by first | (go_simp; done) | (go_simp; rfl), (HHN.out w' hw').mono fun e w'' h => ⟨h.1, HCB.out _ _ hw' h.2⟩⟩, ?_⟩
         simp only [Act.put, List.setIfInBounds_toArray, List.set_cons_zero, List.set_cons_succ])
      | (refine hcall _ _ _ _ (fun _ => by rfl) ⟨37, _, _, fun q hq w' hw' => ⟨by first | (go_simp; done) | (go_simp; rfl), (HTV.out w').mono fun e w'' h => ⟨h.1, HCB.out _ _ hw' h.2⟩⟩, ?_⟩
         simp only [Act.put, List.setIfInBounds_toArray, List.set_cons_zero, List.set_cons_succ])
      | (refine hcall _ _ _ _ (fun _ => by rfl) ⟨58, _, _, fun q hq w' hw' => by
           refine ⟨by (go_simp; rfl), ?_⟩
           exact (unlessV _ _ w').mono fun e w'' h => ⟨h.1, by rw [h.2]; exact hw'⟩, ?_⟩
         simp only [Act.put, List.setIfInBounds_toArray, List.set_cons_zero, List.set_cons_succ]))
    refine hnil _ _ ?_
    intro q hq w' hw'
    simp only [List.drop_succ_cons, List.drop_zero]
    have hb' := (HC.out w').1 hw'
    clear hnil hval hcall hany hskip
    rcases n1 with _ | _ <;> rcases n2 with _ | _
    all_goals
      simp only [errIf]
      go_wp2_with (first
        | (go_at_call 48
           refine (joinNew2 _ _ _ _ _ (by first | exact IsErr.nil | exact IsErr.some _ _) (by first | exact IsErr.nil | exact IsErr.some _ _)).mono ?_
           rintro e w5 ⟨⟨v5, rfl, hv5⟩, b5⟩)
        | fail)
      go_ret
      rw [HBH.out]
      exact ⟨⟨v5, rfl, hv5⟩, HB1.out.trans ((hb'.trans (b5.mono hb'.size)).mono HB1.out.size)⟩

end Go.Proofs.YtgbbobjkhpplkaaDoor

namespace Go.Proofs.YtgbbobjkhpplkaaDoor
open Go.RowKit

/-- The errors of chapter 3 that checks tell. -/
structure WErrs (w : World) : Prop where
  count : ErrAt w 0
  name : ErrAt w 2
  supers : ErrAt w 3
  clas : ErrAt w 4
  type : ErrAt w 5
  head : ErrAt w 1
  vars : ErrAt w 6
theorem WErrs.below {w w' : World} (h : WErrs w) (hb : Below w.heap.size w w') : WErrs w' := ⟨h.count.below hb, h.name.below hb, h.supers.below hb, h.clas.below hb, h.type.below hb, h.head.below hb, h.vars.below hb⟩

theorem join3_any (v1 v2 v3 : Value) (b1 b2 b3 : Bool) (h1 : IsErr v1 b1) (h2 : IsErr v2 b2) (h3 : IsErr v3 b3) (g cap : Nat) (w : World) (c1 : w.cell? ⟨g, 0, none⟩ = some v1) (c2 : w.cell? ⟨g, 1, none⟩ = some v2) (c3 : w.cell? ⟨g, 2, none⟩ = some v3) (hg : g < w.heap.size) :
    Calls Tryd.prog 48 #[.slice (some ⟨g, 0, none⟩) 3 cap] w fun e w' => (∃ v, e = .returned v ∧ IsErr v (b1 || (b2 || b3))) ∧ Below w.heap.size w w' := by
  have h := join_any g 0 3 cap [(v1, b1), (v2, b2), (v3, b3)] w rfl (by omega) (fun p hp => by
    simp only [List.mem_cons, List.not_mem_nil, or_false] at hp
    rcases hp with rfl | rfl | rfl
    · exact h1
    · exact h2
    · exact h3) (fun j p hj => by
    have hjl := (List.getElem?_eq_some_iff.1 hj).1
    simp only [List.length_cons, List.length_nil] at hjl
    have : j = 0 ∨ j = 1 ∨ j = 2 := by omega
    rcases this with rfl | rfl | rfl
    · simp at hj; subst hj; exact c1
    · simp at hj; subst hj; exact c2
    · simp at hj; subst hj; exact c3) hg
  have e : ([(v1, b1), (v2, b2), (v3, b3)].any fun p => p.2) = (b1 || (b2 || b3)) := by simp
  rw [e] at h
  exact h
theorem joinNew3 (W : World) (v1 v2 v3 : Value) (b1 b2 b3 : Bool) (h1 : IsErr v1 b1) (h2 : IsErr v2 b2) (h3 : IsErr v3 b3) :
    Calls Tryd.prog 48 #[.slice (some ⟨W.heap.size, 0, none⟩) 3 3] (W.alloc (.cells #[v1, v2, v3] 70)) fun e w' => (∃ v, e = .returned v ∧ IsErr v (b1 || (b2 || b3))) ∧ Below W.heap.size W w' := by
  have hc := heap_new1 W (.cells #[v1, v2, v3] 70)
  refine (join3_any v1 v2 v3 b1 b2 b3 h1 h2 h3 W.heap.size 3 _ (cell_blk hc rfl) (cell_blk hc rfl) (cell_blk hc rfl) (by simp only [World.size_alloc]; omega)).mono fun e w' h => ⟨h.1, ((Below.refl _ _).alloc (Nat.le_refl _) _).trans (h.2.mono (by simp only [World.size_alloc]; omega))⟩

theorem IsErr.form {v : Value} {b : Bool} (h : IsErr v b) : v = .nilIface ∨ ∃ t a, v = .iface t (.pointer (Option.some a)) := by
  rcases h with ⟨_, h⟩ | ⟨_, h⟩
  · exact .inl h
  · exact .inr h
/-- What holds for each need of an instance of a type. -/
def needOk (zs : List (ByteArray × ByteArray)) (t : ByteArray) (n : ByteArray × ByteArray) : Bool := ndOk zs n && inB (varsOf n.2.data.toList) (varsOf t.data.toList)
theorem all_snoc {α : Type} {l : List α} {k : Nat} {z : α} {p : α → Bool} (h : l[k]? = some z) : (l.take (k + 1)).all p = ((l.take k).all p && p z) := by
  rw [List.take_add_one, h, List.all_append]
  simp

set_option maxHeartbeats 8000000 in
set_option maxRecDepth 100000 in
theorem checkNeeds_any (x t : ByteArray) (B : Option Addr) (m c : Nat) (ns : List (ByteArray × ByteArray)) (A : Option Addr) (n cap : Nat) (zs : List (ByteArray × ByteArray)) (w : World) (ht : t.size ≤ maxLen) (hm : m ≤ maxLen) (hb : Prs w B m ns) (hnz : ∀ z ∈ ns, z.1.size ≤ maxLen ∧ z.2.size ≤ maxLen) (hn : n ≤ maxLen) (ha : Prs w A n zs) (he : WErrs w) :
    Calls Tryd.prog 59 #[.agg #[.string x, .string t, .slice B m c], .slice A n cap] w fun e w' => (∃ v, e = .returned v ∧ IsErr v (!(decide (ns.length ≤ 3) && ns.all (needOk zs t)))) ∧ Below w.heap.size w w' := by
  have b0 : ∀ o, Below w.heap.size w (w.alloc o) := fun o => (Below.refl _ _).alloc (Nat.le_refl _) o
  obtain ⟨t0, a0, k0, g0⟩ := he.count
  obtain ⟨t1, a1, k1, g1⟩ := he.vars
  have HA := hid ha
  have HB := hid hb
  have HN := hid hnz
  have HE := hid he
  have hlen := hb.1
  have HC0 := hid (show (w.alloc (.cells #[.string x, .string t, .slice B m c] 63)).heap[w.heap.size]? = some (.cells #[.string x, .string t, .slice B m c] 63 (0, 0)) from heap_new1 w _)
  have HK0 := hid (fun (W : World) (hW : Below w.heap.size w W) => cell_below k0 g0 hW)
  have HK1 := hid (fun (W : World) (hW : Below w.heap.size w W) => cell_below k1 g1 hW)
  clear ha hb hnz he k0 k1
  unfold maxLen at hm
  by_cases h3 : m ≤ 3
  · have HL3 := hid (show decide (ns.length ≤ 3) = true from decide_eq_true (by omega))
    have HLEN := hid hlen
    clear hlen
    have h3i : ¬ (3 : Int) < (m : Int) := by omega
    go_enter Tryd.func59, Tryd.ntmps59
    go_wp2_with fail
    go_loopw [5, 16] (fun v i wr => ∃ k : Nat, k ≤ m ∧ i = .int .i64 k ∧ IsErr v (!((ns.take k).all (needOk zs t))) ∧ Below w.heap.size w wr ∧ w.heap.size < wr.heap.size ∧ wr.heap[w.heap.size]? = some (.cells #[.string x, .string t, .slice B m c] 63 (0, 0))) (fun _ i _ => m - (intOf i).toNat)
    case atStart => exact ⟨0, Nat.zero_le _, rfl, IsErr.nil, b0 _, by simp only [World.size_alloc]; omega, HC0.out⟩
    case round =>
      obtain ⟨k, hk, rfl, hv, hbel, hsz, hblk⟩ := hrel
      have HBLK := hid hblk
      have HV := hid hv
      clear hblk hv
      by_cases hlt : k < m
      · obtain ⟨g, o, rfl, hg, hca⟩ := HB.out.2 (by omega)
        have hx : ns[k]? = some (ns[k]'(by have := HLEN.out; omega)) := List.getElem?_eq_getElem _
        obtain ⟨ca, cb⟩ := hca k _ hx
        have hs := HN.out _ (List.mem_of_getElem? hx)
        obtain ⟨⟨p, u⟩, ex⟩ : ∃ z, ns[k]'(by have := HLEN.out; omega) = z := ⟨_, rfl⟩
        rw [ex] at ca cb hx hs
        have HX := hid (all_snoc (p := needOk zs t) hx)
        have ca' := cell_below ca hg hbel
        have cb' := cell_below cb hg hbel
        clear hca hx ex ca cb
        have i1 : (0 : Int) ≤ (k : Int) := by omega
        have i2 : (k : Int) < (m : Int) := by omega
        have hsu : u.size ≤ maxLen := hs.2
        clear hs
        obtain ⟨C, HC⟩ : ∃ C : World → Prop, Hid (∀ w', C w' ↔ (Below (wr.heap.size + 1) (wr.alloc (.cells #[.string p, .string u] 45)) w')) := ⟨_, hid fun _ => Iff.rfl⟩
        have HWR := hid (fun (W : World) (hW : C W) => show Below w.heap.size w W from by
          have h := (HC.out W).1 hW
          exact hbel.trans ((((Below.refl wr.heap.size wr).alloc (Nat.le_refl _) _).trans (h.mono (by omega))).mono hbel.size))
        have HCC := hid (fun (W : World) (hW : C W) => show W.cell? ⟨wr.heap.size, 0, none⟩ = some (.string p) ∧ W.cell? ⟨wr.heap.size, 1, none⟩ = some (.string u) ∧ W.cell? ⟨w.heap.size, 1, none⟩ = some (.string t) ∧ W.cell? ⟨6, 0, none⟩ = some (.iface t1 (.pointer (some a1))) from by
          have h := (HC.out W).1 hW
          have hc := blk_cells2 (heap_new1 wr (.cells #[.string p, .string u] 45))
          refine ⟨?_, ?_, ?_, HK1.out W (HWR.out W hW)⟩
          · exact cell_below hc.1 (by simp only [World.size_alloc]; omega) (by simpa only [World.size_alloc] using h)
          · exact cell_below hc.2 (by simp only [World.size_alloc]; omega) (by simpa only [World.size_alloc] using h)
          · exact cell_below (cell_blk HBLK.out (j := 1) rfl) hsz (((Below.refl wr.heap.size wr).alloc (Nat.le_refl _) _).trans (h.mono (by omega))))
        have HCB := hid (fun (W W' : World) (hW : C W) (hb : Below W.heap.size W W') => show C W' from (HC.out W').2 (((HC.out W).1 hW).trans (hb.mono (by have := ((HC.out W).1 hW).size; simpa only [World.size_alloc] using this))))
        have HCP := hid (fun (W : World) (hW : C W) => checkPlace_any p u A n cap zs W hsu hn (HA.out.below (HWR.out W hW)) (HE.out.below (HWR.out W hW)).clas (HE.out.below (HWR.out W hW)).type)
        have HV1 := hid (varsI_any u hsu)
        have HV2 := hid (varsI_any t ht)
        obtain ⟨s1, hs1⟩ : ∃ s, strOf (varsOf u.data.toList) = s := ⟨_, rfl⟩
        obtain ⟨s2, hs2⟩ : ∃ s, strOf (varsOf t.data.toList) = s := ⟨_, rfl⟩
        have hs1' : s1.data.toList = varsOf u.data.toList := by rw [← hs1]; rfl
        have hs2' : s2.data.toList = varsOf t.data.toList := by rw [← hs2]; rfl
        rw [hs1] at HV1
        rw [hs2] at HV2
        have hsz1 : s1.size ≤ maxLen := by
          have e : s1.size = s1.data.toList.length := by simp
          rw [e, hs1']
          have : (varsOf u.data.toList).length ≤ 6 := by
            unfold varsOf
            split
            · exact varsIn_len _ _
            · exact Nat.zero_le _
          unfold maxLen
          omega
        have HSI := hid (standIn_any s1 s2 hsz1)
        obtain ⟨n2, hn2⟩ : ∃ b, inB s1.data.toList s2.data.toList = b := ⟨_, rfl⟩
        rw [hn2] at HSI
        obtain ⟨n1, hn1⟩ : ∃ b, ndOk zs (p, u) = b := ⟨_, rfl⟩
        rw [hn1] at HCP
        have HOK := hid (show needOk zs t (p, u) = (n1 && n2) by show (ndOk zs (p, u) && inB (varsOf u.data.toList) (varsOf t.data.toList)) = _; rw [hn1, ← hs1', ← hs2', hn2])
        have HC1 := hid ((HC.out (wr.alloc (.cells #[.string p, .string u] 45)).drew).2 (Below.refl _ _).drew)
        clear hs1 hs2 hs1' hs2' hsz1 hn1 hn2
        go_wp2_with fail
        refine wp_region_loose (C := C) 14 (by kernel_rfl) (by kernel_rfl) HC1.out ?_
        simp only [List.take_succ_cons, List.take_zero]
        refine walk_by fun W hnil hval hcall hany hskip => ?_
        iterate 14 (first
          | (refine hval _ _ _ _ (fun _ => by rfl) ⟨_, fun q hq w' hw' => by
               obtain ⟨x0, x1, x2, x3⟩ := HCC.out w' hw'
               first | (go_simp; done) | (go_simp; rfl), ?_⟩
             simp only [Act.put, List.setIfInBounds_toArray, List.set_cons_zero, List.set_cons_succ])
          | (refine hany _ _ _ _ (fun _ => by rfl) ⟨57, _, fun v => IsErr v (!n1), fun q hq w' hw' => ⟨by first | (go_simp; done) | (go_simp; rfl), (HCP.out w' hw').mono fun e w'' h => ⟨h.1.choose, h.1.choose_spec.1, h.1.choose_spec.2, HCB.out _ _ hw' h.2⟩⟩, ?_⟩
             simp only [Act.put, List.setIfInBounds_toArray, List.set_cons_zero, List.set_cons_succ])
          | (refine hcall _ _ _ _ (fun _ => by rfl) ⟨68, _, _, fun q hq w' hw' => ⟨by first | (go_simp; done) | (go_simp; rfl), (HV1.out w').mono fun e w'' h => ⟨h.1, HCB.out _ _ hw' h.2⟩⟩, ?_⟩
             simp only [Act.put, List.setIfInBounds_toArray, List.set_cons_zero, List.set_cons_succ])
          | (refine hcall _ _ _ _ (fun _ => by rfl) ⟨68, _, _, fun q hq w' hw' => ⟨by first | (go_simp; done) | (go_simp; rfl), (HV2.out w').mono fun e w'' h => ⟨h.1, HCB.out _ _ hw' h.2⟩⟩, ?_⟩
             simp only [Act.put, List.setIfInBounds_toArray, List.set_cons_zero, List.set_cons_succ])
          | (refine hcall _ _ _ _ (fun _ => by rfl) ⟨67, _, _, fun q hq w' hw' => ⟨by first | (go_simp; done) | (go_simp; rfl), (HSI.out w').mono fun e w'' h => ⟨h.1, by rw [h.2]; exact hw'⟩⟩, ?_⟩
             simp only [Act.put, List.setIfInBounds_toArray, List.set_cons_zero, List.set_cons_succ])
          | (refine hcall _ _ _ _ (fun _ => by rfl) ⟨58, _, _, fun q hq w' hw' => by
               refine ⟨by (go_simp; rfl), ?_⟩
               exact (unlessV _ _ w').mono fun e w'' h => ⟨h.1, by rw [h.2]; exact hw'⟩, ?_⟩
             simp only [Act.put, List.setIfInBounds_toArray, List.set_cons_zero, List.set_cons_succ]))
        refine hnil _ _ ?_
        intro q hq w' hw'
        simp only [List.drop_succ_cons, List.drop_zero]
        have hb' := HWR.out w' hw'
        have HBLK2 := hid ((((HC.out w').1 hw').block w.heap.size (by omega)).trans ((Below.heap_alloc _ _ _ hsz).trans HBLK.out))
        obtain ⟨hq1, _⟩ := hq
        clear hnil hval hcall hany hskip HCC HCB HCP HV1 HV2 HSI HWR HC HC1
        obtain ⟨v2, hv2⟩ : ∃ v, q.headD undef = v := ⟨_, rfl⟩
        rw [hv2] at hq1 ⊢
        have HQ := hid hq1
        have H5 : Hid (IsErr (errIf n2 (.iface t1 (.pointer (some a1)))) (!n2)) := hid (errIf_is (IsErr.some t1 a1) n2)
        obtain ⟨v3, hv3⟩ : ∃ v, errIf n2 (.iface t1 (.pointer (some a1))) = v := ⟨_, rfl⟩
        rw [hv3] at H5 ⊢
        clear hq1 hv2 hv3
        have hz' := hb'.size
        rcases HV.out.form with rfl | ⟨T1, P1, rfl⟩ <;> rcases HQ.out.form with rfl | ⟨T2, P2, rfl⟩ <;> rcases H5.out.form with rfl | ⟨T3, P3, rfl⟩
        all_goals
          go_wp2_with (first
            | (go_at_call 48
               refine (joinNew3 _ _ _ _ _ _ _ HV.out HQ.out H5.out).mono ?_
               rintro e w5 ⟨⟨v5, rfl, hv5⟩, b5⟩
               have HV5 := hid hv5
               clear hv5)
            | fail)
          go_roundw
          case rel => exact ⟨k + 1, hlt, by go_num, by rw [HX.out, HOK.out, Bool.not_and, Bool.not_and]; exact HV5.out, hb'.trans (b5.mono hz'), Nat.lt_of_lt_of_le (Nat.lt_of_lt_of_le (Array.getElem?_eq_some_iff.1 HBLK2.out).1 (Nat.le_refl _)) b5.size, (b5.block _ (Array.getElem?_eq_some_iff.1 HBLK2.out).1).trans HBLK2.out⟩
          case measure => simp [intOf]; omega
      · have HALL := hid (show (ns.take k).all (needOk zs t) = ns.all (needOk zs t) by rw [List.take_of_length_le (by have := HLEN.out; omega)])
        go_wp2_with fail
        go_ret
        rw [HL3.out, Bool.true_and, ← HALL.out]
        exact ⟨⟨_, rfl, HV.out⟩, hbel⟩
  · have HL3 := hid (show decide (ns.length ≤ 3) = false from decide_eq_false (by omega))
    clear hlen
    have h3i : (3 : Int) < (m : Int) := by omega
    have h0 := HK0.out _ (b0 (.cells #[.string x, .string t, .slice B m c] 63))
    go_enter Tryd.func59, Tryd.ntmps59
    go_wp2_with fail
    go_ret
    rw [HL3.out, Bool.false_and]
    exact ⟨⟨_, rfl, IsErr.some _ _⟩, b0 _⟩

end Go.Proofs.YtgbbobjkhpplkaaDoor

namespace Go.Proofs.YtgbbobjkhpplkaaDoor
open Go.RowKit

theorem insOk_needs (zs : List (ByteArray × ByteArray)) (x t : ByteArray) (ns : List (ByteArray × ByteArray)) : insOk zs ⟨x, t, ns⟩ = (ndOk zs (x, t) && (!bareB t && (decide (ns.length ≤ 3) && ns.all (needOk zs t)))) := rfl
theorem bareB_var {t : ByteArray} {c : UInt8} (h : t.data.toList = [c]) : bareB t = isVarB c := by unfold bareB; rw [h]
theorem bareB_not {t : ByteArray} (h : ∀ c, t.data.toList = [c] → isVarB c = true → False) : bareB t = false := by
  unfold bareB
  split
  · rename_i c e
    exact Bool.eq_false_iff.2 fun hv => h c e hv
  · rfl

set_option maxHeartbeats 8000000 in
set_option maxRecDepth 100000 in
theorem check_any (x t : ByteArray) (B : Option Addr) (m c : Nat) (ns : List (ByteArray × ByteArray)) (A : Option Addr) (n cap : Nat) (zs : List (ByteArray × ByteArray)) (w : World) (ht : t.size ≤ maxLen) (hm : m ≤ maxLen) (hb : Prs w B m ns) (hnz : ∀ z ∈ ns, z.1.size ≤ maxLen ∧ z.2.size ≤ maxLen) (hn : n ≤ maxLen) (ha : Prs w A n zs) (he : WErrs w) :
    Calls Tryd.prog 49 #[.agg #[.string x, .string t, .slice B m c], .slice A n cap] w fun e w' => (∃ v, e = .returned v ∧ IsErr v (!insOk zs ⟨x, t, ns⟩)) ∧ Below w.heap.size w w' := by
  have b0 : ∀ o, Below w.heap.size w (w.alloc o) := fun o => (Below.refl _ _).alloc (Nat.le_refl _) o
  obtain ⟨t1, a1, k1, g1⟩ := he.head
  have HA := hid ha
  have HB := hid hb
  have HN := hid hnz
  have HE := hid he
  have HC0 := hid (show (w.alloc (.cells #[.string x, .string t, .slice B m c] 63)).heap[w.heap.size]? = some (.cells #[.string x, .string t, .slice B m c] 63 (0, 0)) from heap_new1 w _)
  have HK1 := hid (fun (W : World) (hW : Below w.heap.size w W) => cell_below k1 g1 hW)
  have q1 := cell_blk HC0.out (j := 1) rfl
  clear ha hb hnz he k1
  go_enter Tryd.func49, Tryd.ntmps49
  go_wp2_with fail
  refine (readVariable_any t ht _).mono ?_
  rintro e w1 ⟨hb1, hv⟩
  have hz1 : w.heap.size < w1.heap.size := by have := hb1.size; simp only [World.size_alloc] at this; omega
  have HB1 := hid ((b0 (.cells #[.string x, .string t, .slice B m c] 63)).trans (hb1.mono (by simp only [World.size_alloc]; omega)))
  have HBLK := hid ((hb1.block w.heap.size (by simp only [World.size_alloc]; omega)).trans HC0.out)
  clear q1 hb1
  obtain ⟨pv, bare, rfl, hbare⟩ : ∃ pv bare, e = .returned (.tuple #[pv, .bool bare]) ∧ bareB t = bare := by
    rcases hv with ⟨h, rfl⟩ | ⟨d, b, h1, h2, rfl, _⟩
    · exact ⟨_, _, rfl, bareB_not h⟩
    · exact ⟨_, _, rfl, by rw [bareB_var h1, h2]⟩
  clear hv
  obtain ⟨C, HC⟩ : ∃ C : World → Prop, Hid (∀ w', C w' ↔ Below w1.heap.size w1 w') := ⟨_, hid fun _ => Iff.rfl⟩
  have HWR := hid (fun (W : World) (hW : C W) => show Below w.heap.size w W from HB1.out.trans (((HC.out W).1 hW).mono HB1.out.size))
  have HCC := hid (fun (W : World) (hW : C W) => show W.cell? ⟨w.heap.size, 0, none⟩ = some (.string x) ∧ W.cell? ⟨w.heap.size, 1, none⟩ = some (.string t) ∧ W.cell? ⟨w.heap.size, 2, none⟩ = some (.slice B m c) ∧ W.cell? ⟨1, 0, none⟩ = some (.iface t1 (.pointer (some a1))) from by
    have hW' := (HC.out W).1 hW
    exact ⟨cell_below (cell_blk HBLK.out (j := 0) rfl) hz1 hW', cell_below (cell_blk HBLK.out (j := 1) rfl) hz1 hW', cell_below (cell_blk HBLK.out (j := 2) rfl) hz1 hW', HK1.out W (HWR.out W hW)⟩)
  have HCB := hid (fun (W W' : World) (hW : C W) (hb : Below W.heap.size W W') => show C W' from (HC.out W').2 (((HC.out W).1 hW).trans (hb.mono ((HC.out W).1 hW).size)))
  have HCP := hid (fun (W : World) (hW : C W) => checkPlace_any x t A n cap zs W ht hn (HA.out.below (HWR.out W hW)) (HE.out.below (HWR.out W hW)).clas (HE.out.below (HWR.out W hW)).type)
  have HCN := hid (fun (W : World) (hW : C W) => checkNeeds_any x t B m c ns A n cap zs W ht hm (HB.out.below (HWR.out W hW)) HN.out hn (HA.out.below (HWR.out W hW)) (HE.out.below (HWR.out W hW)))
  obtain ⟨n1, hn1⟩ : ∃ b, ndOk zs (x, t) = b := ⟨_, rfl⟩
  obtain ⟨n2, hn2⟩ : ∃ b, (decide (ns.length ≤ 3) && ns.all (needOk zs t)) = b := ⟨_, rfl⟩
  rw [hn1] at HCP
  rw [hn2] at HCN
  have HOK := hid (show insOk zs ⟨x, t, ns⟩ = (n1 && (!bare && n2)) by rw [insOk_needs, hn1, hn2, hbare])
  have HC1 := hid ((HC.out w1.drew).2 (Below.refl _ _).drew)
  clear hn1 hn2 hbare
  go_wp2_with fail
  refine wp_region_loose (C := C) 11 (by kernel_rfl) (by kernel_rfl) HC1.out ?_
  simp only [List.take_succ_cons, List.take_zero]
  refine walk_by fun W hnil hval hcall hany hskip => ?_
  iterate 11 (first
    | (refine hval _ _ _ _ (fun _ => by rfl) ⟨_, fun q hq w' hw' => by
         obtain ⟨x0, x1, x2, x3⟩ := HCC.out w' hw'
         first | (go_simp; done) | (go_simp; rfl), ?_⟩
       simp only [Act.put, List.setIfInBounds_toArray, List.set_cons_zero, List.set_cons_succ])
    | (refine hany _ _ _ _ (fun _ => by rfl) ⟨57, _, fun v => IsErr v (!n1), fun q hq w' hw' => ⟨by first | (go_simp; done) | (go_simp; rfl), (HCP.out w' hw').mono fun e w'' h => ⟨h.1.choose, h.1.choose_spec.1, h.1.choose_spec.2, HCB.out _ _ hw' h.2⟩⟩, ?_⟩
       simp only [Act.put, List.setIfInBounds_toArray, List.set_cons_zero, List.set_cons_succ])
    | (refine hany _ _ _ _ (fun _ => by rfl) ⟨59, _, fun v => IsErr v (!n2), fun q hq w' hw' => ⟨by first | (go_simp; done) | (go_simp; rfl), (HCN.out w' hw').mono fun e w'' h => ⟨h.1.choose, h.1.choose_spec.1, h.1.choose_spec.2, HCB.out _ _ hw' h.2⟩⟩, ?_⟩
       simp only [Act.put, List.setIfInBounds_toArray, List.set_cons_zero, List.set_cons_succ])
    | (refine hcall _ _ _ _ (fun _ => by rfl) ⟨58, _, _, fun q hq w' hw' => by
         refine ⟨by (go_simp; rfl), ?_⟩
         exact (unlessV _ _ w').mono fun e w'' h => ⟨h.1, by rw [h.2]; exact hw'⟩, ?_⟩
       simp only [Act.put, List.setIfInBounds_toArray, List.set_cons_zero, List.set_cons_succ]))
  refine hnil _ _ ?_
  intro q hq w' hw'
  simp only [List.drop_succ_cons, List.drop_zero]
  have hb' := HWR.out w' hw'
  obtain ⟨hq1, hq2, _⟩ := hq
  clear hnil hval hcall hany hskip HCC HCB HCP HCN HWR HC HC1
  obtain ⟨v2, hv2⟩ : ∃ v, q.headD undef = v := ⟨_, rfl⟩
  obtain ⟨v1, hv1⟩ : ∃ v, q.tail.headD undef = v := ⟨_, rfl⟩
  rw [hv2] at hq1 ⊢
  rw [hv1] at hq2 ⊢
  have HQ := hid hq1
  have HP := hid hq2
  have H5 : Hid (IsErr (errIf (!bare) (.iface t1 (.pointer (some a1)))) (!!bare)) := hid (errIf_is (IsErr.some t1 a1) (!bare))
  obtain ⟨v3, hv3⟩ : ∃ v, errIf (!bare) (.iface t1 (.pointer (some a1))) = v := ⟨_, rfl⟩
  rw [hv3] at H5 ⊢
  clear hq1 hq2 hv2 hv3 hv1
  have hz' := hb'.size
  rcases HP.out.form with rfl | ⟨T1, P1, rfl⟩ <;> rcases HQ.out.form with rfl | ⟨T2, P2, rfl⟩ <;> rcases H5.out.form with rfl | ⟨T3, P3, rfl⟩
  all_goals
    go_wp2_with (first
      | (go_at_call 48
         refine (joinNew3 _ _ _ _ _ _ _ HP.out H5.out HQ.out).mono ?_
         rintro e w5 ⟨⟨v5, rfl, hv5⟩, b5⟩
         have HV5 := hid hv5
         clear hv5)
      | fail)
    go_ret
    exact ⟨⟨_, rfl, by rw [HOK.out, Bool.not_and, Bool.not_and]; exact HV5.out⟩, hb'.trans (b5.mono hz')⟩

set_option maxHeartbeats 8000000 in
set_option maxRecDepth 100000 in
theorem checkClasses_any (A : Option Addr) (n cap : Nat) (zs : List (ByteArray × ByteArray)) (B : Option Addr) (m cap' : Nat) (w : World) (hn : n ≤ maxLen) (ha : Prs w A n zs) (ht : tot zs ≤ 1048576) (he : WErrs w) :
    Calls Tryd.prog 47 #[.agg #[.slice A n cap, .slice B m cap']] w fun e w' => (∃ v, e = .returned v ∧ IsErr v (!clsOf zs)) ∧ Below w.heap.size w w' := by
  have b0 : ∀ o, Below w.heap.size w (w.alloc o) := fun o => (Below.refl _ _).alloc (Nat.le_refl _) o
  obtain ⟨t0, a0, k0, g0⟩ := he.count
  have HA := hid ha
  have HE := hid he
  have hlen := ha.1
  have HK0 := hid (fun (W : World) (hW : Below w.heap.size w W) => cell_below k0 g0 hW)
  clear ha he k0
  unfold maxLen at hn
  by_cases h14 : 1 ≤ n ∧ n ≤ 4
  · obtain ⟨h1, h4⟩ := h14
    have HCL := hid (show clsOf zs = clsGo [] zs by unfold clsOf; rw [hlen, decide_eq_true h1, decide_eq_true h4]; rfl)
    have HLEN := hid hlen
    clear hlen
    have h1i : ((n : Int) == 0) = false := by simp; omega
    have h4i : ¬ (4 : Int) < (n : Int) := by omega
    go_enter Tryd.func47, Tryd.ntmps47
    go_wp2_with fail
    go_loopw [3, 4, 21] (fun v s i wr => ∃ k : Nat, k ≤ n ∧ i = .int .i64 k ∧ (∃ sb : ByteArray, s = .string sb ∧ sb.data.toList = nmsL (zs.take k)) ∧ IsErr v (!clsGo [] (zs.take k)) ∧ Below w.heap.size w wr) (fun _ _ i _ => n - (intOf i).toNat)
    case atStart => exact ⟨0, Nat.zero_le _, rfl, ⟨_, rfl, rfl⟩, IsErr.nil, b0 _⟩
    case round =>
      obtain ⟨k, hk, rfl, ⟨sb, rfl, hsb⟩, hv, hbel⟩ := hrel
      have HV := hid hv
      have HS := hid hsb
      clear hv hsb
      by_cases hlt : k < n
      · obtain ⟨g, o, rfl, hg, hca⟩ := HA.out.2 (by omega)
        have hx : zs[k]? = some (zs[k]'(by have := HLEN.out; omega)) := List.getElem?_eq_getElem _
        obtain ⟨ca, cb⟩ := hca k _ hx
        obtain ⟨⟨p, u⟩, ex⟩ : ∃ z, zs[k]'(by have := HLEN.out; omega) = z := ⟨_, rfl⟩
        rw [ex] at ca cb hx
        have HX := hid (clsGo_snoc hx)
        have HNM := hid (nmsL_snoc hx)
        have ca' := cell_below ca hg hbel
        have cb' := cell_below cb hg hbel
        have hmem := tot_mem (List.mem_of_getElem? hx)
        have hnl := nmsL_len (zs.take k)
        have htk := tot_take_le zs k
        have hsz : sb.size ≤ 1048576 := by
          have e : sb.size = sb.data.toList.length := by simp
          rw [e, HS.out]; omega
        simp only at hmem
        clear hca hx ex ca cb hnl htk
        have i1 : (0 : Int) ≤ (k : Int) := by omega
        have i2 : (k : Int) < (n : Int) := by omega
        have hcat : ¬ 9223372036854775807 < sb.size + p.size := by omega
        have hp : p.size ≤ 1048576 := by omega
        have hu : u.size ≤ 1048576 := by omega
        have hb1 : Below w.heap.size w (wr.alloc (.cells #[.string p, .string u] 66)) := hbel.alloc hbel.size _
        have HE1 := hid (HE.out.below hb1)
        go_wp2_with fail
        refine (checkBehind_any p u sb _ hp hu (by omega) HE1.out.name HE1.out.supers).mono ?_
        rintro e w1 ⟨⟨v1, rfl, hv1⟩, c1⟩
        have HV1 := hid hv1
        have HB1 := hid (hb1.trans (c1.mono hb1.size))
        have hc1 := (blk_cells2 ((c1.block wr.heap.size (by simp only [World.size_alloc]; omega)).trans (heap_new1 wr (.cells #[.string p, .string u] 66)))).1
        have hzw : wr.heap.size < w1.heap.size := by have := c1.size; simp only [World.size_alloc] at this; omega
        clear hv1 c1
        rcases HV.out.form with rfl | ⟨T1, P1, rfl⟩ <;> rcases HV1.out.form with rfl | ⟨T2, P2, rfl⟩
        all_goals
          go_wp2_with (first
            | (go_at_call 48
               refine (joinNew2 _ _ _ _ _ HV.out HV1.out).mono ?_
               rintro e w5 ⟨⟨v5, rfl, hv5⟩, b5⟩
               have HV5 := hid hv5
               have hc5 := cell_below hc1 hzw b5
               clear hv5)
            | fail)
          go_roundw
          case rel => exact ⟨k + 1, hlt, by go_num, ⟨_, rfl, by rw [ByteArray.data_append, Array.toList_append, HS.out, HNM.out]⟩, by rw [HX.out, Bool.not_and, ← HS.out]; exact HV5.out, HB1.out.trans (b5.mono HB1.out.size)⟩
          case measure => simp [intOf]; omega
      · have HALL := hid (show clsGo [] (zs.take k) = clsGo [] zs by rw [List.take_of_length_le (by have := HLEN.out; omega)])
        go_wp2_with fail
        go_ret
        rw [HCL.out, ← HALL.out]
        exact ⟨⟨_, rfl, HV.out⟩, hbel⟩
  · have HCL := hid (show clsOf zs = false by
      unfold clsOf
      rw [hlen]
      by_cases h1 : 1 ≤ n
      · rw [decide_eq_false (show ¬ n ≤ 4 from fun h => h14 ⟨h1, h⟩), Bool.and_false]; rfl
      · rw [decide_eq_false h1]; rfl)
    clear hlen
    have h0 := HK0.out _ (b0 (.cells #[.slice A n cap, .slice B m cap'] 33))
    by_cases h1 : n = 0
    · subst h1
      clear h14
      go_enter Tryd.func47, Tryd.ntmps47
      go_wp2_with fail
      go_ret
      rw [HCL.out]
      exact ⟨⟨_, rfl, IsErr.some _ _⟩, b0 _⟩
    · have h1i : ((n : Int) == 0) = false := by simp; omega
      have h4i : (4 : Int) < (n : Int) := by omega
      clear h14 h1
      go_enter Tryd.func47, Tryd.ntmps47
      go_wp2_with fail
      go_ret
      rw [HCL.out]
      exact ⟨⟨_, rfl, IsErr.some _ _⟩, b0 _⟩

end Go.Proofs.YtgbbobjkhpplkaaDoor

namespace Go.Proofs.YtgbbobjkhpplkaaDoor
open Go.RowKit

set_option maxHeartbeats 8000000 in
set_option maxRecDepth 100000 in
theorem wcheck_any (A : Option Addr) (n cap : Nat) (zs : List (ByteArray × ByteArray)) (B : Option Addr) (m cap' : Nat) (is : List Ins) (w : World) (hn : n ≤ maxLen) (ha : Prs w A n zs) (_hm : m ≤ maxLen) (hb : Inss w B m is) (hok : ∀ i ∈ is, InsOk i) (ht : tot zs ≤ 1048576) (he : WErrs w) :
    Calls Tryd.prog 34 #[.agg #[.slice A n cap, .slice B m cap']] w fun e w' => (∃ v, e = .returned v ∧ IsErr v (!wdOf zs is)) ∧ Below w.heap.size w w' := by
  have b0 : ∀ o, Below w.heap.size w (w.alloc o) := fun o => (Below.refl _ _).alloc (Nat.le_refl _) o
  obtain ⟨t0, a0, k0, g0⟩ := he.count
  have HA := hid ha
  have HB := hid hb
  have HE := hid he
  have HO := hid hok
  have hlen := hb.1
  have HC0 := hid (show (w.alloc (.cells #[.slice A n cap, .slice B m cap'] 33)).heap[w.heap.size]? = some (.cells #[.slice A n cap, .slice B m cap'] 33 (0, 0)) from heap_new1 w _)
  have HK0 := hid (fun (W : World) (hW : Below w.heap.size w W) => cell_below k0 g0 hW)
  clear ha hb he hok k0
  by_cases h10 : m ≤ 10
  · have HL := hid (show decide (is.length ≤ 10) = true from decide_eq_true (by omega))
    have HLEN := hid hlen
    clear hlen
    have h10i : ¬ (10 : Int) < (m : Int) := by omega
    go_enter Tryd.func34, Tryd.ntmps34
    go_wp2_with fail
    refine (checkClasses_any A n cap zs B m cap' _ hn (HA.out.below (b0 _)) ht (HE.out.below (b0 _))).mono ?_
    rintro e w1 ⟨⟨v1, rfl, hv1⟩, c1⟩
    have HV1 := hid hv1
    have HB1 := hid ((b0 (.cells #[.slice A n cap, .slice B m cap'] 33)).trans (c1.mono (by simp only [World.size_alloc]; omega)))
    have hz1 : w.heap.size < w1.heap.size := by have := c1.size; simp only [World.size_alloc] at this; omega
    have HBLK1 := hid ((c1.block w.heap.size (by simp only [World.size_alloc]; omega)).trans HC0.out)
    have q1 := cell_blk HBLK1.out (j := 1) rfl
    clear hv1 c1
    go_wp2_with fail
    go_loopw [3, 16] (fun v i wr => ∃ k : Nat, k ≤ m ∧ i = .int .i64 k ∧ IsErr v (!(clsOf zs && (is.take k).all (insOk zs))) ∧ Below w.heap.size w wr ∧ w.heap.size < wr.heap.size ∧ wr.heap[w.heap.size]? = some (.cells #[.slice A n cap, .slice B m cap'] 33 (0, 0))) (fun _ i _ => m - (intOf i).toNat)
    case atStart => exact ⟨0, Nat.zero_le _, rfl, by show IsErr v1 (!(clsOf zs && true)); rw [Bool.and_true]; exact HV1.out, HB1.out, hz1, HBLK1.out⟩
    case round =>
      obtain ⟨k, hk, rfl, hv, hbel, hsz, hblk⟩ := hrel
      have HBLK := hid hblk
      have HV := hid hv
      clear hblk hv q1
      by_cases hlt : k < m
      · obtain ⟨g, o, rfl, hg, hca⟩ := HB.out.2 (by omega)
        have hx : is[k]? = some (is[k]'(by have := HLEN.out; omega)) := List.getElem?_eq_getElem _
        obtain ⟨ca, cb, D, l, c3, cc, hl, hp⟩ := hca k _ hx
        have hs := HO.out _ (List.mem_of_getElem? hx)
        obtain ⟨⟨p, u, ns⟩, ex⟩ : ∃ z, is[k]'(by have := HLEN.out; omega) = z := ⟨_, rfl⟩
        rw [ex] at ca cb hx hs hp
        have HX := hid (all_snoc (p := insOk zs) hx)
        have ca' := cell_below ca hg hbel
        have cb' := cell_below cb hg hbel
        have cc' := cell_below cc hg hbel
        have HP := hid hp
        have HS := hid hs.2.2
        have hu : u.size ≤ maxLen := hs.2.1
        clear hca hx ex ca cb cc hp hs
        have i1 : (0 : Int) ≤ (k : Int) := by omega
        have i2 : (k : Int) < (m : Int) := by omega
        have hb1 : Below w.heap.size w (wr.alloc (.cells #[.string p, .string u, .slice D l c3] 63)) := hbel.alloc hbel.size _
        have HB1 := hid hb1
        have q0 := cell_blk ((Below.heap_alloc wr (.cells #[.string p, .string u, .slice D l c3] 63) _ hsz).trans HBLK.out) (j := 0) rfl
        clear hb1
        go_wp2_with fail
        refine (check_any p u D l c3 ns A n cap zs _ hu hl (HP.out.below HB1.out) HS.out hn (HA.out.below HB1.out) (HE.out.below HB1.out)).mono ?_
        rintro e w2 ⟨⟨v2, rfl, hv2⟩, c2⟩
        have HV2 := hid hv2
        have HB2 := hid (HB1.out.trans (c2.mono HB1.out.size))
        have hz2 : w.heap.size < w2.heap.size := by have := c2.size; simp only [World.size_alloc] at this; omega
        have HBLK2 := hid ((c2.block w.heap.size (by simp only [World.size_alloc]; omega)).trans ((Below.heap_alloc wr (.cells #[.string p, .string u, .slice D l c3] 63) _ hsz).trans HBLK.out))
        clear hv2 c2 q0
        rcases HV.out.form with rfl | ⟨T1, P1, rfl⟩ <;> rcases HV2.out.form with rfl | ⟨T2, P2, rfl⟩
        all_goals
          go_wp2_with (first
            | (go_at_call 48
               refine (joinNew2 _ _ _ _ _ HV.out HV2.out).mono ?_
               rintro e w5 ⟨⟨v5, rfl, hv5⟩, b5⟩
               have HV5 := hid hv5
               clear hv5)
            | fail)
          go_roundw
          case rel => exact ⟨k + 1, hlt, by go_num, by rw [HX.out, ← Bool.and_assoc, Bool.not_and]; exact HV5.out, HB2.out.trans (b5.mono HB2.out.size), Nat.lt_of_lt_of_le hz2 b5.size, (b5.block _ hz2).trans HBLK2.out⟩
          case measure => simp [intOf]; omega
      · have HALL := hid (show (is.take k).all (insOk zs) = is.all (insOk zs) by rw [List.take_of_length_le (by have := HLEN.out; omega)])
        go_wp2_with fail
        go_ret
        unfold wdOf
        rw [HL.out, Bool.true_and, ← HALL.out]
        exact ⟨⟨_, rfl, HV.out⟩, hbel⟩
  · have HL := hid (show wdOf zs is = false by unfold wdOf; rw [decide_eq_false (by omega)]; rfl)
    clear hlen
    have h10i : (10 : Int) < (m : Int) := by omega
    have h0 := HK0.out _ (b0 (.cells #[.slice A n cap, .slice B m cap'] 33))
    go_enter Tryd.func34, Tryd.ntmps34
    go_wp2_with fail
    go_ret
    rw [HL.out]
    exact ⟨⟨_, rfl, IsErr.some _ _⟩, b0 _⟩

theorem IsErr.false {v : Value} (h : IsErr v Bool.false) : v = .nilIface := by
  rcases h with ⟨_, h⟩ | ⟨h, _⟩
  · exact h
  · cases h
theorem IsErr.true {v : Value} (h : IsErr v Bool.true) : ∃ t a, v = .iface t (.pointer (Option.some a)) := by
  rcases h with ⟨h, _⟩ | ⟨_, h⟩
  · cases h
  · exact h

set_option maxHeartbeats 1000000 in
set_option maxRecDepth 100000 in
theorem worldValidI_any (A : Option Addr) (n cap : Nat) (zs : List (ByteArray × ByteArray)) (B : Option Addr) (m cap' : Nat) (is : List Ins) (w : World) (hn : n ≤ maxLen) (ha : Prs w A n zs) (hm : m ≤ maxLen) (hb : Inss w B m is) (hok : ∀ i ∈ is, InsOk i) (ht : tot zs ≤ 1048576) (he : WErrs w) :
    Calls Tryd.prog 20 #[.agg #[.slice A n cap, .slice B m cap']] w fun e w' => e = .returned (.bool (wdOf zs is)) ∧ Below w.heap.size w w' := by
  have b0 : ∀ o, Below w.heap.size w (w.alloc o) := fun o => (Below.refl _ _).alloc (Nat.le_refl _) o
  have HC := hid (wcheck_any A n cap zs B m cap' is _ hn (ha.below (b0 (.cells #[.slice A n cap, .slice B m cap'] 33))) hm (hb.below (b0 _)) hok ht (he.below (b0 _)))
  obtain ⟨b, hb'⟩ : ∃ b, wdOf zs is = b := ⟨_, rfl⟩
  rw [hb'] at HC ⊢
  clear ha hb hok he hb'
  go_enter Tryd.func20, Tryd.ntmps20
  go_wp2_with fail
  refine HC.out.mono ?_
  rintro e w1 ⟨⟨v1, rfl, hv1⟩, c1⟩
  cases b
  · obtain ⟨T, P, rfl⟩ := hv1.true
    go_wp2_with fail
    go_ret
    exact ⟨rfl, (b0 _).trans (c1.mono (b0 _).size)⟩
  · obtain rfl := hv1.false
    go_wp2_with fail
    go_ret
    exact ⟨rfl, (b0 _).trans (c1.mono (b0 _).size)⟩

set_option maxHeartbeats 1000000 in
set_option maxRecDepth 100000 in
theorem hasClassI_any (A : Option Addr) (n cap : Nat) (zs : List (ByteArray × ByteArray)) (B : Option Addr) (m cap' : Nat) (is : List Ins) (s : ByteArray) (w : World) (hn : n ≤ maxLen) (ha : Prs w A n zs) (hm : m ≤ maxLen) (hb : Inss w B m is) (hok : ∀ i ∈ is, InsOk i) (ht : tot zs ≤ 1048576) (he : WErrs w) :
    Calls Tryd.prog 36 #[.agg #[.slice A n cap, .slice B m cap'], .string s] w fun e w' => e = .returned (.bool (wdOf zs is && hasNm zs s)) ∧ Below w.heap.size w w' := by
  have b0 : ∀ o, Below w.heap.size w (w.alloc o) := fun o => (Below.refl _ _).alloc (Nat.le_refl _) o
  have HWV := hid (worldValidI_any A n cap zs B m cap' is _ hn (ha.below (b0 (.cells #[.slice A n cap, .slice B m cap'] 33))) hm (hb.below (b0 _)) hok ht (he.below (b0 _)))
  have HHN := hid (fun (W : World) (hW : Below w.heap.size w W) => hasName_any A n cap zs s W hn (ha.below hW))
  have HC0 := hid (show (w.alloc (.cells #[.slice A n cap, .slice B m cap'] 33)).heap[w.heap.size]? = some (.cells #[.slice A n cap, .slice B m cap'] 33 (0, 0)) from heap_new1 w _)
  obtain ⟨b, hb'⟩ : ∃ b, wdOf zs is = b := ⟨_, rfl⟩
  rw [hb'] at HWV ⊢
  obtain ⟨b2, hb2⟩ : ∃ b, hasNm zs s = b := ⟨_, rfl⟩
  rw [hb2] at HHN ⊢
  clear ha hb hok he hb' hb2
  go_enter Tryd.func36, Tryd.ntmps36
  go_wp2_with fail
  refine HWV.out.mono ?_
  rintro e w1 ⟨rfl, c1⟩
  have hb1 := (b0 (.cells #[.slice A n cap, .slice B m cap'] 33)).trans (c1.mono (b0 _).size)
  have q0 := cell_blk ((c1.block w.heap.size (by simp only [World.size_alloc]; omega)).trans HC0.out) (j := 0) rfl
  cases b
  · go_wp2_with fail
    go_ret
    exact ⟨rfl, hb1⟩
  · go_wp2_with fail
    refine (HHN.out _ hb1).mono ?_
    rintro e w2 ⟨rfl, c2⟩
    go_wp2_with fail
    go_ret
    exact ⟨rfl, hb1.trans (c2.mono hb1.size)⟩

end Go.Proofs.YtgbbobjkhpplkaaDoor
