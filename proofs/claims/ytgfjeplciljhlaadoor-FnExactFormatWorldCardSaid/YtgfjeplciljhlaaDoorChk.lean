/- Whether classes, needs, instances, worlds are valid, in the program. -/
import Derived.Test.YtgfjeplciljhlaaDoorJn
import Derived.Test.YtgfjeplciljhlaaDoorHas
import Derived.Test.YtgfjeplciljhlaaDoorLoose
namespace Go.Proofs.YtgfjeplciljhlaaDoor
open Go.RowKit

/-- A variable of the program holds an error. -/
def ErrAt (w : World) (k : Nat) : Prop := ∃ t a, w.cell? ⟨k, 0, none⟩ = some (.iface t (.pointer (some a))) ∧ k < w.heap.size
theorem ErrAt.below {w w' : World} {k : Nat} (h : ErrAt w k) (hb : Below w.heap.size w w') : ErrAt w' k := by
  obtain ⟨t, a, hc, hk⟩ := h
  exact ⟨t, a, cell_below hc hk hb, Nat.lt_of_lt_of_le hk hb.size⟩
theorem bel_und {w w' : World} (h : Below w.drew.heap.size w.drew w') : Below w.heap.size w w' := ⟨h.os, h.tape, h.output, h.size, h.block⟩
/-- Two errors joined. -/
theorem join2_any (v1 v2 : Value) (b1 b2 : Bool) (h1 : IsErr v1 b1) (h2 : IsErr v2 b2) (g cap : Nat) (w : World) (c1 : w.cell? ⟨g, 0, none⟩ = some v1) (c2 : w.cell? ⟨g, 1, none⟩ = some v2) (hg : g < w.heap.size) :
    Calls Tryd.prog 42 #[.slice (some ⟨g, 0, none⟩) 2 cap] w fun e w' => (∃ v, e = .returned v ∧ IsErr v (b1 || b2)) ∧ Below w.heap.size w w' := by
  have h := join_any g 0 2 cap [(v1, b1), (v2, b2)] w rfl (by omega) (fun p hp => by
    simp only [List.mem_cons, List.not_mem_nil, or_false] at hp
    rcases hp with rfl | rfl
    · exact h1
    · exact h2) (fun j p hj => by
    have hjl := (List.getElem?_eq_some_iff.1 hj).1
    simp only [List.length_cons, List.length_nil] at hjl
    have : j = 0 ∨ j = 1 := by omega
    rcases this with rfl | rfl
    · simp at hj; subst hj; exact c1
    · simp at hj; subst hj; exact c2) hg
  have e : ([(v1, b1), (v2, b2)].any fun p => p.2) = (b1 || b2) := by simp
  rw [e] at h
  exact h

/-- Two errors joined, as a call lays them. -/
theorem joinNew2 (W : World) (v1 v2 : Value) (b1 b2 : Bool) (h1 : IsErr v1 b1) (h2 : IsErr v2 b2) :
    Calls Tryd.prog 42 #[.slice (some ⟨W.heap.size, 0, none⟩) 2 2] (W.alloc (.cells #[v1, v2] 75)) fun e w' => (∃ v, e = .returned v ∧ IsErr v (b1 || b2)) ∧ Below W.heap.size W w' := by
  have hc := blk_cells2 (heap_new1 W (.cells #[v1, v2] 75))
  refine (join2_any v1 v2 b1 b2 h1 h2 W.heap.size 2 _ hc.1 hc.2 (by simp only [World.size_alloc]; omega)).mono fun e w' h => ⟨h.1, ((Below.refl _ _).alloc (Nat.le_refl _) _).trans (h.2.mono (by simp only [World.size_alloc]; omega))⟩

/-- An error unless all is well. -/
def errIf (b : Bool) (v : Value) : Value := match b with | true => .nilIface | false => v
theorem errIf_is {v : Value} (h : IsErr v true) (b : Bool) : IsErr (errIf b v) (!b) := by
  cases b
  · exact h
  · exact IsErr.nil
theorem unlessV (b : Bool) (v : Value) (w : World) : Calls Tryd.prog 87 #[.bool b, v] w fun e w' => e = .returned (errIf b v) ∧ w' = w := by
  cases b
  · exact unlessF v w
  · exact unlessT v w

set_option maxHeartbeats 8000000 in
set_option maxRecDepth 100000 in
theorem checkBehind_any (x y names : ByteArray) (w : World) (hx : x.size ≤ 1048576) (hy : y.size ≤ 1048576) (hn : names.size ≤ 1048576 * 16) (e1 : ErrAt w 2) (e2 : ErrAt w 5) :
    Calls Tryd.prog 84 #[.agg #[.string x, .string y], .string names] w fun e w' => (∃ v, e = .returned v ∧ IsErr v (!behind names.data.toList (x, y))) ∧ Below w.heap.size w w' := by
  have b0 : ∀ o, Below w.heap.size w (w.alloc o) := fun o => (Below.refl _ _).alloc (Nat.le_refl _) o
  obtain ⟨t1, a1, k1, g1⟩ := e1
  obtain ⟨t2, a2, k2, g2⟩ := e2
  obtain ⟨w1, hw1⟩ : ∃ w1, w.alloc (.cells #[.string x, .string y] 108) = w1 := ⟨_, rfl⟩
  have HB1 := hid (show Below w.heap.size w w1 by rw [← hw1]; exact b0 _)
  have hz1 : w.heap.size < w1.heap.size := by rw [← hw1]; simp only [World.size_alloc]; omega
  have hc1 := blk_cells2 (heap_new1 w (.cells #[.string x, .string y] 108))
  rw [hw1] at hc1
  obtain ⟨C, HC⟩ : ∃ C : World → Prop, Hid (∀ w', C w' ↔ Below w1.heap.size w1 w') := ⟨_, hid fun _ => Iff.rfl⟩
  have HCC := hid (fun (W : World) (hW : C W) => show W.cell? ⟨w.heap.size, 0, none⟩ = some (.string x) ∧ W.cell? ⟨w.heap.size, 1, none⟩ = some (.string y) ∧ W.cell? ⟨2, 0, none⟩ = some (.iface t1 (.pointer (some a1))) ∧ W.cell? ⟨5, 0, none⟩ = some (.iface t2 (.pointer (some a2))) from by
    have hW' := (HC.out W).1 hW
    exact ⟨cell_below hc1.1 hz1 hW', cell_below hc1.2 hz1 hW', cell_below (cell_below k1 g1 HB1.out) (Nat.lt_of_lt_of_le g1 HB1.out.size) hW', cell_below (cell_below k2 g2 HB1.out) (Nat.lt_of_lt_of_le g2 HB1.out.size) hW'⟩)
  have HCB := hid (fun (W W' : World) (hW : C W) (hb : Below W.heap.size W W') => show C W' from (HC.out W').2 (((HC.out W).1 hW).trans (hb.mono ((HC.out W).1 hW).size)))
  have hcat : ¬ 9223372036854775807 < names.size + x.size := by omega
  have HNM := hid (isName_any x)
  have HSI := hid (standIn_any y names (by unfold maxLen; omega))
  have HAX := hid (isAscending_any (names ++ x) (by rw [ByteArray.size_append]; unfold maxLen; omega))
  have HAY := hid (isAscending_any y (by unfold maxLen; omega))
  have HE := hid (behind_def names.data.toList (x, y))
  obtain ⟨n1, hn1⟩ : ∃ b, isNm x.data.toList = b := ⟨_, rfl⟩
  obtain ⟨n2, hn2⟩ : ∃ b, ascB (names ++ x).data.toList = b := ⟨_, rfl⟩
  obtain ⟨n3, hn3⟩ : ∃ b, ascB y.data.toList = b := ⟨_, rfl⟩
  obtain ⟨n4, hn4⟩ : ∃ b, inB y.data.toList names.data.toList = b := ⟨_, rfl⟩
  rw [hn1] at HNM
  rw [hn4] at HSI
  rw [hn2] at HAX
  rw [hn3] at HAY
  have HBH := hid (show behind names.data.toList (x, y) = ((n1 && n2) && (n3 && n4)) by rw [HE.out]; show ((isNm x.data.toList && ascB (names.data.toList ++ x.data.toList)) && (ascB y.data.toList && inB y.data.toList names.data.toList)) = _; rw [hn1, hn3, hn4, ← hn2, ByteArray.data_append, Array.toList_append])
  have HW1 := hid hw1
  have HC1 := hid ((HC.out w1.drew).2 (Below.refl _ _).drew)
  clear hc1 hn1 hn2 hn3 hn4 hw1 k1 k2 HE
  rcases n1 with _ | _ <;> rcases n3 with _ | _
  all_goals
    go_enter Tryd.func84, Tryd.ntmps84
    go_wp2_with fail
    rw [HW1.out]
    refine wp_region_loose (C := C) 23 (by kernel_rfl) (by kernel_rfl) HC1.out ?_
    simp only [List.take_succ_cons, List.take_zero]
    refine walk_by fun W hnil hval hcall hany hskip => ?_
    iterate 23 (first
      | (refine hskip _ _ _ _ (fun _ => by rfl) ?_
         simp only [Act.put, List.setIfInBounds_toArray, List.set_cons_zero, List.set_cons_succ])
      | (refine hval _ _ _ _ (fun _ => by rfl) ⟨_, fun q hq w' hw' => by
           obtain ⟨x0, x1, x2, x3⟩ := HCC.out w' hw'
           first | (go_simp; done) | (go_simp; rfl), ?_⟩
         simp only [Act.put, List.setIfInBounds_toArray, List.set_cons_zero, List.set_cons_succ])
      | (refine hcall _ _ _ _ (fun _ => by rfl) ⟨100, _, _, fun q hq w' hw' => ⟨by first | (go_simp; done) | (go_simp; rfl), (HNM.out w').mono fun e w'' h => ⟨h.1, by rw [h.2]; exact hw'⟩⟩, ?_⟩
         simp only [Act.put, List.setIfInBounds_toArray, List.set_cons_zero, List.set_cons_succ])
      | (refine hcall _ _ _ _ (fun _ => by rfl) ⟨115, _, _, fun q hq w' hw' => ⟨by first | (go_simp; done) | (go_simp; rfl), (HSI.out w').mono fun e w'' h => ⟨h.1, by rw [h.2]; exact hw'⟩⟩, ?_⟩
         simp only [Act.put, List.setIfInBounds_toArray, List.set_cons_zero, List.set_cons_succ])
      | (refine hcall _ _ _ _ (fun _ => by rfl) ⟨114, _, _, fun q hq w' hw' => ⟨by first | (go_simp; done) | (go_simp; rfl), (HAX.out w').mono fun e w'' h => ⟨h.1, HCB.out _ _ hw' h.2⟩⟩, ?_⟩
         simp only [Act.put, List.setIfInBounds_toArray, List.set_cons_zero, List.set_cons_succ])
      | (refine hcall _ _ _ _ (fun _ => by rfl) ⟨114, _, _, fun q hq w' hw' => ⟨by first | (go_simp; done) | (go_simp; rfl), (HAY.out w').mono fun e w'' h => ⟨h.1, HCB.out _ _ hw' h.2⟩⟩, ?_⟩
         simp only [Act.put, List.setIfInBounds_toArray, List.set_cons_zero, List.set_cons_succ])
      | (refine hcall _ _ _ _ (fun _ => by rfl) ⟨87, _, _, fun q hq w' hw' => by
           refine ⟨by (go_simp; rfl), ?_⟩
           exact (unlessV _ _ w').mono fun e w'' h => ⟨h.1, by rw [h.2]; exact hw'⟩, ?_⟩
         simp only [Act.put, List.setIfInBounds_toArray, List.set_cons_zero, List.set_cons_succ]))
    refine hnil _ _ ?_
    intro q hq w' hw'
    simp only [List.drop_succ_cons, List.drop_zero]
    have hb' := (HC.out w').1 hw'
    clear hnil hval hcall hany hskip
    rcases n2 with _ | _ <;> rcases n4 with _ | _
    all_goals
      simp only [errIf]
      go_wp2_with (first
        | (go_at_call 42
           refine (joinNew2 _ _ _ _ _ (by first | exact IsErr.nil | exact IsErr.some _ _) (by first | exact IsErr.nil | exact IsErr.some _ _)).mono ?_
           rintro e w5 ⟨⟨v5, rfl, hv5⟩, b5⟩)
        | fail)
      go_ret
      rw [HBH.out]
      exact ⟨⟨v5, rfl, hv5⟩, HB1.out.trans ((hb'.trans (b5.mono hb'.size)).mono HB1.out.size)⟩

end Go.Proofs.YtgfjeplciljhlaaDoor
