/- Whether the needs of an instance are valid, in the program. -/
import Derived.Test.YtgfjeplciljhlaaDoorCh2
namespace Go.Proofs.YtgfjeplciljhlaaDoor
open Go.RowKit

/-- The errors of chapter 3 that checks tell. -/
structure WErrs (w : World) : Prop where
  count : ErrAt w 0
  name : ErrAt w 2
  supers : ErrAt w 5
  clas : ErrAt w 6
  type : ErrAt w 4
  head : ErrAt w 1
  vars : ErrAt w 7
theorem WErrs.below {w w' : World} (h : WErrs w) (hb : Below w.heap.size w w') : WErrs w' := ⟨h.count.below hb, h.name.below hb, h.supers.below hb, h.clas.below hb, h.type.below hb, h.head.below hb, h.vars.below hb⟩

theorem join3_any (v1 v2 v3 : Value) (b1 b2 b3 : Bool) (h1 : IsErr v1 b1) (h2 : IsErr v2 b2) (h3 : IsErr v3 b3) (g cap : Nat) (w : World) (c1 : w.cell? ⟨g, 0, none⟩ = some v1) (c2 : w.cell? ⟨g, 1, none⟩ = some v2) (c3 : w.cell? ⟨g, 2, none⟩ = some v3) (hg : g < w.heap.size) :
    Calls Tryd.prog 42 #[.slice (some ⟨g, 0, none⟩) 3 cap] w fun e w' => (∃ v, e = .returned v ∧ IsErr v (b1 || (b2 || b3))) ∧ Below w.heap.size w w' := by
  have h := join_any g 0 3 cap [(v1, b1), (v2, b2), (v3, b3)] w rfl (by omega) (fun p hp => by
    simp only [List.mem_cons, List.not_mem_nil, or_false] at hp
    rcases hp with rfl | rfl | rfl
    · exact h1
    · exact h2
    · exact h3) (fun j p hj => by
    have hjl := (List.getElem?_eq_some_iff.1 hj).1
    simp only [List.length_cons, List.length_nil] at hjl
    have : j = 0 ∨ j = 1 ∨ j = 2 := by omega
    rcases this with rfl | rfl | rfl
    · simp at hj; subst hj; exact c1
    · simp at hj; subst hj; exact c2
    · simp at hj; subst hj; exact c3) hg
  have e : ([(v1, b1), (v2, b2), (v3, b3)].any fun p => p.2) = (b1 || (b2 || b3)) := by simp
  rw [e] at h
  exact h
theorem joinNew3 (W : World) (v1 v2 v3 : Value) (b1 b2 b3 : Bool) (h1 : IsErr v1 b1) (h2 : IsErr v2 b2) (h3 : IsErr v3 b3) :
    Calls Tryd.prog 42 #[.slice (some ⟨W.heap.size, 0, none⟩) 3 3] (W.alloc (.cells #[v1, v2, v3] 75)) fun e w' => (∃ v, e = .returned v ∧ IsErr v (b1 || (b2 || b3))) ∧ Below W.heap.size W w' := by
  have hc := heap_new1 W (.cells #[v1, v2, v3] 75)
  refine (join3_any v1 v2 v3 b1 b2 b3 h1 h2 h3 W.heap.size 3 _ (cell_blk hc rfl) (cell_blk hc rfl) (cell_blk hc rfl) (by simp only [World.size_alloc]; omega)).mono fun e w' h => ⟨h.1, ((Below.refl _ _).alloc (Nat.le_refl _) _).trans (h.2.mono (by simp only [World.size_alloc]; omega))⟩

theorem IsErr.form {v : Value} {b : Bool} (h : IsErr v b) : v = .nilIface ∨ ∃ t a, v = .iface t (.pointer (Option.some a)) := by
  rcases h with ⟨_, h⟩ | ⟨_, h⟩
  · exact .inl h
  · exact .inr h
/-- What holds for each need of an instance of a type. -/
def needOk (zs : List (ByteArray × ByteArray)) (t : ByteArray) (n : ByteArray × ByteArray) : Bool := ndOk zs n && inB (varsOf n.2.data.toList) (varsOf t.data.toList)
theorem all_snoc {α : Type} {l : List α} {k : Nat} {z : α} {p : α → Bool} (h : l[k]? = some z) : (l.take (k + 1)).all p = ((l.take k).all p && p z) := by
  rw [List.take_add_one, h, List.all_append]
  simp

set_option maxHeartbeats 8000000 in
set_option maxRecDepth 100000 in
theorem checkNeeds_any (x t : ByteArray) (B : Option Addr) (m c : Nat) (ns : List (ByteArray × ByteArray)) (A : Option Addr) (n cap : Nat) (zs : List (ByteArray × ByteArray)) (w : World) (ht : t.size ≤ maxLen) (hm : m ≤ maxLen) (hb : Prs w B m ns) (hnz : ∀ z ∈ ns, z.1.size ≤ maxLen ∧ z.2.size ≤ maxLen) (hn : n ≤ maxLen) (ha : Prs w A n zs) (he : WErrs w) :
    Calls Tryd.prog 88 #[.agg #[.string x, .string t, .slice B m c], .slice A n cap] w fun e w' => (∃ v, e = .returned v ∧ IsErr v (!(decide (ns.length ≤ 3) && ns.all (needOk zs t)))) ∧ Below w.heap.size w w' := by
  have b0 : ∀ o, Below w.heap.size w (w.alloc o) := fun o => (Below.refl _ _).alloc (Nat.le_refl _) o
  obtain ⟨t0, a0, k0, g0⟩ := he.count
  obtain ⟨t1, a1, k1, g1⟩ := he.vars
  have HA := hid ha
  have HB := hid hb
  have HN := hid hnz
  have HE := hid he
  have hlen := hb.1
  have HC0 := hid (show (w.alloc (.cells #[.string x, .string t, .slice B m c] 31)).heap[w.heap.size]? = some (.cells #[.string x, .string t, .slice B m c] 31 (0, 0)) from heap_new1 w _)
  have HK0 := hid (fun (W : World) (hW : Below w.heap.size w W) => cell_below k0 g0 hW)
  have HK1 := hid (fun (W : World) (hW : Below w.heap.size w W) => cell_below k1 g1 hW)
  clear ha hb hnz he k0 k1
  unfold maxLen at hm
  by_cases h3 : m ≤ 3
  · have HL3 := hid (show decide (ns.length ≤ 3) = true from decide_eq_true (by omega))
    have HLEN := hid hlen
    clear hlen
    have h3i : ¬ (3 : Int) < (m : Int) := by omega
    go_enter Tryd.func88, Tryd.ntmps88
    go_wp2_with fail
    go_loopw [5, 16] (fun v i wr => ∃ k : Nat, k ≤ m ∧ i = .int .i64 k ∧ IsErr v (!((ns.take k).all (needOk zs t))) ∧ Below w.heap.size w wr ∧ w.heap.size < wr.heap.size ∧ wr.heap[w.heap.size]? = some (.cells #[.string x, .string t, .slice B m c] 31 (0, 0))) (fun _ i _ => m - (intOf i).toNat)
    case atStart => exact ⟨0, Nat.zero_le _, rfl, IsErr.nil, b0 _, by simp only [World.size_alloc]; omega, HC0.out⟩
    case round =>
      obtain ⟨k, hk, rfl, hv, hbel, hsz, hblk⟩ := hrel
      have HBLK := hid hblk
      have HV := hid hv
      clear hblk hv
      by_cases hlt : k < m
      · obtain ⟨g, o, rfl, hg, hca⟩ := HB.out.2 (by omega)
        have hx : ns[k]? = some (ns[k]'(by have := HLEN.out; omega)) := List.getElem?_eq_getElem _
        obtain ⟨ca, cb⟩ := hca k _ hx
        have hs := HN.out _ (List.mem_of_getElem? hx)
        obtain ⟨⟨p, u⟩, ex⟩ : ∃ z, ns[k]'(by have := HLEN.out; omega) = z := ⟨_, rfl⟩
        rw [ex] at ca cb hx hs
        have HX := hid (all_snoc (p := needOk zs t) hx)
        have ca' := cell_below ca hg hbel
        have cb' := cell_below cb hg hbel
        clear hca hx ex ca cb
        have i1 : (0 : Int) ≤ (k : Int) := by omega
        have i2 : (k : Int) < (m : Int) := by omega
        have hsu : u.size ≤ maxLen := hs.2
        clear hs
        obtain ⟨C, HC⟩ : ∃ C : World → Prop, Hid (∀ w', C w' ↔ (Below (wr.heap.size + 1) (wr.alloc (.cells #[.string p, .string u] 28)) w')) := ⟨_, hid fun _ => Iff.rfl⟩
        have HWR := hid (fun (W : World) (hW : C W) => show Below w.heap.size w W from by
          have h := (HC.out W).1 hW
          exact hbel.trans ((((Below.refl wr.heap.size wr).alloc (Nat.le_refl _) _).trans (h.mono (by omega))).mono hbel.size))
        have HCC := hid (fun (W : World) (hW : C W) => show W.cell? ⟨wr.heap.size, 0, none⟩ = some (.string p) ∧ W.cell? ⟨wr.heap.size, 1, none⟩ = some (.string u) ∧ W.cell? ⟨w.heap.size, 1, none⟩ = some (.string t) ∧ W.cell? ⟨7, 0, none⟩ = some (.iface t1 (.pointer (some a1))) from by
          have h := (HC.out W).1 hW
          have hc := blk_cells2 (heap_new1 wr (.cells #[.string p, .string u] 28))
          refine ⟨?_, ?_, ?_, HK1.out W (HWR.out W hW)⟩
          · exact cell_below hc.1 (by simp only [World.size_alloc]; omega) (by simpa only [World.size_alloc] using h)
          · exact cell_below hc.2 (by simp only [World.size_alloc]; omega) (by simpa only [World.size_alloc] using h)
          · exact cell_below (cell_blk HBLK.out (j := 1) rfl) hsz (((Below.refl wr.heap.size wr).alloc (Nat.le_refl _) _).trans (h.mono (by omega))))
        have HCB := hid (fun (W W' : World) (hW : C W) (hb : Below W.heap.size W W') => show C W' from (HC.out W').2 (((HC.out W).1 hW).trans (hb.mono (by have := ((HC.out W).1 hW).size; simpa only [World.size_alloc] using this))))
        have HCP := hid (fun (W : World) (hW : C W) => checkPlace_any p u A n cap zs W hsu hn (HA.out.below (HWR.out W hW)) (HE.out.below (HWR.out W hW)).clas (HE.out.below (HWR.out W hW)).type)
        have HV1 := hid (varsI_any u hsu)
        have HV2 := hid (varsI_any t ht)
        obtain ⟨s1, hs1⟩ : ∃ s, strOf (varsOf u.data.toList) = s := ⟨_, rfl⟩
        obtain ⟨s2, hs2⟩ : ∃ s, strOf (varsOf t.data.toList) = s := ⟨_, rfl⟩
        have hs1' : s1.data.toList = varsOf u.data.toList := by rw [← hs1]; rfl
        have hs2' : s2.data.toList = varsOf t.data.toList := by rw [← hs2]; rfl
        rw [hs1] at HV1
        rw [hs2] at HV2
        have hsz1 : s1.size ≤ maxLen := by
          have e : s1.size = s1.data.toList.length := by simp
          rw [e, hs1']
          have : (varsOf u.data.toList).length ≤ 6 := by
            unfold varsOf
            split
            · exact varsIn_len _ _
            · exact Nat.zero_le _
          unfold maxLen
          omega
        have HSI := hid (standIn_any s1 s2 hsz1)
        obtain ⟨n2, hn2⟩ : ∃ b, inB s1.data.toList s2.data.toList = b := ⟨_, rfl⟩
        rw [hn2] at HSI
        obtain ⟨n1, hn1⟩ : ∃ b, ndOk zs (p, u) = b := ⟨_, rfl⟩
        rw [hn1] at HCP
        have HOK := hid (show needOk zs t (p, u) = (n1 && n2) by show (ndOk zs (p, u) && inB (varsOf u.data.toList) (varsOf t.data.toList)) = _; rw [hn1, ← hs1', ← hs2', hn2])
        have HC1 := hid ((HC.out (wr.alloc (.cells #[.string p, .string u] 28)).drew).2 (Below.refl _ _).drew)
        clear hs1 hs2 hs1' hs2' hsz1 hn1 hn2
        go_wp2_with fail
        refine wp_region_loose (C := C) 14 (by kernel_rfl) (by kernel_rfl) HC1.out ?_
        simp only [List.take_succ_cons, List.take_zero]
        refine walk_by fun W hnil hval hcall hany hskip => ?_
        iterate 14 (first
          | (refine hval _ _ _ _ (fun _ => by rfl) ⟨_, fun q hq w' hw' => by
               obtain ⟨x0, x1, x2, x3⟩ := HCC.out w' hw'
               first | (go_simp; done) | (go_simp; rfl), ?_⟩
             simp only [Act.put, List.setIfInBounds_toArray, List.set_cons_zero, List.set_cons_succ])
          | (refine hany _ _ _ _ (fun _ => by rfl) ⟨86, _, fun v => IsErr v (!n1), fun q hq w' hw' => ⟨by first | (go_simp; done) | (go_simp; rfl), (HCP.out w' hw').mono fun e w'' h => ⟨h.1.choose, h.1.choose_spec.1, h.1.choose_spec.2, HCB.out _ _ hw' h.2⟩⟩, ?_⟩
             simp only [Act.put, List.setIfInBounds_toArray, List.set_cons_zero, List.set_cons_succ])
          | (refine hcall _ _ _ _ (fun _ => by rfl) ⟨15, _, _, fun q hq w' hw' => ⟨by first | (go_simp; done) | (go_simp; rfl), (HV1.out w').mono fun e w'' h => ⟨h.1, HCB.out _ _ hw' h.2⟩⟩, ?_⟩
             simp only [Act.put, List.setIfInBounds_toArray, List.set_cons_zero, List.set_cons_succ])
          | (refine hcall _ _ _ _ (fun _ => by rfl) ⟨15, _, _, fun q hq w' hw' => ⟨by first | (go_simp; done) | (go_simp; rfl), (HV2.out w').mono fun e w'' h => ⟨h.1, HCB.out _ _ hw' h.2⟩⟩, ?_⟩
             simp only [Act.put, List.setIfInBounds_toArray, List.set_cons_zero, List.set_cons_succ])
          | (refine hcall _ _ _ _ (fun _ => by rfl) ⟨115, _, _, fun q hq w' hw' => ⟨by first | (go_simp; done) | (go_simp; rfl), (HSI.out w').mono fun e w'' h => ⟨h.1, by rw [h.2]; exact hw'⟩⟩, ?_⟩
             simp only [Act.put, List.setIfInBounds_toArray, List.set_cons_zero, List.set_cons_succ])
          | (refine hcall _ _ _ _ (fun _ => by rfl) ⟨87, _, _, fun q hq w' hw' => by
               refine ⟨by (go_simp; rfl), ?_⟩
               exact (unlessV _ _ w').mono fun e w'' h => ⟨h.1, by rw [h.2]; exact hw'⟩, ?_⟩
             simp only [Act.put, List.setIfInBounds_toArray, List.set_cons_zero, List.set_cons_succ]))
        refine hnil _ _ ?_
        intro q hq w' hw'
        simp only [List.drop_succ_cons, List.drop_zero]
        have hb' := HWR.out w' hw'
        have HBLK2 := hid ((((HC.out w').1 hw').block w.heap.size (by omega)).trans ((Below.heap_alloc _ _ _ hsz).trans HBLK.out))
        obtain ⟨hq1, _⟩ := hq
        clear hnil hval hcall hany hskip HCC HCB HCP HV1 HV2 HSI HWR HC HC1
        obtain ⟨v2, hv2⟩ : ∃ v, q.headD undef = v := ⟨_, rfl⟩
        rw [hv2] at hq1 ⊢
        have HQ := hid hq1
        have H5 : Hid (IsErr (errIf n2 (.iface t1 (.pointer (some a1)))) (!n2)) := hid (errIf_is (IsErr.some t1 a1) n2)
        obtain ⟨v3, hv3⟩ : ∃ v, errIf n2 (.iface t1 (.pointer (some a1))) = v := ⟨_, rfl⟩
        rw [hv3] at H5 ⊢
        clear hq1 hv2 hv3
        have hz' := hb'.size
        rcases HV.out.form with rfl | ⟨T1, P1, rfl⟩ <;> rcases HQ.out.form with rfl | ⟨T2, P2, rfl⟩ <;> rcases H5.out.form with rfl | ⟨T3, P3, rfl⟩
        all_goals
          go_wp2_with (first
            | (go_at_call 42
               refine (joinNew3 _ _ _ _ _ _ _ HV.out HQ.out H5.out).mono ?_
               rintro e w5 ⟨⟨v5, rfl, hv5⟩, b5⟩
               have HV5 := hid hv5
               clear hv5)
            | fail)
          go_roundw
          case rel => exact ⟨k + 1, hlt, by go_num, by rw [HX.out, HOK.out, Bool.not_and, Bool.not_and]; exact HV5.out, hb'.trans (b5.mono hz'), Nat.lt_of_lt_of_le (Nat.lt_of_lt_of_le (Array.getElem?_eq_some_iff.1 HBLK2.out).1 (Nat.le_refl _)) b5.size, (b5.block _ (Array.getElem?_eq_some_iff.1 HBLK2.out).1).trans HBLK2.out⟩
          case measure => simp [intOf]; omega
      · have HALL := hid (show (ns.take k).all (needOk zs t) = ns.all (needOk zs t) by rw [List.take_of_length_le (by have := HLEN.out; omega)])
        go_wp2_with fail
        go_ret
        rw [HL3.out, Bool.true_and, ← HALL.out]
        exact ⟨⟨_, rfl, HV.out⟩, hbel⟩
  · have HL3 := hid (show decide (ns.length ≤ 3) = false from decide_eq_false (by omega))
    clear hlen
    have h3i : (3 : Int) < (m : Int) := by omega
    have h0 := HK0.out _ (b0 (.cells #[.string x, .string t, .slice B m c] 31))
    go_enter Tryd.func88, Tryd.ntmps88
    go_wp2_with fail
    go_ret
    rw [HL3.out, Bool.false_and]
    exact ⟨⟨_, rfl, IsErr.some _ _⟩, b0 _⟩

end Go.Proofs.YtgfjeplciljhlaaDoor
