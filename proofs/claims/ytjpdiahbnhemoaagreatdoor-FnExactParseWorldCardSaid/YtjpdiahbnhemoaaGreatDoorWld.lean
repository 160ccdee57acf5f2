/- The exact laws' own helpers over worlds: toInstanceS, eqInstanceS, szWorld, toWorld, eqWorld. -/
import Derived.Test.YtjpdiahbnhemoaaGreatDoorInsA
import Derived.Test.YtjpdiahbnhemoaaGreatDoorArgsC
import Derived.Test.YtjpdiahbnhemoaaGreatDoorLoose
namespace Go.Proofs.YtjpdiahbnhemoaaGreatDoor
open Go.RowKit

theorem insInfo : (Tryz.prog.info? 52).map (fun i => (i.zero, i.size, i.bytes)) = some (some (.agg #[.string ⟨#[]⟩, .string ⟨#[]⟩, .slice none 0 0]), 3, 56) := by kernel_rfl
theorem run_makeIns (n : Nat) (hn : n ≤ 1048576) (w : World) :
    (Instr.makeSlice 23 (.int .i64 (n : Int)) (.int .i64 (n : Int))).run Tryz.prog w = .ok (.slice (some ⟨w.heap.size, 0, none⟩) n n) (w.alloc (.cells (madeCells #[.string ⟨#[]⟩, .string ⟨#[]⟩, .slice none 0 0] (n * 3)) 52)) := by
  obtain ⟨i, hi, hz, hs, hb⟩ := info_parts insInfo
  have := run_make (P := Tryz.prog) w 23 52 i _ Tryz.underlying23 hi hz .i64 .i64 n n (by omega) (Int.le_refl _) (by rw [hb]; omega) (by omega)
  rw [this, hs]
  rfl
theorem made3_get (n l : Nat) (h : l < n) : (madeCells #[.string ⟨#[]⟩, .string ⟨#[]⟩, .slice none 0 0] (n * 3))[l * 3]? = some (Value.string ⟨#[]⟩) ∧ (madeCells #[.string ⟨#[]⟩, .string ⟨#[]⟩, .slice none 0 0] (n * 3))[l * 3 + 1]? = some (Value.string ⟨#[]⟩) ∧ (madeCells #[.string ⟨#[]⟩, .string ⟨#[]⟩, .slice none 0 0] (n * 3))[l * 3 + 2]? = some (Value.slice none 0 0) := by
  have h0 : l * 3 < n * 3 := by omega
  have h1 : l * 3 + 1 < n * 3 := by omega
  have h2 : l * 3 + 2 < n * 3 := by omega
  have e1 : (l * 3 + 1) % 3 = 1 := by omega
  have e2 : (l * 3 + 2) % 3 = 2 := by omega
  exact ⟨by simp [madeCells, h0], by simp [madeCells, h1, e1], by simp [madeCells, h2, e2]⟩

/-- A slice of n instances in memory of its own, from a block on. -/
def InssO (w : World) (lo : Nat) (A : Option Addr) (n : Nat) (is : List Ins) : Prop :=
  is.length = n ∧ ∃ g, A = some ⟨g, 0, none⟩ ∧ lo ≤ g ∧ g < w.heap.size ∧ ∀ (j : Nat) i, is[j]? = some i → w.cell? ⟨g, j * 3, none⟩ = some (.string i.c) ∧ w.cell? ⟨g, j * 3 + 1, none⟩ = some (.string i.t) ∧
    ∃ b m, w.cell? ⟨g, j * 3 + 2, none⟩ = some (.slice (some ⟨b, 0, none⟩) m m) ∧ lo ≤ b ∧ m ≤ 1048576 ∧ Prs w (some ⟨b, 0, none⟩) m i.ns
theorem InssO.inss {w : World} {lo : Nat} {A : Option Addr} {n : Nat} {is : List Ins} (h : InssO w lo A n is) : Inss w A n is := by
  obtain ⟨hl, g, rfl, _, hg, hc⟩ := h
  refine ⟨hl, fun _ => ⟨g, 0, rfl, hg, fun j i hj => ?_⟩⟩
  obtain ⟨h1, h2, b, m, h3, _, h5, h6⟩ := hc j i hj
  rw [Nat.zero_add]
  exact ⟨h1, h2, _, m, m, h3, by unfold maxLen; omega, h6⟩
theorem InssO.keep {w w' : World} {lo : Nat} {A : Option Addr} {n : Nat} {is : List Ins} (h : InssO w lo A n is) (hz : w.heap.size ≤ w'.heap.size) (hk : ∀ k, lo ≤ k → k < w.heap.size → w'.heap[k]? = w.heap[k]?) : InssO w' lo A n is := by
  obtain ⟨hl, g, rfl, hlo, hg, hc⟩ := h
  refine ⟨hl, g, rfl, hlo, Nat.lt_of_lt_of_le hg hz, fun j i hj => ?_⟩
  obtain ⟨h1, h2, b, m, h3, h4, h5, h6⟩ := hc j i hj
  have e := hk g hlo hg
  refine ⟨?_, ?_, b, m, ?_, h4, h5, ?_⟩
  · rw [World.cell?_of_block (w := w) (w' := w') (a := ⟨g, j * 3, none⟩) e]; exact h1
  · rw [World.cell?_of_block (w := w) (w' := w') (a := ⟨g, j * 3 + 1, none⟩) e]; exact h2
  · rw [World.cell?_of_block (w := w) (w' := w') (a := ⟨g, j * 3 + 2, none⟩) e]; exact h3
  · by_cases hm : 0 < m
    · obtain ⟨g', o', e', hg', _⟩ := h6.2 hm
      simp only [Option.some.injEq, Addr.mk.injEq] at e'
      refine h6.keep hz fun a ha => ?_
      simp only [Option.some.injEq] at ha
      subst ha
      exact hk b h4 (by omega)
    · exact ⟨h6.1, fun h => absurd h hm⟩

set_option maxHeartbeats 2000000 in
set_option maxRecDepth 100000 in
theorem eqInstanceS_same (A B : Option Addr) (n c d : Nat) (is : List Ins) (w : World) (ha : Inss w A n is) (hb : Inss w B n is) (hn : n + inssTot is ≤ 1048576) :
    Calls Tryz.prog 16 #[.slice A n c, .slice B n d] w fun e w' => e = .returned (.bool true) ∧ Below w.heap.size w w' := by
  have HA := hid ha
  have HB := hid hb
  have HLEN := hid ha.1
  clear ha hb
  go_enter Tryz.func16, Tryz.ntmps16
  go_wp2_with fail
  go_loopw [5] (fun i wr => ∃ j : Nat, j ≤ n ∧ i = .int .i64 j ∧ Below w.heap.size w wr) (fun i _ => n - (intOf i).toNat)
  case atStart => exact ⟨0, Nat.zero_le _, rfl, Below.refl _ _⟩
  case round =>
    obtain ⟨j, hj, rfl, hbel⟩ := hrel
    by_cases hlt : j < n
    · obtain ⟨g, o, rfl, hgl, hca⟩ := HA.out.2 (by omega)
      obtain ⟨g2, o2, rfl, hgl2, hca2⟩ := HB.out.2 (by omega)
      have hx : is[j]? = some (is[j]'(by have := HLEN.out; omega)) := List.getElem?_eq_getElem _
      obtain ⟨ca, cb, D, m, d1, cc, _, hp⟩ := hca j _ hx
      obtain ⟨ca2, cb2, D2, m2, d2, cc2, _, hp2⟩ := hca2 j _ hx
      have hmem := inssTot_mem (List.mem_of_getElem? hx)
      obtain ⟨⟨x, y, ns⟩, ex⟩ : ∃ z, is[j]'(by have := HLEN.out; omega) = z := ⟨_, rfl⟩
      rw [ex] at ca cb hx hp hmem ca2 cb2 hp2
      obtain rfl : m2 = m := hp2.1.symm.trans hp.1
      have hmn : m2 ≤ 1048576 := by
        have h1 := hp.1
        unfold insTot at hmem
        simp only at hmem h1
        omega
      have i1 : (0 : Int) ≤ (j : Int) := by omega
      have i2 : (j : Int) < (n : Int) := by omega
      obtain ⟨C, HC⟩ : ∃ C : World → Prop, Hid (∀ w', C w' ↔ Below wr.heap.size wr w') := ⟨_, hid fun _ => Iff.rfl⟩
      have HWR := hid (fun (W : World) (hW : C W) => show Below w.heap.size w W from hbel.trans (((HC.out W).1 hW).mono hbel.size))
      have HCC := hid (fun (W : World) (hW : C W) => show W.cell? ⟨g, o + j * 3, none⟩ = some (.string x) ∧ W.cell? ⟨g, o + j * 3 + 1, none⟩ = some (.string y) ∧ W.cell? ⟨g, o + j * 3 + 2, none⟩ = some (.slice D m2 d1) ∧ W.cell? ⟨g2, o2 + j * 3, none⟩ = some (.string x) ∧ W.cell? ⟨g2, o2 + j * 3 + 1, none⟩ = some (.string y) ∧ W.cell? ⟨g2, o2 + j * 3 + 2, none⟩ = some (.slice D2 m2 d2) from by
        have h := HWR.out W hW
        exact ⟨cell_below ca hgl h, cell_below cb hgl h, cell_below cc hgl h, cell_below ca2 hgl2 h, cell_below cb2 hgl2 h, cell_below cc2 hgl2 h⟩)
      have HEQ := hid (fun (W : World) (hW : C W) => eqInstance_same x y D D2 m2 d1 d2 ns W (hp.below (HWR.out W hW)) (hp2.below (HWR.out W hW)) hmn)
      have HCB := hid (fun (W W' : World) (hW : C W) (hb : Below W.heap.size W W') => show C W' from (HC.out W').2 (((HC.out W).1 hW).trans (hb.mono ((HC.out W).1 hW).size)))
      have HC1 := hid ((HC.out wr.drew).2 (Below.refl _ _).drew)
      clear hca hca2 hx ex ca cb cc hp hmem ca2 cb2 cc2 hp2
      go_wp2_with fail
      refine wp_region_loose (C := C) 9 (by kernel_rfl) (by kernel_rfl) HC1.out ?_
      simp only [List.take_succ_cons, List.take_zero]
      refine walk_by fun W hnil hval hcall hany hskip => ?_
      iterate 9 (first
        | (refine hval _ _ _ _ (fun _ => by rfl) ⟨_, fun q hq w' hw' => by
             obtain ⟨x0, x1, x2, y0, y1, y2⟩ := HCC.out w' hw'
             first | (go_simp; done) | (go_simp; rfl), ?_⟩
           simp only [Act.put, List.setIfInBounds_toArray, List.set_cons_zero, List.set_cons_succ])
        | (refine hcall _ _ _ _ (fun _ => by rfl) ⟨32, _, _, fun q hq w' hw' => ⟨by first | (go_simp; done) | (go_simp; rfl), (HEQ.out w' hw').mono fun e w'' h => ⟨h.1, HCB.out _ _ hw' h.2⟩⟩, ?_⟩
           simp only [Act.put, List.setIfInBounds_toArray, List.set_cons_zero, List.set_cons_succ]))
      refine hnil _ _ ?_
      intro qv hqv w' hw'
      simp only [List.drop_succ_cons, List.drop_zero]
      have hb' := HWR.out w' hw'
      clear hnil hval hcall hany
      go_wp2_with fail
      go_roundw
      case rel => exact ⟨j + 1, hlt, by go_num, hb'⟩
      case measure => simp [intOf]; omega
    · go_wp2_with fail
      go_ret
      exact ⟨rfl, hbel⟩

set_option maxHeartbeats 1000000 in
set_option maxRecDepth 100000 in
theorem eqWorld_same (A B A' B' : Option Addr) (n c c' m d d' : Nat) (zs : List (ByteArray × ByteArray)) (is : List Ins) (w : World) (ha : Prs w A n zs) (ha' : Prs w A' n zs) (hb : Inss w B m is) (hb' : Inss w B' m is) (hn : n ≤ 1048576) (hm : m + inssTot is ≤ 1048576) :
    Calls Tryz.prog 6 #[.agg #[.slice A n c, .slice B m d], .agg #[.slice A' n c', .slice B' m d']] w fun e w' => e = .returned (.bool true) ∧ Below w.heap.size w w' := by
  have b0 : ∀ o o', Below w.heap.size w ((w.alloc o).alloc o') := fun o o' => ((Below.refl _ _).alloc (Nat.le_refl _) o).alloc (by simp only [World.size_alloc]; omega) o'
  obtain ⟨w0, hw0⟩ : ∃ w0, (w.alloc (.cells #[.slice A n c, .slice B m d] 25)).alloc (.cells #[.slice A' n c', .slice B' m d'] 25) = w0 := ⟨_, rfl⟩
  have hz0 : w0.heap.size = w.heap.size + 2 := by rw [← hw0]; simp only [World.size_alloc]
  have HB0 := hid (show Below w.heap.size w w0 by rw [← hw0]; exact b0 _ _)
  have E0 := hid (show w0.heap[w.heap.size]? = some (.cells #[.slice A n c, .slice B m d] 25 (0, 0)) by
    rw [← hw0, Below.heap_alloc _ _ _ (by simp only [World.size_alloc]; omega)]
    exact heap_new1 w _)
  have E1 := hid (show w0.heap[w.heap.size + 1]? = some (.cells #[.slice A' n c', .slice B' m d'] 25 (0, 0)) by
    rw [← hw0]
    have := heap_new1 (w.alloc (.cells #[.slice A n c, .slice B m d] 25)) (.cells #[.slice A' n c', .slice B' m d'] 25)
    simpa only [World.size_alloc] using this)
  have HA := hid (ha.below HB0.out)
  have HA' := hid (ha'.below HB0.out)
  have HBB := hid hb
  have HBB' := hid hb'
  have HW0 := hid hw0
  have z0 : w.heap.size + 1 < w0.heap.size := by omega
  clear ha ha' hb hb' hw0 hz0
  go_enter Tryz.func6, Tryz.ntmps6
  go_wp2_with fail
  rw [HW0.out]
  refine (eqClassS_same A A' n c c' zs w0 HA.out HA'.out hn).mono ?_
  rintro e w1 ⟨rfl, c1⟩
  have HB1 := hid (HB0.out.trans (c1.mono HB0.out.size))
  have q0 := cell_blk ((c1.block w.heap.size (by omega)).trans E0.out) (j := 1) rfl
  have q1 := cell_blk ((c1.block (w.heap.size + 1) (by omega)).trans E1.out) (j := 1) rfl
  clear c1
  go_wp2_with fail
  refine (eqInstanceS_same B B' m d d' is w1 (HBB.out.below HB1.out) (HBB'.out.below HB1.out) hm).mono ?_
  rintro e w2 ⟨rfl, c2⟩
  go_wp2_with fail
  go_ret
  exact ⟨rfl, HB1.out.trans (c2.mono HB1.out.size)⟩

end Go.Proofs.YtjpdiahbnhemoaaGreatDoor
