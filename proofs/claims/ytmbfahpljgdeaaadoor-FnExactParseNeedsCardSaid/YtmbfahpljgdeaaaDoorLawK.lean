/- A world that the exact laws copy for themselves, in memory of its own: toInstanceS, toWorld. Rows of numbers in the exact laws: what is marked in them, and that they stay. Rows of needs that a call owns, in the exact laws. -/
import Derived.Test.YtmbfahpljgdeaaaDoorWld
import Derived.Test.YtmbfahpljgdeaaaDoorMrkX
import Derived.Test.YtmbfahpljgdeaaaDoorKeep
namespace Go.Proofs.YtmbfahpljgdeaaaDoor
open Go.RowKit
set_option linter.unusedVariables false

theorem OwnPrsNeed.row {w : World} {g n : Nat} {zs : List (ByteArray × ByteArray)} (h : OwnPrsNeed w g n zs) : RowPrN w g n zs := by
  obtain ⟨cur, h1, h2, h3⟩ := h
  exact ⟨cur, h1, by omega, h3⟩
theorem OwnPrsClass.row {w : World} {g n : Nat} {zs : List (ByteArray × ByteArray)} (h : OwnPrsClass w g n zs) : RowPrC w g n zs := by
  obtain ⟨cur, h1, h2, h3⟩ := h
  exact ⟨cur, h1, by omega, h3⟩

set_option maxHeartbeats 2000000 in
set_option maxRecDepth 100000 in
theorem toInstanceS_own (A : Option Addr) (n c : Nat) (is : List Ins) (w : World) (ha : Inss w A n is) (hn : n + inssTot is ≤ 1048576) :
    Calls Tryd.prog 40 #[.slice A n c] w fun e w' => e = .returned (.slice (some ⟨w.heap.size, 0, none⟩) n n) ∧ OwnW w' w.heap.size (some ⟨w.heap.size, 0, none⟩) n is ∧ Below w.heap.size w w' ∧ w.heap.size < w'.heap.size := by
  have HA := hid ha
  have HLEN := hid ha.1
  clear ha
  have hmk := run_makeIns n (by omega)
  go_enter Tryd.func40, Tryd.ntmps40
  go_wp2_with fail
  clear hmk
  have HG0 := hid (heap_new1 w (.cells (madeCells #[.string ⟨#[]⟩, .string ⟨#[]⟩, .slice none 0 0] (n * 3)) 45))
  go_loopw [4] (fun i wr => ∃ (j : Nat) (cur : Array Value) (ps : List InP), j ≤ n ∧ i = .int .i64 j ∧ wr.heap[w.heap.size]? = some (.cells cur 45 (0, 0)) ∧ cur.size = n * 3 ∧
      (∀ l, l < n → ∃ x y B m d, cur[l * 3]? = some (.string x) ∧ cur[l * 3 + 1]? = some (.string y) ∧ cur[l * 3 + 2]? = some (.slice B m d)) ∧
      (∀ (l : Nat) p, ps[l]? = some p → cur[l * 3]? = some (.string p.1.c) ∧ cur[l * 3 + 1]? = some (.string p.1.t) ∧ cur[l * 3 + 2]? = some (.slice p.2.1 p.1.ns.length p.2.2)) ∧ ps.map Prod.fst = is.take j ∧ InR wr w.heap.size w.heap.size ps ∧ Below w.heap.size w wr) (fun i _ => n - (intOf i).toNat)
  case atStart =>
    exact ⟨0, _, [], Nat.zero_le _, rfl, HG0.out, by simp [madeCells], fun l hl => ⟨⟨#[]⟩, ⟨#[]⟩, none, 0, 0, made3_get n l hl⟩, fun l p hl => by simp at hl, rfl, ⟨fun l p hl => by simp at hl, fun l k p q a b _ hl => by simp at hl⟩, (Below.refl _ _).alloc (Nat.le_refl _) _⟩
  case round =>
    obtain ⟨j, cur, ps, hj, rfl, hg, hc, hall, hdone, hps, hir, hbel⟩ := hrel
    have HALL := hid hall
    have HDONE := hid hdone
    have HG := hid hg
    have HPS := hid hps
    have HIR := hid hir
    have hpl : ps.length = j := by
      have h1 := congrArg List.length hps
      rw [List.length_map, List.length_take] at h1
      have := HLEN.out
      omega
    clear hall hdone hg hps hir
    by_cases hlt : j < n
    · obtain ⟨g, o, rfl, hgl, hca⟩ := HA.out.2 (by omega)
      have hx : is[j]? = some (is[j]'(by have := HLEN.out; omega)) := List.getElem?_eq_getElem _
      obtain ⟨ca, cb, D, m, d, cc, _, hp⟩ := hca j _ hx
      have hmem := inssTot_mem (List.mem_of_getElem? hx)
      obtain ⟨⟨x, y, ns⟩, ex⟩ : ∃ z, is[j]'(by have := HLEN.out; omega) = z := ⟨_, rfl⟩
      rw [ex] at ca cb hx hp hmem
      have hmn : m ≤ 1048576 := by
        have h1 := hp.1
        unfold insTot at hmem
        simp only at hmem h1
        omega
      have ca' := cell_below ca hgl hbel
      have cb' := cell_below cb hgl hbel
      have cc' := cell_below cc hgl hbel
      have HP := hid (hp.below hbel)
      have HX := hid hx
      clear hca hx ex ca cb cc hp hmem
      have i1 : (0 : Int) ≤ (j : Int) := by omega
      have i2 : (j : Int) < (n : Int) := by omega
      have zr := hbel.size
      have zg : w.heap.size < wr.heap.size := (Array.getElem?_eq_some_iff.1 HG.out).1
      go_wp2_with fail
      refine (toInstance_any x y D m d ns wr HP.out hmn).mono ?_
      rintro e w1 ⟨gn, rfl, hgn, hown, hb1⟩
      have HO := hid hown.row
      have hml : ns.length = m := hown.choose_spec.2.2.1
      have hgn2 : gn < w1.heap.size := by
        obtain ⟨cur', h1, _⟩ := hown
        exact (Array.getElem?_eq_some_iff.1 h1).1
      have hg1 := (hb1.block w.heap.size zg).trans HG.out
      obtain ⟨x0, y0, B0, m0, d0, hx0, hy0, hz0⟩ := HALL.out j (by omega)
      have q0 := cell_blk hg1 hx0
      have q1 := cell_blk hg1 hy0
      have q2 := cell_blk hg1 hz0
      have f0 := frz_blk hg1
      have HG1 := hid hg1
      clear hx0 hy0 hz0 hg1 hown
      go_wp2_with fail
      go_roundw
      case rel =>
        have hother : ∀ b, b ≠ w.heap.size → (((w1.setCell ⟨w.heap.size, j * 3, none⟩ (.string x)).setCell ⟨w.heap.size, j * 3 + 1, none⟩ (.string y)).setCell ⟨w.heap.size, j * 3 + 2, none⟩ (.slice (some ⟨gn, 0, none⟩) m m)).heap[b]? = w1.heap[b]? := fun b hb => by
          rw [Below.heap_setCell _ _ _ _ hb, Below.heap_setCell _ _ _ _ hb, Below.heap_setCell _ _ _ _ hb]
        have hsize : (((w1.setCell ⟨w.heap.size, j * 3, none⟩ (.string x)).setCell ⟨w.heap.size, j * 3 + 1, none⟩ (.string y)).setCell ⟨w.heap.size, j * 3 + 2, none⟩ (.slice (some ⟨gn, 0, none⟩) m m)).heap.size = w1.heap.size := by simp [World.setCell]
        have HPL := hid hpl
        clear hpl
        refine ⟨j + 1, ((cur.setIfInBounds (j * 3) (.string x)).setIfInBounds (j * 3 + 1) (.string y)).setIfInBounds (j * 3 + 2) (.slice (some ⟨gn, 0, none⟩) m m), ps ++ [(⟨x, y, ns⟩, (some ⟨gn, 0, none⟩, m))], hlt, by go_num, ?_, by simpa using hc, ?_, ?_, ?_, ?_, (((hbel.trans (hb1.mono zr)).setCell (Nat.le_refl _) _).setCell (Nat.le_refl _) _).setCell (Nat.le_refl _) _⟩
        · have h := HG1.out
          simp [World.setCell, Array.getElem?_modify, h]
        · intro l hl
          obtain ⟨x', y', B', m', d', h1, h2, h3⟩ := HALL.out l hl
          by_cases e : l = j
          · subst e
            refine ⟨x, y, some ⟨gn, 0, none⟩, m, m, ?_, ?_, ?_⟩
            · rw [Array.getElem?_setIfInBounds, if_neg (by omega), Array.getElem?_setIfInBounds, if_neg (by omega), Array.getElem?_setIfInBounds, if_pos rfl, if_pos (by omega)]
            · rw [Array.getElem?_setIfInBounds, if_neg (by omega), Array.getElem?_setIfInBounds, if_pos rfl, if_pos (by simp; omega)]
            · rw [Array.getElem?_setIfInBounds, if_pos rfl, if_pos (by simp; omega)]
          · refine ⟨x', y', B', m', d', ?_, ?_, ?_⟩
            · rw [Array.getElem?_setIfInBounds, if_neg (by omega), Array.getElem?_setIfInBounds, if_neg (by omega), Array.getElem?_setIfInBounds, if_neg (by omega)]
              exact h1
            · rw [Array.getElem?_setIfInBounds, if_neg (by omega), Array.getElem?_setIfInBounds, if_neg (by omega), Array.getElem?_setIfInBounds, if_neg (by omega)]
              exact h2
            · rw [Array.getElem?_setIfInBounds, if_neg (by omega), Array.getElem?_setIfInBounds, if_neg (by omega), Array.getElem?_setIfInBounds, if_neg (by omega)]
              exact h3
        · intro l p hl
          by_cases e : l = j
          · subst e
            rw [List.getElem?_append_right (by have := HPL.out; omega), show l - ps.length = 0 by have := HPL.out; omega] at hl
            simp only [List.getElem?_cons_zero, Option.some.injEq] at hl
            subst hl
            refine ⟨?_, ?_, ?_⟩
            · rw [Array.getElem?_setIfInBounds, if_neg (by omega), Array.getElem?_setIfInBounds, if_neg (by omega), Array.getElem?_setIfInBounds, if_pos rfl, if_pos (by omega)]
            · rw [Array.getElem?_setIfInBounds, if_neg (by omega), Array.getElem?_setIfInBounds, if_pos rfl, if_pos (by simp; omega)]
            · rw [Array.getElem?_setIfInBounds, if_pos rfl, if_pos (by simp; omega)]
              show some (Value.slice _ m m) = some (Value.slice _ ns.length m)
              rw [hml]
          · have hlp : l < ps.length := by
              have h1 := (List.getElem?_eq_some_iff.1 hl).1
              rw [List.length_append, List.length_singleton] at h1
              have := HPL.out
              omega
            rw [List.getElem?_append_left hlp] at hl
            obtain ⟨e1, e2, e3⟩ := HDONE.out l p hl
            have := HPL.out
            refine ⟨?_, ?_, ?_⟩
            · rw [Array.getElem?_setIfInBounds, if_neg (by omega), Array.getElem?_setIfInBounds, if_neg (by omega), Array.getElem?_setIfInBounds, if_neg (by omega)]
              exact e1
            · rw [Array.getElem?_setIfInBounds, if_neg (by omega), Array.getElem?_setIfInBounds, if_neg (by omega), Array.getElem?_setIfInBounds, if_neg (by omega)]
              exact e2
            · rw [Array.getElem?_setIfInBounds, if_neg (by omega), Array.getElem?_setIfInBounds, if_neg (by omega), Array.getElem?_setIfInBounds, if_neg (by omega)]
              exact e3
        · rw [List.map_append, HPS.out, List.take_add_one, HX.out]
          rfl
        · have h1 := (HIR.out.keep (w' := w1) hb1.size fun k _ hk _ => hb1.block k hk).keep (w' := ((w1.setCell ⟨w.heap.size, j * 3, none⟩ (.string x)).setCell ⟨w.heap.size, j * 3 + 1, none⟩ (.string y)).setCell ⟨w.heap.size, j * 3 + 2, none⟩ (.slice (some ⟨gn, 0, none⟩) m m)) (by rw [hsize]; omega) fun k _ _ hk => hother k hk
          refine h1.snoc (lo2 := wr.heap.size) ?_ zr (fun a ha => ?_) fun l q a hl ha => HIR.out.lt l q a hl ha
          · show OwnN _ wr.heap.size (some ⟨gn, 0, none⟩) ns.length ns
            rw [hml]
            exact .inr ⟨gn, rfl, hgn, by rw [hsize]; exact hgn2, HO.out.keep (hother gn (by omega))⟩
          · injection ha with ha
            rw [← ha]
            show gn ≠ w.heap.size
            omega
      case measure => simp [intOf]; omega
    · go_wp2_with fail
      go_ret
      have zg : w.heap.size < wr.heap.size := (Array.getElem?_eq_some_iff.1 HG.out).1
      have hjn : j = n := by omega
      refine ⟨rfl, .inr ⟨w.heap.size, ps, rfl, Nat.le_refl _, ?_, ⟨cur, HG.out, by omega, by omega, HDONE.out⟩, HIR.out⟩, hbel, zg⟩
      rw [HPS.out, hjn]
      exact List.take_of_length_le (by have := HLEN.out; omega)

set_option maxHeartbeats 2000000 in
set_option maxRecDepth 100000 in
theorem toWorld_own (A : Option Addr) (n c : Nat) (zs : List (ByteArray × ByteArray)) (B : Option Addr) (m d : Nat) (is : List Ins) (w : World) (ha : Prs w A n zs) (hb : Inss w B m is) (hn : n ≤ 1048576) (hm : m + inssTot is ≤ 1048576) :
    Calls Tryd.prog 12 #[.agg #[.slice A n c, .slice B m d]] w fun e w' => ∃ g h, e = .returned (.agg #[.slice (some ⟨g, 0, none⟩) n n, .slice (some ⟨h, 0, none⟩) m m]) ∧ w.heap.size ≤ g ∧ g < h ∧ OwnC w' w.heap.size (some ⟨g, 0, none⟩) n zs ∧ OwnW w' h (some ⟨h, 0, none⟩) m is ∧ Below w.heap.size w w' := by
  have HA := hid ha
  have HB := hid hb
  clear ha hb
  obtain ⟨w0, hw0⟩ : ∃ w0, ((w.alloc (.cells #[.slice A n c, .slice B m d] 25)).alloc (.cells #[.slice none 0 0, .slice none 0 0] 31)).alloc (.cells #[.slice none 0 0, .slice none 0 0] 31) = w0 := ⟨_, rfl⟩
  have hz0 : w0.heap.size = w.heap.size + 3 := by rw [← hw0]; simp only [World.size_alloc]
  have HB0 := hid (show Below w.heap.size w w0 by rw [← hw0]; exact (((Below.refl w.heap.size w).alloc (Nat.le_refl _) _).alloc (by simp only [World.size_alloc]; omega) _).alloc (by simp only [World.size_alloc]; omega) _)
  have E0 := hid (show w0.heap[w.heap.size]? = some (.cells #[.slice A n c, .slice B m d] 25 (0, 0)) by
    rw [← hw0, Below.heap_alloc _ _ _ (by simp only [World.size_alloc]; omega), Below.heap_alloc _ _ _ (by simp only [World.size_alloc]; omega)]
    exact heap_new1 w _)
  have E1 := hid (show w0.heap[w.heap.size + 1]? = some (.cells #[.slice none 0 0, .slice none 0 0] 31 (0, 0)) by
    rw [← hw0, Below.heap_alloc _ _ _ (by simp only [World.size_alloc]; omega)]
    have := heap_new1 (w.alloc (.cells #[.slice A n c, .slice B m d] 25)) (.cells #[.slice none 0 0, .slice none 0 0] 31)
    simpa only [World.size_alloc] using this)
  have E2 := hid (show w0.heap[w.heap.size + 1 + 1]? = some (.cells #[.slice none 0 0, .slice none 0 0] 31 (0, 0)) by
    rw [← hw0]
    have := heap_new1 ((w.alloc (.cells #[.slice A n c, .slice B m d] 25)).alloc (.cells #[.slice none 0 0, .slice none 0 0] 31)) (.cells #[.slice none 0 0, .slice none 0 0] 31)
    simpa only [World.size_alloc] using this)
  have HW0 := hid hw0
  have z0 : w.heap.size + 2 < w0.heap.size := by omega
  clear hw0 hz0
  go_enter Tryd.func12, Tryd.ntmps12
  go_wp2_with fail
  rw [HW0.out]
  refine (toClassS_any A n c zs w0 (HA.out.below HB0.out) hn).mono ?_
  rintro e w1 ⟨rfl, ho1, c1⟩
  have HO1 := hid ho1.row
  have hg1 : w0.heap.size < w1.heap.size := by
    obtain ⟨cur', h1, _⟩ := ho1
    exact (Array.getElem?_eq_some_iff.1 h1).1
  have F0 := hid ((c1.block w.heap.size (by omega)).trans E0.out)
  have F1 := hid ((c1.block (w.heap.size + 1) (by omega)).trans E1.out)
  have F2 := hid ((c1.block (w.heap.size + 1 + 1) (by omega)).trans E2.out)
  have HB1 := hid (HB0.out.trans (c1.mono HB0.out.size))
  have q0 := cell_blk F2.out (j := 0) rfl
  have f2 := frz_blk F2.out
  have r1 : w1.cell? ⟨w.heap.size, 1, none⟩ = some (.slice B m d) := cell_blk F0.out rfl
  clear ho1 c1
  go_wp2_with fail
  obtain ⟨w2, hw2⟩ : ∃ w2, w1.setCell ⟨w.heap.size + 1 + 1, 0, none⟩ (.slice (some ⟨w0.heap.size, 0, none⟩) n n) = w2 := ⟨_, rfl⟩
  have HB2 := hid (show Below w.heap.size w w2 by rw [← hw2]; exact HB1.out.setCell (by show w.heap.size ≤ w.heap.size + 1 + 1; omega) _)
  have hz2 : w2.heap.size = w1.heap.size := by rw [← hw2]; simp [World.setCell]
  have G2 := hid (show w2.heap[w.heap.size + 1 + 1]? = some (.cells #[.slice (some ⟨w0.heap.size, 0, none⟩) n n, .slice none 0 0] 31 (0, 0)) by
    have h := F2.out
    rw [← hw2]
    simp [World.setCell, Array.getElem?_modify, h])
  have hoth : ∀ b, b ≠ w.heap.size + 1 + 1 → w2.heap[b]? = w1.heap[b]? := fun b hb => by rw [← hw2]; exact Below.heap_setCell _ _ _ _ hb
  have G1 := hid ((hoth (w.heap.size + 1) (by omega)).trans F1.out)
  have HO2 := hid (HO1.out.keep (w' := w2) (hoth w0.heap.size (by omega)))
  rw [hw2]
  have HW2 := hid hw2
  have z2 : w1.heap.size ≤ w2.heap.size := by omega
  clear hw2 hoth q0 f2 r1 hz2
  refine (toInstanceS_own B m d is w2 (HB.out.below HB2.out) hm).mono ?_
  rintro e w3 ⟨rfl, ho3, c3, hz3⟩
  have HB3 := hid (HB2.out.trans (c3.mono HB2.out.size))
  have K2 := hid ((c3.block (w.heap.size + 1 + 1) (by omega)).trans G2.out)
  have K1 := hid ((c3.block (w.heap.size + 1) (by omega)).trans G1.out)
  have HO3 := hid (HO2.out.keep (w' := w3) (c3.block _ (by omega)))
  have HI3 := hid ho3
  have q0 := cell_blk K2.out (j := 0) rfl
  have q1 := cell_blk K2.out (j := 1) rfl
  have p0 := cell_blk K1.out (j := 0) rfl
  have p1 := cell_blk K1.out (j := 1) rfl
  have f1 := frz_blk K1.out
  have f2 := frz_blk K2.out
  clear ho3 c3
  go_wp2_with fail
  have hoth : ∀ b, b ≠ w.heap.size + 1 → b ≠ w.heap.size + 1 + 1 → (((w3.setCell ⟨w.heap.size + 1 + 1, 1, none⟩ (.slice (some ⟨w2.heap.size, 0, none⟩) m m)).setCell ⟨w.heap.size + 1, 0, none⟩ (.slice (some ⟨w0.heap.size, 0, none⟩) n n)).setCell ⟨w.heap.size + 1, 1, none⟩ (.slice (some ⟨w2.heap.size, 0, none⟩) m m)).heap[b]? = w3.heap[b]? := fun b h1 h2 => by
    rw [Below.heap_setCell _ _ _ _ h1, Below.heap_setCell _ _ _ _ h1, Below.heap_setCell _ _ _ _ h2]
  have hsz : (((w3.setCell ⟨w.heap.size + 1 + 1, 1, none⟩ (.slice (some ⟨w2.heap.size, 0, none⟩) m m)).setCell ⟨w.heap.size + 1, 0, none⟩ (.slice (some ⟨w0.heap.size, 0, none⟩) n n)).setCell ⟨w.heap.size + 1, 1, none⟩ (.slice (some ⟨w2.heap.size, 0, none⟩) m m)).heap.size = w3.heap.size := by simp [World.setCell]
  refine bodyPost_ret (v := .agg #[.slice (some ⟨w0.heap.size, 0, none⟩) n n, .slice (some ⟨w2.heap.size, 0, none⟩) m m]) (by simp [results, Tryd.results12, go_sem, p0, p1]) rfl ⟨w0.heap.size, w2.heap.size, rfl, by omega, by omega, ?_, ?_, ?_⟩
  · have hg3 : w0.heap.size < w3.heap.size := by omega
    exact .inr ⟨w0.heap.size, rfl, by omega, by rw [hsz]; exact hg3, HO3.out.keep (hoth w0.heap.size (by omega) (by omega))⟩
  · exact HI3.out.keep (by rw [hsz]; omega) fun k hk _ => hoth k (by omega) (by omega)
  · exact ((HB3.out.setCell (by show w.heap.size ≤ w.heap.size + 1 + 1; omega) _).setCell (by show w.heap.size ≤ w.heap.size + 1; omega) _).setCell (by show w.heap.size ≤ w.heap.size + 1; omega) _

end Go.Proofs.YtmbfahpljgdeaaaDoor

namespace Go.Proofs.YtmbfahpljgdeaaaDoor
open Go.RowKit
set_option linter.unusedVariables false

theorem NumAt.ints {w : World} {A : Option Addr} {n : Nat} {ks : List Nat} (h : NumAt w A n ks) : Ints w A n (zOf ks) := by
  refine ⟨by rw [zOf_length]; exact h.1, fun hn => ?_⟩
  obtain ⟨g, o, e, hg, hc⟩ := h.2 hn
  refine ⟨g, o, e, hg, fun j x hj => ?_⟩
  obtain ⟨k, hk, rfl⟩ := zOf_at hj
  exact hc j k hk
theorem But.below_from {w w' : World} {g lo : Nat} (h : But w.heap.size g w w') (hl : lo ≤ g) (hw : lo ≤ w.heap.size) : Below lo w w' :=
  ⟨h.os, h.tape, h.output, h.size, fun k hk => h.block k (Nat.lt_of_lt_of_le hk hw) (by omega)⟩
end Go.Proofs.YtmbfahpljgdeaaaDoor

namespace Go.Proofs.YtmbfahpljgdeaaaDoor
open Go.RowKit
set_option linter.unusedVariables false

theorem needInfoD : (Tryd.prog.info? 42).map (fun i => (i.zero, i.size, i.bytes)) = some (some (.agg #[.string ⟨#[]⟩, .string ⟨#[]⟩]), 2, 32) := by kernel_rfl
/-- A slice that owns needs, from a block on. -/
def OwnNd (w : World) (lo : Nat) (v : Value) (zs : List (ByteArray × ByteArray)) : Prop := w.ownsRow lo 42 2 v zs.length (cells2 zs)
theorem OwnNd.form {w : World} {lo : Nat} {v : Value} {zs : List (ByteArray × ByteArray)} (h : OwnNd w lo v zs) : ∃ A c, v = .slice A zs.length c ∧ zs.length ≤ c ∧ c ≤ maxLen ∧ Prs w A zs.length zs := by
  obtain ⟨B, c, e, hc, hp⟩ := own_pairs h
  refine ⟨B, c, e, hc, ?_, hp⟩
  rcases h.2 with ⟨e2, h0⟩ | ⟨g, cap, cur, e2, hb, hg, hc2, hm, hs, ht⟩
  · rw [e2] at e
    injection e with e3 e4 e5
    rw [← e5]
    exact Nat.zero_le _
  · rw [e2] at e
    injection e with e3 e4 e5
    rw [← e5]
    exact hm
theorem OwnNd.keep {w w' : World} {lo : Nat} {v : Value} {zs : List (ByteArray × ByteArray)} (h : OwnNd w lo v zs) (hb : Below w.heap.size w w') : OwnNd w' lo v zs := own_keep h fun g hg => hb.block g (h.lt g hg).2
theorem OwnNd.mono {w : World} {lo lo' : Nat} {v : Value} {zs : List (ByteArray × ByteArray)} (h : OwnNd w lo' v zs) (hl : lo ≤ lo') : OwnNd w lo v zs := by
  refine ⟨h.1, ?_⟩
  rcases h.2 with h' | ⟨g, cap, cur, h1, h2, h3⟩
  · exact .inl h'
  · exact .inr ⟨g, cap, cur, h1, Nat.le_trans hl h2, h3⟩
/-- Needs of a slice's own, and whether there are any. -/
def TwoNd (w : World) (zs : List (ByteArray × ByteArray)) (b : Bool) (e : Ending) (w' : World) : Prop := (∃ v, e = .returned (.tuple #[v, .bool b]) ∧ OwnNd w' w.heap.size v zs) ∧ Below w.heap.size w w'
theorem eqNeedS_b (A B : Option Addr) (n c d : Nat) (zs : List (ByteArray × ByteArray)) (w : World) (ha : Prs w A n zs) (hb : Prs w B n zs) (hn : n ≤ 1048576) :
    Calls Tryd.prog 33 #[.slice A n c, .slice B n d] w fun e w' => e = .returned (.bool true) ∧ Below w.heap.size w w' :=
  (eqNeedS_same A B n c d zs w ha hb hn).mono fun e w' ⟨h1, h2⟩ => ⟨h1, h2⟩
/-- Marks laid into what a call owns: nothing below has changed. -/
theorem markNd_any (lo : Nat) (A : Option Addr) (n c k : Nat) (zs : List (ByteArray × ByteArray)) (w : World) (h : OwnNd w lo (.slice A n c) zs) (hn : zs.length = n) (hlo : lo ≤ w.heap.size) (hk : 0 < k) (hkn : k + 2 * n ≤ 4194304) :
    Calls Tryd.prog 34 #[.slice A n c, .int .i64 k] w fun e w' => e = .returned (.int .i64 (k + 2 * n : Nat)) ∧ Prs w' A n (marksN k n) ∧ Below lo w w' := by
  subst hn
  have ho : OwnN w lo A zs.length zs := OwnN.of h
  obtain ⟨rb, hrb, hlb⟩ : ∃ rb, (∀ a, A = some a → a.block = rb) ∧ lo ≤ rb := by
    rcases ho with ⟨rfl, _, _⟩ | ⟨g, rfl, h1, h2, _⟩
    · exact ⟨lo, (fun a ha => by cases ha), Nat.le_refl _⟩
    · exact ⟨g, (fun a ha => by injection ha with ha; rw [← ha]), h1⟩
  exact (markNeeds_own A k zs.length c lo rb zs w ho hrb hk hkn).mono fun e w' ⟨h4, h5, h6⟩ => ⟨h4, h5.prs, h6.below_from hlb hlo⟩

end Go.Proofs.YtmbfahpljgdeaaaDoor
