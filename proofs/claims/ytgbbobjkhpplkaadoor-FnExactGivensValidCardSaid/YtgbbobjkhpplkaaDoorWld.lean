/- The exact laws' own helpers over worlds: toInstanceS, eqInstanceS, szWorld, toWorld, eqWorld. -/
import Derived.Test.YtgbbobjkhpplkaaDoorInsA
import Derived.Test.YtgbbobjkhpplkaaDoorArgsC
import Derived.Test.YtgbbobjkhpplkaaDoorLoose
namespace Go.Proofs.YtgbbobjkhpplkaaDoor
open Go.RowKit

theorem insInfo : (Tryd.prog.info? 63).map (fun i => (i.zero, i.size, i.bytes)) = some (some (.agg #[.string ⟨#[]⟩, .string ⟨#[]⟩, .slice none 0 0]), 3, 56) := by kernel_rfl
theorem run_makeIns (n : Nat) (hn : n ≤ 1048576) (w : World) :
    (Instr.makeSlice 31 (.int .i64 (n : Int)) (.int .i64 (n : Int))).run Tryd.prog w = .ok (.slice (some ⟨w.heap.size, 0, none⟩) n n) (w.alloc (.cells (madeCells #[.string ⟨#[]⟩, .string ⟨#[]⟩, .slice none 0 0] (n * 3)) 63)) := by
  obtain ⟨i, hi, hz, hs, hb⟩ := info_parts insInfo
  have := run_make (P := Tryd.prog) w 31 63 i _ Tryd.underlying31 hi hz .i64 .i64 n n (by omega) (Int.le_refl _) (by rw [hb]; omega) (by omega)
  rw [this, hs]
  rfl
theorem made3_get (n l : Nat) (h : l < n) : (madeCells #[.string ⟨#[]⟩, .string ⟨#[]⟩, .slice none 0 0] (n * 3))[l * 3]? = some (Value.string ⟨#[]⟩) ∧ (madeCells #[.string ⟨#[]⟩, .string ⟨#[]⟩, .slice none 0 0] (n * 3))[l * 3 + 1]? = some (Value.string ⟨#[]⟩) ∧ (madeCells #[.string ⟨#[]⟩, .string ⟨#[]⟩, .slice none 0 0] (n * 3))[l * 3 + 2]? = some (Value.slice none 0 0) := by
  have h0 : l * 3 < n * 3 := by omega
  have h1 : l * 3 + 1 < n * 3 := by omega
  have h2 : l * 3 + 2 < n * 3 := by omega
  have e1 : (l * 3 + 1) % 3 = 1 := by omega
  have e2 : (l * 3 + 2) % 3 = 2 := by omega
  exact ⟨by simp [madeCells, h0], by simp [madeCells, h1, e1], by simp [madeCells, h2, e2]⟩

/-- A slice of n instances in memory of its own, from a block on. -/
def InssO (w : World) (lo : Nat) (A : Option Addr) (n : Nat) (is : List Ins) : Prop :=
  is.length = n ∧ ∃ g, A = some ⟨g, 0, none⟩ ∧ lo ≤ g ∧ g < w.heap.size ∧ ∀ (j : Nat) i, is[j]? = some i → w.cell? ⟨g, j * 3, none⟩ = some (.string i.c) ∧ w.cell? ⟨g, j * 3 + 1, none⟩ = some (.string i.t) ∧
    ∃ b m, w.cell? ⟨g, j * 3 + 2, none⟩ = some (.slice (some ⟨b, 0, none⟩) m m) ∧ lo ≤ b ∧ m ≤ 1048576 ∧ Prs w (some ⟨b, 0, none⟩) m i.ns
theorem InssO.inss {w : World} {lo : Nat} {A : Option Addr} {n : Nat} {is : List Ins} (h : InssO w lo A n is) : Inss w A n is := by
  obtain ⟨hl, g, rfl, _, hg, hc⟩ := h
  refine ⟨hl, fun _ => ⟨g, 0, rfl, hg, fun j i hj => ?_⟩⟩
  obtain ⟨h1, h2, b, m, h3, _, h5, h6⟩ := hc j i hj
  rw [Nat.zero_add]
  exact ⟨h1, h2, _, m, m, h3, by unfold maxLen; omega, h6⟩
theorem InssO.keep {w w' : World} {lo : Nat} {A : Option Addr} {n : Nat} {is : List Ins} (h : InssO w lo A n is) (hz : w.heap.size ≤ w'.heap.size) (hk : ∀ k, lo ≤ k → k < w.heap.size → w'.heap[k]? = w.heap[k]?) : InssO w' lo A n is := by
  obtain ⟨hl, g, rfl, hlo, hg, hc⟩ := h
  refine ⟨hl, g, rfl, hlo, Nat.lt_of_lt_of_le hg hz, fun j i hj => ?_⟩
  obtain ⟨h1, h2, b, m, h3, h4, h5, h6⟩ := hc j i hj
  have e := hk g hlo hg
  refine ⟨?_, ?_, b, m, ?_, h4, h5, ?_⟩
  · rw [World.cell?_of_block (w := w) (w' := w') (a := ⟨g, j * 3, none⟩) e]; exact h1
  · rw [World.cell?_of_block (w := w) (w' := w') (a := ⟨g, j * 3 + 1, none⟩) e]; exact h2
  · rw [World.cell?_of_block (w := w) (w' := w') (a := ⟨g, j * 3 + 2, none⟩) e]; exact h3
  · by_cases hm : 0 < m
    · obtain ⟨g', o', e', hg', _⟩ := h6.2 hm
      simp only [Option.some.injEq, Addr.mk.injEq] at e'
      refine h6.keep hz fun a ha => ?_
      simp only [Option.some.injEq] at ha
      subst ha
      exact hk b h4 (by omega)
    · exact ⟨h6.1, fun h => absurd h hm⟩

set_option maxHeartbeats 2000000 in
set_option maxRecDepth 100000 in
theorem toInstanceS_any (A : Option Addr) (n c : Nat) (is : List Ins) (w : World) (ha : Inss w A n is) (hn : n + inssTot is ≤ 1048576) :
    Calls Tryd.prog 18 #[.slice A n c] w fun e w' => e = .returned (.slice (some ⟨w.heap.size, 0, none⟩) n n) ∧ InssO w' w.heap.size (some ⟨w.heap.size, 0, none⟩) n is ∧ Below w.heap.size w w' ∧ w.heap.size < w'.heap.size := by
  have HA := hid ha
  have HLEN := hid ha.1
  clear ha
  have hmk := run_makeIns n (by omega)
  go_enter Tryd.func18, Tryd.ntmps18
  go_wp2_with fail
  clear hmk
  have HG0 := hid (heap_new1 w (.cells (madeCells #[.string ⟨#[]⟩, .string ⟨#[]⟩, .slice none 0 0] (n * 3)) 63))
  go_loopw [4] (fun i wr => ∃ (j : Nat) (cur : Array Value), j ≤ n ∧ i = .int .i64 j ∧ wr.heap[w.heap.size]? = some (.cells cur 63 (0, 0)) ∧ cur.size = n * 3 ∧
      (∀ l, l < n → ∃ x y B m d, cur[l * 3]? = some (.string x) ∧ cur[l * 3 + 1]? = some (.string y) ∧ cur[l * 3 + 2]? = some (.slice B m d)) ∧
      (∀ l i, l < j → is[l]? = some i → cur[l * 3]? = some (.string i.c) ∧ cur[l * 3 + 1]? = some (.string i.t) ∧ ∃ g m, cur[l * 3 + 2]? = some (.slice (some ⟨g, 0, none⟩) m m) ∧ w.heap.size < g ∧ m ≤ 1048576 ∧ Prs wr (some ⟨g, 0, none⟩) m i.ns) ∧ Below w.heap.size w wr) (fun i _ => n - (intOf i).toNat)
  case atStart =>
    exact ⟨0, _, Nat.zero_le _, rfl, HG0.out, by simp [madeCells], fun l hl => ⟨⟨#[]⟩, ⟨#[]⟩, none, 0, 0, made3_get n l hl⟩, fun l x hl => absurd hl (Nat.not_lt_zero _), (Below.refl _ _).alloc (Nat.le_refl _) _⟩
  case round =>
    obtain ⟨j, cur, hj, rfl, hg, hc, hall, hdone, hbel⟩ := hrel
    have HALL := hid hall
    have HDONE := hid hdone
    have HG := hid hg
    clear hall hdone hg
    by_cases hlt : j < n
    · obtain ⟨g, o, rfl, hgl, hca⟩ := HA.out.2 (by omega)
      have hx : is[j]? = some (is[j]'(by have := HLEN.out; omega)) := List.getElem?_eq_getElem _
      obtain ⟨ca, cb, D, m, d, cc, _, hp⟩ := hca j _ hx
      have hmem := inssTot_mem (List.mem_of_getElem? hx)
      obtain ⟨⟨x, y, ns⟩, ex⟩ : ∃ z, is[j]'(by have := HLEN.out; omega) = z := ⟨_, rfl⟩
      rw [ex] at ca cb hx hp hmem
      have hmn : m ≤ 1048576 := by
        have h1 := hp.1
        unfold insTot at hmem
        simp only at hmem h1
        omega
      have ca' := cell_below ca hgl hbel
      have cb' := cell_below cb hgl hbel
      have cc' := cell_below cc hgl hbel
      have HP := hid (hp.below hbel)
      have HX := hid hx
      clear hca hx ex ca cb cc hp hmem
      have i1 : (0 : Int) ≤ (j : Int) := by omega
      have i2 : (j : Int) < (n : Int) := by omega
      have zr := hbel.size
      have zg : w.heap.size < wr.heap.size := (Array.getElem?_eq_some_iff.1 HG.out).1
      go_wp2_with fail
      refine (toInstance_any x y D m d ns wr HP.out hmn).mono ?_
      rintro e w1 ⟨gn, rfl, hgn, hown, hb1⟩
      have HO := hid hown.prs
      have hgn2 : gn < w1.heap.size := by
        obtain ⟨cur', h1, _⟩ := hown
        exact (Array.getElem?_eq_some_iff.1 h1).1
      have hg1 := (hb1.block w.heap.size zg).trans HG.out
      obtain ⟨x0, y0, B0, m0, d0, hx0, hy0, hz0⟩ := HALL.out j (by omega)
      have q0 := cell_blk hg1 hx0
      have q1 := cell_blk hg1 hy0
      have q2 := cell_blk hg1 hz0
      have f0 := frz_blk hg1
      have HG1 := hid hg1
      clear hx0 hy0 hz0 hg1 hown
      go_wp2_with fail
      go_roundw
      case rel =>
        have hother : ∀ b, b ≠ w.heap.size → (((w1.setCell ⟨w.heap.size, j * 3, none⟩ (.string x)).setCell ⟨w.heap.size, j * 3 + 1, none⟩ (.string y)).setCell ⟨w.heap.size, j * 3 + 2, none⟩ (.slice (some ⟨gn, 0, none⟩) m m)).heap[b]? = w1.heap[b]? := fun b hb => by
          rw [Below.heap_setCell _ _ _ _ hb, Below.heap_setCell _ _ _ _ hb, Below.heap_setCell _ _ _ _ hb]
        have hsize : (((w1.setCell ⟨w.heap.size, j * 3, none⟩ (.string x)).setCell ⟨w.heap.size, j * 3 + 1, none⟩ (.string y)).setCell ⟨w.heap.size, j * 3 + 2, none⟩ (.slice (some ⟨gn, 0, none⟩) m m)).heap.size = w1.heap.size := by simp [World.setCell]
        refine ⟨j + 1, ((cur.setIfInBounds (j * 3) (.string x)).setIfInBounds (j * 3 + 1) (.string y)).setIfInBounds (j * 3 + 2) (.slice (some ⟨gn, 0, none⟩) m m), hlt, by go_num, ?_, by simpa using hc, ?_, ?_, (((hbel.trans (hb1.mono zr)).setCell (Nat.le_refl _) _).setCell (Nat.le_refl _) _).setCell (Nat.le_refl _) _⟩
        · have h := HG1.out
          simp [World.setCell, Array.getElem?_modify, h]
        · intro l hl
          obtain ⟨x', y', B', m', d', h1, h2, h3⟩ := HALL.out l hl
          by_cases e : l = j
          · subst e
            refine ⟨x, y, some ⟨gn, 0, none⟩, m, m, ?_, ?_, ?_⟩
            · rw [Array.getElem?_setIfInBounds, if_neg (by omega), Array.getElem?_setIfInBounds, if_neg (by omega), Array.getElem?_setIfInBounds, if_pos rfl, if_pos (by omega)]
            · rw [Array.getElem?_setIfInBounds, if_neg (by omega), Array.getElem?_setIfInBounds, if_pos rfl, if_pos (by simp; omega)]
            · rw [Array.getElem?_setIfInBounds, if_pos rfl, if_pos (by simp; omega)]
          · refine ⟨x', y', B', m', d', ?_, ?_, ?_⟩
            · rw [Array.getElem?_setIfInBounds, if_neg (by omega), Array.getElem?_setIfInBounds, if_neg (by omega), Array.getElem?_setIfInBounds, if_neg (by omega)]
              exact h1
            · rw [Array.getElem?_setIfInBounds, if_neg (by omega), Array.getElem?_setIfInBounds, if_neg (by omega), Array.getElem?_setIfInBounds, if_neg (by omega)]
              exact h2
            · rw [Array.getElem?_setIfInBounds, if_neg (by omega), Array.getElem?_setIfInBounds, if_neg (by omega), Array.getElem?_setIfInBounds, if_neg (by omega)]
              exact h3
        · intro l z hl hz
          by_cases e : l = j
          · subst e
            rw [HX.out] at hz
            simp only [Option.some.injEq] at hz
            subst hz
            refine ⟨?_, ?_, gn, m, ?_, by omega, hmn, ?_⟩
            · rw [Array.getElem?_setIfInBounds, if_neg (by omega), Array.getElem?_setIfInBounds, if_neg (by omega), Array.getElem?_setIfInBounds, if_pos rfl, if_pos (by omega)]
            · rw [Array.getElem?_setIfInBounds, if_neg (by omega), Array.getElem?_setIfInBounds, if_pos rfl, if_pos (by simp; omega)]
            · rw [Array.getElem?_setIfInBounds, if_pos rfl, if_pos (by simp; omega)]
            · refine HO.out.keep (by rw [hsize]; omega) fun a ha => ?_
              simp only [Option.some.injEq] at ha
              subst ha
              exact hother gn (by omega)
          · obtain ⟨e1, e2, g', m', e3, hg', hm', hp'⟩ := HDONE.out l z (by omega) hz
            refine ⟨?_, ?_, g', m', ?_, hg', hm', ?_⟩
            · rw [Array.getElem?_setIfInBounds, if_neg (by omega), Array.getElem?_setIfInBounds, if_neg (by omega), Array.getElem?_setIfInBounds, if_neg (by omega)]
              exact e1
            · rw [Array.getElem?_setIfInBounds, if_neg (by omega), Array.getElem?_setIfInBounds, if_neg (by omega), Array.getElem?_setIfInBounds, if_neg (by omega)]
              exact e2
            · rw [Array.getElem?_setIfInBounds, if_neg (by omega), Array.getElem?_setIfInBounds, if_neg (by omega), Array.getElem?_setIfInBounds, if_neg (by omega)]
              exact e3
            · refine (hp'.below hb1).keep (by rw [hsize]; omega) fun a ha => ?_
              simp only [Option.some.injEq] at ha
              subst ha
              exact hother g' (by omega)
      case measure => simp [intOf]; omega
    · go_wp2_with fail
      go_ret
      have zg : w.heap.size < wr.heap.size := (Array.getElem?_eq_some_iff.1 HG.out).1
      refine ⟨rfl, ⟨HLEN.out, w.heap.size, rfl, Nat.le_refl _, zg, fun l z hl => ?_⟩, hbel, zg⟩
      have hln : l < n := by
        have := (List.getElem?_eq_some_iff.1 hl).1
        have := HLEN.out
        omega
      obtain ⟨e1, e2, g', m', e3, hg', hm', hp'⟩ := HDONE.out l z (by omega) hl
      exact ⟨cell_blk HG.out e1, cell_blk HG.out e2, g', m', cell_blk HG.out e3, by omega, hm', hp'⟩

set_option maxHeartbeats 2000000 in
set_option maxRecDepth 100000 in
theorem eqInstanceS_same (A B : Option Addr) (n c d : Nat) (is : List Ins) (w : World) (ha : Inss w A n is) (hb : Inss w B n is) (hn : n + inssTot is ≤ 1048576) :
    Calls Tryd.prog 25 #[.slice A n c, .slice B n d] w fun e w' => e = .returned (.bool true) ∧ Below w.heap.size w w' := by
  have HA := hid ha
  have HB := hid hb
  have HLEN := hid ha.1
  clear ha hb
  go_enter Tryd.func25, Tryd.ntmps25
  go_wp2_with fail
  go_loopw [5] (fun i wr => ∃ j : Nat, j ≤ n ∧ i = .int .i64 j ∧ Below w.heap.size w wr) (fun i _ => n - (intOf i).toNat)
  case atStart => exact ⟨0, Nat.zero_le _, rfl, Below.refl _ _⟩
  case round =>
    obtain ⟨j, hj, rfl, hbel⟩ := hrel
    by_cases hlt : j < n
    · obtain ⟨g, o, rfl, hgl, hca⟩ := HA.out.2 (by omega)
      obtain ⟨g2, o2, rfl, hgl2, hca2⟩ := HB.out.2 (by omega)
      have hx : is[j]? = some (is[j]'(by have := HLEN.out; omega)) := List.getElem?_eq_getElem _
      obtain ⟨ca, cb, D, m, d1, cc, _, hp⟩ := hca j _ hx
      obtain ⟨ca2, cb2, D2, m2, d2, cc2, _, hp2⟩ := hca2 j _ hx
      have hmem := inssTot_mem (List.mem_of_getElem? hx)
      obtain ⟨⟨x, y, ns⟩, ex⟩ : ∃ z, is[j]'(by have := HLEN.out; omega) = z := ⟨_, rfl⟩
      rw [ex] at ca cb hx hp hmem ca2 cb2 hp2
      obtain rfl : m2 = m := hp2.1.symm.trans hp.1
      have hmn : m2 ≤ 1048576 := by
        have h1 := hp.1
        unfold insTot at hmem
        simp only at hmem h1
        omega
      have i1 : (0 : Int) ≤ (j : Int) := by omega
      have i2 : (j : Int) < (n : Int) := by omega
      obtain ⟨C, HC⟩ : ∃ C : World → Prop, Hid (∀ w', C w' ↔ Below wr.heap.size wr w') := ⟨_, hid fun _ => Iff.rfl⟩
      have HWR := hid (fun (W : World) (hW : C W) => show Below w.heap.size w W from hbel.trans (((HC.out W).1 hW).mono hbel.size))
      have HCC := hid (fun (W : World) (hW : C W) => show W.cell? ⟨g, o + j * 3, none⟩ = some (.string x) ∧ W.cell? ⟨g, o + j * 3 + 1, none⟩ = some (.string y) ∧ W.cell? ⟨g, o + j * 3 + 2, none⟩ = some (.slice D m2 d1) ∧ W.cell? ⟨g2, o2 + j * 3, none⟩ = some (.string x) ∧ W.cell? ⟨g2, o2 + j * 3 + 1, none⟩ = some (.string y) ∧ W.cell? ⟨g2, o2 + j * 3 + 2, none⟩ = some (.slice D2 m2 d2) from by
        have h := HWR.out W hW
        exact ⟨cell_below ca hgl h, cell_below cb hgl h, cell_below cc hgl h, cell_below ca2 hgl2 h, cell_below cb2 hgl2 h, cell_below cc2 hgl2 h⟩)
      have HEQ := hid (fun (W : World) (hW : C W) => eqInstance_same x y D D2 m2 d1 d2 ns W (hp.below (HWR.out W hW)) (hp2.below (HWR.out W hW)) hmn)
      have HCB := hid (fun (W W' : World) (hW : C W) (hb : Below W.heap.size W W') => show C W' from (HC.out W').2 (((HC.out W).1 hW).trans (hb.mono ((HC.out W).1 hW).size)))
      have HC1 := hid ((HC.out wr.drew).2 (Below.refl _ _).drew)
      clear hca hca2 hx ex ca cb cc hp hmem ca2 cb2 cc2 hp2
      go_wp2_with fail
      refine wp_region_loose (C := C) 9 (by kernel_rfl) (by kernel_rfl) HC1.out ?_
      simp only [List.take_succ_cons, List.take_zero]
      refine walk_by fun W hnil hval hcall hany hskip => ?_
      iterate 9 (first
        | (refine hval _ _ _ _ (fun _ => by rfl) ⟨_, fun q hq w' hw' => by
             obtain ⟨x0, x1, x2, y0, y1, y2⟩ := HCC.out w' hw'
             first | (go_simp; done) | (go_simp; rfl), ?_⟩
           simp only [Act.put, List.setIfInBounds_toArray, List.set_cons_zero, List.set_cons_succ])
        | (refine hcall _ _ _ _ (fun _ => by rfl) ⟨39, _, _, fun q hq w' hw' => ⟨by first | (go_simp; done) | (go_simp; rfl), (HEQ.out w' hw').mono fun e w'' h => ⟨h.1, HCB.out _ _ hw' h.2⟩⟩, ?_⟩
           simp only [Act.put, List.setIfInBounds_toArray, List.set_cons_zero, List.set_cons_succ]))
      refine hnil _ _ ?_
      intro qv hqv w' hw'
      simp only [List.drop_succ_cons, List.drop_zero]
      have hb' := HWR.out w' hw'
      clear hnil hval hcall hany
      go_wp2_with fail
      go_roundw
      case rel => exact ⟨j + 1, hlt, by go_num, hb'⟩
      case measure => simp [intOf]; omega
    · go_wp2_with fail
      go_ret
      exact ⟨rfl, hbel⟩

set_option maxHeartbeats 1000000 in
set_option maxRecDepth 100000 in
theorem szWorld_any (A : Option Addr) (n c : Nat) (zs : List (ByteArray × ByteArray)) (B : Option Addr) (m d : Nat) (is : List Ins) (left : Nat) (w : World) (hn : n ≤ maxLen) (hm : m ≤ maxLen) (ha : Prs w A n zs) (hz : ∀ z ∈ zs, z.1.size ≤ maxLen ∧ z.2.size ≤ maxLen) (hb : Inss w B m is) (hi : ∀ i ∈ is, InsOk i) (hl : left ≤ 1048576) :
    Calls Tryd.prog 4 #[.agg #[.slice A n c, .slice B m d], .int .i64 left] w fun e w' => ∃ r : Int, e = .returned (.int .i64 r) ∧ Below w.heap.size w w' ∧ (r = -1 ∨ ∃ r' : Nat, r = (r' : Int) ∧ r' + (n + tot zs) + (m + inssTot is) = left) := by
  have b0 : ∀ o, Below w.heap.size w (w.alloc o) := fun o => (Below.refl _ _).alloc (Nat.le_refl _) o
  have HB := hid hb
  have HI := hid hi
  have HS := hid (szClassS_any A n c zs left _ (ha.below (b0 (.cells #[.slice A n c, .slice B m d] 25))) hz hn hl)
  have HC0 := hid (show (w.alloc (.cells #[.slice A n c, .slice B m d] 25)).heap[w.heap.size]? = some (.cells #[.slice A n c, .slice B m d] 25 (0, 0)) from heap_new1 w _)
  clear ha hz hb hi
  go_enter Tryd.func4, Tryd.ntmps4
  go_wp2_with fail
  refine HS.out.mono ?_
  rintro e w1 ⟨r, rfl, c1, hr⟩
  have hb1 := (b0 (.cells #[.slice A n c, .slice B m d] 25)).trans (c1.mono (b0 _).size)
  have q1 := cell_blk ((c1.block w.heap.size (by simp only [World.size_alloc]; omega)).trans HC0.out) (j := 1) rfl
  rcases hr with rfl | ⟨r', rfl, hr'⟩
  · go_wp2_with fail
    go_ret
    exact ⟨-1, rfl, hb1, .inl rfl⟩
  · have hr0 : (0 : Int) ≤ (r' : Int) := by omega
    have HR := hid hr'
    have hrl : r' ≤ 1048576 := by omega
    clear hr'
    go_wp2_with fail
    refine (szInstanceS_any B m d is r' w1 (HB.out.below hb1) HI.out hm hrl).mono ?_
    rintro e w2 ⟨r2, rfl, c2, hr2⟩
    have hb2 := hb1.trans (c2.mono hb1.size)
    rcases hr2 with rfl | ⟨r3, rfl, hr3⟩
    · go_wp2_with fail
      go_ret
      exact ⟨-1, rfl, hb2, .inl rfl⟩
    · have hr30 : (0 : Int) ≤ (r3 : Int) := by omega
      have HR3 := hid hr3
      clear hr3
      go_wp2_with fail
      go_ret
      exact ⟨r3, rfl, hb2, .inr ⟨r3, rfl, by have := HR.out; have := HR3.out; omega⟩⟩

set_option maxHeartbeats 1000000 in
set_option maxRecDepth 100000 in
theorem toWorld_any (A : Option Addr) (n c : Nat) (zs : List (ByteArray × ByteArray)) (B : Option Addr) (m d : Nat) (is : List Ins) (w : World) (ha : Prs w A n zs) (hb : Inss w B m is) (hn : n ≤ 1048576) (hm : m + inssTot is ≤ 1048576) :
    Calls Tryd.prog 7 #[.agg #[.slice A n c, .slice B m d]] w fun e w' => ∃ g h, e = .returned (.agg #[.slice (some ⟨g, 0, none⟩) n n, .slice (some ⟨h, 0, none⟩) m m]) ∧ Prs w' (some ⟨g, 0, none⟩) n zs ∧ Inss w' (some ⟨h, 0, none⟩) m is ∧ Below w.heap.size w w' := by
  have HA := hid ha
  have HB := hid hb
  clear ha hb
  obtain ⟨w0, hw0⟩ : ∃ w0, ((w.alloc (.cells #[.slice A n c, .slice B m d] 25)).alloc (.cells #[.slice none 0 0, .slice none 0 0] 33)).alloc (.cells #[.slice none 0 0, .slice none 0 0] 33) = w0 := ⟨_, rfl⟩
  have hz0 : w0.heap.size = w.heap.size + 3 := by rw [← hw0]; simp only [World.size_alloc]
  have HB0 := hid (show Below w.heap.size w w0 by rw [← hw0]; exact (((Below.refl w.heap.size w).alloc (Nat.le_refl _) _).alloc (by simp only [World.size_alloc]; omega) _).alloc (by simp only [World.size_alloc]; omega) _)
  have E0 := hid (show w0.heap[w.heap.size]? = some (.cells #[.slice A n c, .slice B m d] 25 (0, 0)) by
    rw [← hw0, Below.heap_alloc _ _ _ (by simp only [World.size_alloc]; omega), Below.heap_alloc _ _ _ (by simp only [World.size_alloc]; omega)]
    exact heap_new1 w _)
  have E1 := hid (show w0.heap[w.heap.size + 1]? = some (.cells #[.slice none 0 0, .slice none 0 0] 33 (0, 0)) by
    rw [← hw0, Below.heap_alloc _ _ _ (by simp only [World.size_alloc]; omega)]
    have := heap_new1 (w.alloc (.cells #[.slice A n c, .slice B m d] 25)) (.cells #[.slice none 0 0, .slice none 0 0] 33)
    simpa only [World.size_alloc] using this)
  have E2 := hid (show w0.heap[w.heap.size + 1 + 1]? = some (.cells #[.slice none 0 0, .slice none 0 0] 33 (0, 0)) by
    rw [← hw0]
    have := heap_new1 ((w.alloc (.cells #[.slice A n c, .slice B m d] 25)).alloc (.cells #[.slice none 0 0, .slice none 0 0] 33)) (.cells #[.slice none 0 0, .slice none 0 0] 33)
    simpa only [World.size_alloc] using this)
  have HW0 := hid hw0
  have z0 : w.heap.size + 2 < w0.heap.size := by omega
  clear hw0 hz0
  go_enter Tryd.func7, Tryd.ntmps7
  go_wp2_with fail
  rw [HW0.out]
  refine (toClassS_any A n c zs w0 (HA.out.below HB0.out) hn).mono ?_
  rintro e w1 ⟨rfl, ho1, c1⟩
  have HO1 := hid ho1.prs
  have hg1 : w0.heap.size < w1.heap.size := by
    obtain ⟨cur', h1, _⟩ := ho1
    exact (Array.getElem?_eq_some_iff.1 h1).1
  have F0 := hid ((c1.block w.heap.size (by omega)).trans E0.out)
  have F1 := hid ((c1.block (w.heap.size + 1) (by omega)).trans E1.out)
  have F2 := hid ((c1.block (w.heap.size + 1 + 1) (by omega)).trans E2.out)
  have HB1 := hid (HB0.out.trans (c1.mono HB0.out.size))
  have q0 := cell_blk F2.out (j := 0) rfl
  have f2 := frz_blk F2.out
  have r1 : w1.cell? ⟨w.heap.size, 1, none⟩ = some (.slice B m d) := cell_blk F0.out rfl
  clear ho1 c1
  go_wp2_with fail
  obtain ⟨w2, hw2⟩ : ∃ w2, w1.setCell ⟨w.heap.size + 1 + 1, 0, none⟩ (.slice (some ⟨w0.heap.size, 0, none⟩) n n) = w2 := ⟨_, rfl⟩
  have HB2 := hid (show Below w.heap.size w w2 by rw [← hw2]; exact HB1.out.setCell (by show w.heap.size ≤ w.heap.size + 1 + 1; omega) _)
  have hz2 : w2.heap.size = w1.heap.size := by rw [← hw2]; simp [World.setCell]
  have G2 := hid (show w2.heap[w.heap.size + 1 + 1]? = some (.cells #[.slice (some ⟨w0.heap.size, 0, none⟩) n n, .slice none 0 0] 33 (0, 0)) by
    have h := F2.out
    rw [← hw2]
    simp [World.setCell, Array.getElem?_modify, h])
  have hoth : ∀ b, b ≠ w.heap.size + 1 + 1 → w2.heap[b]? = w1.heap[b]? := fun b hb => by rw [← hw2]; exact Below.heap_setCell _ _ _ _ hb
  have G1 := hid ((hoth (w.heap.size + 1) (by omega)).trans F1.out)
  have HO2 := hid (HO1.out.keep (w' := w2) (by omega) fun a ha => by
    simp only [Option.some.injEq] at ha
    subst ha
    exact hoth w0.heap.size (by omega))
  rw [hw2]
  have HW2 := hid hw2
  have z2 : w1.heap.size ≤ w2.heap.size := by omega
  clear hw2 hoth q0 f2 r1 hz2
  refine (toInstanceS_any B m d is w2 (HB.out.below HB2.out) hm).mono ?_
  rintro e w3 ⟨rfl, ho3, c3, hz3⟩
  have HB3 := hid (HB2.out.trans (c3.mono HB2.out.size))
  have K2 := hid ((c3.block (w.heap.size + 1 + 1) (by omega)).trans G2.out)
  have K1 := hid ((c3.block (w.heap.size + 1) (by omega)).trans G1.out)
  have HO3 := hid (HO2.out.below c3)
  have HI3 := hid ho3
  have q0 := cell_blk K2.out (j := 0) rfl
  have q1 := cell_blk K2.out (j := 1) rfl
  have p0 := cell_blk K1.out (j := 0) rfl
  have p1 := cell_blk K1.out (j := 1) rfl
  have f1 := frz_blk K1.out
  have f2 := frz_blk K2.out
  clear ho3 c3
  go_wp2_with fail
  have hoth : ∀ b, b ≠ w.heap.size + 1 → b ≠ w.heap.size + 1 + 1 → (((w3.setCell ⟨w.heap.size + 1 + 1, 1, none⟩ (.slice (some ⟨w2.heap.size, 0, none⟩) m m)).setCell ⟨w.heap.size + 1, 0, none⟩ (.slice (some ⟨w0.heap.size, 0, none⟩) n n)).setCell ⟨w.heap.size + 1, 1, none⟩ (.slice (some ⟨w2.heap.size, 0, none⟩) m m)).heap[b]? = w3.heap[b]? := fun b h1 h2 => by
    rw [Below.heap_setCell _ _ _ _ h1, Below.heap_setCell _ _ _ _ h1, Below.heap_setCell _ _ _ _ h2]
  have hsz : (((w3.setCell ⟨w.heap.size + 1 + 1, 1, none⟩ (.slice (some ⟨w2.heap.size, 0, none⟩) m m)).setCell ⟨w.heap.size + 1, 0, none⟩ (.slice (some ⟨w0.heap.size, 0, none⟩) n n)).setCell ⟨w.heap.size + 1, 1, none⟩ (.slice (some ⟨w2.heap.size, 0, none⟩) m m)).heap.size = w3.heap.size := by simp [World.setCell]
  refine bodyPost_ret (v := .agg #[.slice (some ⟨w0.heap.size, 0, none⟩) n n, .slice (some ⟨w2.heap.size, 0, none⟩) m m]) (by simp [results, Tryd.results7, go_sem, p0, p1]) rfl ⟨w0.heap.size, w2.heap.size, rfl, ?_, ?_, ?_⟩
  · refine HO3.out.keep (by rw [hsz]; omega) fun a ha => ?_
    simp only [Option.some.injEq] at ha
    subst ha
    exact hoth w0.heap.size (by omega) (by omega)
  · exact (HI3.out.keep (by rw [hsz]; omega) fun k hk _ => hoth k (by omega) (by omega)).inss
  · exact ((HB3.out.setCell (by show w.heap.size ≤ w.heap.size + 1 + 1; omega) _).setCell (by show w.heap.size ≤ w.heap.size + 1; omega) _).setCell (by show w.heap.size ≤ w.heap.size + 1; omega) _

set_option maxHeartbeats 1000000 in
set_option maxRecDepth 100000 in
theorem eqWorld_same (A B A' B' : Option Addr) (n c c' m d d' : Nat) (zs : List (ByteArray × ByteArray)) (is : List Ins) (w : World) (ha : Prs w A n zs) (ha' : Prs w A' n zs) (hb : Inss w B m is) (hb' : Inss w B' m is) (hn : n ≤ 1048576) (hm : m + inssTot is ≤ 1048576) :
    Calls Tryd.prog 10 #[.agg #[.slice A n c, .slice B m d], .agg #[.slice A' n c', .slice B' m d']] w fun e w' => e = .returned (.bool true) ∧ Below w.heap.size w w' := by
  have b0 : ∀ o o', Below w.heap.size w ((w.alloc o).alloc o') := fun o o' => ((Below.refl _ _).alloc (Nat.le_refl _) o).alloc (by simp only [World.size_alloc]; omega) o'
  obtain ⟨w0, hw0⟩ : ∃ w0, (w.alloc (.cells #[.slice A n c, .slice B m d] 33)).alloc (.cells #[.slice A' n c', .slice B' m d'] 33) = w0 := ⟨_, rfl⟩
  have hz0 : w0.heap.size = w.heap.size + 2 := by rw [← hw0]; simp only [World.size_alloc]
  have HB0 := hid (show Below w.heap.size w w0 by rw [← hw0]; exact b0 _ _)
  have E0 := hid (show w0.heap[w.heap.size]? = some (.cells #[.slice A n c, .slice B m d] 33 (0, 0)) by
    rw [← hw0, Below.heap_alloc _ _ _ (by simp only [World.size_alloc]; omega)]
    exact heap_new1 w _)
  have E1 := hid (show w0.heap[w.heap.size + 1]? = some (.cells #[.slice A' n c', .slice B' m d'] 33 (0, 0)) by
    rw [← hw0]
    have := heap_new1 (w.alloc (.cells #[.slice A n c, .slice B m d] 33)) (.cells #[.slice A' n c', .slice B' m d'] 33)
    simpa only [World.size_alloc] using this)
  have HA := hid (ha.below HB0.out)
  have HA' := hid (ha'.below HB0.out)
  have HBB := hid hb
  have HBB' := hid hb'
  have HW0 := hid hw0
  have z0 : w.heap.size + 1 < w0.heap.size := by omega
  clear ha ha' hb hb' hw0 hz0
  go_enter Tryd.func10, Tryd.ntmps10
  go_wp2_with fail
  rw [HW0.out]
  refine (eqClassS_same A A' n c c' zs w0 HA.out HA'.out hn).mono ?_
  rintro e w1 ⟨rfl, c1⟩
  have HB1 := hid (HB0.out.trans (c1.mono HB0.out.size))
  have q0 := cell_blk ((c1.block w.heap.size (by omega)).trans E0.out) (j := 1) rfl
  have q1 := cell_blk ((c1.block (w.heap.size + 1) (by omega)).trans E1.out) (j := 1) rfl
  clear c1
  go_wp2_with fail
  refine (eqInstanceS_same B B' m d d' is w1 (HBB.out.below HB1.out) (HBB'.out.below HB1.out) hm).mono ?_
  rintro e w2 ⟨rfl, c2⟩
  go_wp2_with fail
  go_ret
  exact ⟨rfl, HB1.out.trans (c2.mono HB1.out.size)⟩

end Go.Proofs.YtgbbobjkhpplkaaDoor
