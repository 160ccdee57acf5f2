/- l2Unify: two parts side by side. -/
import Derived.Test.YtjpdiahbnhemoaaGreatUuV
import Derived.Deep.QuietTactic
import Derived.BigQuiet
namespace Go.Proofs.YtjpdiahbnhemoaaGreat
open Go.RowKit

set_option linter.unusedVariables false

set_option maxHeartbeats 3200000 in
set_option maxRecDepth 100000 in
theorem uN_row2_none (mb : Nat) (w : World) (na nb : Nat) (c d ca : UInt8) (A : Option Addr) (m cap : Nat) (B : Option Addr) (m' cap' : Nat) (ga capa gb capb : Nat) (hwa : WkN w mb na c (.slice A m cap) ca (.slice (some ⟨ga, 0, none⟩) 2 capa)) (hwb : WkN w mb nb d (.slice B m' cap') ca (.slice (some ⟨gb, 0, none⟩) 2 capb)) (hmb : mb < w.heap.size) (hk : l2ix ca = -1) (S : Nat → Prop) (hga : ga < w.heap.size) (hgb : gb < w.heap.size) (hna : ga ≠ mb) (hnb : gb ≠ mb) (x1 : UInt8) (X1 : Option Addr) (mx1 cx1 : Nat) (y1 : UInt8) (Y1 : Option Addr) (my1 cy1 : Nat) (hx1 : w.cell? ⟨ga, 0, none⟩ = some (.int .u8 x1.toNat)) (hx1' : w.cell? ⟨ga, 1, none⟩ = some (.slice X1 mx1 cx1)) (hy1 : w.cell? ⟨gb, 0, none⟩ = some (.int .u8 y1.toNat)) (hy1' : w.cell? ⟨gb, 1, none⟩ = some (.slice Y1 my1 cy1)) (x2 : UInt8) (X2 : Option Addr) (mx2 cx2 : Nat) (y2 : UInt8) (Y2 : Option Addr) (my2 cy2 : Nat) (hx2 : w.cell? ⟨ga, 2, none⟩ = some (.int .u8 x2.toNat)) (hx2' : w.cell? ⟨ga, 3, none⟩ = some (.slice X2 mx2 cx2)) (hy2 : w.cell? ⟨gb, 2, none⟩ = some (.int .u8 y2.toNat)) (hy2' : w.cell? ⟨gb, 3, none⟩ = some (.slice Y2 my2 cy2)) (HC1 : ∀ W : World, Below w.heap.size w W → Calls Tryz.prog 27 #[.pointer (some ⟨mb, 0, none⟩), .agg #[.int .u8 x1.toNat, .slice X1 mx1 cx1], .agg #[.int .u8 y1.toNat, .slice Y1 my1 cy1]] W (MtEndN W mb S none)) :
    Calls Tryz.prog 27 #[.pointer (some ⟨mb, 0, none⟩), .agg #[.int .u8 c.toNat, .slice A m cap], .agg #[.int .u8 d.toNat, .slice B m' cap']] w (MtEndN w mb S none) := by
  have HWA := hid (fun W' (h : Below w.heap.size w W') => walkN_by mb w na c ca A m cap _ hwa hmb W' h)
  have HWB := hid (fun W' (h : Below w.heap.size w W') => walkN_by mb w nb d ca B m' cap' _ hwb hmb W' h)
  obtain ⟨x, hx⟩ : ∃ x, l2ix ca = x := ⟨_, rfl⟩
  have HX := hid hx
  clear hwa hwb hx
  have hxk : x = -1 := HX.out.symm.trans hk
  subst hxk
  have HOC := hid HC1
  have HX1 := hid (And.intro hx1 hx1')
  have HY1 := hid (And.intro hy1 hy1')
  have HX2 := hid (And.intro hx2 hx2')
  have HY2 := hid (And.intro hy2 hy2')
  clear hk HC1 hx1 hx1' hy1 hy1' hx2 hx2' hy2 hy2'
  go_enter Tryz.func27, Tryz.ntmps27
  go_wp2_with fail
  obtain ⟨W0, hW0⟩ : ∃ W0, (w.alloc (.cells #[.int .u8 c.toNat, .slice A m cap] 31)).alloc (.cells #[.int .u8 d.toNat, .slice B m' cap'] 31) = W0 := ⟨_, rfl⟩
  have h8 : W0.heap[w.heap.size]? = some (.cells #[.int .u8 c.toNat, .slice A m cap] 31 (0, 0)) := by
    rw [← hW0, Below.heap_alloc _ _ _ (by simp only [World.size_alloc]; omega)]
    exact heap_new1 _ _
  have h9 := heap_new1 (w.alloc (.cells #[.int .u8 c.toNat, .slice A m cap] 31)) (.cells #[.int .u8 d.toNat, .slice B m' cap'] 31)
  simp only [World.size_alloc] at h9
  rw [hW0] at h9 ⊢
  have hb0 : Below w.heap.size w W0 := by rw [← hW0]; exact ((Below.refl _ _).alloc (Nat.le_refl _) _).alloc (by simp only [World.size_alloc]; omega) _
  have z0 : W0.heap.size = w.heap.size + 2 := by rw [← hW0]; simp only [World.size_alloc]
  clear hW0
  refine (HWA.out W0 hb0).mono ?_
  rintro e w1 ⟨rfl, hb1⟩
  have q8 := (hb1.block w.heap.size (by omega)).trans h8
  have q9 := (hb1.block (w.heap.size + 1) (by omega)).trans h9
  obtain ⟨n0, n1, nf⟩ := two_cells q8
  obtain ⟨r0, r1, rf⟩ := two_cells q9
  have nf0 := nf 0
  have nf1 := nf 1
  have Q8 := hid q8
  have Q9 := hid q9
  have hb01 := hid (hb0.trans (hb1.mono (by omega)))
  have hz01 : w.heap.size + 2 ≤ w1.heap.size := by have := hb1.size; omega
  clear h8 h9 nf rf q8 q9 hb0 hb1 z0
  go_wp2_with fail
  obtain ⟨W1, hW1⟩ : ∃ W1, (w1.setCell ⟨w.heap.size, 0, none⟩ (.int .u8 ca.toNat)).setCell ⟨w.heap.size, 1, none⟩ (.slice (some ⟨ga, 0, none⟩) 2 capa) = W1 := ⟨_, rfl⟩
  have h8 : W1.heap[w.heap.size]? = some (.cells #[.int .u8 ca.toNat, .slice (some ⟨ga, 0, none⟩) 2 capa] 31 (0, 0)) := by
    rw [← hW1]
    have h := Q8.out
    simp [World.setCell, Array.getElem?_modify, h]
  have h9 : W1.heap[w.heap.size + 1]? = some (.cells #[.int .u8 d.toNat, .slice B m' cap'] 31 (0, 0)) := by
    rw [← hW1, Below.heap_setCell _ _ _ _ (by show w.heap.size + 1 ≠ w.heap.size; omega), Below.heap_setCell _ _ _ _ (by show w.heap.size + 1 ≠ w.heap.size; omega)]
    exact Q9.out
  have hb11 : Below w.heap.size w W1 := by rw [← hW1]; exact (hb01.out.setCell (Nat.le_refl _) _).setCell (Nat.le_refl _) _
  have z1 : W1.heap.size = w1.heap.size := by rw [← hW1]; simp [World.setCell]
  rw [hW1]
  clear hW1 n0 n1 nf0 nf1 r0 r1
  refine (HWB.out W1 hb11).mono ?_
  rintro e w2 ⟨rfl, hb2⟩
  have z2 := hb2.size
  have q8 := (hb2.block w.heap.size (by omega)).trans h8
  have q9 := (hb2.block (w.heap.size + 1) (by omega)).trans h9
  obtain ⟨n0, n1, _⟩ := two_cells q8
  obtain ⟨r0, r1, rf⟩ := two_cells q9
  have rf0 := rf 0
  have rf1 := rf 1
  have P8 := hid q8
  have P9 := hid q9
  have hb12 := hid (hb11.trans (hb2.mono (by omega)))
  have hz12 : w.heap.size + 2 ≤ w2.heap.size := by omega
  clear h8 h9 rf q8 q9 hb11 hb2 z1 z2 Q8 Q9
  go_wp2_with fail
  obtain ⟨W2, hW2⟩ : ∃ W2, (w2.setCell ⟨w.heap.size + 1, 0, none⟩ (.int .u8 ca.toNat)).setCell ⟨w.heap.size + 1, 1, none⟩ (.slice (some ⟨gb, 0, none⟩) 2 capb) = W2 := ⟨_, rfl⟩
  have h9 : W2.heap[w.heap.size + 1]? = some (.cells #[.int .u8 ca.toNat, .slice (some ⟨gb, 0, none⟩) 2 capb] 31 (0, 0)) := by
    rw [← hW2]
    have h := P9.out
    simp [World.setCell, Array.getElem?_modify, h]
  have h8 : W2.heap[w.heap.size]? = some (.cells #[.int .u8 ca.toNat, .slice (some ⟨ga, 0, none⟩) 2 capa] 31 (0, 0)) := by
    rw [← hW2, Below.heap_setCell _ _ _ _ (by show w.heap.size ≠ w.heap.size + 1; omega), Below.heap_setCell _ _ _ _ (by show w.heap.size ≠ w.heap.size + 1; omega)]
    exact P8.out
  have hbW := hid (show Below w.heap.size w W2 by rw [← hW2]; exact (hb12.out.setCell (by show w.heap.size ≤ w.heap.size + 1; omega) _).setCell (by show w.heap.size ≤ w.heap.size + 1; omega) _)
  have zW : w.heap.size + 2 ≤ W2.heap.size := by rw [← hW2]; simpa [World.setCell] using hz12
  rw [hW2]
  clear hW2 n0 n1 rf0 rf1 r0 r1 P8 P9 hz01 hz12
  obtain ⟨n0, n1, _⟩ := two_cells h8
  obtain ⟨r0, r1, _⟩ := two_cells h9
  have H8 := hid h8
  have H9 := hid h9
  clear h8 h9
  refine (fun (key : Hid (?pp : Prop)) => ?main) ?kk
  case main =>
    go_region_with (go_at_call 14; refine (l2Index_at ca _ HX _).mono ?_; rintro e w3 ⟨rfl, rfl⟩)
    all_goals exact key.out
  case kk =>
  show Hid _
  refine hid ?_
  have a1 := cell_below HX1.out.1 hga hbW.out
  have a2 := cell_below HX1.out.2 hga hbW.out
  have b1 := cell_below HY1.out.1 hgb hbW.out
  have b2 := cell_below HY1.out.2 hgb hbW.out
  go_wp2_with fail
  refine wp_loop_rounds 3 ?_
  rw [rounds_succ]
  go_wp2_with fail
  have HCC := hid (HOC.out W2.drew.drew (show Below w.heap.size w W2.drew.drew from hbW.out.drew.drew))
  have HCD1 := hid (HCC.out.mono (R' := fun e w' => e = .returned (.bool false) ∧ But W2.heap.size mb W2 w') fun e w' h => ⟨h.2, ((But.refl _ _ W2).drewN 2).trans h.1⟩)
  refine (fun (key1 : Hid (∀ w4, But W2.heap.size mb W2 w4 → (?pp1 : World → Prop) w4)) => ?main1) ?kk1
  case main1 =>
    go_region_with (go_at_call 27; refine HCD1.out.mono ?_; rintro e w4 ⟨rfl, hb4⟩)
    all_goals exact key1.out w4 hb4
  case kk1 =>
  show Hid _
  refine hid (fun w4 hb4 => ?_)
  go_wp2_with fail
  go_ret
  exact ⟨(But.of_below hbW.out).trans (hb4.mono hbW.out.size), rfl⟩

set_option maxHeartbeats 3200000 in
set_option maxRecDepth 100000 in
theorem uN_row2_sno (mb : Nat) (w : World) (na nb : Nat) (c d ca : UInt8) (A : Option Addr) (m cap : Nat) (B : Option Addr) (m' cap' : Nat) (ga capa gb capb : Nat) (hwa : WkN w mb na c (.slice A m cap) ca (.slice (some ⟨ga, 0, none⟩) 2 capa)) (hwb : WkN w mb nb d (.slice B m' cap') ca (.slice (some ⟨gb, 0, none⟩) 2 capb)) (hmb : mb < w.heap.size) (hk : l2ix ca = -1) (S : Nat → Prop) (hga : ga < w.heap.size) (hgb : gb < w.heap.size) (hna : ga ≠ mb) (hnb : gb ≠ mb) (x1 : UInt8) (X1 : Option Addr) (mx1 cx1 : Nat) (y1 : UInt8) (Y1 : Option Addr) (my1 cy1 : Nat) (hx1 : w.cell? ⟨ga, 0, none⟩ = some (.int .u8 x1.toNat)) (hx1' : w.cell? ⟨ga, 1, none⟩ = some (.slice X1 mx1 cx1)) (hy1 : w.cell? ⟨gb, 0, none⟩ = some (.int .u8 y1.toNat)) (hy1' : w.cell? ⟨gb, 1, none⟩ = some (.slice Y1 my1 cy1)) (x2 : UInt8) (X2 : Option Addr) (mx2 cx2 : Nat) (y2 : UInt8) (Y2 : Option Addr) (my2 cy2 : Nat) (hx2 : w.cell? ⟨ga, 2, none⟩ = some (.int .u8 x2.toNat)) (hx2' : w.cell? ⟨ga, 3, none⟩ = some (.slice X2 mx2 cx2)) (hy2 : w.cell? ⟨gb, 2, none⟩ = some (.int .u8 y2.toNat)) (hy2' : w.cell? ⟨gb, 3, none⟩ = some (.slice Y2 my2 cy2)) (g : UInt8 → Option Ty) (HC1 : ∀ W : World, Below w.heap.size w W → Calls Tryz.prog 27 #[.pointer (some ⟨mb, 0, none⟩), .agg #[.int .u8 x1.toNat, .slice X1 mx1 cx1], .agg #[.int .u8 y1.toNat, .slice Y1 my1 cy1]] W (MtEndN W mb S (some g))) (HC2 : ∀ W : World, But w.heap.size mb w W → StndN W mb S g → Calls Tryz.prog 27 #[.pointer (some ⟨mb, 0, none⟩), .agg #[.int .u8 x2.toNat, .slice X2 mx2 cx2], .agg #[.int .u8 y2.toNat, .slice Y2 my2 cy2]] W (MtEndN W mb S none)) :
    Calls Tryz.prog 27 #[.pointer (some ⟨mb, 0, none⟩), .agg #[.int .u8 c.toNat, .slice A m cap], .agg #[.int .u8 d.toNat, .slice B m' cap']] w (MtEndN w mb S none) := by
  have HWA := hid (fun W' (h : Below w.heap.size w W') => walkN_by mb w na c ca A m cap _ hwa hmb W' h)
  have HWB := hid (fun W' (h : Below w.heap.size w W') => walkN_by mb w nb d ca B m' cap' _ hwb hmb W' h)
  obtain ⟨x, hx⟩ : ∃ x, l2ix ca = x := ⟨_, rfl⟩
  have HX := hid hx
  clear hwa hwb hx
  have hxk : x = -1 := HX.out.symm.trans hk
  subst hxk
  have HOC := hid HC1
  have HX1 := hid (And.intro hx1 hx1')
  have HY1 := hid (And.intro hy1 hy1')
  have HX2 := hid (And.intro hx2 hx2')
  have HY2 := hid (And.intro hy2 hy2')
  have HOD := hid HC2
  clear hk HC1 HC2 hx1 hx1' hy1 hy1' hx2 hx2' hy2 hy2'
  go_enter Tryz.func27, Tryz.ntmps27
  go_wp2_with fail
  obtain ⟨W0, hW0⟩ : ∃ W0, (w.alloc (.cells #[.int .u8 c.toNat, .slice A m cap] 31)).alloc (.cells #[.int .u8 d.toNat, .slice B m' cap'] 31) = W0 := ⟨_, rfl⟩
  have h8 : W0.heap[w.heap.size]? = some (.cells #[.int .u8 c.toNat, .slice A m cap] 31 (0, 0)) := by
    rw [← hW0, Below.heap_alloc _ _ _ (by simp only [World.size_alloc]; omega)]
    exact heap_new1 _ _
  have h9 := heap_new1 (w.alloc (.cells #[.int .u8 c.toNat, .slice A m cap] 31)) (.cells #[.int .u8 d.toNat, .slice B m' cap'] 31)
  simp only [World.size_alloc] at h9
  rw [hW0] at h9 ⊢
  have hb0 : Below w.heap.size w W0 := by rw [← hW0]; exact ((Below.refl _ _).alloc (Nat.le_refl _) _).alloc (by simp only [World.size_alloc]; omega) _
  have z0 : W0.heap.size = w.heap.size + 2 := by rw [← hW0]; simp only [World.size_alloc]
  clear hW0
  refine (HWA.out W0 hb0).mono ?_
  rintro e w1 ⟨rfl, hb1⟩
  have q8 := (hb1.block w.heap.size (by omega)).trans h8
  have q9 := (hb1.block (w.heap.size + 1) (by omega)).trans h9
  obtain ⟨n0, n1, nf⟩ := two_cells q8
  obtain ⟨r0, r1, rf⟩ := two_cells q9
  have nf0 := nf 0
  have nf1 := nf 1
  have Q8 := hid q8
  have Q9 := hid q9
  have hb01 := hid (hb0.trans (hb1.mono (by omega)))
  have hz01 : w.heap.size + 2 ≤ w1.heap.size := by have := hb1.size; omega
  clear h8 h9 nf rf q8 q9 hb0 hb1 z0
  go_wp2_with fail
  obtain ⟨W1, hW1⟩ : ∃ W1, (w1.setCell ⟨w.heap.size, 0, none⟩ (.int .u8 ca.toNat)).setCell ⟨w.heap.size, 1, none⟩ (.slice (some ⟨ga, 0, none⟩) 2 capa) = W1 := ⟨_, rfl⟩
  have h8 : W1.heap[w.heap.size]? = some (.cells #[.int .u8 ca.toNat, .slice (some ⟨ga, 0, none⟩) 2 capa] 31 (0, 0)) := by
    rw [← hW1]
    have h := Q8.out
    simp [World.setCell, Array.getElem?_modify, h]
  have h9 : W1.heap[w.heap.size + 1]? = some (.cells #[.int .u8 d.toNat, .slice B m' cap'] 31 (0, 0)) := by
    rw [← hW1, Below.heap_setCell _ _ _ _ (by show w.heap.size + 1 ≠ w.heap.size; omega), Below.heap_setCell _ _ _ _ (by show w.heap.size + 1 ≠ w.heap.size; omega)]
    exact Q9.out
  have hb11 : Below w.heap.size w W1 := by rw [← hW1]; exact (hb01.out.setCell (Nat.le_refl _) _).setCell (Nat.le_refl _) _
  have z1 : W1.heap.size = w1.heap.size := by rw [← hW1]; simp [World.setCell]
  rw [hW1]
  clear hW1 n0 n1 nf0 nf1 r0 r1
  refine (HWB.out W1 hb11).mono ?_
  rintro e w2 ⟨rfl, hb2⟩
  have z2 := hb2.size
  have q8 := (hb2.block w.heap.size (by omega)).trans h8
  have q9 := (hb2.block (w.heap.size + 1) (by omega)).trans h9
  obtain ⟨n0, n1, _⟩ := two_cells q8
  obtain ⟨r0, r1, rf⟩ := two_cells q9
  have rf0 := rf 0
  have rf1 := rf 1
  have P8 := hid q8
  have P9 := hid q9
  have hb12 := hid (hb11.trans (hb2.mono (by omega)))
  have hz12 : w.heap.size + 2 ≤ w2.heap.size := by omega
  clear h8 h9 rf q8 q9 hb11 hb2 z1 z2 Q8 Q9
  go_wp2_with fail
  obtain ⟨W2, hW2⟩ : ∃ W2, (w2.setCell ⟨w.heap.size + 1, 0, none⟩ (.int .u8 ca.toNat)).setCell ⟨w.heap.size + 1, 1, none⟩ (.slice (some ⟨gb, 0, none⟩) 2 capb) = W2 := ⟨_, rfl⟩
  have h9 : W2.heap[w.heap.size + 1]? = some (.cells #[.int .u8 ca.toNat, .slice (some ⟨gb, 0, none⟩) 2 capb] 31 (0, 0)) := by
    rw [← hW2]
    have h := P9.out
    simp [World.setCell, Array.getElem?_modify, h]
  have h8 : W2.heap[w.heap.size]? = some (.cells #[.int .u8 ca.toNat, .slice (some ⟨ga, 0, none⟩) 2 capa] 31 (0, 0)) := by
    rw [← hW2, Below.heap_setCell _ _ _ _ (by show w.heap.size ≠ w.heap.size + 1; omega), Below.heap_setCell _ _ _ _ (by show w.heap.size ≠ w.heap.size + 1; omega)]
    exact P8.out
  have hbW := hid (show Below w.heap.size w W2 by rw [← hW2]; exact (hb12.out.setCell (by show w.heap.size ≤ w.heap.size + 1; omega) _).setCell (by show w.heap.size ≤ w.heap.size + 1; omega) _)
  have zW : w.heap.size + 2 ≤ W2.heap.size := by rw [← hW2]; simpa [World.setCell] using hz12
  rw [hW2]
  clear hW2 n0 n1 rf0 rf1 r0 r1 P8 P9 hz01 hz12
  obtain ⟨n0, n1, _⟩ := two_cells h8
  obtain ⟨r0, r1, _⟩ := two_cells h9
  have H8 := hid h8
  have H9 := hid h9
  clear h8 h9
  refine (fun (key : Hid (?pp : Prop)) => ?main) ?kk
  case main =>
    go_region_with (go_at_call 14; refine (l2Index_at ca _ HX _).mono ?_; rintro e w3 ⟨rfl, rfl⟩)
    all_goals exact key.out
  case kk =>
  show Hid _
  refine hid ?_
  have a1 := cell_below HX1.out.1 hga hbW.out
  have a2 := cell_below HX1.out.2 hga hbW.out
  have b1 := cell_below HY1.out.1 hgb hbW.out
  have b2 := cell_below HY1.out.2 hgb hbW.out
  go_wp2_with fail
  refine wp_loop_rounds 3 ?_
  rw [rounds_succ]
  go_wp2_with fail
  have HCC := hid (HOC.out W2.drew.drew (show Below w.heap.size w W2.drew.drew from hbW.out.drew.drew))
  have HCD1 := hid (HCC.out.mono (R' := fun e w' => e = .returned (.bool true) ∧ But W2.heap.size mb W2 w' ∧ StndN w' mb S g) fun e w' h => ⟨h.2.1, ((But.refl _ _ W2).drewN 2).trans h.1, h.2.2⟩)
  refine (fun (key1 : Hid (∀ w4, But W2.heap.size mb W2 w4 → StndN w4 mb S g → (?pp1 : World → Prop) w4)) => ?main1) ?kk1
  case main1 =>
    go_region_with (go_at_call 27; refine HCD1.out.mono ?_; rintro e w4 ⟨rfl, hb4, hs4⟩)
    all_goals exact key1.out w4 hb4 hs4
  case kk1 =>
  show Hid _
  refine hid (fun w4 hb1 hs1 => ?_)
  have HS1 := hid hs1
  clear hs1
  have hbT := (But.of_below hbW.out).trans (hb1.mono hbW.out.size)
  have z4 : W2.heap.size ≤ w4.heap.size := hb1.size
  have m1 : w4.cell? ⟨w.heap.size, 1, none⟩ = some (.slice (some ⟨ga, 0, none⟩) 2 capa) := (World.cell?_of_block (w := W2) (w' := w4) (a := ⟨w.heap.size, 1, none⟩) (hb1.block _ (by show w.heap.size < _; omega) (by show w.heap.size ≠ mb; omega))).trans n1
  have m2 : w4.cell? ⟨w.heap.size + 1, 1, none⟩ = some (.slice (some ⟨gb, 0, none⟩) 2 capb) := (World.cell?_of_block (w := W2) (w' := w4) (a := ⟨w.heap.size + 1, 1, none⟩) (hb1.block _ (by show w.heap.size + 1 < _; omega) (by show w.heap.size + 1 ≠ mb; omega))).trans r1
  have a3 : w4.cell? ⟨ga, 2, none⟩ = some (.int .u8 x2.toNat) := (World.cell?_of_block (w := w) (w' := w4) (a := ⟨ga, 2, none⟩) (hbT.block ga hga hna)).trans HX2.out.1
  have a4 : w4.cell? ⟨ga, 3, none⟩ = some (.slice X2 mx2 cx2) := (World.cell?_of_block (w := w) (w' := w4) (a := ⟨ga, 3, none⟩) (hbT.block ga hga hna)).trans HX2.out.2
  have b3 : w4.cell? ⟨gb, 2, none⟩ = some (.int .u8 y2.toNat) := (World.cell?_of_block (w := w) (w' := w4) (a := ⟨gb, 2, none⟩) (hbT.block gb hgb hnb)).trans HY2.out.1
  have b4 : w4.cell? ⟨gb, 3, none⟩ = some (.slice Y2 my2 cy2) := (World.cell?_of_block (w := w) (w' := w4) (a := ⟨gb, 3, none⟩) (hbT.block gb hgb hnb)).trans HY2.out.2
  have HBT := hid hbT
  clear hbT
  go_wp2_with fail
  rw [rounds_succ]
  go_wp2_with fail
  have HCE := hid (HOD.out w4.drew (HBT.out.drewN 1) (HS1.out.keep rfl fun j hj => ⟨hj, rfl⟩))
  have HCD2 := hid (HCE.out.mono (R' := fun e w' => e = .returned (.bool false) ∧ But w4.heap.size mb w4 w') fun e w' h => ⟨h.2, ((But.refl _ _ w4).drewN 1).trans h.1⟩)
  refine (fun (key2 : Hid (∀ w5, But w4.heap.size mb w4 w5 → (?pp2 : World → Prop) w5)) => ?main2) ?kk2
  case main2 =>
    go_region_with (go_at_call 27; refine HCD2.out.mono ?_; rintro e w5 ⟨rfl, hb5⟩)
    all_goals exact key2.out w5 hb5
  case kk2 =>
  show Hid _
  refine hid (fun w5 hb5 => ?_)
  go_wp2_with fail
  go_ret
  exact ⟨HBT.out.trans (hb5.mono HBT.out.size), rfl⟩

set_option maxHeartbeats 3200000 in
set_option maxRecDepth 100000 in
theorem uN_row2_syes (mb : Nat) (w : World) (na nb : Nat) (c d ca : UInt8) (A : Option Addr) (m cap : Nat) (B : Option Addr) (m' cap' : Nat) (ga capa gb capb : Nat) (hwa : WkN w mb na c (.slice A m cap) ca (.slice (some ⟨ga, 0, none⟩) 2 capa)) (hwb : WkN w mb nb d (.slice B m' cap') ca (.slice (some ⟨gb, 0, none⟩) 2 capb)) (hmb : mb < w.heap.size) (hk : l2ix ca = -1) (S : Nat → Prop) (hga : ga < w.heap.size) (hgb : gb < w.heap.size) (hna : ga ≠ mb) (hnb : gb ≠ mb) (x1 : UInt8) (X1 : Option Addr) (mx1 cx1 : Nat) (y1 : UInt8) (Y1 : Option Addr) (my1 cy1 : Nat) (hx1 : w.cell? ⟨ga, 0, none⟩ = some (.int .u8 x1.toNat)) (hx1' : w.cell? ⟨ga, 1, none⟩ = some (.slice X1 mx1 cx1)) (hy1 : w.cell? ⟨gb, 0, none⟩ = some (.int .u8 y1.toNat)) (hy1' : w.cell? ⟨gb, 1, none⟩ = some (.slice Y1 my1 cy1)) (x2 : UInt8) (X2 : Option Addr) (mx2 cx2 : Nat) (y2 : UInt8) (Y2 : Option Addr) (my2 cy2 : Nat) (hx2 : w.cell? ⟨ga, 2, none⟩ = some (.int .u8 x2.toNat)) (hx2' : w.cell? ⟨ga, 3, none⟩ = some (.slice X2 mx2 cx2)) (hy2 : w.cell? ⟨gb, 2, none⟩ = some (.int .u8 y2.toNat)) (hy2' : w.cell? ⟨gb, 3, none⟩ = some (.slice Y2 my2 cy2)) (g : UInt8 → Option Ty) (HC1 : ∀ W : World, Below w.heap.size w W → Calls Tryz.prog 27 #[.pointer (some ⟨mb, 0, none⟩), .agg #[.int .u8 x1.toNat, .slice X1 mx1 cx1], .agg #[.int .u8 y1.toNat, .slice Y1 my1 cy1]] W (MtEndN W mb S (some g))) (g2 : UInt8 → Option Ty) (HC2 : ∀ W : World, But w.heap.size mb w W → StndN W mb S g → Calls Tryz.prog 27 #[.pointer (some ⟨mb, 0, none⟩), .agg #[.int .u8 x2.toNat, .slice X2 mx2 cx2], .agg #[.int .u8 y2.toNat, .slice Y2 my2 cy2]] W (MtEndN W mb S (some g2))) :
    Calls Tryz.prog 27 #[.pointer (some ⟨mb, 0, none⟩), .agg #[.int .u8 c.toNat, .slice A m cap], .agg #[.int .u8 d.toNat, .slice B m' cap']] w (MtEndN w mb S (some g2)) := by
  have HWA := hid (fun W' (h : Below w.heap.size w W') => walkN_by mb w na c ca A m cap _ hwa hmb W' h)
  have HWB := hid (fun W' (h : Below w.heap.size w W') => walkN_by mb w nb d ca B m' cap' _ hwb hmb W' h)
  obtain ⟨x, hx⟩ : ∃ x, l2ix ca = x := ⟨_, rfl⟩
  have HX := hid hx
  clear hwa hwb hx
  have hxk : x = -1 := HX.out.symm.trans hk
  subst hxk
  have HOC := hid HC1
  have HX1 := hid (And.intro hx1 hx1')
  have HY1 := hid (And.intro hy1 hy1')
  have HX2 := hid (And.intro hx2 hx2')
  have HY2 := hid (And.intro hy2 hy2')
  have HOD := hid HC2
  clear hk HC1 HC2 hx1 hx1' hy1 hy1' hx2 hx2' hy2 hy2'
  go_enter Tryz.func27, Tryz.ntmps27
  go_wp2_with fail
  obtain ⟨W0, hW0⟩ : ∃ W0, (w.alloc (.cells #[.int .u8 c.toNat, .slice A m cap] 31)).alloc (.cells #[.int .u8 d.toNat, .slice B m' cap'] 31) = W0 := ⟨_, rfl⟩
  have h8 : W0.heap[w.heap.size]? = some (.cells #[.int .u8 c.toNat, .slice A m cap] 31 (0, 0)) := by
    rw [← hW0, Below.heap_alloc _ _ _ (by simp only [World.size_alloc]; omega)]
    exact heap_new1 _ _
  have h9 := heap_new1 (w.alloc (.cells #[.int .u8 c.toNat, .slice A m cap] 31)) (.cells #[.int .u8 d.toNat, .slice B m' cap'] 31)
  simp only [World.size_alloc] at h9
  rw [hW0] at h9 ⊢
  have hb0 : Below w.heap.size w W0 := by rw [← hW0]; exact ((Below.refl _ _).alloc (Nat.le_refl _) _).alloc (by simp only [World.size_alloc]; omega) _
  have z0 : W0.heap.size = w.heap.size + 2 := by rw [← hW0]; simp only [World.size_alloc]
  clear hW0
  refine (HWA.out W0 hb0).mono ?_
  rintro e w1 ⟨rfl, hb1⟩
  have q8 := (hb1.block w.heap.size (by omega)).trans h8
  have q9 := (hb1.block (w.heap.size + 1) (by omega)).trans h9
  obtain ⟨n0, n1, nf⟩ := two_cells q8
  obtain ⟨r0, r1, rf⟩ := two_cells q9
  have nf0 := nf 0
  have nf1 := nf 1
  have Q8 := hid q8
  have Q9 := hid q9
  have hb01 := hid (hb0.trans (hb1.mono (by omega)))
  have hz01 : w.heap.size + 2 ≤ w1.heap.size := by have := hb1.size; omega
  clear h8 h9 nf rf q8 q9 hb0 hb1 z0
  go_wp2_with fail
  obtain ⟨W1, hW1⟩ : ∃ W1, (w1.setCell ⟨w.heap.size, 0, none⟩ (.int .u8 ca.toNat)).setCell ⟨w.heap.size, 1, none⟩ (.slice (some ⟨ga, 0, none⟩) 2 capa) = W1 := ⟨_, rfl⟩
  have h8 : W1.heap[w.heap.size]? = some (.cells #[.int .u8 ca.toNat, .slice (some ⟨ga, 0, none⟩) 2 capa] 31 (0, 0)) := by
    rw [← hW1]
    have h := Q8.out
    simp [World.setCell, Array.getElem?_modify, h]
  have h9 : W1.heap[w.heap.size + 1]? = some (.cells #[.int .u8 d.toNat, .slice B m' cap'] 31 (0, 0)) := by
    rw [← hW1, Below.heap_setCell _ _ _ _ (by show w.heap.size + 1 ≠ w.heap.size; omega), Below.heap_setCell _ _ _ _ (by show w.heap.size + 1 ≠ w.heap.size; omega)]
    exact Q9.out
  have hb11 : Below w.heap.size w W1 := by rw [← hW1]; exact (hb01.out.setCell (Nat.le_refl _) _).setCell (Nat.le_refl _) _
  have z1 : W1.heap.size = w1.heap.size := by rw [← hW1]; simp [World.setCell]
  rw [hW1]
  clear hW1 n0 n1 nf0 nf1 r0 r1
  refine (HWB.out W1 hb11).mono ?_
  rintro e w2 ⟨rfl, hb2⟩
  have z2 := hb2.size
  have q8 := (hb2.block w.heap.size (by omega)).trans h8
  have q9 := (hb2.block (w.heap.size + 1) (by omega)).trans h9
  obtain ⟨n0, n1, _⟩ := two_cells q8
  obtain ⟨r0, r1, rf⟩ := two_cells q9
  have rf0 := rf 0
  have rf1 := rf 1
  have P8 := hid q8
  have P9 := hid q9
  have hb12 := hid (hb11.trans (hb2.mono (by omega)))
  have hz12 : w.heap.size + 2 ≤ w2.heap.size := by omega
  clear h8 h9 rf q8 q9 hb11 hb2 z1 z2 Q8 Q9
  go_wp2_with fail
  obtain ⟨W2, hW2⟩ : ∃ W2, (w2.setCell ⟨w.heap.size + 1, 0, none⟩ (.int .u8 ca.toNat)).setCell ⟨w.heap.size + 1, 1, none⟩ (.slice (some ⟨gb, 0, none⟩) 2 capb) = W2 := ⟨_, rfl⟩
  have h9 : W2.heap[w.heap.size + 1]? = some (.cells #[.int .u8 ca.toNat, .slice (some ⟨gb, 0, none⟩) 2 capb] 31 (0, 0)) := by
    rw [← hW2]
    have h := P9.out
    simp [World.setCell, Array.getElem?_modify, h]
  have h8 : W2.heap[w.heap.size]? = some (.cells #[.int .u8 ca.toNat, .slice (some ⟨ga, 0, none⟩) 2 capa] 31 (0, 0)) := by
    rw [← hW2, Below.heap_setCell _ _ _ _ (by show w.heap.size ≠ w.heap.size + 1; omega), Below.heap_setCell _ _ _ _ (by show w.heap.size ≠ w.heap.size + 1; omega)]
    exact P8.out
  have hbW := hid (show Below w.heap.size w W2 by rw [← hW2]; exact (hb12.out.setCell (by show w.heap.size ≤ w.heap.size + 1; omega) _).setCell (by show w.heap.size ≤ w.heap.size + 1; omega) _)
  have zW : w.heap.size + 2 ≤ W2.heap.size := by rw [← hW2]; simpa [World.setCell] using hz12
  rw [hW2]
  clear hW2 n0 n1 rf0 rf1 r0 r1 P8 P9 hz01 hz12
  obtain ⟨n0, n1, _⟩ := two_cells h8
  obtain ⟨r0, r1, _⟩ := two_cells h9
  have H8 := hid h8
  have H9 := hid h9
  clear h8 h9
  refine (fun (key : Hid (?pp : Prop)) => ?main) ?kk
  case main =>
    go_region_with (go_at_call 14; refine (l2Index_at ca _ HX _).mono ?_; rintro e w3 ⟨rfl, rfl⟩)
    all_goals exact key.out
  case kk =>
  show Hid _
  refine hid ?_
  have a1 := cell_below HX1.out.1 hga hbW.out
  have a2 := cell_below HX1.out.2 hga hbW.out
  have b1 := cell_below HY1.out.1 hgb hbW.out
  have b2 := cell_below HY1.out.2 hgb hbW.out
  go_wp2_with fail
  refine wp_loop_rounds 3 ?_
  rw [rounds_succ]
  go_wp2_with fail
  have HCC := hid (HOC.out W2.drew.drew (show Below w.heap.size w W2.drew.drew from hbW.out.drew.drew))
  have HCD1 := hid (HCC.out.mono (R' := fun e w' => e = .returned (.bool true) ∧ But W2.heap.size mb W2 w' ∧ StndN w' mb S g) fun e w' h => ⟨h.2.1, ((But.refl _ _ W2).drewN 2).trans h.1, h.2.2⟩)
  refine (fun (key1 : Hid (∀ w4, But W2.heap.size mb W2 w4 → StndN w4 mb S g → (?pp1 : World → Prop) w4)) => ?main1) ?kk1
  case main1 =>
    go_region_with (go_at_call 27; refine HCD1.out.mono ?_; rintro e w4 ⟨rfl, hb4, hs4⟩)
    all_goals exact key1.out w4 hb4 hs4
  case kk1 =>
  show Hid _
  refine hid (fun w4 hb1 hs1 => ?_)
  have HS1 := hid hs1
  clear hs1
  have hbT := (But.of_below hbW.out).trans (hb1.mono hbW.out.size)
  have z4 : W2.heap.size ≤ w4.heap.size := hb1.size
  have m1 : w4.cell? ⟨w.heap.size, 1, none⟩ = some (.slice (some ⟨ga, 0, none⟩) 2 capa) := (World.cell?_of_block (w := W2) (w' := w4) (a := ⟨w.heap.size, 1, none⟩) (hb1.block _ (by show w.heap.size < _; omega) (by show w.heap.size ≠ mb; omega))).trans n1
  have m2 : w4.cell? ⟨w.heap.size + 1, 1, none⟩ = some (.slice (some ⟨gb, 0, none⟩) 2 capb) := (World.cell?_of_block (w := W2) (w' := w4) (a := ⟨w.heap.size + 1, 1, none⟩) (hb1.block _ (by show w.heap.size + 1 < _; omega) (by show w.heap.size + 1 ≠ mb; omega))).trans r1
  have a3 : w4.cell? ⟨ga, 2, none⟩ = some (.int .u8 x2.toNat) := (World.cell?_of_block (w := w) (w' := w4) (a := ⟨ga, 2, none⟩) (hbT.block ga hga hna)).trans HX2.out.1
  have a4 : w4.cell? ⟨ga, 3, none⟩ = some (.slice X2 mx2 cx2) := (World.cell?_of_block (w := w) (w' := w4) (a := ⟨ga, 3, none⟩) (hbT.block ga hga hna)).trans HX2.out.2
  have b3 : w4.cell? ⟨gb, 2, none⟩ = some (.int .u8 y2.toNat) := (World.cell?_of_block (w := w) (w' := w4) (a := ⟨gb, 2, none⟩) (hbT.block gb hgb hnb)).trans HY2.out.1
  have b4 : w4.cell? ⟨gb, 3, none⟩ = some (.slice Y2 my2 cy2) := (World.cell?_of_block (w := w) (w' := w4) (a := ⟨gb, 3, none⟩) (hbT.block gb hgb hnb)).trans HY2.out.2
  have HBT := hid hbT
  clear hbT
  go_wp2_with fail
  rw [rounds_succ]
  go_wp2_with fail
  have HCE := hid (HOD.out w4.drew (HBT.out.drewN 1) (HS1.out.keep rfl fun j hj => ⟨hj, rfl⟩))
  have HCD2 := hid (HCE.out.mono (R' := fun e w' => e = .returned (.bool true) ∧ But w4.heap.size mb w4 w' ∧ StndN w' mb S g2) fun e w' h => ⟨h.2.1, ((But.refl _ _ w4).drewN 1).trans h.1, h.2.2⟩)
  refine (fun (key2 : Hid (∀ w5, But w4.heap.size mb w4 w5 → StndN w5 mb S g2 → (?pp2 : World → Prop) w5)) => ?main2) ?kk2
  case main2 =>
    go_region_with (go_at_call 27; refine HCD2.out.mono ?_; rintro e w5 ⟨rfl, hb5, hs5⟩)
    all_goals exact key2.out w5 hb5 hs5
  case kk2 =>
  show Hid _
  refine hid (fun w5 hb2 hs2 => ?_)
  have HS2 := hid hs2
  clear hs2
  go_wp2_with fail
  rw [rounds_succ]
  go_wp2_with fail
  go_ret
  exact ⟨HBT.out.trans (hb2.mono HBT.out.size), rfl, HS2.out⟩

end Go.Proofs.YtjpdiahbnhemoaaGreat
