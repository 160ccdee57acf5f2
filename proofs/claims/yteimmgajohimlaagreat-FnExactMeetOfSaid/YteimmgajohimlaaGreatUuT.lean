/- l2Unify: a variable at the left. -/
import Derived.Test.YteimmgajohimlaaGreatUuS
namespace Go.Proofs.YteimmgajohimlaaGreat
open Go.RowKit

set_option maxHeartbeats 3200000 in
set_option maxRecDepth 100000 in
theorem uN_occ_n (mb : Nat) (w : World) (na nb : Nat) (c d ca cb : UInt8) (A : Option Addr) (m cap : Nat) (B : Option Addr) (m' cap' : Nat) (Aa : Option Addr) (ma capa : Nat) (Ab : Option Addr) (mbb capb : Nat) (hwa : WkN w mb na c (.slice A m cap) ca (.slice Aa ma capa)) (hwb : WkN w mb nb d (.slice B m' cap') cb (.slice Ab mbb capb)) (hmb : mb < w.heap.size) (k : Nat) (hk : l2ix ca = (k : Int)) (hk' : l2ix cb = -1) (HO : SaysN mb ca (.int .u8 cb.toNat) (.slice Ab mbb capb) true w) :
    Calls Tryz.prog 77 #[.pointer (some ⟨mb, 0, none⟩), .agg #[.int .u8 c.toNat, .slice A m cap], .agg #[.int .u8 d.toNat, .slice B m' cap']] w fun e w' => e = .returned (.bool false) ∧ Below w.heap.size w w' := by
  have HWA := hid (fun W' (h : Below w.heap.size w W') => walkN_by mb w na c ca A m cap _ hwa hmb W' h)
  have HWB := hid (fun W' (h : Below w.heap.size w W') => walkN_by mb w nb d cb B m' cap' _ hwb hmb W' h)
  obtain ⟨x, hx⟩ : ∃ x, l2ix ca = x := ⟨_, rfl⟩
  obtain ⟨y, hy⟩ : ∃ y, l2ix cb = y := ⟨_, rfl⟩
  have HX := hid hx
  have HY := hid hy
  clear hwa hwb hx hy
  have hxk : x = (k : Int) := HX.out.symm.trans hk
  subst hxk
  have hyk : y = -1 := HY.out.symm.trans hk'
  subst hyk
  have jx : ((k : Int) == -1) = false := by rw [beq_eq_false_iff_ne]; omega
  have j1 : (0 : Int) ≤ (k : Int) := by omega
  have HOC := hid (show ∀ W : World, Below w.heap.size w W → Calls Tryz.prog 98 #[.pointer (some ⟨mb, 0, none⟩), .int .u8 ca.toNat, .agg #[.int .u8 cb.toNat, .slice Ab mbb capb]] W fun e w' => e = .returned (.bool true) ∧ Below W.heap.size W w' from HO)
  clear hk hk' HO
  go_enter Tryz.func77, Tryz.ntmps77
  go_wp2_with fail
  obtain ⟨W0, hW0⟩ : ∃ W0, (w.alloc (.cells #[.int .u8 c.toNat, .slice A m cap] 61)).alloc (.cells #[.int .u8 d.toNat, .slice B m' cap'] 61) = W0 := ⟨_, rfl⟩
  have h8 : W0.heap[w.heap.size]? = some (.cells #[.int .u8 c.toNat, .slice A m cap] 61 (0, 0)) := by
    rw [← hW0, Below.heap_alloc _ _ _ (by simp only [World.size_alloc]; omega)]
    exact heap_new1 _ _
  have h9 := heap_new1 (w.alloc (.cells #[.int .u8 c.toNat, .slice A m cap] 61)) (.cells #[.int .u8 d.toNat, .slice B m' cap'] 61)
  simp only [World.size_alloc] at h9
  rw [hW0] at h9 ⊢
  have hb0 : Below w.heap.size w W0 := by rw [← hW0]; exact ((Below.refl _ _).alloc (Nat.le_refl _) _).alloc (by simp only [World.size_alloc]; omega) _
  have z0 : W0.heap.size = w.heap.size + 2 := by rw [← hW0]; simp only [World.size_alloc]
  clear hW0
  refine (HWA.out W0 hb0).mono ?_
  rintro e w1 ⟨rfl, hb1⟩
  have q8 := (hb1.block w.heap.size (by omega)).trans h8
  have q9 := (hb1.block (w.heap.size + 1) (by omega)).trans h9
  obtain ⟨n0, n1, nf⟩ := two_cells q8
  obtain ⟨r0, r1, rf⟩ := two_cells q9
  have nf0 := nf 0
  have nf1 := nf 1
  have Q8 := hid q8
  have Q9 := hid q9
  have hb01 := hid (hb0.trans (hb1.mono (by omega)))
  have hz01 : w.heap.size + 2 ≤ w1.heap.size := by have := hb1.size; omega
  clear h8 h9 nf rf q8 q9 hb0 hb1 z0
  go_wp2_with fail
  obtain ⟨W1, hW1⟩ : ∃ W1, (w1.setCell ⟨w.heap.size, 0, none⟩ (.int .u8 ca.toNat)).setCell ⟨w.heap.size, 1, none⟩ (.slice Aa ma capa) = W1 := ⟨_, rfl⟩
  have h8 : W1.heap[w.heap.size]? = some (.cells #[.int .u8 ca.toNat, .slice Aa ma capa] 61 (0, 0)) := by
    rw [← hW1]
    have h := Q8.out
    simp [World.setCell, Array.getElem?_modify, h]
  have h9 : W1.heap[w.heap.size + 1]? = some (.cells #[.int .u8 d.toNat, .slice B m' cap'] 61 (0, 0)) := by
    rw [← hW1, Below.heap_setCell _ _ _ _ (by show w.heap.size + 1 ≠ w.heap.size; omega), Below.heap_setCell _ _ _ _ (by show w.heap.size + 1 ≠ w.heap.size; omega)]
    exact Q9.out
  have hb11 : Below w.heap.size w W1 := by rw [← hW1]; exact (hb01.out.setCell (Nat.le_refl _) _).setCell (Nat.le_refl _) _
  have z1 : W1.heap.size = w1.heap.size := by rw [← hW1]; simp [World.setCell]
  rw [hW1]
  clear hW1 n0 n1 nf0 nf1 r0 r1
  refine (HWB.out W1 hb11).mono ?_
  rintro e w2 ⟨rfl, hb2⟩
  have z2 := hb2.size
  have q8 := (hb2.block w.heap.size (by omega)).trans h8
  have q9 := (hb2.block (w.heap.size + 1) (by omega)).trans h9
  obtain ⟨n0, n1, _⟩ := two_cells q8
  obtain ⟨r0, r1, rf⟩ := two_cells q9
  have rf0 := rf 0
  have rf1 := rf 1
  have P8 := hid q8
  have P9 := hid q9
  have hb12 := hid (hb11.trans (hb2.mono (by omega)))
  have hz12 : w.heap.size + 2 ≤ w2.heap.size := by omega
  clear h8 h9 rf q8 q9 hb11 hb2 z1 z2 Q8 Q9
  go_wp2_with fail
  obtain ⟨W2, hW2⟩ : ∃ W2, (w2.setCell ⟨w.heap.size + 1, 0, none⟩ (.int .u8 cb.toNat)).setCell ⟨w.heap.size + 1, 1, none⟩ (.slice Ab mbb capb) = W2 := ⟨_, rfl⟩
  have h9 : W2.heap[w.heap.size + 1]? = some (.cells #[.int .u8 cb.toNat, .slice Ab mbb capb] 61 (0, 0)) := by
    rw [← hW2]
    have h := P9.out
    simp [World.setCell, Array.getElem?_modify, h]
  have h8 : W2.heap[w.heap.size]? = some (.cells #[.int .u8 ca.toNat, .slice Aa ma capa] 61 (0, 0)) := by
    rw [← hW2, Below.heap_setCell _ _ _ _ (by show w.heap.size ≠ w.heap.size + 1; omega), Below.heap_setCell _ _ _ _ (by show w.heap.size ≠ w.heap.size + 1; omega)]
    exact P8.out
  have hbW := hid (show Below w.heap.size w W2 by rw [← hW2]; exact (hb12.out.setCell (by show w.heap.size ≤ w.heap.size + 1; omega) _).setCell (by show w.heap.size ≤ w.heap.size + 1; omega) _)
  have zW : w.heap.size + 2 ≤ W2.heap.size := by rw [← hW2]; simpa [World.setCell] using hz12
  rw [hW2]
  clear hW2 n0 n1 rf0 rf1 r0 r1 P8 P9 hz01 hz12
  obtain ⟨n0, n1, _⟩ := two_cells h8
  obtain ⟨r0, r1, _⟩ := two_cells h9
  have H8 := hid h8
  have H9 := hid h9
  clear h8 h9
  go_region_with (go_at_call 65; first
    | (with_reducible refine (l2Index_at ca _ HX _).mono ?_; rintro e w3 ⟨rfl, rfl⟩)
    | (with_reducible refine (l2Index_at cb _ HY _).mono ?_; rintro e w3 ⟨rfl, rfl⟩))
  all_goals
    go_wp2_with fail
    refine (HOC.out _ hbW.out.drew).mono ?_
    rintro e w4 ⟨rfl, hb4⟩
    go_wp2_with fail
    go_ret
    exact ⟨rfl, hbW.out.drew.trans (hb4.mono hbW.out.size)⟩

set_option maxHeartbeats 3200000 in
set_option maxRecDepth 100000 in
theorem uN_bind_n (mb : Nat) (w : World) (na nb : Nat) (c d ca cb : UInt8) (A : Option Addr) (m cap : Nat) (B : Option Addr) (m' cap' : Nat) (Aa : Option Addr) (ma capa : Nat) (Ab : Option Addr) (mbb capb : Nat) (hwa : WkN w mb na c (.slice A m cap) ca (.slice Aa ma capa)) (hwb : WkN w mb nb d (.slice B m' cap') cb (.slice Ab mbb capb)) (hmb : mb < w.heap.size) (S : Nat → Prop) (f : UInt8 → Option Ty) (hst : StndN w mb S f) (hS : ∀ g, S g → g < w.heap.size) (k : Nat) (hk : l2ix ca = (k : Int)) (hk' : l2ix cb = -1) (HO : SaysN mb ca (.int .u8 cb.toNat) (.slice Ab mbb capb) false w) :
    Calls Tryz.prog 77 #[.pointer (some ⟨mb, 0, none⟩), .agg #[.int .u8 c.toNat, .slice A m cap], .agg #[.int .u8 d.toNat, .slice B m' cap']] w fun e w' => e = .returned (.bool true) ∧ ∃ w4, Below w.heap.size w w4 ∧ w' = ((w4.setCell ⟨mb, k * 2, none⟩ (.int .u8 cb.toNat)).setCell ⟨mb, k * 2 + 1, none⟩ (.slice Ab mbb capb)).drew := by
  have HWA := hid (fun W' (h : Below w.heap.size w W') => walkN_by mb w na c ca A m cap _ hwa hmb W' h)
  have HWB := hid (fun W' (h : Below w.heap.size w W') => walkN_by mb w nb d cb B m' cap' _ hwb hmb W' h)
  obtain ⟨x, hx⟩ : ∃ x, l2ix ca = x := ⟨_, rfl⟩
  obtain ⟨y, hy⟩ : ∃ y, l2ix cb = y := ⟨_, rfl⟩
  have HX := hid hx
  have HY := hid hy
  clear hwa hwb hx hy
  have hxk : x = (k : Int) := HX.out.symm.trans hk
  subst hxk
  have hyk : y = -1 := HY.out.symm.trans hk'
  subst hyk
  have jx : ((k : Int) == -1) = false := by rw [beq_eq_false_iff_ne]; omega
  have j1 : (0 : Int) ≤ (k : Int) := by omega
  have hk12 : k < 12 := by have := (l2ix_var ca).2.2.2; omega
  have j2 : (k : Int) < 12 := by omega
  have HOC := hid (show ∀ W : World, Below w.heap.size w W → Calls Tryz.prog 98 #[.pointer (some ⟨mb, 0, none⟩), .int .u8 ca.toNat, .agg #[.int .u8 cb.toNat, .slice Ab mbb capb]] W fun e w' => e = .returned (.bool false) ∧ Below W.heap.size W w' from HO)
  have HCELLS := hid (fun w4 (hb : Below w.heap.size w w4) => (hst.keep (S' := S) (hb.block mb hmb) fun g hg => ⟨hg, hb.block g (hS g hg)⟩).cells k hk12)
  clear hk hk' HO hst hS
  go_enter Tryz.func77, Tryz.ntmps77
  go_wp2_with fail
  obtain ⟨W0, hW0⟩ : ∃ W0, (w.alloc (.cells #[.int .u8 c.toNat, .slice A m cap] 61)).alloc (.cells #[.int .u8 d.toNat, .slice B m' cap'] 61) = W0 := ⟨_, rfl⟩
  have h8 : W0.heap[w.heap.size]? = some (.cells #[.int .u8 c.toNat, .slice A m cap] 61 (0, 0)) := by
    rw [← hW0, Below.heap_alloc _ _ _ (by simp only [World.size_alloc]; omega)]
    exact heap_new1 _ _
  have h9 := heap_new1 (w.alloc (.cells #[.int .u8 c.toNat, .slice A m cap] 61)) (.cells #[.int .u8 d.toNat, .slice B m' cap'] 61)
  simp only [World.size_alloc] at h9
  rw [hW0] at h9 ⊢
  have hb0 : Below w.heap.size w W0 := by rw [← hW0]; exact ((Below.refl _ _).alloc (Nat.le_refl _) _).alloc (by simp only [World.size_alloc]; omega) _
  have z0 : W0.heap.size = w.heap.size + 2 := by rw [← hW0]; simp only [World.size_alloc]
  clear hW0
  refine (HWA.out W0 hb0).mono ?_
  rintro e w1 ⟨rfl, hb1⟩
  have q8 := (hb1.block w.heap.size (by omega)).trans h8
  have q9 := (hb1.block (w.heap.size + 1) (by omega)).trans h9
  obtain ⟨n0, n1, nf⟩ := two_cells q8
  obtain ⟨r0, r1, rf⟩ := two_cells q9
  have nf0 := nf 0
  have nf1 := nf 1
  have Q8 := hid q8
  have Q9 := hid q9
  have hb01 := hid (hb0.trans (hb1.mono (by omega)))
  have hz01 : w.heap.size + 2 ≤ w1.heap.size := by have := hb1.size; omega
  clear h8 h9 nf rf q8 q9 hb0 hb1 z0
  go_wp2_with fail
  obtain ⟨W1, hW1⟩ : ∃ W1, (w1.setCell ⟨w.heap.size, 0, none⟩ (.int .u8 ca.toNat)).setCell ⟨w.heap.size, 1, none⟩ (.slice Aa ma capa) = W1 := ⟨_, rfl⟩
  have h8 : W1.heap[w.heap.size]? = some (.cells #[.int .u8 ca.toNat, .slice Aa ma capa] 61 (0, 0)) := by
    rw [← hW1]
    have h := Q8.out
    simp [World.setCell, Array.getElem?_modify, h]
  have h9 : W1.heap[w.heap.size + 1]? = some (.cells #[.int .u8 d.toNat, .slice B m' cap'] 61 (0, 0)) := by
    rw [← hW1, Below.heap_setCell _ _ _ _ (by show w.heap.size + 1 ≠ w.heap.size; omega), Below.heap_setCell _ _ _ _ (by show w.heap.size + 1 ≠ w.heap.size; omega)]
    exact Q9.out
  have hb11 : Below w.heap.size w W1 := by rw [← hW1]; exact (hb01.out.setCell (Nat.le_refl _) _).setCell (Nat.le_refl _) _
  have z1 : W1.heap.size = w1.heap.size := by rw [← hW1]; simp [World.setCell]
  rw [hW1]
  clear hW1 n0 n1 nf0 nf1 r0 r1
  refine (HWB.out W1 hb11).mono ?_
  rintro e w2 ⟨rfl, hb2⟩
  have z2 := hb2.size
  have q8 := (hb2.block w.heap.size (by omega)).trans h8
  have q9 := (hb2.block (w.heap.size + 1) (by omega)).trans h9
  obtain ⟨n0, n1, _⟩ := two_cells q8
  obtain ⟨r0, r1, rf⟩ := two_cells q9
  have rf0 := rf 0
  have rf1 := rf 1
  have P8 := hid q8
  have P9 := hid q9
  have hb12 := hid (hb11.trans (hb2.mono (by omega)))
  have hz12 : w.heap.size + 2 ≤ w2.heap.size := by omega
  clear h8 h9 rf q8 q9 hb11 hb2 z1 z2 Q8 Q9
  go_wp2_with fail
  obtain ⟨W2, hW2⟩ : ∃ W2, (w2.setCell ⟨w.heap.size + 1, 0, none⟩ (.int .u8 cb.toNat)).setCell ⟨w.heap.size + 1, 1, none⟩ (.slice Ab mbb capb) = W2 := ⟨_, rfl⟩
  have h9 : W2.heap[w.heap.size + 1]? = some (.cells #[.int .u8 cb.toNat, .slice Ab mbb capb] 61 (0, 0)) := by
    rw [← hW2]
    have h := P9.out
    simp [World.setCell, Array.getElem?_modify, h]
  have h8 : W2.heap[w.heap.size]? = some (.cells #[.int .u8 ca.toNat, .slice Aa ma capa] 61 (0, 0)) := by
    rw [← hW2, Below.heap_setCell _ _ _ _ (by show w.heap.size ≠ w.heap.size + 1; omega), Below.heap_setCell _ _ _ _ (by show w.heap.size ≠ w.heap.size + 1; omega)]
    exact P8.out
  have hbW := hid (show Below w.heap.size w W2 by rw [← hW2]; exact (hb12.out.setCell (by show w.heap.size ≤ w.heap.size + 1; omega) _).setCell (by show w.heap.size ≤ w.heap.size + 1; omega) _)
  have zW : w.heap.size + 2 ≤ W2.heap.size := by rw [← hW2]; simpa [World.setCell] using hz12
  rw [hW2]
  clear hW2 n0 n1 rf0 rf1 r0 r1 P8 P9 hz01 hz12
  obtain ⟨n0, n1, _⟩ := two_cells h8
  obtain ⟨r0, r1, _⟩ := two_cells h9
  have H8 := hid h8
  have H9 := hid h9
  clear h8 h9
  go_region_with (go_at_call 65; first
    | (with_reducible refine (l2Index_at ca _ HX _).mono ?_; rintro e w3 ⟨rfl, rfl⟩)
    | (with_reducible refine (l2Index_at cb _ HY _).mono ?_; rintro e w3 ⟨rfl, rfl⟩))
  all_goals
    go_wp2_with fail
    refine (HOC.out _ hbW.out.drew).mono ?_
    rintro e w4 ⟨rfl, hb4⟩
    have hb4w := hid (hbW.out.drew.trans (hb4.mono hbW.out.size))
    obtain ⟨⟨v0, e4⟩, ⟨v1, e5⟩, ff4⟩ := HCELLS.out w4 hb4w.out
    have r40 := cell_below (w := W2.drew) r0 (by show w.heap.size + 1 < W2.heap.size; omega) hb4
    have r41 := cell_below (w := W2.drew) r1 (by show w.heap.size + 1 < W2.heap.size; omega) hb4
    clear hb4
    go_wp2_with fail
    go_region_with fail
    all_goals
      go_wp2_with fail
      go_ret
      exact ⟨rfl, w4, hb4w.out, rfl⟩

set_option maxHeartbeats 3200000 in
set_option maxRecDepth 100000 in
theorem uN_occ_v (mb : Nat) (w : World) (na nb : Nat) (c d ca cb : UInt8) (A : Option Addr) (m cap : Nat) (B : Option Addr) (m' cap' : Nat) (Aa : Option Addr) (ma capa : Nat) (Ab : Option Addr) (mbb capb : Nat) (hwa : WkN w mb na c (.slice A m cap) ca (.slice Aa ma capa)) (hwb : WkN w mb nb d (.slice B m' cap') cb (.slice Ab mbb capb)) (hmb : mb < w.heap.size) (k : Nat) (hk : l2ix ca = (k : Int)) (k2 : Nat) (hk' : l2ix cb = (k2 : Int)) (hlt : k < k2) (HO : SaysN mb ca (.int .u8 cb.toNat) (.slice Ab mbb capb) true w) :
    Calls Tryz.prog 77 #[.pointer (some ⟨mb, 0, none⟩), .agg #[.int .u8 c.toNat, .slice A m cap], .agg #[.int .u8 d.toNat, .slice B m' cap']] w fun e w' => e = .returned (.bool false) ∧ Below w.heap.size w w' := by
  have HWA := hid (fun W' (h : Below w.heap.size w W') => walkN_by mb w na c ca A m cap _ hwa hmb W' h)
  have HWB := hid (fun W' (h : Below w.heap.size w W') => walkN_by mb w nb d cb B m' cap' _ hwb hmb W' h)
  obtain ⟨x, hx⟩ : ∃ x, l2ix ca = x := ⟨_, rfl⟩
  obtain ⟨y, hy⟩ : ∃ y, l2ix cb = y := ⟨_, rfl⟩
  have HX := hid hx
  have HY := hid hy
  clear hwa hwb hx hy
  have hxk : x = (k : Int) := HX.out.symm.trans hk
  subst hxk
  have hyk : y = (k2 : Int) := HY.out.symm.trans hk'
  subst hyk
  have jx : ((k : Int) == (k2 : Int)) = false := by rw [beq_eq_false_iff_ne]; omega
  have jl : (k : Int) < (k2 : Int) := by omega
  have jn : ¬ (k2 : Int) < 0 := by omega
  have j1 : (0 : Int) ≤ (k : Int) := by omega
  have HOC := hid (show ∀ W : World, Below w.heap.size w W → Calls Tryz.prog 98 #[.pointer (some ⟨mb, 0, none⟩), .int .u8 ca.toNat, .agg #[.int .u8 cb.toNat, .slice Ab mbb capb]] W fun e w' => e = .returned (.bool true) ∧ Below W.heap.size W w' from HO)
  clear hk hk' HO
  go_enter Tryz.func77, Tryz.ntmps77
  go_wp2_with fail
  obtain ⟨W0, hW0⟩ : ∃ W0, (w.alloc (.cells #[.int .u8 c.toNat, .slice A m cap] 61)).alloc (.cells #[.int .u8 d.toNat, .slice B m' cap'] 61) = W0 := ⟨_, rfl⟩
  have h8 : W0.heap[w.heap.size]? = some (.cells #[.int .u8 c.toNat, .slice A m cap] 61 (0, 0)) := by
    rw [← hW0, Below.heap_alloc _ _ _ (by simp only [World.size_alloc]; omega)]
    exact heap_new1 _ _
  have h9 := heap_new1 (w.alloc (.cells #[.int .u8 c.toNat, .slice A m cap] 61)) (.cells #[.int .u8 d.toNat, .slice B m' cap'] 61)
  simp only [World.size_alloc] at h9
  rw [hW0] at h9 ⊢
  have hb0 : Below w.heap.size w W0 := by rw [← hW0]; exact ((Below.refl _ _).alloc (Nat.le_refl _) _).alloc (by simp only [World.size_alloc]; omega) _
  have z0 : W0.heap.size = w.heap.size + 2 := by rw [← hW0]; simp only [World.size_alloc]
  clear hW0
  refine (HWA.out W0 hb0).mono ?_
  rintro e w1 ⟨rfl, hb1⟩
  have q8 := (hb1.block w.heap.size (by omega)).trans h8
  have q9 := (hb1.block (w.heap.size + 1) (by omega)).trans h9
  obtain ⟨n0, n1, nf⟩ := two_cells q8
  obtain ⟨r0, r1, rf⟩ := two_cells q9
  have nf0 := nf 0
  have nf1 := nf 1
  have Q8 := hid q8
  have Q9 := hid q9
  have hb01 := hid (hb0.trans (hb1.mono (by omega)))
  have hz01 : w.heap.size + 2 ≤ w1.heap.size := by have := hb1.size; omega
  clear h8 h9 nf rf q8 q9 hb0 hb1 z0
  go_wp2_with fail
  obtain ⟨W1, hW1⟩ : ∃ W1, (w1.setCell ⟨w.heap.size, 0, none⟩ (.int .u8 ca.toNat)).setCell ⟨w.heap.size, 1, none⟩ (.slice Aa ma capa) = W1 := ⟨_, rfl⟩
  have h8 : W1.heap[w.heap.size]? = some (.cells #[.int .u8 ca.toNat, .slice Aa ma capa] 61 (0, 0)) := by
    rw [← hW1]
    have h := Q8.out
    simp [World.setCell, Array.getElem?_modify, h]
  have h9 : W1.heap[w.heap.size + 1]? = some (.cells #[.int .u8 d.toNat, .slice B m' cap'] 61 (0, 0)) := by
    rw [← hW1, Below.heap_setCell _ _ _ _ (by show w.heap.size + 1 ≠ w.heap.size; omega), Below.heap_setCell _ _ _ _ (by show w.heap.size + 1 ≠ w.heap.size; omega)]
    exact Q9.out
  have hb11 : Below w.heap.size w W1 := by rw [← hW1]; exact (hb01.out.setCell (Nat.le_refl _) _).setCell (Nat.le_refl _) _
  have z1 : W1.heap.size = w1.heap.size := by rw [← hW1]; simp [World.setCell]
  rw [hW1]
  clear hW1 n0 n1 nf0 nf1 r0 r1
  refine (HWB.out W1 hb11).mono ?_
  rintro e w2 ⟨rfl, hb2⟩
  have z2 := hb2.size
  have q8 := (hb2.block w.heap.size (by omega)).trans h8
  have q9 := (hb2.block (w.heap.size + 1) (by omega)).trans h9
  obtain ⟨n0, n1, _⟩ := two_cells q8
  obtain ⟨r0, r1, rf⟩ := two_cells q9
  have rf0 := rf 0
  have rf1 := rf 1
  have P8 := hid q8
  have P9 := hid q9
  have hb12 := hid (hb11.trans (hb2.mono (by omega)))
  have hz12 : w.heap.size + 2 ≤ w2.heap.size := by omega
  clear h8 h9 rf q8 q9 hb11 hb2 z1 z2 Q8 Q9
  go_wp2_with fail
  obtain ⟨W2, hW2⟩ : ∃ W2, (w2.setCell ⟨w.heap.size + 1, 0, none⟩ (.int .u8 cb.toNat)).setCell ⟨w.heap.size + 1, 1, none⟩ (.slice Ab mbb capb) = W2 := ⟨_, rfl⟩
  have h9 : W2.heap[w.heap.size + 1]? = some (.cells #[.int .u8 cb.toNat, .slice Ab mbb capb] 61 (0, 0)) := by
    rw [← hW2]
    have h := P9.out
    simp [World.setCell, Array.getElem?_modify, h]
  have h8 : W2.heap[w.heap.size]? = some (.cells #[.int .u8 ca.toNat, .slice Aa ma capa] 61 (0, 0)) := by
    rw [← hW2, Below.heap_setCell _ _ _ _ (by show w.heap.size ≠ w.heap.size + 1; omega), Below.heap_setCell _ _ _ _ (by show w.heap.size ≠ w.heap.size + 1; omega)]
    exact P8.out
  have hbW := hid (show Below w.heap.size w W2 by rw [← hW2]; exact (hb12.out.setCell (by show w.heap.size ≤ w.heap.size + 1; omega) _).setCell (by show w.heap.size ≤ w.heap.size + 1; omega) _)
  have zW : w.heap.size + 2 ≤ W2.heap.size := by rw [← hW2]; simpa [World.setCell] using hz12
  rw [hW2]
  clear hW2 n0 n1 rf0 rf1 r0 r1 P8 P9 hz01 hz12
  obtain ⟨n0, n1, _⟩ := two_cells h8
  obtain ⟨r0, r1, _⟩ := two_cells h9
  have H8 := hid h8
  have H9 := hid h9
  clear h8 h9
  go_region_with (go_at_call 65; first
    | (with_reducible refine (l2Index_at ca _ HX _).mono ?_; rintro e w3 ⟨rfl, rfl⟩)
    | (with_reducible refine (l2Index_at cb _ HY _).mono ?_; rintro e w3 ⟨rfl, rfl⟩))
  all_goals
    go_wp2_with fail
    refine (HOC.out _ hbW.out.drew).mono ?_
    rintro e w4 ⟨rfl, hb4⟩
    go_wp2_with fail
    go_ret
    exact ⟨rfl, hbW.out.drew.trans (hb4.mono hbW.out.size)⟩

set_option maxHeartbeats 3200000 in
set_option maxRecDepth 100000 in
theorem uN_bind_v (mb : Nat) (w : World) (na nb : Nat) (c d ca cb : UInt8) (A : Option Addr) (m cap : Nat) (B : Option Addr) (m' cap' : Nat) (Aa : Option Addr) (ma capa : Nat) (Ab : Option Addr) (mbb capb : Nat) (hwa : WkN w mb na c (.slice A m cap) ca (.slice Aa ma capa)) (hwb : WkN w mb nb d (.slice B m' cap') cb (.slice Ab mbb capb)) (hmb : mb < w.heap.size) (S : Nat → Prop) (f : UInt8 → Option Ty) (hst : StndN w mb S f) (hS : ∀ g, S g → g < w.heap.size) (k : Nat) (hk : l2ix ca = (k : Int)) (k2 : Nat) (hk' : l2ix cb = (k2 : Int)) (hlt : k < k2) (HO : SaysN mb ca (.int .u8 cb.toNat) (.slice Ab mbb capb) false w) :
    Calls Tryz.prog 77 #[.pointer (some ⟨mb, 0, none⟩), .agg #[.int .u8 c.toNat, .slice A m cap], .agg #[.int .u8 d.toNat, .slice B m' cap']] w fun e w' => e = .returned (.bool true) ∧ ∃ w4, Below w.heap.size w w4 ∧ w' = ((w4.setCell ⟨mb, k * 2, none⟩ (.int .u8 cb.toNat)).setCell ⟨mb, k * 2 + 1, none⟩ (.slice Ab mbb capb)).drew := by
  have HWA := hid (fun W' (h : Below w.heap.size w W') => walkN_by mb w na c ca A m cap _ hwa hmb W' h)
  have HWB := hid (fun W' (h : Below w.heap.size w W') => walkN_by mb w nb d cb B m' cap' _ hwb hmb W' h)
  obtain ⟨x, hx⟩ : ∃ x, l2ix ca = x := ⟨_, rfl⟩
  obtain ⟨y, hy⟩ : ∃ y, l2ix cb = y := ⟨_, rfl⟩
  have HX := hid hx
  have HY := hid hy
  clear hwa hwb hx hy
  have hxk : x = (k : Int) := HX.out.symm.trans hk
  subst hxk
  have hyk : y = (k2 : Int) := HY.out.symm.trans hk'
  subst hyk
  have jx : ((k : Int) == (k2 : Int)) = false := by rw [beq_eq_false_iff_ne]; omega
  have jl : (k : Int) < (k2 : Int) := by omega
  have jn : ¬ (k2 : Int) < 0 := by omega
  have j1 : (0 : Int) ≤ (k : Int) := by omega
  have hk12 : k < 12 := by have := (l2ix_var ca).2.2.2; omega
  have j2 : (k : Int) < 12 := by omega
  have HOC := hid (show ∀ W : World, Below w.heap.size w W → Calls Tryz.prog 98 #[.pointer (some ⟨mb, 0, none⟩), .int .u8 ca.toNat, .agg #[.int .u8 cb.toNat, .slice Ab mbb capb]] W fun e w' => e = .returned (.bool false) ∧ Below W.heap.size W w' from HO)
  have HCELLS := hid (fun w4 (hb : Below w.heap.size w w4) => (hst.keep (S' := S) (hb.block mb hmb) fun g hg => ⟨hg, hb.block g (hS g hg)⟩).cells k hk12)
  clear hk hk' HO hst hS
  go_enter Tryz.func77, Tryz.ntmps77
  go_wp2_with fail
  obtain ⟨W0, hW0⟩ : ∃ W0, (w.alloc (.cells #[.int .u8 c.toNat, .slice A m cap] 61)).alloc (.cells #[.int .u8 d.toNat, .slice B m' cap'] 61) = W0 := ⟨_, rfl⟩
  have h8 : W0.heap[w.heap.size]? = some (.cells #[.int .u8 c.toNat, .slice A m cap] 61 (0, 0)) := by
    rw [← hW0, Below.heap_alloc _ _ _ (by simp only [World.size_alloc]; omega)]
    exact heap_new1 _ _
  have h9 := heap_new1 (w.alloc (.cells #[.int .u8 c.toNat, .slice A m cap] 61)) (.cells #[.int .u8 d.toNat, .slice B m' cap'] 61)
  simp only [World.size_alloc] at h9
  rw [hW0] at h9 ⊢
  have hb0 : Below w.heap.size w W0 := by rw [← hW0]; exact ((Below.refl _ _).alloc (Nat.le_refl _) _).alloc (by simp only [World.size_alloc]; omega) _
  have z0 : W0.heap.size = w.heap.size + 2 := by rw [← hW0]; simp only [World.size_alloc]
  clear hW0
  refine (HWA.out W0 hb0).mono ?_
  rintro e w1 ⟨rfl, hb1⟩
  have q8 := (hb1.block w.heap.size (by omega)).trans h8
  have q9 := (hb1.block (w.heap.size + 1) (by omega)).trans h9
  obtain ⟨n0, n1, nf⟩ := two_cells q8
  obtain ⟨r0, r1, rf⟩ := two_cells q9
  have nf0 := nf 0
  have nf1 := nf 1
  have Q8 := hid q8
  have Q9 := hid q9
  have hb01 := hid (hb0.trans (hb1.mono (by omega)))
  have hz01 : w.heap.size + 2 ≤ w1.heap.size := by have := hb1.size; omega
  clear h8 h9 nf rf q8 q9 hb0 hb1 z0
  go_wp2_with fail
  obtain ⟨W1, hW1⟩ : ∃ W1, (w1.setCell ⟨w.heap.size, 0, none⟩ (.int .u8 ca.toNat)).setCell ⟨w.heap.size, 1, none⟩ (.slice Aa ma capa) = W1 := ⟨_, rfl⟩
  have h8 : W1.heap[w.heap.size]? = some (.cells #[.int .u8 ca.toNat, .slice Aa ma capa] 61 (0, 0)) := by
    rw [← hW1]
    have h := Q8.out
    simp [World.setCell, Array.getElem?_modify, h]
  have h9 : W1.heap[w.heap.size + 1]? = some (.cells #[.int .u8 d.toNat, .slice B m' cap'] 61 (0, 0)) := by
    rw [← hW1, Below.heap_setCell _ _ _ _ (by show w.heap.size + 1 ≠ w.heap.size; omega), Below.heap_setCell _ _ _ _ (by show w.heap.size + 1 ≠ w.heap.size; omega)]
    exact Q9.out
  have hb11 : Below w.heap.size w W1 := by rw [← hW1]; exact (hb01.out.setCell (Nat.le_refl _) _).setCell (Nat.le_refl _) _
  have z1 : W1.heap.size = w1.heap.size := by rw [← hW1]; simp [World.setCell]
  rw [hW1]
  clear hW1 n0 n1 nf0 nf1 r0 r1
  refine (HWB.out W1 hb11).mono ?_
  rintro e w2 ⟨rfl, hb2⟩
  have z2 := hb2.size
  have q8 := (hb2.block w.heap.size (by omega)).trans h8
  have q9 := (hb2.block (w.heap.size + 1) (by omega)).trans h9
  obtain ⟨n0, n1, _⟩ := two_cells q8
  obtain ⟨r0, r1, rf⟩ := two_cells q9
  have rf0 := rf 0
  have rf1 := rf 1
  have P8 := hid q8
  have P9 := hid q9
  have hb12 := hid (hb11.trans (hb2.mono (by omega)))
  have hz12 : w.heap.size + 2 ≤ w2.heap.size := by omega
  clear h8 h9 rf q8 q9 hb11 hb2 z1 z2 Q8 Q9
  go_wp2_with fail
  obtain ⟨W2, hW2⟩ : ∃ W2, (w2.setCell ⟨w.heap.size + 1, 0, none⟩ (.int .u8 cb.toNat)).setCell ⟨w.heap.size + 1, 1, none⟩ (.slice Ab mbb capb) = W2 := ⟨_, rfl⟩
  have h9 : W2.heap[w.heap.size + 1]? = some (.cells #[.int .u8 cb.toNat, .slice Ab mbb capb] 61 (0, 0)) := by
    rw [← hW2]
    have h := P9.out
    simp [World.setCell, Array.getElem?_modify, h]
  have h8 : W2.heap[w.heap.size]? = some (.cells #[.int .u8 ca.toNat, .slice Aa ma capa] 61 (0, 0)) := by
    rw [← hW2, Below.heap_setCell _ _ _ _ (by show w.heap.size ≠ w.heap.size + 1; omega), Below.heap_setCell _ _ _ _ (by show w.heap.size ≠ w.heap.size + 1; omega)]
    exact P8.out
  have hbW := hid (show Below w.heap.size w W2 by rw [← hW2]; exact (hb12.out.setCell (by show w.heap.size ≤ w.heap.size + 1; omega) _).setCell (by show w.heap.size ≤ w.heap.size + 1; omega) _)
  have zW : w.heap.size + 2 ≤ W2.heap.size := by rw [← hW2]; simpa [World.setCell] using hz12
  rw [hW2]
  clear hW2 n0 n1 rf0 rf1 r0 r1 P8 P9 hz01 hz12
  obtain ⟨n0, n1, _⟩ := two_cells h8
  obtain ⟨r0, r1, _⟩ := two_cells h9
  have H8 := hid h8
  have H9 := hid h9
  clear h8 h9
  go_region_with (go_at_call 65; first
    | (with_reducible refine (l2Index_at ca _ HX _).mono ?_; rintro e w3 ⟨rfl, rfl⟩)
    | (with_reducible refine (l2Index_at cb _ HY _).mono ?_; rintro e w3 ⟨rfl, rfl⟩))
  all_goals
    go_wp2_with fail
    refine (HOC.out _ hbW.out.drew).mono ?_
    rintro e w4 ⟨rfl, hb4⟩
    have hb4w := hid (hbW.out.drew.trans (hb4.mono hbW.out.size))
    obtain ⟨⟨v0, e4⟩, ⟨v1, e5⟩, ff4⟩ := HCELLS.out w4 hb4w.out
    have r40 := cell_below (w := W2.drew) r0 (by show w.heap.size + 1 < W2.heap.size; omega) hb4
    have r41 := cell_below (w := W2.drew) r1 (by show w.heap.size + 1 < W2.heap.size; omega) hb4
    clear hb4
    go_wp2_with fail
    go_region_with fail
    all_goals
      go_wp2_with fail
      go_ret
      exact ⟨rfl, w4, hb4w.out, rfl⟩

end Go.Proofs.YteimmgajohimlaaGreat
