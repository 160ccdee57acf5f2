/- l2Unify: a variable at the right; parts. l2Unify: parts side by side. -/
import Derived.Test.YtjpdiahbnhemoaaGreatUuT
import Derived.Deep.QuietTactic
import Derived.BigQuiet
namespace Go.Proofs.YtjpdiahbnhemoaaGreat
open Go.RowKit

set_option maxHeartbeats 3200000 in
set_option maxRecDepth 100000 in
theorem uN_swap_n (mb : Nat) (w : World) (na nb : Nat) (c d ca cb : UInt8) (A : Option Addr) (m cap : Nat) (B : Option Addr) (m' cap' : Nat) (Aa : Option Addr) (ma capa : Nat) (Ab : Option Addr) (mbb capb : Nat) (hwa : WkN w mb na c (.slice A m cap) ca (.slice Aa ma capa)) (hwb : WkN w mb nb d (.slice B m' cap') cb (.slice Ab mbb capb)) (hmb : mb < w.heap.size) (k2 : Nat) (hk' : l2ix cb = (k2 : Int)) (hk : l2ix ca = -1) (S : Nat → Prop) (o : Option (UInt8 → Option Ty)) (HO : ∀ W : World, Below w.heap.size w W → Calls Tryz.prog 27 #[.pointer (some ⟨mb, 0, none⟩), .agg #[.int .u8 cb.toNat, .slice Ab mbb capb], .agg #[.int .u8 ca.toNat, .slice Aa ma capa]] W (MtEndN W mb S o)) :
    Calls Tryz.prog 27 #[.pointer (some ⟨mb, 0, none⟩), .agg #[.int .u8 c.toNat, .slice A m cap], .agg #[.int .u8 d.toNat, .slice B m' cap']] w (MtEndN w mb S o) := by
  have HWA := hid (fun W' (h : Below w.heap.size w W') => walkN_by mb w na c ca A m cap _ hwa hmb W' h)
  have HWB := hid (fun W' (h : Below w.heap.size w W') => walkN_by mb w nb d cb B m' cap' _ hwb hmb W' h)
  obtain ⟨x, hx⟩ : ∃ x, l2ix ca = x := ⟨_, rfl⟩
  obtain ⟨y, hy⟩ : ∃ y, l2ix cb = y := ⟨_, rfl⟩
  have HX := hid hx
  have HY := hid hy
  clear hwa hwb hx hy
  have hyk : y = (k2 : Int) := HY.out.symm.trans hk'
  subst hyk
  have j3 : (0 : Int) ≤ (k2 : Int) := by omega
  have hxk : x = -1 := HX.out.symm.trans hk
  subst hxk
  have HOC := hid HO
  clear hk hk' HO
  go_enter Tryz.func27, Tryz.ntmps27
  go_wp2_with fail
  obtain ⟨W0, hW0⟩ : ∃ W0, (w.alloc (.cells #[.int .u8 c.toNat, .slice A m cap] 31)).alloc (.cells #[.int .u8 d.toNat, .slice B m' cap'] 31) = W0 := ⟨_, rfl⟩
  have h8 : W0.heap[w.heap.size]? = some (.cells #[.int .u8 c.toNat, .slice A m cap] 31 (0, 0)) := by
    rw [← hW0, Below.heap_alloc _ _ _ (by simp only [World.size_alloc]; omega)]
    exact heap_new1 _ _
  have h9 := heap_new1 (w.alloc (.cells #[.int .u8 c.toNat, .slice A m cap] 31)) (.cells #[.int .u8 d.toNat, .slice B m' cap'] 31)
  simp only [World.size_alloc] at h9
  rw [hW0] at h9 ⊢
  have hb0 : Below w.heap.size w W0 := by rw [← hW0]; exact ((Below.refl _ _).alloc (Nat.le_refl _) _).alloc (by simp only [World.size_alloc]; omega) _
  have z0 : W0.heap.size = w.heap.size + 2 := by rw [← hW0]; simp only [World.size_alloc]
  clear hW0
  refine (HWA.out W0 hb0).mono ?_
  rintro e w1 ⟨rfl, hb1⟩
  have q8 := (hb1.block w.heap.size (by omega)).trans h8
  have q9 := (hb1.block (w.heap.size + 1) (by omega)).trans h9
  obtain ⟨n0, n1, nf⟩ := two_cells q8
  obtain ⟨r0, r1, rf⟩ := two_cells q9
  have nf0 := nf 0
  have nf1 := nf 1
  have Q8 := hid q8
  have Q9 := hid q9
  have hb01 := hid (hb0.trans (hb1.mono (by omega)))
  have hz01 : w.heap.size + 2 ≤ w1.heap.size := by have := hb1.size; omega
  clear h8 h9 nf rf q8 q9 hb0 hb1 z0
  go_wp2_with fail
  obtain ⟨W1, hW1⟩ : ∃ W1, (w1.setCell ⟨w.heap.size, 0, none⟩ (.int .u8 ca.toNat)).setCell ⟨w.heap.size, 1, none⟩ (.slice Aa ma capa) = W1 := ⟨_, rfl⟩
  have h8 : W1.heap[w.heap.size]? = some (.cells #[.int .u8 ca.toNat, .slice Aa ma capa] 31 (0, 0)) := by
    rw [← hW1]
    have h := Q8.out
    simp [World.setCell, Array.getElem?_modify, h]
  have h9 : W1.heap[w.heap.size + 1]? = some (.cells #[.int .u8 d.toNat, .slice B m' cap'] 31 (0, 0)) := by
    rw [← hW1, Below.heap_setCell _ _ _ _ (by show w.heap.size + 1 ≠ w.heap.size; omega), Below.heap_setCell _ _ _ _ (by show w.heap.size + 1 ≠ w.heap.size; omega)]
    exact Q9.out
  have hb11 : Below w.heap.size w W1 := by rw [← hW1]; exact (hb01.out.setCell (Nat.le_refl _) _).setCell (Nat.le_refl _) _
  have z1 : W1.heap.size = w1.heap.size := by rw [← hW1]; simp [World.setCell]
  rw [hW1]
  clear hW1 n0 n1 nf0 nf1 r0 r1
  refine (HWB.out W1 hb11).mono ?_
  rintro e w2 ⟨rfl, hb2⟩
  have z2 := hb2.size
  have q8 := (hb2.block w.heap.size (by omega)).trans h8
  have q9 := (hb2.block (w.heap.size + 1) (by omega)).trans h9
  obtain ⟨n0, n1, _⟩ := two_cells q8
  obtain ⟨r0, r1, rf⟩ := two_cells q9
  have rf0 := rf 0
  have rf1 := rf 1
  have P8 := hid q8
  have P9 := hid q9
  have hb12 := hid (hb11.trans (hb2.mono (by omega)))
  have hz12 : w.heap.size + 2 ≤ w2.heap.size := by omega
  clear h8 h9 rf q8 q9 hb11 hb2 z1 z2 Q8 Q9
  go_wp2_with fail
  obtain ⟨W2, hW2⟩ : ∃ W2, (w2.setCell ⟨w.heap.size + 1, 0, none⟩ (.int .u8 cb.toNat)).setCell ⟨w.heap.size + 1, 1, none⟩ (.slice Ab mbb capb) = W2 := ⟨_, rfl⟩
  have h9 : W2.heap[w.heap.size + 1]? = some (.cells #[.int .u8 cb.toNat, .slice Ab mbb capb] 31 (0, 0)) := by
    rw [← hW2]
    have h := P9.out
    simp [World.setCell, Array.getElem?_modify, h]
  have h8 : W2.heap[w.heap.size]? = some (.cells #[.int .u8 ca.toNat, .slice Aa ma capa] 31 (0, 0)) := by
    rw [← hW2, Below.heap_setCell _ _ _ _ (by show w.heap.size ≠ w.heap.size + 1; omega), Below.heap_setCell _ _ _ _ (by show w.heap.size ≠ w.heap.size + 1; omega)]
    exact P8.out
  have hbW := hid (show Below w.heap.size w W2 by rw [← hW2]; exact (hb12.out.setCell (by show w.heap.size ≤ w.heap.size + 1; omega) _).setCell (by show w.heap.size ≤ w.heap.size + 1; omega) _)
  have zW : w.heap.size + 2 ≤ W2.heap.size := by rw [← hW2]; simpa [World.setCell] using hz12
  rw [hW2]
  clear hW2 n0 n1 rf0 rf1 r0 r1 P8 P9 hz01 hz12
  obtain ⟨n0, n1, _⟩ := two_cells h8
  obtain ⟨r0, r1, _⟩ := two_cells h9
  have H8 := hid h8
  have H9 := hid h9
  clear h8 h9
  go_region_with (go_at_call 14; first
    | (with_reducible refine (l2Index_at ca _ HX _).mono ?_; rintro e w3 ⟨rfl, rfl⟩)
    | (with_reducible refine (l2Index_at cb _ HY _).mono ?_; rintro e w3 ⟨rfl, rfl⟩))
  all_goals
    go_wp2_with fail
    refine (HOC.out _ hbW.out.drew).mono ?_
    rintro e w4 hr
    have hr' := hid (mtEndN_from hbW.out.drew hr)
    cases o with
    | none =>
      obtain ⟨_, rfl⟩ : _ ∧ e = .returned (.bool false) := hr
      go_wp2_with fail
      go_ret
      exact hr'.out
    | some g =>
      obtain ⟨_, rfl, _⟩ : _ ∧ e = .returned (.bool true) ∧ _ := hr
      go_wp2_with fail
      go_ret
      exact hr'.out

set_option maxHeartbeats 3200000 in
set_option maxRecDepth 100000 in
theorem uN_swap_v (mb : Nat) (w : World) (na nb : Nat) (c d ca cb : UInt8) (A : Option Addr) (m cap : Nat) (B : Option Addr) (m' cap' : Nat) (Aa : Option Addr) (ma capa : Nat) (Ab : Option Addr) (mbb capb : Nat) (hwa : WkN w mb na c (.slice A m cap) ca (.slice Aa ma capa)) (hwb : WkN w mb nb d (.slice B m' cap') cb (.slice Ab mbb capb)) (hmb : mb < w.heap.size) (k2 : Nat) (hk' : l2ix cb = (k2 : Int)) (k : Nat) (hk : l2ix ca = (k : Int)) (hlt : k2 < k) (S : Nat → Prop) (o : Option (UInt8 → Option Ty)) (HO : ∀ W : World, Below w.heap.size w W → Calls Tryz.prog 27 #[.pointer (some ⟨mb, 0, none⟩), .agg #[.int .u8 cb.toNat, .slice Ab mbb capb], .agg #[.int .u8 ca.toNat, .slice Aa ma capa]] W (MtEndN W mb S o)) :
    Calls Tryz.prog 27 #[.pointer (some ⟨mb, 0, none⟩), .agg #[.int .u8 c.toNat, .slice A m cap], .agg #[.int .u8 d.toNat, .slice B m' cap']] w (MtEndN w mb S o) := by
  have HWA := hid (fun W' (h : Below w.heap.size w W') => walkN_by mb w na c ca A m cap _ hwa hmb W' h)
  have HWB := hid (fun W' (h : Below w.heap.size w W') => walkN_by mb w nb d cb B m' cap' _ hwb hmb W' h)
  obtain ⟨x, hx⟩ : ∃ x, l2ix ca = x := ⟨_, rfl⟩
  obtain ⟨y, hy⟩ : ∃ y, l2ix cb = y := ⟨_, rfl⟩
  have HX := hid hx
  have HY := hid hy
  clear hwa hwb hx hy
  have hyk : y = (k2 : Int) := HY.out.symm.trans hk'
  subst hyk
  have j3 : (0 : Int) ≤ (k2 : Int) := by omega
  have hxk : x = (k : Int) := HX.out.symm.trans hk
  subst hxk
  have j1 : (0 : Int) ≤ (k : Int) := by omega
  have jx : ((k : Int) == (k2 : Int)) = false := by rw [beq_eq_false_iff_ne]; omega
  have jl : ¬ (k : Int) < (k2 : Int) := by omega
  have jn : ¬ (k2 : Int) < 0 := by omega
  have HOC := hid HO
  clear hk hk' HO
  go_enter Tryz.func27, Tryz.ntmps27
  go_wp2_with fail
  obtain ⟨W0, hW0⟩ : ∃ W0, (w.alloc (.cells #[.int .u8 c.toNat, .slice A m cap] 31)).alloc (.cells #[.int .u8 d.toNat, .slice B m' cap'] 31) = W0 := ⟨_, rfl⟩
  have h8 : W0.heap[w.heap.size]? = some (.cells #[.int .u8 c.toNat, .slice A m cap] 31 (0, 0)) := by
    rw [← hW0, Below.heap_alloc _ _ _ (by simp only [World.size_alloc]; omega)]
    exact heap_new1 _ _
  have h9 := heap_new1 (w.alloc (.cells #[.int .u8 c.toNat, .slice A m cap] 31)) (.cells #[.int .u8 d.toNat, .slice B m' cap'] 31)
  simp only [World.size_alloc] at h9
  rw [hW0] at h9 ⊢
  have hb0 : Below w.heap.size w W0 := by rw [← hW0]; exact ((Below.refl _ _).alloc (Nat.le_refl _) _).alloc (by simp only [World.size_alloc]; omega) _
  have z0 : W0.heap.size = w.heap.size + 2 := by rw [← hW0]; simp only [World.size_alloc]
  clear hW0
  refine (HWA.out W0 hb0).mono ?_
  rintro e w1 ⟨rfl, hb1⟩
  have q8 := (hb1.block w.heap.size (by omega)).trans h8
  have q9 := (hb1.block (w.heap.size + 1) (by omega)).trans h9
  obtain ⟨n0, n1, nf⟩ := two_cells q8
  obtain ⟨r0, r1, rf⟩ := two_cells q9
  have nf0 := nf 0
  have nf1 := nf 1
  have Q8 := hid q8
  have Q9 := hid q9
  have hb01 := hid (hb0.trans (hb1.mono (by omega)))
  have hz01 : w.heap.size + 2 ≤ w1.heap.size := by have := hb1.size; omega
  clear h8 h9 nf rf q8 q9 hb0 hb1 z0
  go_wp2_with fail
  obtain ⟨W1, hW1⟩ : ∃ W1, (w1.setCell ⟨w.heap.size, 0, none⟩ (.int .u8 ca.toNat)).setCell ⟨w.heap.size, 1, none⟩ (.slice Aa ma capa) = W1 := ⟨_, rfl⟩
  have h8 : W1.heap[w.heap.size]? = some (.cells #[.int .u8 ca.toNat, .slice Aa ma capa] 31 (0, 0)) := by
    rw [← hW1]
    have h := Q8.out
    simp [World.setCell, Array.getElem?_modify, h]
  have h9 : W1.heap[w.heap.size + 1]? = some (.cells #[.int .u8 d.toNat, .slice B m' cap'] 31 (0, 0)) := by
    rw [← hW1, Below.heap_setCell _ _ _ _ (by show w.heap.size + 1 ≠ w.heap.size; omega), Below.heap_setCell _ _ _ _ (by show w.heap.size + 1 ≠ w.heap.size; omega)]
    exact Q9.out
  have hb11 : Below w.heap.size w W1 := by rw [← hW1]; exact (hb01.out.setCell (Nat.le_refl _) _).setCell (Nat.le_refl _) _
  have z1 : W1.heap.size = w1.heap.size := by rw [← hW1]; simp [World.setCell]
  rw [hW1]
  clear hW1 n0 n1 nf0 nf1 r0 r1
  refine (HWB.out W1 hb11).mono ?_
  rintro e w2 ⟨rfl, hb2⟩
  have z2 := hb2.size
  have q8 := (hb2.block w.heap.size (by omega)).trans h8
  have q9 := (hb2.block (w.heap.size + 1) (by omega)).trans h9
  obtain ⟨n0, n1, _⟩ := two_cells q8
  obtain ⟨r0, r1, rf⟩ := two_cells q9
  have rf0 := rf 0
  have rf1 := rf 1
  have P8 := hid q8
  have P9 := hid q9
  have hb12 := hid (hb11.trans (hb2.mono (by omega)))
  have hz12 : w.heap.size + 2 ≤ w2.heap.size := by omega
  clear h8 h9 rf q8 q9 hb11 hb2 z1 z2 Q8 Q9
  go_wp2_with fail
  obtain ⟨W2, hW2⟩ : ∃ W2, (w2.setCell ⟨w.heap.size + 1, 0, none⟩ (.int .u8 cb.toNat)).setCell ⟨w.heap.size + 1, 1, none⟩ (.slice Ab mbb capb) = W2 := ⟨_, rfl⟩
  have h9 : W2.heap[w.heap.size + 1]? = some (.cells #[.int .u8 cb.toNat, .slice Ab mbb capb] 31 (0, 0)) := by
    rw [← hW2]
    have h := P9.out
    simp [World.setCell, Array.getElem?_modify, h]
  have h8 : W2.heap[w.heap.size]? = some (.cells #[.int .u8 ca.toNat, .slice Aa ma capa] 31 (0, 0)) := by
    rw [← hW2, Below.heap_setCell _ _ _ _ (by show w.heap.size ≠ w.heap.size + 1; omega), Below.heap_setCell _ _ _ _ (by show w.heap.size ≠ w.heap.size + 1; omega)]
    exact P8.out
  have hbW := hid (show Below w.heap.size w W2 by rw [← hW2]; exact (hb12.out.setCell (by show w.heap.size ≤ w.heap.size + 1; omega) _).setCell (by show w.heap.size ≤ w.heap.size + 1; omega) _)
  have zW : w.heap.size + 2 ≤ W2.heap.size := by rw [← hW2]; simpa [World.setCell] using hz12
  rw [hW2]
  clear hW2 n0 n1 rf0 rf1 r0 r1 P8 P9 hz01 hz12
  obtain ⟨n0, n1, _⟩ := two_cells h8
  obtain ⟨r0, r1, _⟩ := two_cells h9
  have H8 := hid h8
  have H9 := hid h9
  clear h8 h9
  go_region_with (go_at_call 14; first
    | (with_reducible refine (l2Index_at ca _ HX _).mono ?_; rintro e w3 ⟨rfl, rfl⟩)
    | (with_reducible refine (l2Index_at cb _ HY _).mono ?_; rintro e w3 ⟨rfl, rfl⟩))
  all_goals
    go_wp2_with fail
    refine (HOC.out _ hbW.out.drew).mono ?_
    rintro e w4 hr
    have hr' := hid (mtEndN_from hbW.out.drew hr)
    cases o with
    | none =>
      obtain ⟨_, rfl⟩ : _ ∧ e = .returned (.bool false) := hr
      go_wp2_with fail
      go_ret
      exact hr'.out
    | some g =>
      obtain ⟨_, rfl, _⟩ : _ ∧ e = .returned (.bool true) ∧ _ := hr
      go_wp2_with fail
      go_ret
      exact hr'.out

end Go.Proofs.YtjpdiahbnhemoaaGreat

namespace Go.Proofs.YtjpdiahbnhemoaaGreat
open Go.RowKit

set_option linter.unusedVariables false

set_option maxHeartbeats 3200000 in
set_option maxRecDepth 100000 in
theorem uN_row0 (mb : Nat) (w : World) (na nb : Nat) (c d ca : UInt8) (A : Option Addr) (m cap : Nat) (B : Option Addr) (m' cap' : Nat) (Aa : Option Addr) (capa : Nat) (Ab : Option Addr) (capb : Nat) (hwa : WkN w mb na c (.slice A m cap) ca (.slice Aa 0 capa)) (hwb : WkN w mb nb d (.slice B m' cap') ca (.slice Ab 0 capb)) (hmb : mb < w.heap.size) (hk : l2ix ca = -1) :
    Calls Tryz.prog 27 #[.pointer (some ⟨mb, 0, none⟩), .agg #[.int .u8 c.toNat, .slice A m cap], .agg #[.int .u8 d.toNat, .slice B m' cap']] w fun e w' => e = .returned (.bool true) ∧ Below w.heap.size w w' := by
  have HWA := hid (fun W' (h : Below w.heap.size w W') => walkN_by mb w na c ca A m cap _ hwa hmb W' h)
  have HWB := hid (fun W' (h : Below w.heap.size w W') => walkN_by mb w nb d ca B m' cap' _ hwb hmb W' h)
  obtain ⟨x, hx⟩ : ∃ x, l2ix ca = x := ⟨_, rfl⟩
  have HX := hid hx
  clear hwa hwb hx
  have hxk : x = -1 := HX.out.symm.trans hk
  subst hxk
  clear hk
  go_enter Tryz.func27, Tryz.ntmps27
  go_wp2_with fail
  obtain ⟨W0, hW0⟩ : ∃ W0, (w.alloc (.cells #[.int .u8 c.toNat, .slice A m cap] 31)).alloc (.cells #[.int .u8 d.toNat, .slice B m' cap'] 31) = W0 := ⟨_, rfl⟩
  have h8 : W0.heap[w.heap.size]? = some (.cells #[.int .u8 c.toNat, .slice A m cap] 31 (0, 0)) := by
    rw [← hW0, Below.heap_alloc _ _ _ (by simp only [World.size_alloc]; omega)]
    exact heap_new1 _ _
  have h9 := heap_new1 (w.alloc (.cells #[.int .u8 c.toNat, .slice A m cap] 31)) (.cells #[.int .u8 d.toNat, .slice B m' cap'] 31)
  simp only [World.size_alloc] at h9
  rw [hW0] at h9 ⊢
  have hb0 : Below w.heap.size w W0 := by rw [← hW0]; exact ((Below.refl _ _).alloc (Nat.le_refl _) _).alloc (by simp only [World.size_alloc]; omega) _
  have z0 : W0.heap.size = w.heap.size + 2 := by rw [← hW0]; simp only [World.size_alloc]
  clear hW0
  refine (HWA.out W0 hb0).mono ?_
  rintro e w1 ⟨rfl, hb1⟩
  have q8 := (hb1.block w.heap.size (by omega)).trans h8
  have q9 := (hb1.block (w.heap.size + 1) (by omega)).trans h9
  obtain ⟨n0, n1, nf⟩ := two_cells q8
  obtain ⟨r0, r1, rf⟩ := two_cells q9
  have nf0 := nf 0
  have nf1 := nf 1
  have Q8 := hid q8
  have Q9 := hid q9
  have hb01 := hid (hb0.trans (hb1.mono (by omega)))
  have hz01 : w.heap.size + 2 ≤ w1.heap.size := by have := hb1.size; omega
  clear h8 h9 nf rf q8 q9 hb0 hb1 z0
  go_wp2_with fail
  obtain ⟨W1, hW1⟩ : ∃ W1, (w1.setCell ⟨w.heap.size, 0, none⟩ (.int .u8 ca.toNat)).setCell ⟨w.heap.size, 1, none⟩ (.slice Aa 0 capa) = W1 := ⟨_, rfl⟩
  have h8 : W1.heap[w.heap.size]? = some (.cells #[.int .u8 ca.toNat, .slice Aa 0 capa] 31 (0, 0)) := by
    rw [← hW1]
    have h := Q8.out
    simp [World.setCell, Array.getElem?_modify, h]
  have h9 : W1.heap[w.heap.size + 1]? = some (.cells #[.int .u8 d.toNat, .slice B m' cap'] 31 (0, 0)) := by
    rw [← hW1, Below.heap_setCell _ _ _ _ (by show w.heap.size + 1 ≠ w.heap.size; omega), Below.heap_setCell _ _ _ _ (by show w.heap.size + 1 ≠ w.heap.size; omega)]
    exact Q9.out
  have hb11 : Below w.heap.size w W1 := by rw [← hW1]; exact (hb01.out.setCell (Nat.le_refl _) _).setCell (Nat.le_refl _) _
  have z1 : W1.heap.size = w1.heap.size := by rw [← hW1]; simp [World.setCell]
  rw [hW1]
  clear hW1 n0 n1 nf0 nf1 r0 r1
  refine (HWB.out W1 hb11).mono ?_
  rintro e w2 ⟨rfl, hb2⟩
  have z2 := hb2.size
  have q8 := (hb2.block w.heap.size (by omega)).trans h8
  have q9 := (hb2.block (w.heap.size + 1) (by omega)).trans h9
  obtain ⟨n0, n1, _⟩ := two_cells q8
  obtain ⟨r0, r1, rf⟩ := two_cells q9
  have rf0 := rf 0
  have rf1 := rf 1
  have P8 := hid q8
  have P9 := hid q9
  have hb12 := hid (hb11.trans (hb2.mono (by omega)))
  have hz12 : w.heap.size + 2 ≤ w2.heap.size := by omega
  clear h8 h9 rf q8 q9 hb11 hb2 z1 z2 Q8 Q9
  go_wp2_with fail
  obtain ⟨W2, hW2⟩ : ∃ W2, (w2.setCell ⟨w.heap.size + 1, 0, none⟩ (.int .u8 ca.toNat)).setCell ⟨w.heap.size + 1, 1, none⟩ (.slice Ab 0 capb) = W2 := ⟨_, rfl⟩
  have h9 : W2.heap[w.heap.size + 1]? = some (.cells #[.int .u8 ca.toNat, .slice Ab 0 capb] 31 (0, 0)) := by
    rw [← hW2]
    have h := P9.out
    simp [World.setCell, Array.getElem?_modify, h]
  have h8 : W2.heap[w.heap.size]? = some (.cells #[.int .u8 ca.toNat, .slice Aa 0 capa] 31 (0, 0)) := by
    rw [← hW2, Below.heap_setCell _ _ _ _ (by show w.heap.size ≠ w.heap.size + 1; omega), Below.heap_setCell _ _ _ _ (by show w.heap.size ≠ w.heap.size + 1; omega)]
    exact P8.out
  have hbW := hid (show Below w.heap.size w W2 by rw [← hW2]; exact (hb12.out.setCell (by show w.heap.size ≤ w.heap.size + 1; omega) _).setCell (by show w.heap.size ≤ w.heap.size + 1; omega) _)
  have zW : w.heap.size + 2 ≤ W2.heap.size := by rw [← hW2]; simpa [World.setCell] using hz12
  rw [hW2]
  clear hW2 n0 n1 rf0 rf1 r0 r1 P8 P9 hz01 hz12
  obtain ⟨n0, n1, _⟩ := two_cells h8
  obtain ⟨r0, r1, _⟩ := two_cells h9
  have H8 := hid h8
  have H9 := hid h9
  clear h8 h9
  refine (fun (key : Hid (?pp : Prop)) => ?main) ?kk
  case main =>
    go_region_with (go_at_call 14; refine (l2Index_at ca _ HX _).mono ?_; rintro e w3 ⟨rfl, rfl⟩)
    all_goals exact key.out
  case kk =>
  show Hid _
  refine hid ?_
  all_goals
    go_wp2_with fail
    refine wp_loop_rounds 1 ?_
    rw [rounds_succ]
    go_wp2_with fail
    go_ret
    exact ⟨rfl, hbW.out.drew⟩

set_option maxHeartbeats 3200000 in
set_option maxRecDepth 100000 in
theorem uN_row1_none (mb : Nat) (w : World) (na nb : Nat) (c d ca : UInt8) (A : Option Addr) (m cap : Nat) (B : Option Addr) (m' cap' : Nat) (ga capa gb capb : Nat) (hwa : WkN w mb na c (.slice A m cap) ca (.slice (some ⟨ga, 0, none⟩) 1 capa)) (hwb : WkN w mb nb d (.slice B m' cap') ca (.slice (some ⟨gb, 0, none⟩) 1 capb)) (hmb : mb < w.heap.size) (hk : l2ix ca = -1) (S : Nat → Prop) (hga : ga < w.heap.size) (hgb : gb < w.heap.size) (hna : ga ≠ mb) (hnb : gb ≠ mb) (x1 : UInt8) (X1 : Option Addr) (mx1 cx1 : Nat) (y1 : UInt8) (Y1 : Option Addr) (my1 cy1 : Nat) (hx1 : w.cell? ⟨ga, 0, none⟩ = some (.int .u8 x1.toNat)) (hx1' : w.cell? ⟨ga, 1, none⟩ = some (.slice X1 mx1 cx1)) (hy1 : w.cell? ⟨gb, 0, none⟩ = some (.int .u8 y1.toNat)) (hy1' : w.cell? ⟨gb, 1, none⟩ = some (.slice Y1 my1 cy1)) (HC1 : ∀ W : World, Below w.heap.size w W → Calls Tryz.prog 27 #[.pointer (some ⟨mb, 0, none⟩), .agg #[.int .u8 x1.toNat, .slice X1 mx1 cx1], .agg #[.int .u8 y1.toNat, .slice Y1 my1 cy1]] W (MtEndN W mb S none)) :
    Calls Tryz.prog 27 #[.pointer (some ⟨mb, 0, none⟩), .agg #[.int .u8 c.toNat, .slice A m cap], .agg #[.int .u8 d.toNat, .slice B m' cap']] w (MtEndN w mb S none) := by
  have HWA := hid (fun W' (h : Below w.heap.size w W') => walkN_by mb w na c ca A m cap _ hwa hmb W' h)
  have HWB := hid (fun W' (h : Below w.heap.size w W') => walkN_by mb w nb d ca B m' cap' _ hwb hmb W' h)
  obtain ⟨x, hx⟩ : ∃ x, l2ix ca = x := ⟨_, rfl⟩
  have HX := hid hx
  clear hwa hwb hx
  have hxk : x = -1 := HX.out.symm.trans hk
  subst hxk
  have HOC := hid HC1
  have HX1 := hid (And.intro hx1 hx1')
  have HY1 := hid (And.intro hy1 hy1')
  clear hk HC1 hx1 hx1' hy1 hy1'
  go_enter Tryz.func27, Tryz.ntmps27
  go_wp2_with fail
  obtain ⟨W0, hW0⟩ : ∃ W0, (w.alloc (.cells #[.int .u8 c.toNat, .slice A m cap] 31)).alloc (.cells #[.int .u8 d.toNat, .slice B m' cap'] 31) = W0 := ⟨_, rfl⟩
  have h8 : W0.heap[w.heap.size]? = some (.cells #[.int .u8 c.toNat, .slice A m cap] 31 (0, 0)) := by
    rw [← hW0, Below.heap_alloc _ _ _ (by simp only [World.size_alloc]; omega)]
    exact heap_new1 _ _
  have h9 := heap_new1 (w.alloc (.cells #[.int .u8 c.toNat, .slice A m cap] 31)) (.cells #[.int .u8 d.toNat, .slice B m' cap'] 31)
  simp only [World.size_alloc] at h9
  rw [hW0] at h9 ⊢
  have hb0 : Below w.heap.size w W0 := by rw [← hW0]; exact ((Below.refl _ _).alloc (Nat.le_refl _) _).alloc (by simp only [World.size_alloc]; omega) _
  have z0 : W0.heap.size = w.heap.size + 2 := by rw [← hW0]; simp only [World.size_alloc]
  clear hW0
  refine (HWA.out W0 hb0).mono ?_
  rintro e w1 ⟨rfl, hb1⟩
  have q8 := (hb1.block w.heap.size (by omega)).trans h8
  have q9 := (hb1.block (w.heap.size + 1) (by omega)).trans h9
  obtain ⟨n0, n1, nf⟩ := two_cells q8
  obtain ⟨r0, r1, rf⟩ := two_cells q9
  have nf0 := nf 0
  have nf1 := nf 1
  have Q8 := hid q8
  have Q9 := hid q9
  have hb01 := hid (hb0.trans (hb1.mono (by omega)))
  have hz01 : w.heap.size + 2 ≤ w1.heap.size := by have := hb1.size; omega
  clear h8 h9 nf rf q8 q9 hb0 hb1 z0
  go_wp2_with fail
  obtain ⟨W1, hW1⟩ : ∃ W1, (w1.setCell ⟨w.heap.size, 0, none⟩ (.int .u8 ca.toNat)).setCell ⟨w.heap.size, 1, none⟩ (.slice (some ⟨ga, 0, none⟩) 1 capa) = W1 := ⟨_, rfl⟩
  have h8 : W1.heap[w.heap.size]? = some (.cells #[.int .u8 ca.toNat, .slice (some ⟨ga, 0, none⟩) 1 capa] 31 (0, 0)) := by
    rw [← hW1]
    have h := Q8.out
    simp [World.setCell, Array.getElem?_modify, h]
  have h9 : W1.heap[w.heap.size + 1]? = some (.cells #[.int .u8 d.toNat, .slice B m' cap'] 31 (0, 0)) := by
    rw [← hW1, Below.heap_setCell _ _ _ _ (by show w.heap.size + 1 ≠ w.heap.size; omega), Below.heap_setCell _ _ _ _ (by show w.heap.size + 1 ≠ w.heap.size; omega)]
    exact Q9.out
  have hb11 : Below w.heap.size w W1 := by rw [← hW1]; exact (hb01.out.setCell (Nat.le_refl _) _).setCell (Nat.le_refl _) _
  have z1 : W1.heap.size = w1.heap.size := by rw [← hW1]; simp [World.setCell]
  rw [hW1]
  clear hW1 n0 n1 nf0 nf1 r0 r1
  refine (HWB.out W1 hb11).mono ?_
  rintro e w2 ⟨rfl, hb2⟩
  have z2 := hb2.size
  have q8 := (hb2.block w.heap.size (by omega)).trans h8
  have q9 := (hb2.block (w.heap.size + 1) (by omega)).trans h9
  obtain ⟨n0, n1, _⟩ := two_cells q8
  obtain ⟨r0, r1, rf⟩ := two_cells q9
  have rf0 := rf 0
  have rf1 := rf 1
  have P8 := hid q8
  have P9 := hid q9
  have hb12 := hid (hb11.trans (hb2.mono (by omega)))
  have hz12 : w.heap.size + 2 ≤ w2.heap.size := by omega
  clear h8 h9 rf q8 q9 hb11 hb2 z1 z2 Q8 Q9
  go_wp2_with fail
  obtain ⟨W2, hW2⟩ : ∃ W2, (w2.setCell ⟨w.heap.size + 1, 0, none⟩ (.int .u8 ca.toNat)).setCell ⟨w.heap.size + 1, 1, none⟩ (.slice (some ⟨gb, 0, none⟩) 1 capb) = W2 := ⟨_, rfl⟩
  have h9 : W2.heap[w.heap.size + 1]? = some (.cells #[.int .u8 ca.toNat, .slice (some ⟨gb, 0, none⟩) 1 capb] 31 (0, 0)) := by
    rw [← hW2]
    have h := P9.out
    simp [World.setCell, Array.getElem?_modify, h]
  have h8 : W2.heap[w.heap.size]? = some (.cells #[.int .u8 ca.toNat, .slice (some ⟨ga, 0, none⟩) 1 capa] 31 (0, 0)) := by
    rw [← hW2, Below.heap_setCell _ _ _ _ (by show w.heap.size ≠ w.heap.size + 1; omega), Below.heap_setCell _ _ _ _ (by show w.heap.size ≠ w.heap.size + 1; omega)]
    exact P8.out
  have hbW := hid (show Below w.heap.size w W2 by rw [← hW2]; exact (hb12.out.setCell (by show w.heap.size ≤ w.heap.size + 1; omega) _).setCell (by show w.heap.size ≤ w.heap.size + 1; omega) _)
  have zW : w.heap.size + 2 ≤ W2.heap.size := by rw [← hW2]; simpa [World.setCell] using hz12
  rw [hW2]
  clear hW2 n0 n1 rf0 rf1 r0 r1 P8 P9 hz01 hz12
  obtain ⟨n0, n1, _⟩ := two_cells h8
  obtain ⟨r0, r1, _⟩ := two_cells h9
  have H8 := hid h8
  have H9 := hid h9
  clear h8 h9
  refine (fun (key : Hid (?pp : Prop)) => ?main) ?kk
  case main =>
    go_region_with (go_at_call 14; refine (l2Index_at ca _ HX _).mono ?_; rintro e w3 ⟨rfl, rfl⟩)
    all_goals exact key.out
  case kk =>
  show Hid _
  refine hid ?_
  have a1 := cell_below HX1.out.1 hga hbW.out
  have a2 := cell_below HX1.out.2 hga hbW.out
  have b1 := cell_below HY1.out.1 hgb hbW.out
  have b2 := cell_below HY1.out.2 hgb hbW.out
  go_wp2_with fail
  refine wp_loop_rounds 2 ?_
  rw [rounds_succ]
  go_wp2_with fail
  have HCC := hid (HOC.out W2.drew.drew (show Below w.heap.size w W2.drew.drew from hbW.out.drew.drew))
  have HCD1 := hid (HCC.out.mono (R' := fun e w' => e = .returned (.bool false) ∧ But W2.heap.size mb W2 w') fun e w' h => ⟨h.2, ((But.refl _ _ W2).drewN 2).trans h.1⟩)
  refine (fun (key1 : Hid (∀ w4, But W2.heap.size mb W2 w4 → (?pp1 : World → Prop) w4)) => ?main1) ?kk1
  case main1 =>
    go_region_with (go_at_call 27; refine HCD1.out.mono ?_; rintro e w4 ⟨rfl, hb4⟩)
    all_goals exact key1.out w4 hb4
  case kk1 =>
  show Hid _
  refine hid (fun w4 hb4 => ?_)
  go_wp2_with fail
  go_ret
  exact ⟨(But.of_below hbW.out).trans (hb4.mono hbW.out.size), rfl⟩

set_option maxHeartbeats 3200000 in
set_option maxRecDepth 100000 in
theorem uN_row1_yes (mb : Nat) (w : World) (na nb : Nat) (c d ca : UInt8) (A : Option Addr) (m cap : Nat) (B : Option Addr) (m' cap' : Nat) (ga capa gb capb : Nat) (hwa : WkN w mb na c (.slice A m cap) ca (.slice (some ⟨ga, 0, none⟩) 1 capa)) (hwb : WkN w mb nb d (.slice B m' cap') ca (.slice (some ⟨gb, 0, none⟩) 1 capb)) (hmb : mb < w.heap.size) (hk : l2ix ca = -1) (S : Nat → Prop) (hga : ga < w.heap.size) (hgb : gb < w.heap.size) (hna : ga ≠ mb) (hnb : gb ≠ mb) (x1 : UInt8) (X1 : Option Addr) (mx1 cx1 : Nat) (y1 : UInt8) (Y1 : Option Addr) (my1 cy1 : Nat) (hx1 : w.cell? ⟨ga, 0, none⟩ = some (.int .u8 x1.toNat)) (hx1' : w.cell? ⟨ga, 1, none⟩ = some (.slice X1 mx1 cx1)) (hy1 : w.cell? ⟨gb, 0, none⟩ = some (.int .u8 y1.toNat)) (hy1' : w.cell? ⟨gb, 1, none⟩ = some (.slice Y1 my1 cy1)) (g : UInt8 → Option Ty) (HC1 : ∀ W : World, Below w.heap.size w W → Calls Tryz.prog 27 #[.pointer (some ⟨mb, 0, none⟩), .agg #[.int .u8 x1.toNat, .slice X1 mx1 cx1], .agg #[.int .u8 y1.toNat, .slice Y1 my1 cy1]] W (MtEndN W mb S (some g))) :
    Calls Tryz.prog 27 #[.pointer (some ⟨mb, 0, none⟩), .agg #[.int .u8 c.toNat, .slice A m cap], .agg #[.int .u8 d.toNat, .slice B m' cap']] w (MtEndN w mb S (some g)) := by
  have HWA := hid (fun W' (h : Below w.heap.size w W') => walkN_by mb w na c ca A m cap _ hwa hmb W' h)
  have HWB := hid (fun W' (h : Below w.heap.size w W') => walkN_by mb w nb d ca B m' cap' _ hwb hmb W' h)
  obtain ⟨x, hx⟩ : ∃ x, l2ix ca = x := ⟨_, rfl⟩
  have HX := hid hx
  clear hwa hwb hx
  have hxk : x = -1 := HX.out.symm.trans hk
  subst hxk
  have HOC := hid HC1
  have HX1 := hid (And.intro hx1 hx1')
  have HY1 := hid (And.intro hy1 hy1')
  clear hk HC1 hx1 hx1' hy1 hy1'
  go_enter Tryz.func27, Tryz.ntmps27
  go_wp2_with fail
  obtain ⟨W0, hW0⟩ : ∃ W0, (w.alloc (.cells #[.int .u8 c.toNat, .slice A m cap] 31)).alloc (.cells #[.int .u8 d.toNat, .slice B m' cap'] 31) = W0 := ⟨_, rfl⟩
  have h8 : W0.heap[w.heap.size]? = some (.cells #[.int .u8 c.toNat, .slice A m cap] 31 (0, 0)) := by
    rw [← hW0, Below.heap_alloc _ _ _ (by simp only [World.size_alloc]; omega)]
    exact heap_new1 _ _
  have h9 := heap_new1 (w.alloc (.cells #[.int .u8 c.toNat, .slice A m cap] 31)) (.cells #[.int .u8 d.toNat, .slice B m' cap'] 31)
  simp only [World.size_alloc] at h9
  rw [hW0] at h9 ⊢
  have hb0 : Below w.heap.size w W0 := by rw [← hW0]; exact ((Below.refl _ _).alloc (Nat.le_refl _) _).alloc (by simp only [World.size_alloc]; omega) _
  have z0 : W0.heap.size = w.heap.size + 2 := by rw [← hW0]; simp only [World.size_alloc]
  clear hW0
  refine (HWA.out W0 hb0).mono ?_
  rintro e w1 ⟨rfl, hb1⟩
  have q8 := (hb1.block w.heap.size (by omega)).trans h8
  have q9 := (hb1.block (w.heap.size + 1) (by omega)).trans h9
  obtain ⟨n0, n1, nf⟩ := two_cells q8
  obtain ⟨r0, r1, rf⟩ := two_cells q9
  have nf0 := nf 0
  have nf1 := nf 1
  have Q8 := hid q8
  have Q9 := hid q9
  have hb01 := hid (hb0.trans (hb1.mono (by omega)))
  have hz01 : w.heap.size + 2 ≤ w1.heap.size := by have := hb1.size; omega
  clear h8 h9 nf rf q8 q9 hb0 hb1 z0
  go_wp2_with fail
  obtain ⟨W1, hW1⟩ : ∃ W1, (w1.setCell ⟨w.heap.size, 0, none⟩ (.int .u8 ca.toNat)).setCell ⟨w.heap.size, 1, none⟩ (.slice (some ⟨ga, 0, none⟩) 1 capa) = W1 := ⟨_, rfl⟩
  have h8 : W1.heap[w.heap.size]? = some (.cells #[.int .u8 ca.toNat, .slice (some ⟨ga, 0, none⟩) 1 capa] 31 (0, 0)) := by
    rw [← hW1]
    have h := Q8.out
    simp [World.setCell, Array.getElem?_modify, h]
  have h9 : W1.heap[w.heap.size + 1]? = some (.cells #[.int .u8 d.toNat, .slice B m' cap'] 31 (0, 0)) := by
    rw [← hW1, Below.heap_setCell _ _ _ _ (by show w.heap.size + 1 ≠ w.heap.size; omega), Below.heap_setCell _ _ _ _ (by show w.heap.size + 1 ≠ w.heap.size; omega)]
    exact Q9.out
  have hb11 : Below w.heap.size w W1 := by rw [← hW1]; exact (hb01.out.setCell (Nat.le_refl _) _).setCell (Nat.le_refl _) _
  have z1 : W1.heap.size = w1.heap.size := by rw [← hW1]; simp [World.setCell]
  rw [hW1]
  clear hW1 n0 n1 nf0 nf1 r0 r1
  refine (HWB.out W1 hb11).mono ?_
  rintro e w2 ⟨rfl, hb2⟩
  have z2 := hb2.size
  have q8 := (hb2.block w.heap.size (by omega)).trans h8
  have q9 := (hb2.block (w.heap.size + 1) (by omega)).trans h9
  obtain ⟨n0, n1, _⟩ := two_cells q8
  obtain ⟨r0, r1, rf⟩ := two_cells q9
  have rf0 := rf 0
  have rf1 := rf 1
  have P8 := hid q8
  have P9 := hid q9
  have hb12 := hid (hb11.trans (hb2.mono (by omega)))
  have hz12 : w.heap.size + 2 ≤ w2.heap.size := by omega
  clear h8 h9 rf q8 q9 hb11 hb2 z1 z2 Q8 Q9
  go_wp2_with fail
  obtain ⟨W2, hW2⟩ : ∃ W2, (w2.setCell ⟨w.heap.size + 1, 0, none⟩ (.int .u8 ca.toNat)).setCell ⟨w.heap.size + 1, 1, none⟩ (.slice (some ⟨gb, 0, none⟩) 1 capb) = W2 := ⟨_, rfl⟩
  have h9 : W2.heap[w.heap.size + 1]? = some (.cells #[.int .u8 ca.toNat, .slice (some ⟨gb, 0, none⟩) 1 capb] 31 (0, 0)) := by
    rw [← hW2]
    have h := P9.out
    simp [World.setCell, Array.getElem?_modify, h]
  have h8 : W2.heap[w.heap.size]? = some (.cells #[.int .u8 ca.toNat, .slice (some ⟨ga, 0, none⟩) 1 capa] 31 (0, 0)) := by
    rw [← hW2, Below.heap_setCell _ _ _ _ (by show w.heap.size ≠ w.heap.size + 1; omega), Below.heap_setCell _ _ _ _ (by show w.heap.size ≠ w.heap.size + 1; omega)]
    exact P8.out
  have hbW := hid (show Below w.heap.size w W2 by rw [← hW2]; exact (hb12.out.setCell (by show w.heap.size ≤ w.heap.size + 1; omega) _).setCell (by show w.heap.size ≤ w.heap.size + 1; omega) _)
  have zW : w.heap.size + 2 ≤ W2.heap.size := by rw [← hW2]; simpa [World.setCell] using hz12
  rw [hW2]
  clear hW2 n0 n1 rf0 rf1 r0 r1 P8 P9 hz01 hz12
  obtain ⟨n0, n1, _⟩ := two_cells h8
  obtain ⟨r0, r1, _⟩ := two_cells h9
  have H8 := hid h8
  have H9 := hid h9
  clear h8 h9
  refine (fun (key : Hid (?pp : Prop)) => ?main) ?kk
  case main =>
    go_region_with (go_at_call 14; refine (l2Index_at ca _ HX _).mono ?_; rintro e w3 ⟨rfl, rfl⟩)
    all_goals exact key.out
  case kk =>
  show Hid _
  refine hid ?_
  have a1 := cell_below HX1.out.1 hga hbW.out
  have a2 := cell_below HX1.out.2 hga hbW.out
  have b1 := cell_below HY1.out.1 hgb hbW.out
  have b2 := cell_below HY1.out.2 hgb hbW.out
  go_wp2_with fail
  refine wp_loop_rounds 2 ?_
  rw [rounds_succ]
  go_wp2_with fail
  have HCC := hid (HOC.out W2.drew.drew (show Below w.heap.size w W2.drew.drew from hbW.out.drew.drew))
  have HCD1 := hid (HCC.out.mono (R' := fun e w' => e = .returned (.bool true) ∧ But W2.heap.size mb W2 w' ∧ StndN w' mb S g) fun e w' h => ⟨h.2.1, ((But.refl _ _ W2).drewN 2).trans h.1, h.2.2⟩)
  refine (fun (key1 : Hid (∀ w4, But W2.heap.size mb W2 w4 → StndN w4 mb S g → (?pp1 : World → Prop) w4)) => ?main1) ?kk1
  case main1 =>
    go_region_with (go_at_call 27; refine HCD1.out.mono ?_; rintro e w4 ⟨rfl, hb4, hs4⟩)
    all_goals exact key1.out w4 hb4 hs4
  case kk1 =>
  show Hid _
  refine hid (fun w4 hb1 hs1 => ?_)
  have HS1 := hid hs1
  clear hs1
  go_wp2_with fail
  rw [rounds_succ]
  go_wp2_with fail
  go_ret
  exact ⟨(But.of_below hbW.out).trans (hb1.mono hbW.out.size), rfl, HS1.out⟩

end Go.Proofs.YtjpdiahbnhemoaaGreat
