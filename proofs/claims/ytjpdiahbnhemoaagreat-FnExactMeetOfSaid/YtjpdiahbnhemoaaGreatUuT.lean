/- Variables followed in the model: l2Walk. Whether a variable stands in a type, in the model: l2Occurs. Unification in the model: l2Unify. l2Unify: a variable at the left. -/
import Derived.Test.YtjpdiahbnhemoaaGreatMtU
import Derived.Deep.LoopGhost
namespace Go.Proofs.YtjpdiahbnhemoaaGreat
open Go.RowKit

/-- The nodes that l2Walk goes through. -/
inductive WkN (w : World) (mb : Nat) : Nat → UInt8 → Value → UInt8 → Value → Prop
  | out {c : UInt8} {p : Value} : l2ix c = -1 → WkN w mb 0 c p c p
  | free {c : UInt8} {k : Nat} {p : Value} : l2ix c = (k : Int) → w.cell? ⟨mb, k * 2, none⟩ = some (.int .u8 0) → WkN w mb 0 c p c p
  | step {c d c' : UInt8} {k n : Nat} {p q p' : Value} : l2ix c = (k : Int) → w.cell? ⟨mb, k * 2, none⟩ = some (.int .u8 d.toNat) → w.cell? ⟨mb, k * 2 + 1, none⟩ = some q → d ≠ 0 → (∃ A m cap, q = .slice A m cap) → WkN w mb n d q c' p' → WkN w mb (n + 1) c p c' p'
def InF (f : UInt8 → Option Ty) : Prop := ∀ c t, f c = some t → t.inner
theorem isN_neg {c : UInt8} (h : isN c = false) : l2ix c = -1 := by
  revert h
  refine u8_all (p := fun c => isN c = false → l2ix c = -1) ?_ c
  decide +kernel
theorem isN_pos {c : UInt8} (h : isN c = true) : ∃ k : Nat, l2ix c = (k : Int) ∧ k < 12 := by
  have h0 : 0 ≤ l2ix c := by simpa [isN] using h
  have := (l2ix_var c).2.2.2
  exact ⟨(l2ix c).toNat, by omega, by omega⟩
theorem thr_inner {V : UInt8 → Bool} {f : UInt8 → Option Ty} (hf : InF f) {a b : Ty} (h : Thr V f a b) : a.inner → b.inner := by
  induction h with
  | stay _ => exact fun h => h
  | step _ h2 _ ih => exact fun _ => ih (hf _ _ h2)
theorem wk_of {f : UInt8 → Option Ty} (hf : InF f) {a b : Ty} (h : Thr isN f a b) (mb : Nat) (S : Nat → Prop) (w : World) (hst : StndN w mb S f) : a.inner → ∀ (c : UInt8) (p : Value), RepN w S a (.int .u8 c.toNat) p → ∃ n c' p', WkN w mb n c p c' p' ∧ RepN w S b (.int .u8 c'.toNat) p' := by
  induction h with
  | @stay a hs =>
    intro ha c p hr
    have hc := repN_head hr
    rcases hn : isN c with _ | _
    · exact ⟨0, c, p, .out (isN_neg hn), hr⟩
    · obtain ⟨k, hk, hk12⟩ := isN_pos hn
      cases a with
      | lf d =>
        obtain rfl : c = d := hc
        have hfc := hs c rfl hn
        obtain ⟨cur, h1, _, h3⟩ := hst
        have h4 := h3 c k hk
        rw [hfc] at h4
        exact ⟨0, c, p, .free hk (cell_blk h1 h4.1), hr⟩
      | un d a =>
        have h1 : l2ix d = -1 := ha.1
        rw [show c = d from hc, h1] at hk
        omega
      | bi d a b =>
        have h1 : l2ix d = -1 := ha.1
        rw [show c = d from hc, h1] at hk
        omega
  | @step d t b hd hfd _ ih =>
    intro ha c p hr
    obtain rfl : c = d := repN_head hr
    obtain ⟨k, hk, hk12⟩ := isN_pos hd
    have hst' := hst
    obtain ⟨cur, h1, _, h3⟩ := hst'
    have h4 := h3 c k hk
    rw [hfd] at h4
    obtain ⟨e, A, m, cap, he, g0, g1, g2⟩ := h4
    obtain ⟨n, c', p', hw, hr'⟩ := ih (hf c t hfd) e _ g2
    exact ⟨n + 1, c', p', .step hk (cell_blk h1 g0) (cell_blk h1 g1) he ⟨A, m, cap, rfl⟩ hw, hr'⟩

set_option maxHeartbeats 1600000 in
set_option maxRecDepth 100000 in
theorem walkN_by (mb : Nat) (w : World) (n : Nat) (c c' : UInt8) (A : Option Addr) (m cap : Nat) (p' : Value) (hw : WkN w mb n c (.slice A m cap) c' p') (hmb : mb < w.heap.size) (W : World) (hb : Below w.heap.size w W) :
    Calls Tryz.prog 51 #[.pointer (some ⟨mb, 0, none⟩), .agg #[.int .u8 c.toNat, .slice A m cap]] W fun e w' => e = .returned (.agg #[.int .u8 c'.toNat, p']) ∧ Below W.heap.size W w' := by
  have HW := hid hw
  clear hw
  obtain ⟨k0, hk0⟩ : ∃ k, l2ix c = k := ⟨_, rfl⟩
  have HK0 := hid hk0
  have hzW := hb.size
  go_enter Tryz.func51, Tryz.ntmps51
  go_wp2_with fail
  refine (l2Index_at c k0 HK0 _).mono ?_
  rintro e w1 ⟨rfl, rfl⟩
  go_wp2_with fail
  obtain ⟨W9, hW9⟩ : ∃ W9, (W.alloc (.cells #[.int .u8 c.toNat, .slice A m cap] 31)).alloc (.cells #[.int .u8 0, .slice none 0 0] 31) = W9 := ⟨_, rfl⟩
  have q9 := heap_new1 (W.alloc (.cells #[.int .u8 c.toNat, .slice A m cap] 31)) (.cells #[.int .u8 0, .slice none 0 0] 31)
  have q8 : W9.heap[W.heap.size]? = some (.cells #[.int .u8 c.toNat, .slice A m cap] 31 (0, 0)) := by
    rw [← hW9, Below.heap_alloc _ _ _ (by simp only [World.size_alloc]; omega)]
    exact heap_new1 _ _
  simp only [World.size_alloc] at q9
  rw [hW9] at q9 ⊢
  have hb9 : Below W.heap.size W W9 := by rw [← hW9]; exact ((Below.refl _ _).alloc (Nat.le_refl _) _).alloc (by simp only [World.size_alloc]; omega) _
  have Q8 := hid q8
  have Q9 := hid q9
  clear hW9 q8 q9 hk0
  go_loopg [5] n (fun g i wr => ∃ (ct : UInt8) (Bt : Option Addr) (mt capt : Nat), Hid (WkN w mb g ct (.slice Bt mt capt) c' p') ∧ Hid (∃ ki : Int, l2ix ct = ki ∧ i = .int .i64 ki) ∧ wr.heap[W.heap.size]? = some (.cells #[.int .u8 ct.toNat, .slice Bt mt capt] 31 (0, 0)) ∧ wr.heap[W.heap.size + 1]? = some (.cells #[.int .u8 0, .slice none 0 0] 31 (0, 0)) ∧ Below W.heap.size W wr)
  case atStart => exact ⟨c, A, m, cap, HW, ⟨_, HK0.out, rfl⟩, Q8.out, Q9.out, hb9⟩
  case round =>
    obtain ⟨ct, Bt, mt, capt, HWK, HI, h8, h9, hbel⟩ := hrel
    obtain ⟨ki, hki, rfl⟩ := HI.out
    obtain ⟨n0, n1, nf⟩ := two_cells h8
    obtain ⟨r0, r1, rf⟩ := two_cells h9
    have nf0 := nf 0
    have nf1 := nf 1
    have rf0 := rf 0
    have rf1 := rf 1
    have H9 := hid h9
    have H8 := hid h8
    have zr : W.heap.size + 1 < wr.heap.size := (Array.getElem?_eq_some_iff.1 h9).1
    have hbw : Below w.heap.size w wr := hb.trans (hbel.mono hzW)
    have HKI := hid hki
    have hwk := HWK.out
    clear nf rf h8 h9 HI
    have fin : ∀ x y, Below W.heap.size W (((wr.setCell ⟨W.heap.size + 1, 0, none⟩ x).setCell ⟨W.heap.size + 1, 1, none⟩ y)) := fun x y => (hbel.setCell (by show W.heap.size ≤ W.heap.size + 1; omega) _).setCell (by show W.heap.size ≤ W.heap.size + 1; omega) _
    have FIN := hid fin
    clear fin
    cases hwk with
    | out h1 =>
      obtain rfl : ki = -1 := hki.symm.trans h1
      clear hki h1 HWK
      go_wp2_with fail
      exact bodyPost_ret (v := .agg #[.int .u8 c'.toNat, .slice Bt mt capt]) (by simp [results, Tryz.results51, go_sem, r0, r1]) rfl ⟨rfl, FIN.out _ _⟩
    | @free _ k _ h1 h2 =>
      obtain rfl : ki = (k : Int) := hki.symm.trans h1
      have hk12 : k < 12 := by have := (l2ix_var c').2.2.2; omega
      have j1 : (0 : Int) ≤ (k : Int) := by omega
      have j2 : (k : Int) < 12 := by omega
      have g2 := cell_below h2 hmb hbw
      clear hki h1 HWK h2
      go_wp2_with fail
      exact bodyPost_ret (v := .agg #[.int .u8 c'.toNat, .slice Bt mt capt]) (by simp [results, Tryz.results51, go_sem, r0, r1]) rfl ⟨rfl, FIN.out _ _⟩
    | @step _ d _ k n' _ q _ h1 h2 h3 h4 h5 h6 =>
      obtain rfl : ki = (k : Int) := hki.symm.trans h1
      obtain ⟨B2, m2, cap2, rfl⟩ := h5
      have hk12 : k < 12 := by have := (l2ix_var ct).2.2.2; omega
      have j1 : (0 : Int) ≤ (k : Int) := by omega
      have j2 : (k : Int) < 12 := by omega
      have g2 := cell_below h2 hmb hbw
      have g3 := cell_below h3 hmb hbw
      have hdn : ((d.toNat : Int) != 0) = true := by
        simp only [bne_iff_ne, ne_eq]
        exact fun e => h4 (UInt8.toNat_inj.1 (by rw [show (0 : UInt8).toNat = 0 from rfl]; omega))
      obtain ⟨k2, hk2⟩ : ∃ k, l2ix d = k := ⟨_, rfl⟩
      have HK2 := hid hk2
      have H6 := hid h6
      clear hki h1 HWK h2 h3 h4 h6 hk2
      go_wp2_with fail
      refine (l2Index_at d k2 HK2 _).mono ?_
      rintro e w5 ⟨rfl, rfl⟩
      go_wp2_with fail
      go_roundg n'
      case measure => omega
      case rel =>
        refine ⟨d, B2, m2, cap2, H6, ⟨_, HK2.out, rfl⟩, ?_, ?_, (hbel.setCell (Nat.le_refl _) _).setCell (Nat.le_refl _) _⟩
        · have h8 : wr.heap[W.heap.size]? = some (.cells #[.int .u8 ct.toNat, .slice Bt mt capt] 31 (0, 0)) := H8.out
          simp [World.setCell, Array.getElem?_modify, h8]
        · rw [Below.heap_setCell _ _ _ _ (by show W.heap.size + 1 ≠ W.heap.size; omega), Below.heap_setCell _ _ _ _ (by show W.heap.size + 1 ≠ W.heap.size; omega)]
          exact H9.out

end Go.Proofs.YtjpdiahbnhemoaaGreat

namespace Go.Proofs.YtjpdiahbnhemoaaGreat
open Go.RowKit

/-- What l2Occurs says, in a world that has grown. -/
def SaysN (mb : Nat) (v : UInt8) (x y : Value) (r : Bool) (w : World) : Prop := ∀ W : World, Below w.heap.size w W → Calls Tryz.prog 52 #[.pointer (some ⟨mb, 0, none⟩), .int .u8 v.toNat, .agg #[x, y]] W fun e w' => e = .returned (.bool r) ∧ Below W.heap.size W w'

theorem u8_neb {c d : UInt8} (h : c ≠ d) : ((c.toNat : Int) == (d.toNat : Int)) = false := by
  rw [beq_eq_false_iff_ne]
  exact fun e => h (UInt8.toNat_inj.1 (by omega))

set_option maxHeartbeats 800000 in
set_option maxRecDepth 100000 in
theorem occ_hit (mb : Nat) (v : UInt8) (w : World) (n : Nat) (c : UInt8) (A : Option Addr) (m cap : Nat) (A' : Option Addr) (m' cap' : Nat) (hw : WkN w mb n c (.slice A m cap) v (.slice A' m' cap')) (hmb : mb < w.heap.size) : SaysN mb v (.int .u8 c.toNat) (.slice A m cap) true w := by
  intro W hb
  have HW := hid (fun W' (h : Below w.heap.size w W') => walkN_by mb w n c v A m cap _ hw hmb W' h)
  have hzW := hb.size
  clear hw
  go_enter Tryz.func52, Tryz.ntmps52
  go_wp2_with fail
  refine (HW.out _ (hb.alloc hzW _)).mono ?_
  rintro e w1 ⟨rfl, hb1⟩
  have hz1 := hb1.size
  simp only [World.size_alloc] at hz1
  have h5 := (hb1.block W.heap.size (by simp only [World.size_alloc]; omega)).trans (heap_new1 W _)
  obtain ⟨n0, n1, nf⟩ := two_cells h5
  have nf0 := nf 0
  have nf1 := nf 1
  have hbT : Below W.heap.size W w1 := ((Below.refl _ _).alloc (Nat.le_refl _) _).trans (hb1.mono (by simp only [World.size_alloc]; omega))
  clear h5 nf
  go_wp2_with fail
  go_ret
  exact ⟨rfl, (hbT.setCell (Nat.le_refl _) _).setCell (Nat.le_refl _) _⟩

set_option maxHeartbeats 800000 in
set_option maxRecDepth 100000 in
theorem occ_run0 (mb : Nat) (v : UInt8) (w : World) (n : Nat) (c c' : UInt8) (A : Option Addr) (m cap : Nat) (A' : Option Addr) (cap' : Nat) (hw : WkN w mb n c (.slice A m cap) c' (.slice A' 0 cap')) (hmb : mb < w.heap.size) (hne : c' ≠ v) : SaysN mb v (.int .u8 c.toNat) (.slice A m cap) false w := by
  intro W hb
  have HW := hid (fun W' (h : Below w.heap.size w W') => walkN_by mb w n c c' A m cap _ hw hmb W' h)
  have hzW := hb.size
  have hnb := u8_neb hne
  clear hw hne
  go_enter Tryz.func52, Tryz.ntmps52
  go_wp2_with fail
  refine (HW.out _ (hb.alloc hzW _)).mono ?_
  rintro e w1 ⟨rfl, hb1⟩
  have hz1 := hb1.size
  simp only [World.size_alloc] at hz1
  have h5 := (hb1.block W.heap.size (by simp only [World.size_alloc]; omega)).trans (heap_new1 W _)
  obtain ⟨n0, n1, nf⟩ := two_cells h5
  have nf0 := nf 0
  have nf1 := nf 1
  have hbT : Below W.heap.size W w1 := ((Below.refl _ _).alloc (Nat.le_refl _) _).trans (hb1.mono (by simp only [World.size_alloc]; omega))
  clear h5 nf
  go_wp2_with fail
  refine wp_loop_rounds 1 ?_
  rw [rounds_succ]
  go_wp2_with fail
  go_ret
  exact ⟨rfl, (hbT.setCell (Nat.le_refl _) _).setCell (Nat.le_refl _) _⟩

set_option maxHeartbeats 1600000 in
set_option maxRecDepth 100000 in
theorem occ_run1 (mb : Nat) (v : UInt8) (w : World) (n : Nat) (c c' : UInt8) (A : Option Addr) (m cap g cap' : Nat) (hw : WkN w mb n c (.slice A m cap) c' (.slice (some ⟨g, 0, none⟩) 1 cap')) (hmb : mb < w.heap.size) (hg : g < w.heap.size) (hne : c' ≠ v) (c1 : UInt8) (A1 : Option Addr) (m1 cap1 : Nat) (hx : w.cell? ⟨g, 0, none⟩ = some (.int .u8 c1.toNat)) (hy : w.cell? ⟨g, 1, none⟩ = some (.slice A1 m1 cap1)) (r : Bool) (HC : SaysN mb v (.int .u8 c1.toNat) (.slice A1 m1 cap1) r w) :
    SaysN mb v (.int .u8 c.toNat) (.slice A m cap) r w := by
  intro W hb
  have HW := hid (fun W' (h : Below w.heap.size w W') => walkN_by mb w n c c' A m cap _ hw hmb W' h)
  have hzW := hb.size
  have hnb := u8_neb hne
  have HCC := hid (show ∀ W : World, Below w.heap.size w W → Calls Tryz.prog 52 #[.pointer (some ⟨mb, 0, none⟩), .int .u8 v.toNat, .agg #[.int .u8 c1.toNat, .slice A1 m1 cap1]] W fun e w' => e = .returned (.bool r) ∧ Below W.heap.size W w' from HC)
  clear hw hne HC
  go_enter Tryz.func52, Tryz.ntmps52
  go_wp2_with fail
  refine (HW.out _ (hb.alloc hzW _)).mono ?_
  rintro e w1 ⟨rfl, hb1⟩
  have hz1 := hb1.size
  simp only [World.size_alloc] at hz1
  have h5 := (hb1.block W.heap.size (by simp only [World.size_alloc]; omega)).trans (heap_new1 W _)
  obtain ⟨n0, n1, nf⟩ := two_cells h5
  have nf0 := nf 0
  have nf1 := nf 1
  have hbT : Below W.heap.size W w1 := ((Below.refl _ _).alloc (Nat.le_refl _) _).trans (hb1.mono (by simp only [World.size_alloc]; omega))
  clear h5 nf
  obtain ⟨w2, hw2⟩ : ∃ w2, (w1.setCell ⟨W.heap.size, 0, none⟩ (.int .u8 c'.toNat)).setCell ⟨W.heap.size, 1, none⟩ (.slice (some ⟨g, 0, none⟩) 1 cap') = w2 := ⟨_, rfl⟩
  have hb2 : Below W.heap.size W w2 := by rw [← hw2]; exact (hbT.setCell (Nat.le_refl _) _).setCell (Nat.le_refl _) _
  have hbw2 : Below w.heap.size w w2 := hb.trans (hb2.mono hzW)
  have x2 := cell_below hx hg hbw2
  have y2 := cell_below hy hg hbw2
  rw [← hw2] at x2 y2
  have HB2 := hid hb2
  have HBW2 := hid hbw2
  rw [← hw2] at HB2 HBW2
  clear hw2 hb2 hbw2 hx hy
  have z2 := HB2.out.size
  have zw2 := HBW2.out.size
  simp only [World.setCell, Array.size_modify] at z2 zw2
  go_wp2_with fail
  refine wp_loop_rounds 2 ?_
  rw [rounds_succ]
  go_wp2_with fail
  refine (HCC.out _ (HBW2.out.alloc (by simp [World.setCell]; omega) _)).mono ?_
  rintro e w3 ⟨rfl, hb3⟩
  have hbF := hid ((HB2.out.alloc (by simp [World.setCell]; omega) _).trans (hb3.mono (by simp [World.setCell]; omega)))
  clear hb3
  cases r
  · go_wp2_with fail
    rw [rounds_succ]
    go_wp2_with fail
    go_ret
    exact ⟨rfl, hbF.out⟩
  · go_wp2_with fail
    go_ret
    exact ⟨rfl, hbF.out⟩

set_option maxHeartbeats 1600000 in
set_option maxRecDepth 100000 in
theorem occ_run2 (mb : Nat) (v : UInt8) (w : World) (n : Nat) (c c' : UInt8) (A : Option Addr) (m cap g cap' : Nat) (hw : WkN w mb n c (.slice A m cap) c' (.slice (some ⟨g, 0, none⟩) 2 cap')) (hmb : mb < w.heap.size) (hg : g < w.heap.size) (hne : c' ≠ v) (c1 : UInt8) (A1 : Option Addr) (m1 cap1 : Nat) (hx : w.cell? ⟨g, 0, none⟩ = some (.int .u8 c1.toNat)) (hy : w.cell? ⟨g, 1, none⟩ = some (.slice A1 m1 cap1)) (c2 : UInt8) (A2 : Option Addr) (m2 cap2 : Nat) (hx' : w.cell? ⟨g, 2, none⟩ = some (.int .u8 c2.toNat)) (hy' : w.cell? ⟨g, 3, none⟩ = some (.slice A2 m2 cap2)) (r r' : Bool) (HC : SaysN mb v (.int .u8 c1.toNat) (.slice A1 m1 cap1) r w) (HC' : r = false → SaysN mb v (.int .u8 c2.toNat) (.slice A2 m2 cap2) r' w) :
    SaysN mb v (.int .u8 c.toNat) (.slice A m cap) (r || r') w := by
  intro W hb
  have HW := hid (fun W' (h : Below w.heap.size w W') => walkN_by mb w n c c' A m cap _ hw hmb W' h)
  have hzW := hb.size
  have hnb := u8_neb hne
  have HCC := hid (show ∀ W : World, Below w.heap.size w W → Calls Tryz.prog 52 #[.pointer (some ⟨mb, 0, none⟩), .int .u8 v.toNat, .agg #[.int .u8 c1.toNat, .slice A1 m1 cap1]] W fun e w' => e = .returned (.bool r) ∧ Below W.heap.size W w' from HC)
  have HCD := hid (fun (h : r = false) => (show ∀ W : World, Below w.heap.size w W → Calls Tryz.prog 52 #[.pointer (some ⟨mb, 0, none⟩), .int .u8 v.toNat, .agg #[.int .u8 c2.toNat, .slice A2 m2 cap2]] W fun e w' => e = .returned (.bool r') ∧ Below W.heap.size W w' from HC' h))
  clear hw hne HC HC'
  go_enter Tryz.func52, Tryz.ntmps52
  go_wp2_with fail
  refine (HW.out _ (hb.alloc hzW _)).mono ?_
  rintro e w1 ⟨rfl, hb1⟩
  have hz1 := hb1.size
  simp only [World.size_alloc] at hz1
  have h5 := (hb1.block W.heap.size (by simp only [World.size_alloc]; omega)).trans (heap_new1 W _)
  obtain ⟨n0, n1, nf⟩ := two_cells h5
  have nf0 := nf 0
  have nf1 := nf 1
  have hbT : Below W.heap.size W w1 := ((Below.refl _ _).alloc (Nat.le_refl _) _).trans (hb1.mono (by simp only [World.size_alloc]; omega))
  clear h5 nf
  obtain ⟨w2, hw2⟩ : ∃ w2, (w1.setCell ⟨W.heap.size, 0, none⟩ (.int .u8 c'.toNat)).setCell ⟨W.heap.size, 1, none⟩ (.slice (some ⟨g, 0, none⟩) 2 cap') = w2 := ⟨_, rfl⟩
  have hb2 : Below W.heap.size W w2 := by rw [← hw2]; exact (hbT.setCell (Nat.le_refl _) _).setCell (Nat.le_refl _) _
  have hbw2 : Below w.heap.size w w2 := hb.trans (hb2.mono hzW)
  have x2 := cell_below hx hg hbw2
  have y2 := cell_below hy hg hbw2
  have X3 := hid (fun w' (h : Below w2.heap.size w2 w') => And.intro (cell_below (cell_below hx' hg hbw2) (Nat.lt_of_lt_of_le hg hbw2.size) h) (cell_below (cell_below hy' hg hbw2) (Nat.lt_of_lt_of_le hg hbw2.size) h))
  rw [← hw2] at x2 y2 X3
  have HB2 := hid hb2
  have HBW2 := hid hbw2
  rw [← hw2] at HB2 HBW2
  clear hw2 hb2 hbw2 hx hy hx' hy'
  have z2 := HB2.out.size
  have zw2 := HBW2.out.size
  simp only [World.setCell, Array.size_modify] at z2 zw2
  go_wp2_with fail
  refine wp_loop_rounds 3 ?_
  rw [rounds_succ]
  go_wp2_with fail
  refine (HCC.out _ (HBW2.out.alloc (by simp [World.setCell]; omega) _)).mono ?_
  rintro e w3 ⟨rfl, hb3⟩
  have hb23 := (Below.refl _ _).alloc (Nat.le_refl _) (.cells #[.int .u8 c1.toNat, .slice A1 m1 cap1] 31) |>.trans (hb3.mono (by simp [World.setCell]))
  have hbF := hid ((HB2.out.alloc (by simp [World.setCell]; omega) _).trans (hb3.mono (by simp [World.setCell]; omega)))
  have hbG := hid ((HBW2.out.alloc (by simp [World.setCell]; omega) _).trans (hb3.mono (by simp [World.setCell]; omega)))
  obtain ⟨x3, y3⟩ := X3.out w3 hb23
  clear hb3 hb23
  cases r
  · have z3 := hbF.out.size
    have zw3 := hbG.out.size
    have a3 : ∀ o, (w3.alloc o).cell? ⟨g, 2, none⟩ = some (.int .u8 c2.toNat) := fun o => (World.cell?_alloc_lt _ _ _ (by show g < _; omega)).trans x3
    go_wp2_with fail
    rw [rounds_succ]
    go_wp2_with fail
    refine (HCD.out trivial _ (hbG.out.alloc zw3 _)).mono ?_
    rintro e w4 ⟨rfl, hb4⟩
    have hbH := hid ((hbF.out.alloc z3 _).trans (hb4.mono (by simp only [World.size_alloc]; omega)))
    clear hb4
    cases r'
    · go_wp2_with fail
      rw [rounds_succ]
      go_wp2_with fail
      go_ret
      exact ⟨rfl, hbH.out⟩
    · go_wp2_with fail
      go_ret
      exact ⟨rfl, hbH.out⟩
  · go_wp2_with fail
    go_ret
    exact ⟨rfl, hbF.out⟩

theorem saysN_grow {mb : Nat} {v : UInt8} {x y : Value} {r : Bool} {w w1 : World} (h : SaysN mb v x y r w) (hb : Below w.heap.size w w1) : SaysN mb v x y r w1 := fun W hW => h W (hb.trans (hW.mono hb.size))

theorem occN_any {f : UInt8 → Option Ty} (hf : InF f) {v : UInt8} (hv : isN v = true) {n : Ty} {r : Bool} (h : Occ isN f v n r) (mb : Nat) (S : Nat → Prop) (w : World) (hst : StndN w mb S f) (hS : ∀ g, S g → g < w.heap.size) : n.inner → ∀ (c : UInt8) (A : Option Addr) (m cap : Nat), RepN w S n (.int .u8 c.toNat) (.slice A m cap) → SaysN mb v (.int .u8 c.toNat) (.slice A m cap) r w := by
  have hmb := hst.lt
  induction h with
  | @var n u h1 h2 =>
    intro hn c A m cap hr
    obtain ⟨k, c', p', hw, hr'⟩ := wk_of hf h1 mb S w hst hn c _ hr
    obtain rfl : c' = u := repN_head hr'
    obtain ⟨_, A', cap', rfl⟩ := hr'
    by_cases e : c' = v
    · subst e
      rw [beq_self_eq_true]
      exact occ_hit mb c' w k c A m cap A' 0 cap' hw hmb
    · rw [beq_eq_false_iff_ne.2 e]
      exact occ_run0 mb v w k c c' A m cap A' cap' hw hmb e
  | @con n d h1 h2 =>
    intro hn c A m cap hr
    obtain ⟨k, c', p', hw, hr'⟩ := wk_of hf h1 mb S w hst hn c _ hr
    obtain rfl : c' = d := repN_head hr'
    obtain ⟨_, A', cap', rfl⟩ := hr'
    exact occ_run0 mb v w k c c' A m cap A' cap' hw hmb (by rintro rfl; rw [hv] at h2; cases h2)
  | @un n d a r h1 _ ih =>
    intro hn c A m cap hr
    have hi := thr_inner hf h1 hn
    obtain ⟨k, c', p', hw, hr'⟩ := wk_of hf h1 mb S w hst hn c _ hr
    obtain rfl : c' = d := repN_head hr'
    obtain ⟨_, g, cap', x, y, rfl, hg, hx, hy, hra⟩ := hr'
    obtain ⟨c1, A1, m1, cap1, rfl, rfl⟩ := hra.form
    exact occ_run1 mb v w k c c' A m cap g cap' hw hmb (hS g hg) (by rintro rfl; have := hi.1; obtain ⟨j, hj, _⟩ := isN_pos hv; omega) c1 A1 m1 cap1 hx hy r (ih hi.2.2 c1 A1 m1 cap1 hra)
  | @bi1 n d a b h1 _ ih =>
    intro hn c A m cap hr
    have hi := thr_inner hf h1 hn
    obtain ⟨k, c', p', hw, hr'⟩ := wk_of hf h1 mb S w hst hn c _ hr
    obtain rfl : c' = d := repN_head hr'
    obtain ⟨_, g, cap', x, y, x', y', rfl, hg, hx, hy, hx', hy', hra, hrb⟩ := hr'
    obtain ⟨c1, A1, m1, cap1, rfl, rfl⟩ := hra.form
    obtain ⟨c2, A2, m2, cap2, rfl, rfl⟩ := hrb.form
    exact occ_run2 mb v w k c c' A m cap g cap' hw hmb (hS g hg) (by rintro rfl; have := hi.1; obtain ⟨j, hj, _⟩ := isN_pos hv; omega) c1 A1 m1 cap1 hx hy c2 A2 m2 cap2 hx' hy' true true (ih hi.2.2.1 c1 A1 m1 cap1 hra) fun h => by cases h
  | @bi2 n d a b r h1 _ _ iha ihb =>
    intro hn c A m cap hr
    have hi := thr_inner hf h1 hn
    obtain ⟨k, c', p', hw, hr'⟩ := wk_of hf h1 mb S w hst hn c _ hr
    obtain rfl : c' = d := repN_head hr'
    obtain ⟨_, g, cap', x, y, x', y', rfl, hg, hx, hy, hx', hy', hra, hrb⟩ := hr'
    obtain ⟨c1, A1, m1, cap1, rfl, rfl⟩ := hra.form
    obtain ⟨c2, A2, m2, cap2, rfl, rfl⟩ := hrb.form
    exact occ_run2 mb v w k c c' A m cap g cap' hw hmb (hS g hg) (by rintro rfl; have := hi.1; obtain ⟨j, hj, _⟩ := isN_pos hv; omega) c1 A1 m1 cap1 hx hy c2 A2 m2 cap2 hx' hy' false r (iha hi.2.2.1 c1 A1 m1 cap1 hra) fun _ => ihb hi.2.2.2 c2 A2 m2 cap2 hrb

end Go.Proofs.YtjpdiahbnhemoaaGreat

namespace Go.Proofs.YtjpdiahbnhemoaaGreat
open Go.RowKit

theorem mtEndN_from {w W : World} {mb : Nat} {S : Nat → Prop} {o : Option (UInt8 → Option Ty)} {e : Ending} {w' : World} (hb : Below w.heap.size w W) (h : MtEndN W mb S o e w') : MtEndN w mb S o e w' :=
  ⟨(But.of_below hb).trans (h.1.mono hb.size), h.2⟩

set_option maxHeartbeats 3200000 in
set_option maxRecDepth 100000 in
theorem uN_same (mb : Nat) (w : World) (na nb : Nat) (c d ca cb : UInt8) (A : Option Addr) (m cap : Nat) (B : Option Addr) (m' cap' : Nat) (Aa : Option Addr) (ma capa : Nat) (Ab : Option Addr) (mbb capb : Nat) (hwa : WkN w mb na c (.slice A m cap) ca (.slice Aa ma capa)) (hwb : WkN w mb nb d (.slice B m' cap') cb (.slice Ab mbb capb)) (hmb : mb < w.heap.size) (k : Nat) (hk : l2ix ca = (k : Int)) (hk' : l2ix cb = (k : Int)) :
    Calls Tryz.prog 27 #[.pointer (some ⟨mb, 0, none⟩), .agg #[.int .u8 c.toNat, .slice A m cap], .agg #[.int .u8 d.toNat, .slice B m' cap']] w fun e w' => e = .returned (.bool true) ∧ Below w.heap.size w w' := by
  have HWA := hid (fun W' (h : Below w.heap.size w W') => walkN_by mb w na c ca A m cap _ hwa hmb W' h)
  have HWB := hid (fun W' (h : Below w.heap.size w W') => walkN_by mb w nb d cb B m' cap' _ hwb hmb W' h)
  obtain ⟨x, hx⟩ : ∃ x, l2ix ca = x := ⟨_, rfl⟩
  obtain ⟨y, hy⟩ : ∃ y, l2ix cb = y := ⟨_, rfl⟩
  have HX := hid hx
  have HY := hid hy
  clear hwa hwb hx hy
  have hxk : x = (k : Int) := HX.out.symm.trans hk
  have hyk : y = (k : Int) := HY.out.symm.trans hk'
  subst hxk
  subst hyk
  have j1 : (0 : Int) ≤ (k : Int) := by omega
  clear hk hk'
  go_enter Tryz.func27, Tryz.ntmps27
  go_wp2_with fail
  obtain ⟨W0, hW0⟩ : ∃ W0, (w.alloc (.cells #[.int .u8 c.toNat, .slice A m cap] 31)).alloc (.cells #[.int .u8 d.toNat, .slice B m' cap'] 31) = W0 := ⟨_, rfl⟩
  have h8 : W0.heap[w.heap.size]? = some (.cells #[.int .u8 c.toNat, .slice A m cap] 31 (0, 0)) := by
    rw [← hW0, Below.heap_alloc _ _ _ (by simp only [World.size_alloc]; omega)]
    exact heap_new1 _ _
  have h9 := heap_new1 (w.alloc (.cells #[.int .u8 c.toNat, .slice A m cap] 31)) (.cells #[.int .u8 d.toNat, .slice B m' cap'] 31)
  simp only [World.size_alloc] at h9
  rw [hW0] at h9 ⊢
  have hb0 : Below w.heap.size w W0 := by rw [← hW0]; exact ((Below.refl _ _).alloc (Nat.le_refl _) _).alloc (by simp only [World.size_alloc]; omega) _
  have z0 : W0.heap.size = w.heap.size + 2 := by rw [← hW0]; simp only [World.size_alloc]
  clear hW0
  refine (HWA.out W0 hb0).mono ?_
  rintro e w1 ⟨rfl, hb1⟩
  have q8 := (hb1.block w.heap.size (by omega)).trans h8
  have q9 := (hb1.block (w.heap.size + 1) (by omega)).trans h9
  obtain ⟨n0, n1, nf⟩ := two_cells q8
  obtain ⟨r0, r1, rf⟩ := two_cells q9
  have nf0 := nf 0
  have nf1 := nf 1
  have Q8 := hid q8
  have Q9 := hid q9
  have hb01 := hid (hb0.trans (hb1.mono (by omega)))
  have hz01 : w.heap.size + 2 ≤ w1.heap.size := by have := hb1.size; omega
  clear h8 h9 nf rf q8 q9 hb0 hb1 z0
  go_wp2_with fail
  obtain ⟨W1, hW1⟩ : ∃ W1, (w1.setCell ⟨w.heap.size, 0, none⟩ (.int .u8 ca.toNat)).setCell ⟨w.heap.size, 1, none⟩ (.slice Aa ma capa) = W1 := ⟨_, rfl⟩
  have h8 : W1.heap[w.heap.size]? = some (.cells #[.int .u8 ca.toNat, .slice Aa ma capa] 31 (0, 0)) := by
    rw [← hW1]
    have h := Q8.out
    simp [World.setCell, Array.getElem?_modify, h]
  have h9 : W1.heap[w.heap.size + 1]? = some (.cells #[.int .u8 d.toNat, .slice B m' cap'] 31 (0, 0)) := by
    rw [← hW1, Below.heap_setCell _ _ _ _ (by show w.heap.size + 1 ≠ w.heap.size; omega), Below.heap_setCell _ _ _ _ (by show w.heap.size + 1 ≠ w.heap.size; omega)]
    exact Q9.out
  have hb11 : Below w.heap.size w W1 := by rw [← hW1]; exact (hb01.out.setCell (Nat.le_refl _) _).setCell (Nat.le_refl _) _
  have z1 : W1.heap.size = w1.heap.size := by rw [← hW1]; simp [World.setCell]
  rw [hW1]
  clear hW1 n0 n1 nf0 nf1 r0 r1
  refine (HWB.out W1 hb11).mono ?_
  rintro e w2 ⟨rfl, hb2⟩
  have z2 := hb2.size
  have q8 := (hb2.block w.heap.size (by omega)).trans h8
  have q9 := (hb2.block (w.heap.size + 1) (by omega)).trans h9
  obtain ⟨n0, n1, _⟩ := two_cells q8
  obtain ⟨r0, r1, rf⟩ := two_cells q9
  have rf0 := rf 0
  have rf1 := rf 1
  have P8 := hid q8
  have P9 := hid q9
  have hb12 := hid (hb11.trans (hb2.mono (by omega)))
  have hz12 : w.heap.size + 2 ≤ w2.heap.size := by omega
  clear h8 h9 rf q8 q9 hb11 hb2 z1 z2 Q8 Q9
  go_wp2_with fail
  obtain ⟨W2, hW2⟩ : ∃ W2, (w2.setCell ⟨w.heap.size + 1, 0, none⟩ (.int .u8 cb.toNat)).setCell ⟨w.heap.size + 1, 1, none⟩ (.slice Ab mbb capb) = W2 := ⟨_, rfl⟩
  have h9 : W2.heap[w.heap.size + 1]? = some (.cells #[.int .u8 cb.toNat, .slice Ab mbb capb] 31 (0, 0)) := by
    rw [← hW2]
    have h := P9.out
    simp [World.setCell, Array.getElem?_modify, h]
  have h8 : W2.heap[w.heap.size]? = some (.cells #[.int .u8 ca.toNat, .slice Aa ma capa] 31 (0, 0)) := by
    rw [← hW2, Below.heap_setCell _ _ _ _ (by show w.heap.size ≠ w.heap.size + 1; omega), Below.heap_setCell _ _ _ _ (by show w.heap.size ≠ w.heap.size + 1; omega)]
    exact P8.out
  have hbW := hid (show Below w.heap.size w W2 by rw [← hW2]; exact (hb12.out.setCell (by show w.heap.size ≤ w.heap.size + 1; omega) _).setCell (by show w.heap.size ≤ w.heap.size + 1; omega) _)
  have zW : w.heap.size + 2 ≤ W2.heap.size := by rw [← hW2]; simpa [World.setCell] using hz12
  rw [hW2]
  clear hW2 n0 n1 rf0 rf1 r0 r1 P8 P9 hz01 hz12
  obtain ⟨n0, n1, _⟩ := two_cells h8
  obtain ⟨r0, r1, _⟩ := two_cells h9
  have H8 := hid h8
  have H9 := hid h9
  clear h8 h9
  go_region_with (go_at_call 14; first
    | (with_reducible refine (l2Index_at ca _ HX _).mono ?_; rintro e w3 ⟨rfl, rfl⟩)
    | (with_reducible refine (l2Index_at cb _ HY _).mono ?_; rintro e w3 ⟨rfl, rfl⟩))
  all_goals
    go_wp2_with fail
    go_ret
    exact ⟨rfl, hbW.out.drew⟩

set_option maxHeartbeats 3200000 in
set_option maxRecDepth 100000 in
theorem uN_clash (mb : Nat) (w : World) (na nb : Nat) (c d ca cb : UInt8) (A : Option Addr) (m cap : Nat) (B : Option Addr) (m' cap' : Nat) (Aa : Option Addr) (ma capa : Nat) (Ab : Option Addr) (mbb capb : Nat) (hwa : WkN w mb na c (.slice A m cap) ca (.slice Aa ma capa)) (hwb : WkN w mb nb d (.slice B m' cap') cb (.slice Ab mbb capb)) (hmb : mb < w.heap.size) (hk : l2ix ca = -1) (hk' : l2ix cb = -1) (hne : ca ≠ cb) :
    Calls Tryz.prog 27 #[.pointer (some ⟨mb, 0, none⟩), .agg #[.int .u8 c.toNat, .slice A m cap], .agg #[.int .u8 d.toNat, .slice B m' cap']] w fun e w' => e = .returned (.bool false) ∧ Below w.heap.size w w' := by
  have HWA := hid (fun W' (h : Below w.heap.size w W') => walkN_by mb w na c ca A m cap _ hwa hmb W' h)
  have HWB := hid (fun W' (h : Below w.heap.size w W') => walkN_by mb w nb d cb B m' cap' _ hwb hmb W' h)
  obtain ⟨x, hx⟩ : ∃ x, l2ix ca = x := ⟨_, rfl⟩
  obtain ⟨y, hy⟩ : ∃ y, l2ix cb = y := ⟨_, rfl⟩
  have HX := hid hx
  have HY := hid hy
  clear hwa hwb hx hy
  have hxk : x = -1 := HX.out.symm.trans hk
  have hyk : y = -1 := HY.out.symm.trans hk'
  subst hxk
  subst hyk
  have hcd : ((ca.toNat : Int) != cb.toNat) = true := by
    simp only [bne_iff_ne, ne_eq]
    intro e
    exact hne (UInt8.toNat_inj.1 (by omega))
  clear hk hk' hne
  go_enter Tryz.func27, Tryz.ntmps27
  go_wp2_with fail
  obtain ⟨W0, hW0⟩ : ∃ W0, (w.alloc (.cells #[.int .u8 c.toNat, .slice A m cap] 31)).alloc (.cells #[.int .u8 d.toNat, .slice B m' cap'] 31) = W0 := ⟨_, rfl⟩
  have h8 : W0.heap[w.heap.size]? = some (.cells #[.int .u8 c.toNat, .slice A m cap] 31 (0, 0)) := by
    rw [← hW0, Below.heap_alloc _ _ _ (by simp only [World.size_alloc]; omega)]
    exact heap_new1 _ _
  have h9 := heap_new1 (w.alloc (.cells #[.int .u8 c.toNat, .slice A m cap] 31)) (.cells #[.int .u8 d.toNat, .slice B m' cap'] 31)
  simp only [World.size_alloc] at h9
  rw [hW0] at h9 ⊢
  have hb0 : Below w.heap.size w W0 := by rw [← hW0]; exact ((Below.refl _ _).alloc (Nat.le_refl _) _).alloc (by simp only [World.size_alloc]; omega) _
  have z0 : W0.heap.size = w.heap.size + 2 := by rw [← hW0]; simp only [World.size_alloc]
  clear hW0
  refine (HWA.out W0 hb0).mono ?_
  rintro e w1 ⟨rfl, hb1⟩
  have q8 := (hb1.block w.heap.size (by omega)).trans h8
  have q9 := (hb1.block (w.heap.size + 1) (by omega)).trans h9
  obtain ⟨n0, n1, nf⟩ := two_cells q8
  obtain ⟨r0, r1, rf⟩ := two_cells q9
  have nf0 := nf 0
  have nf1 := nf 1
  have Q8 := hid q8
  have Q9 := hid q9
  have hb01 := hid (hb0.trans (hb1.mono (by omega)))
  have hz01 : w.heap.size + 2 ≤ w1.heap.size := by have := hb1.size; omega
  clear h8 h9 nf rf q8 q9 hb0 hb1 z0
  go_wp2_with fail
  obtain ⟨W1, hW1⟩ : ∃ W1, (w1.setCell ⟨w.heap.size, 0, none⟩ (.int .u8 ca.toNat)).setCell ⟨w.heap.size, 1, none⟩ (.slice Aa ma capa) = W1 := ⟨_, rfl⟩
  have h8 : W1.heap[w.heap.size]? = some (.cells #[.int .u8 ca.toNat, .slice Aa ma capa] 31 (0, 0)) := by
    rw [← hW1]
    have h := Q8.out
    simp [World.setCell, Array.getElem?_modify, h]
  have h9 : W1.heap[w.heap.size + 1]? = some (.cells #[.int .u8 d.toNat, .slice B m' cap'] 31 (0, 0)) := by
    rw [← hW1, Below.heap_setCell _ _ _ _ (by show w.heap.size + 1 ≠ w.heap.size; omega), Below.heap_setCell _ _ _ _ (by show w.heap.size + 1 ≠ w.heap.size; omega)]
    exact Q9.out
  have hb11 : Below w.heap.size w W1 := by rw [← hW1]; exact (hb01.out.setCell (Nat.le_refl _) _).setCell (Nat.le_refl _) _
  have z1 : W1.heap.size = w1.heap.size := by rw [← hW1]; simp [World.setCell]
  rw [hW1]
  clear hW1 n0 n1 nf0 nf1 r0 r1
  refine (HWB.out W1 hb11).mono ?_
  rintro e w2 ⟨rfl, hb2⟩
  have z2 := hb2.size
  have q8 := (hb2.block w.heap.size (by omega)).trans h8
  have q9 := (hb2.block (w.heap.size + 1) (by omega)).trans h9
  obtain ⟨n0, n1, _⟩ := two_cells q8
  obtain ⟨r0, r1, rf⟩ := two_cells q9
  have rf0 := rf 0
  have rf1 := rf 1
  have P8 := hid q8
  have P9 := hid q9
  have hb12 := hid (hb11.trans (hb2.mono (by omega)))
  have hz12 : w.heap.size + 2 ≤ w2.heap.size := by omega
  clear h8 h9 rf q8 q9 hb11 hb2 z1 z2 Q8 Q9
  go_wp2_with fail
  obtain ⟨W2, hW2⟩ : ∃ W2, (w2.setCell ⟨w.heap.size + 1, 0, none⟩ (.int .u8 cb.toNat)).setCell ⟨w.heap.size + 1, 1, none⟩ (.slice Ab mbb capb) = W2 := ⟨_, rfl⟩
  have h9 : W2.heap[w.heap.size + 1]? = some (.cells #[.int .u8 cb.toNat, .slice Ab mbb capb] 31 (0, 0)) := by
    rw [← hW2]
    have h := P9.out
    simp [World.setCell, Array.getElem?_modify, h]
  have h8 : W2.heap[w.heap.size]? = some (.cells #[.int .u8 ca.toNat, .slice Aa ma capa] 31 (0, 0)) := by
    rw [← hW2, Below.heap_setCell _ _ _ _ (by show w.heap.size ≠ w.heap.size + 1; omega), Below.heap_setCell _ _ _ _ (by show w.heap.size ≠ w.heap.size + 1; omega)]
    exact P8.out
  have hbW := hid (show Below w.heap.size w W2 by rw [← hW2]; exact (hb12.out.setCell (by show w.heap.size ≤ w.heap.size + 1; omega) _).setCell (by show w.heap.size ≤ w.heap.size + 1; omega) _)
  have zW : w.heap.size + 2 ≤ W2.heap.size := by rw [← hW2]; simpa [World.setCell] using hz12
  rw [hW2]
  clear hW2 n0 n1 rf0 rf1 r0 r1 P8 P9 hz01 hz12
  obtain ⟨n0, n1, _⟩ := two_cells h8
  obtain ⟨r0, r1, _⟩ := two_cells h9
  have H8 := hid h8
  have H9 := hid h9
  clear h8 h9
  go_region_with (go_at_call 14; first
    | (with_reducible refine (l2Index_at ca _ HX _).mono ?_; rintro e w3 ⟨rfl, rfl⟩)
    | (with_reducible refine (l2Index_at cb _ HY _).mono ?_; rintro e w3 ⟨rfl, rfl⟩))
  all_goals
    go_wp2_with fail
    go_ret
    exact ⟨rfl, hbW.out.drew⟩

end Go.Proofs.YtjpdiahbnhemoaaGreat

namespace Go.Proofs.YtjpdiahbnhemoaaGreat
open Go.RowKit

set_option maxHeartbeats 3200000 in
set_option maxRecDepth 100000 in
theorem uN_occ_n (mb : Nat) (w : World) (na nb : Nat) (c d ca cb : UInt8) (A : Option Addr) (m cap : Nat) (B : Option Addr) (m' cap' : Nat) (Aa : Option Addr) (ma capa : Nat) (Ab : Option Addr) (mbb capb : Nat) (hwa : WkN w mb na c (.slice A m cap) ca (.slice Aa ma capa)) (hwb : WkN w mb nb d (.slice B m' cap') cb (.slice Ab mbb capb)) (hmb : mb < w.heap.size) (k : Nat) (hk : l2ix ca = (k : Int)) (hk' : l2ix cb = -1) (HO : SaysN mb ca (.int .u8 cb.toNat) (.slice Ab mbb capb) true w) :
    Calls Tryz.prog 27 #[.pointer (some ⟨mb, 0, none⟩), .agg #[.int .u8 c.toNat, .slice A m cap], .agg #[.int .u8 d.toNat, .slice B m' cap']] w fun e w' => e = .returned (.bool false) ∧ Below w.heap.size w w' := by
  have HWA := hid (fun W' (h : Below w.heap.size w W') => walkN_by mb w na c ca A m cap _ hwa hmb W' h)
  have HWB := hid (fun W' (h : Below w.heap.size w W') => walkN_by mb w nb d cb B m' cap' _ hwb hmb W' h)
  obtain ⟨x, hx⟩ : ∃ x, l2ix ca = x := ⟨_, rfl⟩
  obtain ⟨y, hy⟩ : ∃ y, l2ix cb = y := ⟨_, rfl⟩
  have HX := hid hx
  have HY := hid hy
  clear hwa hwb hx hy
  have hxk : x = (k : Int) := HX.out.symm.trans hk
  subst hxk
  have hyk : y = -1 := HY.out.symm.trans hk'
  subst hyk
  have jx : ((k : Int) == -1) = false := by rw [beq_eq_false_iff_ne]; omega
  have j1 : (0 : Int) ≤ (k : Int) := by omega
  have HOC := hid (show ∀ W : World, Below w.heap.size w W → Calls Tryz.prog 52 #[.pointer (some ⟨mb, 0, none⟩), .int .u8 ca.toNat, .agg #[.int .u8 cb.toNat, .slice Ab mbb capb]] W fun e w' => e = .returned (.bool true) ∧ Below W.heap.size W w' from HO)
  clear hk hk' HO
  go_enter Tryz.func27, Tryz.ntmps27
  go_wp2_with fail
  obtain ⟨W0, hW0⟩ : ∃ W0, (w.alloc (.cells #[.int .u8 c.toNat, .slice A m cap] 31)).alloc (.cells #[.int .u8 d.toNat, .slice B m' cap'] 31) = W0 := ⟨_, rfl⟩
  have h8 : W0.heap[w.heap.size]? = some (.cells #[.int .u8 c.toNat, .slice A m cap] 31 (0, 0)) := by
    rw [← hW0, Below.heap_alloc _ _ _ (by simp only [World.size_alloc]; omega)]
    exact heap_new1 _ _
  have h9 := heap_new1 (w.alloc (.cells #[.int .u8 c.toNat, .slice A m cap] 31)) (.cells #[.int .u8 d.toNat, .slice B m' cap'] 31)
  simp only [World.size_alloc] at h9
  rw [hW0] at h9 ⊢
  have hb0 : Below w.heap.size w W0 := by rw [← hW0]; exact ((Below.refl _ _).alloc (Nat.le_refl _) _).alloc (by simp only [World.size_alloc]; omega) _
  have z0 : W0.heap.size = w.heap.size + 2 := by rw [← hW0]; simp only [World.size_alloc]
  clear hW0
  refine (HWA.out W0 hb0).mono ?_
  rintro e w1 ⟨rfl, hb1⟩
  have q8 := (hb1.block w.heap.size (by omega)).trans h8
  have q9 := (hb1.block (w.heap.size + 1) (by omega)).trans h9
  obtain ⟨n0, n1, nf⟩ := two_cells q8
  obtain ⟨r0, r1, rf⟩ := two_cells q9
  have nf0 := nf 0
  have nf1 := nf 1
  have Q8 := hid q8
  have Q9 := hid q9
  have hb01 := hid (hb0.trans (hb1.mono (by omega)))
  have hz01 : w.heap.size + 2 ≤ w1.heap.size := by have := hb1.size; omega
  clear h8 h9 nf rf q8 q9 hb0 hb1 z0
  go_wp2_with fail
  obtain ⟨W1, hW1⟩ : ∃ W1, (w1.setCell ⟨w.heap.size, 0, none⟩ (.int .u8 ca.toNat)).setCell ⟨w.heap.size, 1, none⟩ (.slice Aa ma capa) = W1 := ⟨_, rfl⟩
  have h8 : W1.heap[w.heap.size]? = some (.cells #[.int .u8 ca.toNat, .slice Aa ma capa] 31 (0, 0)) := by
    rw [← hW1]
    have h := Q8.out
    simp [World.setCell, Array.getElem?_modify, h]
  have h9 : W1.heap[w.heap.size + 1]? = some (.cells #[.int .u8 d.toNat, .slice B m' cap'] 31 (0, 0)) := by
    rw [← hW1, Below.heap_setCell _ _ _ _ (by show w.heap.size + 1 ≠ w.heap.size; omega), Below.heap_setCell _ _ _ _ (by show w.heap.size + 1 ≠ w.heap.size; omega)]
    exact Q9.out
  have hb11 : Below w.heap.size w W1 := by rw [← hW1]; exact (hb01.out.setCell (Nat.le_refl _) _).setCell (Nat.le_refl _) _
  have z1 : W1.heap.size = w1.heap.size := by rw [← hW1]; simp [World.setCell]
  rw [hW1]
  clear hW1 n0 n1 nf0 nf1 r0 r1
  refine (HWB.out W1 hb11).mono ?_
  rintro e w2 ⟨rfl, hb2⟩
  have z2 := hb2.size
  have q8 := (hb2.block w.heap.size (by omega)).trans h8
  have q9 := (hb2.block (w.heap.size + 1) (by omega)).trans h9
  obtain ⟨n0, n1, _⟩ := two_cells q8
  obtain ⟨r0, r1, rf⟩ := two_cells q9
  have rf0 := rf 0
  have rf1 := rf 1
  have P8 := hid q8
  have P9 := hid q9
  have hb12 := hid (hb11.trans (hb2.mono (by omega)))
  have hz12 : w.heap.size + 2 ≤ w2.heap.size := by omega
  clear h8 h9 rf q8 q9 hb11 hb2 z1 z2 Q8 Q9
  go_wp2_with fail
  obtain ⟨W2, hW2⟩ : ∃ W2, (w2.setCell ⟨w.heap.size + 1, 0, none⟩ (.int .u8 cb.toNat)).setCell ⟨w.heap.size + 1, 1, none⟩ (.slice Ab mbb capb) = W2 := ⟨_, rfl⟩
  have h9 : W2.heap[w.heap.size + 1]? = some (.cells #[.int .u8 cb.toNat, .slice Ab mbb capb] 31 (0, 0)) := by
    rw [← hW2]
    have h := P9.out
    simp [World.setCell, Array.getElem?_modify, h]
  have h8 : W2.heap[w.heap.size]? = some (.cells #[.int .u8 ca.toNat, .slice Aa ma capa] 31 (0, 0)) := by
    rw [← hW2, Below.heap_setCell _ _ _ _ (by show w.heap.size ≠ w.heap.size + 1; omega), Below.heap_setCell _ _ _ _ (by show w.heap.size ≠ w.heap.size + 1; omega)]
    exact P8.out
  have hbW := hid (show Below w.heap.size w W2 by rw [← hW2]; exact (hb12.out.setCell (by show w.heap.size ≤ w.heap.size + 1; omega) _).setCell (by show w.heap.size ≤ w.heap.size + 1; omega) _)
  have zW : w.heap.size + 2 ≤ W2.heap.size := by rw [← hW2]; simpa [World.setCell] using hz12
  rw [hW2]
  clear hW2 n0 n1 rf0 rf1 r0 r1 P8 P9 hz01 hz12
  obtain ⟨n0, n1, _⟩ := two_cells h8
  obtain ⟨r0, r1, _⟩ := two_cells h9
  have H8 := hid h8
  have H9 := hid h9
  clear h8 h9
  go_region_with (go_at_call 14; first
    | (with_reducible refine (l2Index_at ca _ HX _).mono ?_; rintro e w3 ⟨rfl, rfl⟩)
    | (with_reducible refine (l2Index_at cb _ HY _).mono ?_; rintro e w3 ⟨rfl, rfl⟩))
  all_goals
    go_wp2_with fail
    refine (HOC.out _ hbW.out.drew).mono ?_
    rintro e w4 ⟨rfl, hb4⟩
    go_wp2_with fail
    go_ret
    exact ⟨rfl, hbW.out.drew.trans (hb4.mono hbW.out.size)⟩

set_option maxHeartbeats 3200000 in
set_option maxRecDepth 100000 in
theorem uN_bind_n (mb : Nat) (w : World) (na nb : Nat) (c d ca cb : UInt8) (A : Option Addr) (m cap : Nat) (B : Option Addr) (m' cap' : Nat) (Aa : Option Addr) (ma capa : Nat) (Ab : Option Addr) (mbb capb : Nat) (hwa : WkN w mb na c (.slice A m cap) ca (.slice Aa ma capa)) (hwb : WkN w mb nb d (.slice B m' cap') cb (.slice Ab mbb capb)) (hmb : mb < w.heap.size) (S : Nat → Prop) (f : UInt8 → Option Ty) (hst : StndN w mb S f) (hS : ∀ g, S g → g < w.heap.size) (k : Nat) (hk : l2ix ca = (k : Int)) (hk' : l2ix cb = -1) (HO : SaysN mb ca (.int .u8 cb.toNat) (.slice Ab mbb capb) false w) :
    Calls Tryz.prog 27 #[.pointer (some ⟨mb, 0, none⟩), .agg #[.int .u8 c.toNat, .slice A m cap], .agg #[.int .u8 d.toNat, .slice B m' cap']] w fun e w' => e = .returned (.bool true) ∧ ∃ w4, Below w.heap.size w w4 ∧ w' = ((w4.setCell ⟨mb, k * 2, none⟩ (.int .u8 cb.toNat)).setCell ⟨mb, k * 2 + 1, none⟩ (.slice Ab mbb capb)).drew := by
  have HWA := hid (fun W' (h : Below w.heap.size w W') => walkN_by mb w na c ca A m cap _ hwa hmb W' h)
  have HWB := hid (fun W' (h : Below w.heap.size w W') => walkN_by mb w nb d cb B m' cap' _ hwb hmb W' h)
  obtain ⟨x, hx⟩ : ∃ x, l2ix ca = x := ⟨_, rfl⟩
  obtain ⟨y, hy⟩ : ∃ y, l2ix cb = y := ⟨_, rfl⟩
  have HX := hid hx
  have HY := hid hy
  clear hwa hwb hx hy
  have hxk : x = (k : Int) := HX.out.symm.trans hk
  subst hxk
  have hyk : y = -1 := HY.out.symm.trans hk'
  subst hyk
  have jx : ((k : Int) == -1) = false := by rw [beq_eq_false_iff_ne]; omega
  have j1 : (0 : Int) ≤ (k : Int) := by omega
  have hk12 : k < 12 := by have := (l2ix_var ca).2.2.2; omega
  have j2 : (k : Int) < 12 := by omega
  have HOC := hid (show ∀ W : World, Below w.heap.size w W → Calls Tryz.prog 52 #[.pointer (some ⟨mb, 0, none⟩), .int .u8 ca.toNat, .agg #[.int .u8 cb.toNat, .slice Ab mbb capb]] W fun e w' => e = .returned (.bool false) ∧ Below W.heap.size W w' from HO)
  have HCELLS := hid (fun w4 (hb : Below w.heap.size w w4) => (hst.keep (S' := S) (hb.block mb hmb) fun g hg => ⟨hg, hb.block g (hS g hg)⟩).cells k hk12)
  clear hk hk' HO hst hS
  go_enter Tryz.func27, Tryz.ntmps27
  go_wp2_with fail
  obtain ⟨W0, hW0⟩ : ∃ W0, (w.alloc (.cells #[.int .u8 c.toNat, .slice A m cap] 31)).alloc (.cells #[.int .u8 d.toNat, .slice B m' cap'] 31) = W0 := ⟨_, rfl⟩
  have h8 : W0.heap[w.heap.size]? = some (.cells #[.int .u8 c.toNat, .slice A m cap] 31 (0, 0)) := by
    rw [← hW0, Below.heap_alloc _ _ _ (by simp only [World.size_alloc]; omega)]
    exact heap_new1 _ _
  have h9 := heap_new1 (w.alloc (.cells #[.int .u8 c.toNat, .slice A m cap] 31)) (.cells #[.int .u8 d.toNat, .slice B m' cap'] 31)
  simp only [World.size_alloc] at h9
  rw [hW0] at h9 ⊢
  have hb0 : Below w.heap.size w W0 := by rw [← hW0]; exact ((Below.refl _ _).alloc (Nat.le_refl _) _).alloc (by simp only [World.size_alloc]; omega) _
  have z0 : W0.heap.size = w.heap.size + 2 := by rw [← hW0]; simp only [World.size_alloc]
  clear hW0
  refine (HWA.out W0 hb0).mono ?_
  rintro e w1 ⟨rfl, hb1⟩
  have q8 := (hb1.block w.heap.size (by omega)).trans h8
  have q9 := (hb1.block (w.heap.size + 1) (by omega)).trans h9
  obtain ⟨n0, n1, nf⟩ := two_cells q8
  obtain ⟨r0, r1, rf⟩ := two_cells q9
  have nf0 := nf 0
  have nf1 := nf 1
  have Q8 := hid q8
  have Q9 := hid q9
  have hb01 := hid (hb0.trans (hb1.mono (by omega)))
  have hz01 : w.heap.size + 2 ≤ w1.heap.size := by have := hb1.size; omega
  clear h8 h9 nf rf q8 q9 hb0 hb1 z0
  go_wp2_with fail
  obtain ⟨W1, hW1⟩ : ∃ W1, (w1.setCell ⟨w.heap.size, 0, none⟩ (.int .u8 ca.toNat)).setCell ⟨w.heap.size, 1, none⟩ (.slice Aa ma capa) = W1 := ⟨_, rfl⟩
  have h8 : W1.heap[w.heap.size]? = some (.cells #[.int .u8 ca.toNat, .slice Aa ma capa] 31 (0, 0)) := by
    rw [← hW1]
    have h := Q8.out
    simp [World.setCell, Array.getElem?_modify, h]
  have h9 : W1.heap[w.heap.size + 1]? = some (.cells #[.int .u8 d.toNat, .slice B m' cap'] 31 (0, 0)) := by
    rw [← hW1, Below.heap_setCell _ _ _ _ (by show w.heap.size + 1 ≠ w.heap.size; omega), Below.heap_setCell _ _ _ _ (by show w.heap.size + 1 ≠ w.heap.size; omega)]
    exact Q9.out
  have hb11 : Below w.heap.size w W1 := by rw [← hW1]; exact (hb01.out.setCell (Nat.le_refl _) _).setCell (Nat.le_refl _) _
  have z1 : W1.heap.size = w1.heap.size := by rw [← hW1]; simp [World.setCell]
  rw [hW1]
  clear hW1 n0 n1 nf0 nf1 r0 r1
  refine (HWB.out W1 hb11).mono ?_
  rintro e w2 ⟨rfl, hb2⟩
  have z2 := hb2.size
  have q8 := (hb2.block w.heap.size (by omega)).trans h8
  have q9 := (hb2.block (w.heap.size + 1) (by omega)).trans h9
  obtain ⟨n0, n1, _⟩ := two_cells q8
  obtain ⟨r0, r1, rf⟩ := two_cells q9
  have rf0 := rf 0
  have rf1 := rf 1
  have P8 := hid q8
  have P9 := hid q9
  have hb12 := hid (hb11.trans (hb2.mono (by omega)))
  have hz12 : w.heap.size + 2 ≤ w2.heap.size := by omega
  clear h8 h9 rf q8 q9 hb11 hb2 z1 z2 Q8 Q9
  go_wp2_with fail
  obtain ⟨W2, hW2⟩ : ∃ W2, (w2.setCell ⟨w.heap.size + 1, 0, none⟩ (.int .u8 cb.toNat)).setCell ⟨w.heap.size + 1, 1, none⟩ (.slice Ab mbb capb) = W2 := ⟨_, rfl⟩
  have h9 : W2.heap[w.heap.size + 1]? = some (.cells #[.int .u8 cb.toNat, .slice Ab mbb capb] 31 (0, 0)) := by
    rw [← hW2]
    have h := P9.out
    simp [World.setCell, Array.getElem?_modify, h]
  have h8 : W2.heap[w.heap.size]? = some (.cells #[.int .u8 ca.toNat, .slice Aa ma capa] 31 (0, 0)) := by
    rw [← hW2, Below.heap_setCell _ _ _ _ (by show w.heap.size ≠ w.heap.size + 1; omega), Below.heap_setCell _ _ _ _ (by show w.heap.size ≠ w.heap.size + 1; omega)]
    exact P8.out
  have hbW := hid (show Below w.heap.size w W2 by rw [← hW2]; exact (hb12.out.setCell (by show w.heap.size ≤ w.heap.size + 1; omega) _).setCell (by show w.heap.size ≤ w.heap.size + 1; omega) _)
  have zW : w.heap.size + 2 ≤ W2.heap.size := by rw [← hW2]; simpa [World.setCell] using hz12
  rw [hW2]
  clear hW2 n0 n1 rf0 rf1 r0 r1 P8 P9 hz01 hz12
  obtain ⟨n0, n1, _⟩ := two_cells h8
  obtain ⟨r0, r1, _⟩ := two_cells h9
  have H8 := hid h8
  have H9 := hid h9
  clear h8 h9
  go_region_with (go_at_call 14; first
    | (with_reducible refine (l2Index_at ca _ HX _).mono ?_; rintro e w3 ⟨rfl, rfl⟩)
    | (with_reducible refine (l2Index_at cb _ HY _).mono ?_; rintro e w3 ⟨rfl, rfl⟩))
  all_goals
    go_wp2_with fail
    refine (HOC.out _ hbW.out.drew).mono ?_
    rintro e w4 ⟨rfl, hb4⟩
    have hb4w := hid (hbW.out.drew.trans (hb4.mono hbW.out.size))
    obtain ⟨⟨v0, e4⟩, ⟨v1, e5⟩, ff4⟩ := HCELLS.out w4 hb4w.out
    have r40 := cell_below (w := W2.drew) r0 (by show w.heap.size + 1 < W2.heap.size; omega) hb4
    have r41 := cell_below (w := W2.drew) r1 (by show w.heap.size + 1 < W2.heap.size; omega) hb4
    clear hb4
    go_wp2_with fail
    go_region_with fail
    all_goals
      go_wp2_with fail
      go_ret
      exact ⟨rfl, w4, hb4w.out, rfl⟩

set_option maxHeartbeats 3200000 in
set_option maxRecDepth 100000 in
theorem uN_occ_v (mb : Nat) (w : World) (na nb : Nat) (c d ca cb : UInt8) (A : Option Addr) (m cap : Nat) (B : Option Addr) (m' cap' : Nat) (Aa : Option Addr) (ma capa : Nat) (Ab : Option Addr) (mbb capb : Nat) (hwa : WkN w mb na c (.slice A m cap) ca (.slice Aa ma capa)) (hwb : WkN w mb nb d (.slice B m' cap') cb (.slice Ab mbb capb)) (hmb : mb < w.heap.size) (k : Nat) (hk : l2ix ca = (k : Int)) (k2 : Nat) (hk' : l2ix cb = (k2 : Int)) (hlt : k < k2) (HO : SaysN mb ca (.int .u8 cb.toNat) (.slice Ab mbb capb) true w) :
    Calls Tryz.prog 27 #[.pointer (some ⟨mb, 0, none⟩), .agg #[.int .u8 c.toNat, .slice A m cap], .agg #[.int .u8 d.toNat, .slice B m' cap']] w fun e w' => e = .returned (.bool false) ∧ Below w.heap.size w w' := by
  have HWA := hid (fun W' (h : Below w.heap.size w W') => walkN_by mb w na c ca A m cap _ hwa hmb W' h)
  have HWB := hid (fun W' (h : Below w.heap.size w W') => walkN_by mb w nb d cb B m' cap' _ hwb hmb W' h)
  obtain ⟨x, hx⟩ : ∃ x, l2ix ca = x := ⟨_, rfl⟩
  obtain ⟨y, hy⟩ : ∃ y, l2ix cb = y := ⟨_, rfl⟩
  have HX := hid hx
  have HY := hid hy
  clear hwa hwb hx hy
  have hxk : x = (k : Int) := HX.out.symm.trans hk
  subst hxk
  have hyk : y = (k2 : Int) := HY.out.symm.trans hk'
  subst hyk
  have jx : ((k : Int) == (k2 : Int)) = false := by rw [beq_eq_false_iff_ne]; omega
  have jl : (k : Int) < (k2 : Int) := by omega
  have jn : ¬ (k2 : Int) < 0 := by omega
  have j1 : (0 : Int) ≤ (k : Int) := by omega
  have HOC := hid (show ∀ W : World, Below w.heap.size w W → Calls Tryz.prog 52 #[.pointer (some ⟨mb, 0, none⟩), .int .u8 ca.toNat, .agg #[.int .u8 cb.toNat, .slice Ab mbb capb]] W fun e w' => e = .returned (.bool true) ∧ Below W.heap.size W w' from HO)
  clear hk hk' HO
  go_enter Tryz.func27, Tryz.ntmps27
  go_wp2_with fail
  obtain ⟨W0, hW0⟩ : ∃ W0, (w.alloc (.cells #[.int .u8 c.toNat, .slice A m cap] 31)).alloc (.cells #[.int .u8 d.toNat, .slice B m' cap'] 31) = W0 := ⟨_, rfl⟩
  have h8 : W0.heap[w.heap.size]? = some (.cells #[.int .u8 c.toNat, .slice A m cap] 31 (0, 0)) := by
    rw [← hW0, Below.heap_alloc _ _ _ (by simp only [World.size_alloc]; omega)]
    exact heap_new1 _ _
  have h9 := heap_new1 (w.alloc (.cells #[.int .u8 c.toNat, .slice A m cap] 31)) (.cells #[.int .u8 d.toNat, .slice B m' cap'] 31)
  simp only [World.size_alloc] at h9
  rw [hW0] at h9 ⊢
  have hb0 : Below w.heap.size w W0 := by rw [← hW0]; exact ((Below.refl _ _).alloc (Nat.le_refl _) _).alloc (by simp only [World.size_alloc]; omega) _
  have z0 : W0.heap.size = w.heap.size + 2 := by rw [← hW0]; simp only [World.size_alloc]
  clear hW0
  refine (HWA.out W0 hb0).mono ?_
  rintro e w1 ⟨rfl, hb1⟩
  have q8 := (hb1.block w.heap.size (by omega)).trans h8
  have q9 := (hb1.block (w.heap.size + 1) (by omega)).trans h9
  obtain ⟨n0, n1, nf⟩ := two_cells q8
  obtain ⟨r0, r1, rf⟩ := two_cells q9
  have nf0 := nf 0
  have nf1 := nf 1
  have Q8 := hid q8
  have Q9 := hid q9
  have hb01 := hid (hb0.trans (hb1.mono (by omega)))
  have hz01 : w.heap.size + 2 ≤ w1.heap.size := by have := hb1.size; omega
  clear h8 h9 nf rf q8 q9 hb0 hb1 z0
  go_wp2_with fail
  obtain ⟨W1, hW1⟩ : ∃ W1, (w1.setCell ⟨w.heap.size, 0, none⟩ (.int .u8 ca.toNat)).setCell ⟨w.heap.size, 1, none⟩ (.slice Aa ma capa) = W1 := ⟨_, rfl⟩
  have h8 : W1.heap[w.heap.size]? = some (.cells #[.int .u8 ca.toNat, .slice Aa ma capa] 31 (0, 0)) := by
    rw [← hW1]
    have h := Q8.out
    simp [World.setCell, Array.getElem?_modify, h]
  have h9 : W1.heap[w.heap.size + 1]? = some (.cells #[.int .u8 d.toNat, .slice B m' cap'] 31 (0, 0)) := by
    rw [← hW1, Below.heap_setCell _ _ _ _ (by show w.heap.size + 1 ≠ w.heap.size; omega), Below.heap_setCell _ _ _ _ (by show w.heap.size + 1 ≠ w.heap.size; omega)]
    exact Q9.out
  have hb11 : Below w.heap.size w W1 := by rw [← hW1]; exact (hb01.out.setCell (Nat.le_refl _) _).setCell (Nat.le_refl _) _
  have z1 : W1.heap.size = w1.heap.size := by rw [← hW1]; simp [World.setCell]
  rw [hW1]
  clear hW1 n0 n1 nf0 nf1 r0 r1
  refine (HWB.out W1 hb11).mono ?_
  rintro e w2 ⟨rfl, hb2⟩
  have z2 := hb2.size
  have q8 := (hb2.block w.heap.size (by omega)).trans h8
  have q9 := (hb2.block (w.heap.size + 1) (by omega)).trans h9
  obtain ⟨n0, n1, _⟩ := two_cells q8
  obtain ⟨r0, r1, rf⟩ := two_cells q9
  have rf0 := rf 0
  have rf1 := rf 1
  have P8 := hid q8
  have P9 := hid q9
  have hb12 := hid (hb11.trans (hb2.mono (by omega)))
  have hz12 : w.heap.size + 2 ≤ w2.heap.size := by omega
  clear h8 h9 rf q8 q9 hb11 hb2 z1 z2 Q8 Q9
  go_wp2_with fail
  obtain ⟨W2, hW2⟩ : ∃ W2, (w2.setCell ⟨w.heap.size + 1, 0, none⟩ (.int .u8 cb.toNat)).setCell ⟨w.heap.size + 1, 1, none⟩ (.slice Ab mbb capb) = W2 := ⟨_, rfl⟩
  have h9 : W2.heap[w.heap.size + 1]? = some (.cells #[.int .u8 cb.toNat, .slice Ab mbb capb] 31 (0, 0)) := by
    rw [← hW2]
    have h := P9.out
    simp [World.setCell, Array.getElem?_modify, h]
  have h8 : W2.heap[w.heap.size]? = some (.cells #[.int .u8 ca.toNat, .slice Aa ma capa] 31 (0, 0)) := by
    rw [← hW2, Below.heap_setCell _ _ _ _ (by show w.heap.size ≠ w.heap.size + 1; omega), Below.heap_setCell _ _ _ _ (by show w.heap.size ≠ w.heap.size + 1; omega)]
    exact P8.out
  have hbW := hid (show Below w.heap.size w W2 by rw [← hW2]; exact (hb12.out.setCell (by show w.heap.size ≤ w.heap.size + 1; omega) _).setCell (by show w.heap.size ≤ w.heap.size + 1; omega) _)
  have zW : w.heap.size + 2 ≤ W2.heap.size := by rw [← hW2]; simpa [World.setCell] using hz12
  rw [hW2]
  clear hW2 n0 n1 rf0 rf1 r0 r1 P8 P9 hz01 hz12
  obtain ⟨n0, n1, _⟩ := two_cells h8
  obtain ⟨r0, r1, _⟩ := two_cells h9
  have H8 := hid h8
  have H9 := hid h9
  clear h8 h9
  go_region_with (go_at_call 14; first
    | (with_reducible refine (l2Index_at ca _ HX _).mono ?_; rintro e w3 ⟨rfl, rfl⟩)
    | (with_reducible refine (l2Index_at cb _ HY _).mono ?_; rintro e w3 ⟨rfl, rfl⟩))
  all_goals
    go_wp2_with fail
    refine (HOC.out _ hbW.out.drew).mono ?_
    rintro e w4 ⟨rfl, hb4⟩
    go_wp2_with fail
    go_ret
    exact ⟨rfl, hbW.out.drew.trans (hb4.mono hbW.out.size)⟩

set_option maxHeartbeats 3200000 in
set_option maxRecDepth 100000 in
theorem uN_bind_v (mb : Nat) (w : World) (na nb : Nat) (c d ca cb : UInt8) (A : Option Addr) (m cap : Nat) (B : Option Addr) (m' cap' : Nat) (Aa : Option Addr) (ma capa : Nat) (Ab : Option Addr) (mbb capb : Nat) (hwa : WkN w mb na c (.slice A m cap) ca (.slice Aa ma capa)) (hwb : WkN w mb nb d (.slice B m' cap') cb (.slice Ab mbb capb)) (hmb : mb < w.heap.size) (S : Nat → Prop) (f : UInt8 → Option Ty) (hst : StndN w mb S f) (hS : ∀ g, S g → g < w.heap.size) (k : Nat) (hk : l2ix ca = (k : Int)) (k2 : Nat) (hk' : l2ix cb = (k2 : Int)) (hlt : k < k2) (HO : SaysN mb ca (.int .u8 cb.toNat) (.slice Ab mbb capb) false w) :
    Calls Tryz.prog 27 #[.pointer (some ⟨mb, 0, none⟩), .agg #[.int .u8 c.toNat, .slice A m cap], .agg #[.int .u8 d.toNat, .slice B m' cap']] w fun e w' => e = .returned (.bool true) ∧ ∃ w4, Below w.heap.size w w4 ∧ w' = ((w4.setCell ⟨mb, k * 2, none⟩ (.int .u8 cb.toNat)).setCell ⟨mb, k * 2 + 1, none⟩ (.slice Ab mbb capb)).drew := by
  have HWA := hid (fun W' (h : Below w.heap.size w W') => walkN_by mb w na c ca A m cap _ hwa hmb W' h)
  have HWB := hid (fun W' (h : Below w.heap.size w W') => walkN_by mb w nb d cb B m' cap' _ hwb hmb W' h)
  obtain ⟨x, hx⟩ : ∃ x, l2ix ca = x := ⟨_, rfl⟩
  obtain ⟨y, hy⟩ : ∃ y, l2ix cb = y := ⟨_, rfl⟩
  have HX := hid hx
  have HY := hid hy
  clear hwa hwb hx hy
  have hxk : x = (k : Int) := HX.out.symm.trans hk
  subst hxk
  have hyk : y = (k2 : Int) := HY.out.symm.trans hk'
  subst hyk
  have jx : ((k : Int) == (k2 : Int)) = false := by rw [beq_eq_false_iff_ne]; omega
  have jl : (k : Int) < (k2 : Int) := by omega
  have jn : ¬ (k2 : Int) < 0 := by omega
  have j1 : (0 : Int) ≤ (k : Int) := by omega
  have hk12 : k < 12 := by have := (l2ix_var ca).2.2.2; omega
  have j2 : (k : Int) < 12 := by omega
  have HOC := hid (show ∀ W : World, Below w.heap.size w W → Calls Tryz.prog 52 #[.pointer (some ⟨mb, 0, none⟩), .int .u8 ca.toNat, .agg #[.int .u8 cb.toNat, .slice Ab mbb capb]] W fun e w' => e = .returned (.bool false) ∧ Below W.heap.size W w' from HO)
  have HCELLS := hid (fun w4 (hb : Below w.heap.size w w4) => (hst.keep (S' := S) (hb.block mb hmb) fun g hg => ⟨hg, hb.block g (hS g hg)⟩).cells k hk12)
  clear hk hk' HO hst hS
  go_enter Tryz.func27, Tryz.ntmps27
  go_wp2_with fail
  obtain ⟨W0, hW0⟩ : ∃ W0, (w.alloc (.cells #[.int .u8 c.toNat, .slice A m cap] 31)).alloc (.cells #[.int .u8 d.toNat, .slice B m' cap'] 31) = W0 := ⟨_, rfl⟩
  have h8 : W0.heap[w.heap.size]? = some (.cells #[.int .u8 c.toNat, .slice A m cap] 31 (0, 0)) := by
    rw [← hW0, Below.heap_alloc _ _ _ (by simp only [World.size_alloc]; omega)]
    exact heap_new1 _ _
  have h9 := heap_new1 (w.alloc (.cells #[.int .u8 c.toNat, .slice A m cap] 31)) (.cells #[.int .u8 d.toNat, .slice B m' cap'] 31)
  simp only [World.size_alloc] at h9
  rw [hW0] at h9 ⊢
  have hb0 : Below w.heap.size w W0 := by rw [← hW0]; exact ((Below.refl _ _).alloc (Nat.le_refl _) _).alloc (by simp only [World.size_alloc]; omega) _
  have z0 : W0.heap.size = w.heap.size + 2 := by rw [← hW0]; simp only [World.size_alloc]
  clear hW0
  refine (HWA.out W0 hb0).mono ?_
  rintro e w1 ⟨rfl, hb1⟩
  have q8 := (hb1.block w.heap.size (by omega)).trans h8
  have q9 := (hb1.block (w.heap.size + 1) (by omega)).trans h9
  obtain ⟨n0, n1, nf⟩ := two_cells q8
  obtain ⟨r0, r1, rf⟩ := two_cells q9
  have nf0 := nf 0
  have nf1 := nf 1
  have Q8 := hid q8
  have Q9 := hid q9
  have hb01 := hid (hb0.trans (hb1.mono (by omega)))
  have hz01 : w.heap.size + 2 ≤ w1.heap.size := by have := hb1.size; omega
  clear h8 h9 nf rf q8 q9 hb0 hb1 z0
  go_wp2_with fail
  obtain ⟨W1, hW1⟩ : ∃ W1, (w1.setCell ⟨w.heap.size, 0, none⟩ (.int .u8 ca.toNat)).setCell ⟨w.heap.size, 1, none⟩ (.slice Aa ma capa) = W1 := ⟨_, rfl⟩
  have h8 : W1.heap[w.heap.size]? = some (.cells #[.int .u8 ca.toNat, .slice Aa ma capa] 31 (0, 0)) := by
    rw [← hW1]
    have h := Q8.out
    simp [World.setCell, Array.getElem?_modify, h]
  have h9 : W1.heap[w.heap.size + 1]? = some (.cells #[.int .u8 d.toNat, .slice B m' cap'] 31 (0, 0)) := by
    rw [← hW1, Below.heap_setCell _ _ _ _ (by show w.heap.size + 1 ≠ w.heap.size; omega), Below.heap_setCell _ _ _ _ (by show w.heap.size + 1 ≠ w.heap.size; omega)]
    exact Q9.out
  have hb11 : Below w.heap.size w W1 := by rw [← hW1]; exact (hb01.out.setCell (Nat.le_refl _) _).setCell (Nat.le_refl _) _
  have z1 : W1.heap.size = w1.heap.size := by rw [← hW1]; simp [World.setCell]
  rw [hW1]
  clear hW1 n0 n1 nf0 nf1 r0 r1
  refine (HWB.out W1 hb11).mono ?_
  rintro e w2 ⟨rfl, hb2⟩
  have z2 := hb2.size
  have q8 := (hb2.block w.heap.size (by omega)).trans h8
  have q9 := (hb2.block (w.heap.size + 1) (by omega)).trans h9
  obtain ⟨n0, n1, _⟩ := two_cells q8
  obtain ⟨r0, r1, rf⟩ := two_cells q9
  have rf0 := rf 0
  have rf1 := rf 1
  have P8 := hid q8
  have P9 := hid q9
  have hb12 := hid (hb11.trans (hb2.mono (by omega)))
  have hz12 : w.heap.size + 2 ≤ w2.heap.size := by omega
  clear h8 h9 rf q8 q9 hb11 hb2 z1 z2 Q8 Q9
  go_wp2_with fail
  obtain ⟨W2, hW2⟩ : ∃ W2, (w2.setCell ⟨w.heap.size + 1, 0, none⟩ (.int .u8 cb.toNat)).setCell ⟨w.heap.size + 1, 1, none⟩ (.slice Ab mbb capb) = W2 := ⟨_, rfl⟩
  have h9 : W2.heap[w.heap.size + 1]? = some (.cells #[.int .u8 cb.toNat, .slice Ab mbb capb] 31 (0, 0)) := by
    rw [← hW2]
    have h := P9.out
    simp [World.setCell, Array.getElem?_modify, h]
  have h8 : W2.heap[w.heap.size]? = some (.cells #[.int .u8 ca.toNat, .slice Aa ma capa] 31 (0, 0)) := by
    rw [← hW2, Below.heap_setCell _ _ _ _ (by show w.heap.size ≠ w.heap.size + 1; omega), Below.heap_setCell _ _ _ _ (by show w.heap.size ≠ w.heap.size + 1; omega)]
    exact P8.out
  have hbW := hid (show Below w.heap.size w W2 by rw [← hW2]; exact (hb12.out.setCell (by show w.heap.size ≤ w.heap.size + 1; omega) _).setCell (by show w.heap.size ≤ w.heap.size + 1; omega) _)
  have zW : w.heap.size + 2 ≤ W2.heap.size := by rw [← hW2]; simpa [World.setCell] using hz12
  rw [hW2]
  clear hW2 n0 n1 rf0 rf1 r0 r1 P8 P9 hz01 hz12
  obtain ⟨n0, n1, _⟩ := two_cells h8
  obtain ⟨r0, r1, _⟩ := two_cells h9
  have H8 := hid h8
  have H9 := hid h9
  clear h8 h9
  go_region_with (go_at_call 14; first
    | (with_reducible refine (l2Index_at ca _ HX _).mono ?_; rintro e w3 ⟨rfl, rfl⟩)
    | (with_reducible refine (l2Index_at cb _ HY _).mono ?_; rintro e w3 ⟨rfl, rfl⟩))
  all_goals
    go_wp2_with fail
    refine (HOC.out _ hbW.out.drew).mono ?_
    rintro e w4 ⟨rfl, hb4⟩
    have hb4w := hid (hbW.out.drew.trans (hb4.mono hbW.out.size))
    obtain ⟨⟨v0, e4⟩, ⟨v1, e5⟩, ff4⟩ := HCELLS.out w4 hb4w.out
    have r40 := cell_below (w := W2.drew) r0 (by show w.heap.size + 1 < W2.heap.size; omega) hb4
    have r41 := cell_below (w := W2.drew) r1 (by show w.heap.size + 1 < W2.heap.size; omega) hb4
    clear hb4
    go_wp2_with fail
    go_region_with fail
    all_goals
      go_wp2_with fail
      go_ret
      exact ⟨rfl, w4, hb4w.out, rfl⟩

end Go.Proofs.YtjpdiahbnhemoaaGreat
