/- The model's text of a node (l1Text). -/
import Derived.Test.YtjpdiahbnhemoaaGreatRen
import Derived.Deep.DeepCutAuto
import Derived.Deep.CutBlock
namespace Go.Proofs.YtjpdiahbnhemoaaGreat
open Go.RowKit

theorem sl0 (w : World) : (Instr.slice 9 (.string { data := #[40, 44] }) (some (.int .i64 0)) (some (.int .i64 1)) none).run Tryz.prog w = .ok (.string { data := #[40] }) w := by kernel_rfl
theorem sl1 (w : World) : (Instr.slice 9 (.string { data := #[40, 44] }) (some (.int .i64 1)) (some (.int .i64 2)) none).run Tryz.prog w = .ok (.string { data := #[44] }) w := by kernel_rfl

/-- conv_one, the block of the byte behind others. -/
theorem conv_at (W : World) (g : Nat) (c : UInt8) (h : W.cell? ⟨g, 0, none⟩ = some (.int .u8 c.toNat)) : (convert 73 9 (.slice (some ⟨g, 0, none⟩) 1 1)).run Tryz.prog W = .ok (.string (strOf [c])) W := by
  refine run_convert_bytes_back _ _ _ 5 ⟨g, 0, none⟩ 1 [c] Tryz.underlying73 Tryz.underlying5 Tryz.underlying9 (fun j hj => ?_)
  have e : j = 0 := by simp at hj; omega
  subst e
  exact h

def TextS (t : Ty) : Prop := ∀ (S : Nat → Prop) (h p : Value) (w : World), RepN w S t h p → (∀ g, S g → g < w.heap.size) → t.text.length ≤ 200 →
  Calls Tryz.prog 17 #[.agg #[h, p]] w fun e w' => e = .returned (.string (strOf t.text)) ∧ Below w.heap.size w w'

set_option maxHeartbeats 1000000 in
set_option maxRecDepth 100000 in
theorem textS_lf (c : UInt8) : TextS (.lf c) := by
  rintro S h p w ⟨rfl, A, cap, rfl⟩ hS hl
  have hcv : ∀ o, (convert 73 9 (.slice (some ⟨w.heap.size + 1, 0, none⟩) 1 1)).run Tryz.prog ((w.alloc o).alloc (.cells #[.int .u8 c.toNat] 5)) = .ok (.string (strOf [c])) ((w.alloc o).alloc (.cells #[.int .u8 c.toNat] 5)) := fun o => conv_at _ _ c (by
    have := cell_new1 (w.alloc o) (.int .u8 c.toNat) 5
    rwa [World.size_alloc] at this)
  go_enter Tryz.func17, Tryz.ntmps17
  go_wp2_with fail
  refine wp_loop_rounds 1 ?_
  rw [rounds_succ]
  go_wp2_with fail
  go_ret
  exact ⟨rfl, ((Below.refl _ _).alloc (Nat.le_refl _) _).alloc (by simp only [World.size_alloc]; omega) _⟩

set_option maxHeartbeats 1000000 in
set_option maxRecDepth 100000 in
theorem textS_un (c : UInt8) (a : Ty) (ih : TextS a) : TextS (.un c a) := by
  rintro S h p w ⟨rfl, g, cap, x, y, rfl, hg, hx, hy, hrep⟩ hS hl
  have hgl := hS g hg
  obtain ⟨c1, A1, m1, cap1, rfl, rfl⟩ := hrep.form
  have z : a.text.length ≤ 200 := by simp [Ty.text] at hl; omega
  have hcv : ∀ o, (convert 73 9 (.slice (some ⟨w.heap.size + 1, 0, none⟩) 1 1)).run Tryz.prog ((w.alloc o).alloc (.cells #[.int .u8 c.toNat] 5)) = .ok (.string (strOf [c])) ((w.alloc o).alloc (.cells #[.int .u8 c.toNat] 5)) := fun o => conv_at _ _ c (by
    have := cell_new1 (w.alloc o) (.int .u8 c.toNat) 5
    rwa [World.size_alloc] at this)
  have hb2 : ∀ o o', Below w.heap.size w ((w.alloc o).alloc o') := fun o o' => ((Below.refl _ _).alloc (Nat.le_refl _) o).alloc (by simp only [World.size_alloc]; omega) o'
  have fx : ∀ o o', ((w.alloc o).alloc o').cell? ⟨g, 0, none⟩ = some (.int .u8 c1.toNat) := fun o o' => cell_below hx hgl (hb2 o o')
  have fy : ∀ o o', ((w.alloc o).alloc o').cell? ⟨g, 1, none⟩ = some (.slice A1 m1 cap1) := fun o o' => cell_below hy hgl (hb2 o o')
  have HX := hid hx
  have HY := hid hy
  clear hx hy
  have s0 := sl0
  obtain ⟨hd, hhd⟩ : ∃ hd, strOf [c] = hd := ⟨_, rfl⟩
  have hhs : hd.size ≤ 1 := by rw [← hhd]; exact Nat.le_refl _
  obtain ⟨r, hr⟩ : ∃ r, strOf a.text = r := ⟨_, rfl⟩
  have hrs : r.size ≤ 200 := by rw [← hr, strOf_size]; exact z
  have HH := hid hhd
  have HR := hid hr
  simp only [hhd] at hcv
  have ih' := ih
  unfold TextS at ih'
  rw [hr] at ih'
  have IH := hid ih'
  clear ih' ih hhd hr
  go_enter Tryz.func17, Tryz.ntmps17
  go_wp2_with fail
  refine wp_loop_rounds 2 ?_
  rw [rounds_succ]
  go_wp2_with fail
  obtain ⟨W, hW, hbW, hzW, p0, p1, n1⟩ : ∃ W, ((w.alloc (.cells #[.int .u8 c.toNat, .slice (some ⟨g, 0, none⟩) 1 cap] 31)).alloc (.cells #[.int .u8 c.toNat] 5)).alloc (.cells #[.int .u8 c1.toNat, .slice A1 m1 cap1] 31) = W ∧ Below w.heap.size w W ∧ W.heap.size = w.heap.size + 3 ∧
      W.cell? ⟨w.heap.size + 1 + 1, 0, none⟩ = some (.int .u8 c1.toNat) ∧ W.cell? ⟨w.heap.size + 1 + 1, 1, none⟩ = some (.slice A1 m1 cap1) ∧ W.cell? ⟨w.heap.size, 1, none⟩ = some (.slice (some ⟨g, 0, none⟩) 1 cap) := by
    refine ⟨_, rfl, (hb2 _ _).alloc (hb2 _ _).size _, by simp only [World.size_alloc], ?_, ?_, ?_⟩
    · have := heap_new1 ((w.alloc (.cells #[.int .u8 c.toNat, .slice (some ⟨g, 0, none⟩) 1 cap] 31)).alloc (.cells #[.int .u8 c.toNat] 5)) (.cells #[.int .u8 c1.toNat, .slice A1 m1 cap1] 31)
      simp only [World.size_alloc] at this
      exact (two_cells this).1
    · have := heap_new1 ((w.alloc (.cells #[.int .u8 c.toNat, .slice (some ⟨g, 0, none⟩) 1 cap] 31)).alloc (.cells #[.int .u8 c.toNat] 5)) (.cells #[.int .u8 c1.toNat, .slice A1 m1 cap1] 31)
      simp only [World.size_alloc] at this
      exact (two_cells this).2.1
    · have := heap_new1 w (.cells #[.int .u8 c.toNat, .slice (some ⟨g, 0, none⟩) 1 cap] 31)
      refine (two_cells (((Below.heap_alloc _ _ _ ?_).trans (Below.heap_alloc _ _ _ ?_)).trans this)).2.1 <;> simp only [World.size_alloc] <;> omega
  rw [hW]
  clear hW hcv fx fy
  have hrW : RepN W.drew S a (.int .u8 c1.toNat) (.slice A1 m1 cap1) := hrep.below hS hbW.drew
  have N1 := hid n1
  go_region_with (go_at_call 17; refine (IH.out S _ _ _ hrW (fun g hg => Nat.lt_of_lt_of_le (hS g hg) hbW.size) z).mono ?_; rintro e w2 ⟨rfl, hb3⟩; have n2 := cell_below (w := W.drew) N1.out (by show w.heap.size < W.heap.size; omega) hb3)
  all_goals
    go_wp2_with fail
    rw [rounds_succ]
    go_wp2_with fail
    go_ret
    refine ⟨?_, hbW.drew.trans (hb3.mono hbW.size)⟩
    show Ending.returned (.string _) = .returned (.string _)
    congr 2
    exact strOf_eq (by simp [ByteArray.data_append, ← HR.out, ← HH.out, strOf, Ty.text])

set_option maxHeartbeats 1000000 in
set_option maxRecDepth 100000 in
theorem textS_bi (c : UInt8) (a a' : Ty) (ih : TextS a) (ihb : TextS a') : TextS (.bi c a a') := by
  rintro S h p w ⟨rfl, g, cap, x, y, x', y', rfl, hg, hx, hy, hx', hy', hrep, hrep'⟩ hS hl
  have hgl := hS g hg
  obtain ⟨c1, A1, m1, cap1, rfl, rfl⟩ := hrep.form
  obtain ⟨c2, A2, m2, cap2, rfl, rfl⟩ := hrep'.form
  have z : a.text.length ≤ 200 := by simp [Ty.text] at hl; omega
  have z' : a'.text.length ≤ 200 := by simp [Ty.text] at hl; omega
  have hcv : ∀ o, (convert 73 9 (.slice (some ⟨w.heap.size + 1, 0, none⟩) 1 1)).run Tryz.prog ((w.alloc o).alloc (.cells #[.int .u8 c.toNat] 5)) = .ok (.string (strOf [c])) ((w.alloc o).alloc (.cells #[.int .u8 c.toNat] 5)) := fun o => conv_at _ _ c (by
    have := cell_new1 (w.alloc o) (.int .u8 c.toNat) 5
    rwa [World.size_alloc] at this)
  have hb2 : ∀ o o', Below w.heap.size w ((w.alloc o).alloc o') := fun o o' => ((Below.refl _ _).alloc (Nat.le_refl _) o).alloc (by simp only [World.size_alloc]; omega) o'
  have fx : ∀ o o', ((w.alloc o).alloc o').cell? ⟨g, 0, none⟩ = some (.int .u8 c1.toNat) := fun o o' => cell_below hx hgl (hb2 o o')
  have fy : ∀ o o', ((w.alloc o).alloc o').cell? ⟨g, 1, none⟩ = some (.slice A1 m1 cap1) := fun o o' => cell_below hy hgl (hb2 o o')
  have HX := hid hx
  have HY := hid hy
  have HX' := hid hx'
  have HY' := hid hy'
  clear hx hy hx' hy'
  have s0 := sl0
  have s1 := sl1
  obtain ⟨hd, hhd⟩ : ∃ hd, strOf [c] = hd := ⟨_, rfl⟩
  have hhs : hd.size ≤ 1 := by rw [← hhd]; exact Nat.le_refl _
  obtain ⟨r, hr⟩ : ∃ r, strOf a.text = r := ⟨_, rfl⟩
  have hrs : r.size ≤ 200 := by rw [← hr, strOf_size]; exact z
  have HH := hid hhd
  have HR := hid hr
  simp only [hhd] at hcv
  have ih' := ih
  unfold TextS at ih'
  rw [hr] at ih'
  have IH := hid ih'
  obtain ⟨r', hr'⟩ : ∃ r', strOf a'.text = r' := ⟨_, rfl⟩
  have hrs' : r'.size ≤ 200 := by rw [← hr', strOf_size]; exact z'
  have HR' := hid hr'
  have ihb' := ihb
  unfold TextS at ihb'
  rw [hr'] at ihb'
  have IHB := hid ihb'
  clear ih' ih hhd hr ihb ihb' hr'
  go_enter Tryz.func17, Tryz.ntmps17
  go_wp2_with fail
  refine wp_loop_rounds 3 ?_
  rw [rounds_succ]
  have HHL := hid (show hd.data.toList = [c] by rw [← HH.out]; rfl)
  have HRL := hid (show r.data.toList = a.text by rw [← HR.out]; exact strOf_list _)
  have HRL' := hid (show r'.data.toList = a'.text by rw [← HR'.out]; exact strOf_list _)
  go_upto_block 1 with fail
  go_cut [3] (fun o wx => (∃ q : ByteArray, o = .string q ∧ q.data.toList = c :: 40 :: a.text ∧ q.size ≤ 300) ∧ Below w.heap.size w wx ∧ w.heap.size < wx.heap.size ∧ wx.cell? ⟨w.heap.size, 1, none⟩ = some (.slice (some ⟨g, 0, none⟩) 2 cap))
  case first =>
    go_wp2_with fail
    obtain ⟨W, hW, hbW, hzW, p0, p1, n1⟩ : ∃ W, ((w.alloc (.cells #[.int .u8 c.toNat, .slice (some ⟨g, 0, none⟩) 2 cap] 31)).alloc (.cells #[.int .u8 c.toNat] 5)).alloc (.cells #[.int .u8 c1.toNat, .slice A1 m1 cap1] 31) = W ∧ Below w.heap.size w W ∧ W.heap.size = w.heap.size + 3 ∧
        W.cell? ⟨w.heap.size + 1 + 1, 0, none⟩ = some (.int .u8 c1.toNat) ∧ W.cell? ⟨w.heap.size + 1 + 1, 1, none⟩ = some (.slice A1 m1 cap1) ∧ W.cell? ⟨w.heap.size, 1, none⟩ = some (.slice (some ⟨g, 0, none⟩) 2 cap) := by
      refine ⟨_, rfl, (hb2 _ _).alloc (hb2 _ _).size _, by simp only [World.size_alloc], ?_, ?_, ?_⟩
      · have := heap_new1 ((w.alloc (.cells #[.int .u8 c.toNat, .slice (some ⟨g, 0, none⟩) 2 cap] 31)).alloc (.cells #[.int .u8 c.toNat] 5)) (.cells #[.int .u8 c1.toNat, .slice A1 m1 cap1] 31)
        simp only [World.size_alloc] at this
        exact (two_cells this).1
      · have := heap_new1 ((w.alloc (.cells #[.int .u8 c.toNat, .slice (some ⟨g, 0, none⟩) 2 cap] 31)).alloc (.cells #[.int .u8 c.toNat] 5)) (.cells #[.int .u8 c1.toNat, .slice A1 m1 cap1] 31)
        simp only [World.size_alloc] at this
        exact (two_cells this).2.1
      · have := heap_new1 w (.cells #[.int .u8 c.toNat, .slice (some ⟨g, 0, none⟩) 2 cap] 31)
        refine (two_cells (((Below.heap_alloc _ _ _ ?_).trans (Below.heap_alloc _ _ _ ?_)).trans this)).2.1 <;> simp only [World.size_alloc] <;> omega
    rw [hW]
    clear hW hcv fx fy
    have hrW : RepN W.drew S a (.int .u8 c1.toNat) (.slice A1 m1 cap1) := hrep.below hS hbW.drew
    have N1 := hid n1
    go_region_with (go_at_call 17; refine (IH.out S _ _ _ hrW (fun g hg => Nat.lt_of_lt_of_le (hS g hg) hbW.size) z).mono ?_; rintro e w2 ⟨rfl, hb3⟩)
    all_goals
      go_wp2_with fail
      go_meet
      have hz3 : W.heap.size ≤ w2.heap.size := hb3.size
      exact ⟨⟨_, rfl, by simp [ByteArray.data_append, HHL.out, HRL.out], by simp; omega⟩, hbW.drew.trans (hb3.mono hbW.size), by omega, cell_below (w := W.drew) N1.out (by show w.heap.size < W.heap.size; omega) hb3⟩
  case rest =>
  obtain ⟨⟨q, rfl, hq, hqs⟩, hbw, zc, n2⟩ := hcut
  have HQ := hid hq
  clear hq hcv
  have hbd : ∀ o, Below w.heap.size w (wc.alloc o) := fun o => hbw.alloc hbw.size o
  have fx' := cell_below HX'.out hgl hbw
  have fy' := cell_below HY'.out hgl hbw
  go_wp2_with fail
  rw [rounds_succ]
  go_wp2_with fail
  have hrW2 : ∀ o, RepN (wc.alloc o).drew S a' (.int .u8 c2.toNat) (.slice A2 m2 cap2) := fun o => hrep'.below hS (hbd o).drew
  have HN2 := hid n2
  go_region_with (go_at_call 17; refine (IHB.out S _ _ _ (hrW2 _) (fun g hg => Nat.lt_of_lt_of_le (hS g hg) (hbd _).size) z').mono ?_; rintro e w4 ⟨rfl, hb5⟩; have n3 := cell_below (w := (wc.alloc (.cells #[.int .u8 c2.toNat, .slice A2 m2 cap2] 31)).drew) ((World.cell?_alloc_lt _ _ _ (by exact zc)).trans HN2.out) (by show w.heap.size < (wc.alloc _).heap.size; simp only [World.size_alloc]; omega) hb5)
  all_goals
    go_wp2_with fail
    rw [rounds_succ]
    go_wp2_with fail
    go_ret
    refine ⟨?_, (hbd _).drew.trans (hb5.mono (hbd _).size)⟩
    show Ending.returned (.string _) = .returned (.string _)
    congr 2
    exact strOf_eq (by simp [ByteArray.data_append, HQ.out, HRL'.out, Ty.text])

theorem textS_any (t : Ty) : TextS t := by
  induction t with
  | lf c => exact textS_lf c
  | un c a ih => exact textS_un c a ih
  | bi c a b iha ihb => exact textS_bi c a b iha ihb

end Go.Proofs.YtjpdiahbnhemoaaGreat
