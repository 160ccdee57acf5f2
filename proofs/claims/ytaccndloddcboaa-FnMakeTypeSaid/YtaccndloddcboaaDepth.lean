/- DepthOf, in the program and in the model. -/
import Derived.Test.YtaccndloddcboaaSize
namespace Go.Proofs.Ytaccndloddcboaa
open Go.RowKit

set_option maxHeartbeats 1000000 in
set_option maxRecDepth 100000 in
theorem nodeDepth_any (t : Ty) : ∀ (lo hi : Nat) (v : Value) (w : World), Rep w lo hi t v → t.depth ≤ 60 →
    Calls Try.prog 89 #[v] w fun e w' => e = .returned (.int .i64 t.depth) ∧ w = w' := by
  induction t with
  | lf c =>
    rintro lo hi v w ⟨b, h1, h2, ⟨hv, rfl, hb⟩ | ⟨hv, rfl, hb⟩⟩ hsz
    · have hm := m_var_parts b
      go_enter Try.func89, Try.ntmps89
      go_wp2_with (go_at_call 207; refine (parts_var _ _).mono ?_; rintro e w' ⟨rfl, rfl⟩)
      refine wp_loop_rounds 1 ?_
      rw [rounds_succ]
      go_wp2_with fail
      go_ret
      exact ⟨rfl, rfl⟩
    · have hm := m_con_parts b
      go_enter Try.func89, Try.ntmps89
      go_wp2_with (go_at_call 214; refine (parts_con _ _).mono ?_; rintro e w' ⟨rfl, rfl⟩)
      refine wp_loop_rounds 1 ?_
      rw [rounds_succ]
      go_wp2_with fail
      go_ret
      exact ⟨rfl, rfl⟩
  | un c a ih =>
    rintro lo hi v w ⟨b, g, cap, x, h1, h2, h3, h4, rfl, hb, hx, hrep⟩ hsz
    obtain ⟨c0, c1, _⟩ := two_cells hb
    have hm := m_cst_parts b
    have z : a.depth ≤ 60 := by simp [Ty.depth] at hsz; omega
    have hz : (0 : Int) ≤ (a.depth : Int) := by omega
    have HB := hid hb
    have HX := hid hx
    clear hb
    go_enter Try.func89, Try.ntmps89
    go_wp2_with (go_at_call 210; refine (parts_cst _ _ _ _ _ c1).mono ?_; rintro e w' ⟨rfl, rfl⟩)
    refine wp_loop_rounds 2 ?_
    rw [rounds_succ]
    go_wp2_with fail
    refine (ih lo hi x _ hrep z).mono ?_
    rintro e w' ⟨rfl, rfl⟩
    go_wp2_with fail
    all_goals
      rw [rounds_succ]
      go_wp2_with fail
      go_ret
      exact ⟨ret_int (by simp only [Ty.depth]; omega), rfl⟩
  | bi c a a' iha ihb =>
    rintro lo hi v w ⟨b, g, cap, x, x', h1, h2, h3, h4, rfl, hb, hx, hx', hrep, hrep'⟩ hsz
    obtain ⟨c0, c1, _⟩ := two_cells hb
    have hm := m_cst_parts b
    have z : a.depth ≤ 60 := by simp [Ty.depth] at hsz; omega
    have z' : a'.depth ≤ 60 := by simp [Ty.depth] at hsz; omega
    have HB := hid hb
    clear hb
    go_enter Try.func89, Try.ntmps89
    go_wp2_with (go_at_call 210; refine (parts_cst _ _ _ _ _ c1).mono ?_; rintro e w' ⟨rfl, rfl⟩)
    refine wp_loop_rounds 3 ?_
    rw [rounds_succ]
    go_wp2_with fail
    refine (iha lo hi x _ hrep z).mono ?_
    rintro e w' ⟨rfl, rfl⟩
    go_wp2_with fail
    rw [rounds_succ]
    go_wp2_with fail
    refine (ihb lo hi x' _ hrep' z').mono ?_
    rintro e w' ⟨rfl, rfl⟩
    go_wp2_with fail
    all_goals
      rw [rounds_succ]
      go_wp2_with fail
      go_ret
      exact ⟨ret_int (by simp only [Ty.depth]; omega), rfl⟩

set_option maxHeartbeats 1000000 in
set_option maxRecDepth 100000 in
theorem l1Depth_any (t : Ty) : ∀ (S : Nat → Prop) (h p : Value) (w : World), RepN w S t h p → (∀ g, S g → g < w.heap.size) → t.depth ≤ 60 →
    Calls Try.prog 92 #[.agg #[h, p]] w fun e w' => e = .returned (.int .i64 t.depth) ∧ Below w.heap.size w w' := by
  induction t with
  | lf c =>
    rintro S h p w ⟨rfl, A, cap, rfl⟩ hS hsz
    go_enter Try.func92, Try.ntmps92
    go_wp2_with fail
    refine wp_loop_rounds 1 ?_
    rw [rounds_succ]
    go_wp2_with fail
    go_ret
    exact ⟨rfl, (Below.refl _ _).alloc (Nat.le_refl _) _⟩
  | un c a ih =>
    rintro S h p w ⟨rfl, g, cap, x, y, rfl, hg, hx, hy, hrep⟩ hS hsz
    have hgl := hS g hg
    obtain ⟨c1, A1, m1, cap1, rfl, rfl⟩ := hrep.form
    have z : a.depth ≤ 60 := by simp [Ty.depth] at hsz; omega
    have hz : (0 : Int) ≤ (a.depth : Int) := by omega
    have fx : ∀ o, (w.alloc o).cell? ⟨g, 0, none⟩ = some (.int .u8 c1.toNat) := fun o => cell_below hx hgl ((Below.refl _ _).alloc (Nat.le_refl _) o)
    have fy : ∀ o, (w.alloc o).cell? ⟨g, 1, none⟩ = some (.slice A1 m1 cap1) := fun o => cell_below hy hgl ((Below.refl _ _).alloc (Nat.le_refl _) o)
    have HX := hid hx
    have HY := hid hy
    clear hx hy
    go_enter Try.func92, Try.ntmps92
    go_wp2_with fail
    refine wp_loop_rounds 2 ?_
    rw [rounds_succ]
    go_wp2_with fail
    have hb2 : ∀ o o', Below w.heap.size w ((w.alloc o).alloc o') := fun o o' => ((Below.refl _ _).alloc (Nat.le_refl _) o).alloc (by simp only [World.size_alloc]; omega) o'
    refine (ih S _ _ _ (hrep.below hS (hb2 _ _)) (fun g hg => Nat.lt_of_lt_of_le (hS g hg) (hb2 _ _).size) z).mono ?_
    rintro e w2 ⟨rfl, hb3⟩
    go_wp2_with fail
    all_goals
      rw [rounds_succ]
      go_wp2_with fail
      go_ret
      exact ⟨ret_int (by simp only [Ty.depth]; omega), (hb2 _ _).trans (hb3.mono (hb2 _ _).size)⟩
  | bi c a a' iha ihb =>
    rintro S h p w ⟨rfl, g, cap, x, y, x', y', rfl, hg, hx, hy, hx', hy', hrep, hrep'⟩ hS hsz
    have hgl := hS g hg
    obtain ⟨c1, A1, m1, cap1, rfl, rfl⟩ := hrep.form
    obtain ⟨c2, A2, m2, cap2, rfl, rfl⟩ := hrep'.form
    have z : a.depth ≤ 60 := by simp [Ty.depth] at hsz; omega
    have z' : a'.depth ≤ 60 := by simp [Ty.depth] at hsz; omega
    have hz : (0 : Int) ≤ (a.depth : Int) := by omega
    have hz' : (0 : Int) ≤ (a'.depth : Int) := by omega
    have fx : ∀ o, (w.alloc o).cell? ⟨g, 0, none⟩ = some (.int .u8 c1.toNat) := fun o => cell_below hx hgl ((Below.refl _ _).alloc (Nat.le_refl _) o)
    have fy : ∀ o, (w.alloc o).cell? ⟨g, 1, none⟩ = some (.slice A1 m1 cap1) := fun o => cell_below hy hgl ((Below.refl _ _).alloc (Nat.le_refl _) o)
    have HX := hid hx
    have HY := hid hy
    have HX' := hid hx'
    have HY' := hid hy'
    clear hx hy hx' hy'
    go_enter Try.func92, Try.ntmps92
    go_wp2_with fail
    refine wp_loop_rounds 3 ?_
    rw [rounds_succ]
    go_wp2_with fail
    have hb2 : ∀ o o', Below w.heap.size w ((w.alloc o).alloc o') := fun o o' => ((Below.refl _ _).alloc (Nat.le_refl _) o).alloc (by simp only [World.size_alloc]; omega) o'
    refine (iha S _ _ _ (hrep.below hS (hb2 _ _)) (fun g hg => Nat.lt_of_lt_of_le (hS g hg) (hb2 _ _).size) z).mono ?_
    rintro e w2 ⟨rfl, hb3⟩
    have hb4 := (hb2 _ _).trans (hb3.mono (hb2 _ _).size)
    have gx := cell_below HX'.out hgl hb4
    have gy := cell_below HY'.out hgl hb4
    go_wp2_with fail
    rw [rounds_succ]
    go_wp2_with fail
    have hb5 : ∀ o, Below w.heap.size w (w2.alloc o) := fun o => hb4.alloc hb4.size o
    refine (ihb S _ _ _ (hrep'.below hS (hb5 _)) (fun g hg => Nat.lt_of_lt_of_le (hS g hg) (hb5 _).size) z').mono ?_
    rintro e w3 ⟨rfl, hb6⟩
    go_wp2_with fail
    all_goals
      rw [rounds_succ]
      go_wp2_with fail
      go_ret
      exact ⟨ret_int (by simp only [Ty.depth]; omega), (hb5 _).trans (hb6.mono (hb5 _).size)⟩

/-- A type's depth; -1 for what is none. -/
def depthOf' (l : List UInt8) : Int := match tyOf l with | some t => (t.depth : Nat) | none => -1
theorem tyOf_depth {l : List UInt8} {t : Ty} (h : tyOf l = some t) : t.depth ≤ 60 := Nat.le_trans (depth_size t) (tyOf_size h)

set_option maxHeartbeats 400000 in
set_option maxRecDepth 100000 in
theorem depthI_at (s : ByteArray) (hs : s.size ≤ maxLen) (w : World) (k : Int) (hk : Hid (depthOf' s.data.toList = k)) :
    Calls Try.prog 36 #[.string s] w fun e w' => e = .returned (.int .i64 k) ∧ Below w.heap.size w w' := by
  go_enter Try.func36, Try.ntmps36
  go_wp2_with fail
  refine (readType_any s _ hs).mono ?_
  rintro e w1 ⟨hb, ⟨hn, rfl⟩ | ⟨t, T, b, hs1, rfl, hrep⟩⟩
  · go_wp2_with fail
    go_ret
    exact ⟨ret_int (by rw [← hk.out, depthOf', hn]), hb⟩
  · go_wp2_with fail
    refine (nodeDepth_any t _ _ _ _ hrep (tyOf_depth hs1)).mono ?_
    rintro e w' ⟨rfl, rfl⟩
    go_wp2_with fail
    go_ret
    exact ⟨ret_int (by rw [← hk.out, depthOf', hs1]), hb⟩

set_option maxHeartbeats 400000 in
set_option maxRecDepth 100000 in
theorem depthS_at (s : ByteArray) (hs : s.size ≤ maxLen) (w : World) (k : Int) (hk : Hid (depthOf' s.data.toList = k)) :
    Calls Try.prog 43 #[.string s] w fun e w' => e = .returned (.int .i64 k) ∧ Below w.heap.size w w' := by
  go_enter Try.func43, Try.ntmps43
  go_wp2_with fail
  refine (l1Read_any s _ hs).mono ?_
  rintro e w1 ⟨hb, ⟨hn, rfl⟩ | ⟨t, c, A, m, cap, hs1, rfl, hrep⟩⟩
  · go_wp2_with fail
    go_ret
    exact ⟨ret_int (by rw [← hk.out, depthOf', hn]), hb.alloc hb.size _⟩
  · go_wp2_with fail
    have hb1 : ∀ o, Below w1.heap.size w1 (w1.alloc o) := fun o => (Below.refl _ _).alloc (Nat.le_refl _) o
    refine (l1Depth_any t _ _ _ _ (hrep.below (fun g hg => hg.2) (hb1 _)) (fun g hg => Nat.lt_of_lt_of_le hg.2 (hb1 _).size) (tyOf_depth hs1)).mono ?_
    rintro e w2 ⟨rfl, hb2⟩
    go_wp2_with fail
    go_ret
    exact ⟨ret_int (by rw [← hk.out, depthOf', hs1]), (hb.alloc hb.size _).trans (hb2.mono (hb.alloc hb.size _).size)⟩

end Go.Proofs.Ytaccndloddcboaa
