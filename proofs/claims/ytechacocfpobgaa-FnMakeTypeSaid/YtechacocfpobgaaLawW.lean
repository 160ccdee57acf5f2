/- DepthOf, in the program and in the model. Plain facts on types that the general laws of chapter 1 turn on. -/
import Derived.Test.YtechacocfpobgaaPartsI
import Derived.Test.YtechacocfpobgaaRen
namespace Go.Proofs.Ytechacocfpobgaa
open Go.RowKit

set_option maxHeartbeats 1000000 in
set_option maxRecDepth 100000 in
theorem nodeDepth_any (t : Ty) : ∀ (lo hi : Nat) (v : Value) (w : World), Rep w lo hi t v → t.depth ≤ 60 →
    Calls Try.prog 61 #[v] w fun e w' => e = .returned (.int .i64 t.depth) ∧ w = w' := by
  induction t with
  | lf c =>
    rintro lo hi v w ⟨b, h1, h2, ⟨hv, rfl, hb⟩ | ⟨hv, rfl, hb⟩⟩ hsz
    · have hm := m_var_parts b
      go_enter Try.func61, Try.ntmps61
      go_wp2_with (go_at_call 127; refine (parts_var _ _).mono ?_; rintro e w' ⟨rfl, rfl⟩)
      refine wp_loop_rounds 1 ?_
      rw [rounds_succ]
      go_wp2_with fail
      go_ret
      exact ⟨rfl, rfl⟩
    · have hm := m_con_parts b
      go_enter Try.func61, Try.ntmps61
      go_wp2_with (go_at_call 134; refine (parts_con _ _).mono ?_; rintro e w' ⟨rfl, rfl⟩)
      refine wp_loop_rounds 1 ?_
      rw [rounds_succ]
      go_wp2_with fail
      go_ret
      exact ⟨rfl, rfl⟩
  | un c a ih =>
    rintro lo hi v w ⟨b, g, cap, x, h1, h2, h3, h4, rfl, hb, hx, hrep⟩ hsz
    obtain ⟨c0, c1, _⟩ := two_cells hb
    have hm := m_cst_parts b
    have z : a.depth ≤ 60 := by simp [Ty.depth] at hsz; omega
    have hz : (0 : Int) ≤ (a.depth : Int) := by omega
    have HB := hid hb
    have HX := hid hx
    clear hb
    go_enter Try.func61, Try.ntmps61
    go_wp2_with (go_at_call 130; refine (parts_cst _ _ _ _ _ c1).mono ?_; rintro e w' ⟨rfl, rfl⟩)
    refine wp_loop_rounds 2 ?_
    rw [rounds_succ]
    go_wp2_with fail
    refine (ih lo hi x _ hrep z).mono ?_
    rintro e w' ⟨rfl, rfl⟩
    go_wp2_with fail
    all_goals
      rw [rounds_succ]
      go_wp2_with fail
      go_ret
      exact ⟨ret_int (by simp only [Ty.depth]; omega), rfl⟩
  | bi c a a' iha ihb =>
    rintro lo hi v w ⟨b, g, cap, x, x', h1, h2, h3, h4, rfl, hb, hx, hx', hrep, hrep'⟩ hsz
    obtain ⟨c0, c1, _⟩ := two_cells hb
    have hm := m_cst_parts b
    have z : a.depth ≤ 60 := by simp [Ty.depth] at hsz; omega
    have z' : a'.depth ≤ 60 := by simp [Ty.depth] at hsz; omega
    have HB := hid hb
    clear hb
    go_enter Try.func61, Try.ntmps61
    go_wp2_with (go_at_call 130; refine (parts_cst _ _ _ _ _ c1).mono ?_; rintro e w' ⟨rfl, rfl⟩)
    refine wp_loop_rounds 3 ?_
    rw [rounds_succ]
    go_wp2_with fail
    refine (iha lo hi x _ hrep z).mono ?_
    rintro e w' ⟨rfl, rfl⟩
    go_wp2_with fail
    rw [rounds_succ]
    go_wp2_with fail
    refine (ihb lo hi x' _ hrep' z').mono ?_
    rintro e w' ⟨rfl, rfl⟩
    go_wp2_with fail
    all_goals
      rw [rounds_succ]
      go_wp2_with fail
      go_ret
      exact ⟨ret_int (by simp only [Ty.depth]; omega), rfl⟩

set_option maxHeartbeats 1000000 in
set_option maxRecDepth 100000 in
theorem l1Depth_any (t : Ty) : ∀ (S : Nat → Prop) (h p : Value) (w : World), RepN w S t h p → (∀ g, S g → g < w.heap.size) → t.depth ≤ 60 →
    Calls Try.prog 64 #[.agg #[h, p]] w fun e w' => e = .returned (.int .i64 t.depth) ∧ Below w.heap.size w w' := by
  induction t with
  | lf c =>
    rintro S h p w ⟨rfl, A, cap, rfl⟩ hS hsz
    go_enter Try.func64, Try.ntmps64
    go_wp2_with fail
    refine wp_loop_rounds 1 ?_
    rw [rounds_succ]
    go_wp2_with fail
    go_ret
    exact ⟨rfl, (Below.refl _ _).alloc (Nat.le_refl _) _⟩
  | un c a ih =>
    rintro S h p w ⟨rfl, g, cap, x, y, rfl, hg, hx, hy, hrep⟩ hS hsz
    have hgl := hS g hg
    obtain ⟨c1, A1, m1, cap1, rfl, rfl⟩ := hrep.form
    have z : a.depth ≤ 60 := by simp [Ty.depth] at hsz; omega
    have hz : (0 : Int) ≤ (a.depth : Int) := by omega
    have fx : ∀ o, (w.alloc o).cell? ⟨g, 0, none⟩ = some (.int .u8 c1.toNat) := fun o => cell_below hx hgl ((Below.refl _ _).alloc (Nat.le_refl _) o)
    have fy : ∀ o, (w.alloc o).cell? ⟨g, 1, none⟩ = some (.slice A1 m1 cap1) := fun o => cell_below hy hgl ((Below.refl _ _).alloc (Nat.le_refl _) o)
    have HX := hid hx
    have HY := hid hy
    clear hx hy
    go_enter Try.func64, Try.ntmps64
    go_wp2_with fail
    refine wp_loop_rounds 2 ?_
    rw [rounds_succ]
    go_wp2_with fail
    have hb2 : ∀ o o', Below w.heap.size w ((w.alloc o).alloc o') := fun o o' => ((Below.refl _ _).alloc (Nat.le_refl _) o).alloc (by simp only [World.size_alloc]; omega) o'
    refine (ih S _ _ _ (hrep.below hS (hb2 _ _)) (fun g hg => Nat.lt_of_lt_of_le (hS g hg) (hb2 _ _).size) z).mono ?_
    rintro e w2 ⟨rfl, hb3⟩
    go_wp2_with fail
    all_goals
      rw [rounds_succ]
      go_wp2_with fail
      go_ret
      exact ⟨ret_int (by simp only [Ty.depth]; omega), (hb2 _ _).trans (hb3.mono (hb2 _ _).size)⟩
  | bi c a a' iha ihb =>
    rintro S h p w ⟨rfl, g, cap, x, y, x', y', rfl, hg, hx, hy, hx', hy', hrep, hrep'⟩ hS hsz
    have hgl := hS g hg
    obtain ⟨c1, A1, m1, cap1, rfl, rfl⟩ := hrep.form
    obtain ⟨c2, A2, m2, cap2, rfl, rfl⟩ := hrep'.form
    have z : a.depth ≤ 60 := by simp [Ty.depth] at hsz; omega
    have z' : a'.depth ≤ 60 := by simp [Ty.depth] at hsz; omega
    have hz : (0 : Int) ≤ (a.depth : Int) := by omega
    have hz' : (0 : Int) ≤ (a'.depth : Int) := by omega
    have fx : ∀ o, (w.alloc o).cell? ⟨g, 0, none⟩ = some (.int .u8 c1.toNat) := fun o => cell_below hx hgl ((Below.refl _ _).alloc (Nat.le_refl _) o)
    have fy : ∀ o, (w.alloc o).cell? ⟨g, 1, none⟩ = some (.slice A1 m1 cap1) := fun o => cell_below hy hgl ((Below.refl _ _).alloc (Nat.le_refl _) o)
    have HX := hid hx
    have HY := hid hy
    have HX' := hid hx'
    have HY' := hid hy'
    clear hx hy hx' hy'
    go_enter Try.func64, Try.ntmps64
    go_wp2_with fail
    refine wp_loop_rounds 3 ?_
    rw [rounds_succ]
    go_wp2_with fail
    have hb2 : ∀ o o', Below w.heap.size w ((w.alloc o).alloc o') := fun o o' => ((Below.refl _ _).alloc (Nat.le_refl _) o).alloc (by simp only [World.size_alloc]; omega) o'
    refine (iha S _ _ _ (hrep.below hS (hb2 _ _)) (fun g hg => Nat.lt_of_lt_of_le (hS g hg) (hb2 _ _).size) z).mono ?_
    rintro e w2 ⟨rfl, hb3⟩
    have hb4 := (hb2 _ _).trans (hb3.mono (hb2 _ _).size)
    have gx := cell_below HX'.out hgl hb4
    have gy := cell_below HY'.out hgl hb4
    go_wp2_with fail
    rw [rounds_succ]
    go_wp2_with fail
    have hb5 : ∀ o, Below w.heap.size w (w2.alloc o) := fun o => hb4.alloc hb4.size o
    refine (ihb S _ _ _ (hrep'.below hS (hb5 _)) (fun g hg => Nat.lt_of_lt_of_le (hS g hg) (hb5 _).size) z').mono ?_
    rintro e w3 ⟨rfl, hb6⟩
    go_wp2_with fail
    all_goals
      rw [rounds_succ]
      go_wp2_with fail
      go_ret
      exact ⟨ret_int (by simp only [Ty.depth]; omega), (hb5 _).trans (hb6.mono (hb5 _).size)⟩

/-- A type's depth; -1 for what is none. -/
def depthOf' (l : List UInt8) : Int := match tyOf l with | some t => (t.depth : Nat) | none => -1
theorem tyOf_depth {l : List UInt8} {t : Ty} (h : tyOf l = some t) : t.depth ≤ 60 := Nat.le_trans (depth_size t) (tyOf_size h)

set_option maxHeartbeats 400000 in
set_option maxRecDepth 100000 in
theorem depthI_at (s : ByteArray) (hs : s.size ≤ maxLen) (w : World) (k : Int) (hk : Hid (depthOf' s.data.toList = k)) :
    Calls Try.prog 21 #[.string s] w fun e w' => e = .returned (.int .i64 k) ∧ Below w.heap.size w w' := by
  go_enter Try.func21, Try.ntmps21
  go_wp2_with fail
  refine (readType_any s _ hs).mono ?_
  rintro e w1 ⟨hb, ⟨hn, rfl⟩ | ⟨t, T, b, hs1, rfl, hrep⟩⟩
  · go_wp2_with fail
    go_ret
    exact ⟨ret_int (by rw [← hk.out, depthOf', hn]), hb⟩
  · go_wp2_with fail
    refine (nodeDepth_any t _ _ _ _ hrep (tyOf_depth hs1)).mono ?_
    rintro e w' ⟨rfl, rfl⟩
    go_wp2_with fail
    go_ret
    exact ⟨ret_int (by rw [← hk.out, depthOf', hs1]), hb⟩

set_option maxHeartbeats 400000 in
set_option maxRecDepth 100000 in
theorem depthS_at (s : ByteArray) (hs : s.size ≤ maxLen) (w : World) (k : Int) (hk : Hid (depthOf' s.data.toList = k)) :
    Calls Try.prog 28 #[.string s] w fun e w' => e = .returned (.int .i64 k) ∧ Below w.heap.size w w' := by
  go_enter Try.func28, Try.ntmps28
  go_wp2_with fail
  refine (l1Read_any s _ hs).mono ?_
  rintro e w1 ⟨hb, ⟨hn, rfl⟩ | ⟨t, c, A, m, cap, hs1, rfl, hrep⟩⟩
  · go_wp2_with fail
    go_ret
    exact ⟨ret_int (by rw [← hk.out, depthOf', hn]), hb.alloc hb.size _⟩
  · go_wp2_with fail
    have hb1 : ∀ o, Below w1.heap.size w1 (w1.alloc o) := fun o => (Below.refl _ _).alloc (Nat.le_refl _) o
    refine (l1Depth_any t _ _ _ _ (hrep.below (fun g hg => hg.2) (hb1 _)) (fun g hg => Nat.lt_of_lt_of_le hg.2 (hb1 _).size) (tyOf_depth hs1)).mono ?_
    rintro e w2 ⟨rfl, hb2⟩
    go_wp2_with fail
    go_ret
    exact ⟨ret_int (by rw [← hk.out, depthOf', hs1]), (hb.alloc hb.size _).trans (hb2.mono (hb.alloc hb.size _).size)⟩

end Go.Proofs.Ytechacocfpobgaa

namespace Go.Proofs.Ytechacocfpobgaa
open Go.RowKit

theorem capB_idem (c : UInt8) : capB (capB c) = capB c := by
  refine u8_all (p := fun c => capB (capB c) = capB c) ?_ c
  decide +kernel
theorem renOf_no {l : List UInt8} (h : tyOf l = none) : renOf l = [] := by rw [renOf, if_neg (by rw [h]; decide)]
theorem renOf_yes {l : List UInt8} {T : Ty} (h : tyOf l = some T) : renOf l = l.map capB ∧ tyOf (renOf l) = some T.ren ∧ (renOf l).length = l.length ∧ renOf l ≠ [] := by
  obtain ⟨e, o, z⟩ := tyOf_text h
  have h1 : renOf l = l.map capB := by rw [renOf, if_pos (by rw [h]; rfl)]
  have h2 : renOf l = T.ren.text := by rw [h1, e, ren_text o]
  have h3 : (renOf l).length = l.length := by rw [h1, List.length_map]
  refine ⟨h1, ?_, h3, ?_⟩
  · rw [h2]
    exact tyOf_of (ren_ok o) (by rw [← h2, h3]; exact z)
  · intro hn
    have := text_pos T
    rw [hn, e] at h3
    simp at h3
    omega
theorem ren_size (T : Ty) : T.ren.size = T.size := by
  induction T with
  | lf c => rfl
  | un c a ih => simp [Ty.ren, Ty.size, ih]
  | bi c a b iha ihb => simp [Ty.ren, Ty.size, iha, ihb]
theorem ren_depth (T : Ty) : T.ren.depth = T.depth := by
  induction T with
  | lf c => rfl
  | un c a ih => simp [Ty.ren, Ty.depth, ih]
  | bi c a b iha ihb => simp [Ty.ren, Ty.depth, iha, ihb]
theorem renOf_idem {l : List UInt8} {T : Ty} (h : tyOf l = some T) : renOf (renOf l) = renOf l := by
  obtain ⟨h1, h2, _, _⟩ := renOf_yes h
  rw [(renOf_yes h2).1, h1, List.map_map]
  exact List.map_congr_left fun c _ => capB_idem c
theorem capB_small (c : UInt8) : ¬ (120 ≤ (capB c).toNat ∧ (capB c).toNat ≤ 122) := by
  refine u8_all (p := fun c => ¬ (120 ≤ (capB c).toNat ∧ (capB c).toNat ≤ 122)) ?_ c
  decide +kernel
theorem ren_vars {l : List UInt8} {T : Ty} (h : tyOf l = some T) {c : UInt8} (hc : c ∈ varsOf (renOf l)) : c.toNat ≤ 90 := by
  rw [varsOf, if_pos (by rw [(renOf_yes h).2.1]; rfl), varsIn, List.mem_filter] at hc
  obtain ⟨h1, h2⟩ := hc
  simp only [decide_eq_true_eq] at h2
  have h3 := List.count_pos_iff.1 h2
  rw [(renOf_yes h).1] at h3
  obtain ⟨d, _, rfl⟩ := List.mem_map.1 h3
  have h4 := capB_small d
  generalize capB d = e at *
  have h5 : e = 88 ∨ e = 89 ∨ e = 90 ∨ e = 120 ∨ e = 121 ∨ e = 122 := by simpa [V6] using h1
  rcases h5 with rfl | rfl | rfl | rfl | rfl | rfl <;> first | decide | exact absurd (by decide) h4
theorem ground_ren {l : List UInt8} (h : groundB l = true) : renOf l = l := by
  unfold groundB at h
  simp only [Bool.and_eq_true] at h
  obtain ⟨h1, h2⟩ := h
  obtain ⟨T, hT⟩ := Option.isSome_iff_exists.1 h1
  rw [(renOf_yes hT).1]
  have h3 : varsOf l = [] := by simpa using h2
  rw [varsOf, if_pos h1, varsIn, List.filter_eq_nil_iff] at h3
  have h5 : ∀ c, c ∈ l → capB c = c := by
    intro c hc
    refine capB_con c ?_
    rcases hv : isVarB c with _ | _
    · rfl
    · have : c ∈ V6.data.toList := by
        revert hv
        refine u8_all (p := fun c => isVarB c = true → c ∈ V6.data.toList) ?_ c
        decide +kernel
      have h4 := h3 c this
      simp only [decide_eq_true_eq] at h4
      exact absurd (List.count_pos_iff.2 hc) h4
  exact (List.map_congr_left h5).trans (List.map_id' l)

end Go.Proofs.Ytechacocfpobgaa
