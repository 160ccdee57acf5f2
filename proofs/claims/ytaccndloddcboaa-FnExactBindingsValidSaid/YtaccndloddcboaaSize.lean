/- SizeOf and DepthOf, in the program and in the model. -/
import Derived.Test.YtaccndloddcboaaSpecT
import Derived.LoopN
namespace Go.Proofs.Ytaccndloddcboaa
open Go.RowKit

def Ty.size : Ty → Nat
  | .lf _ => 1
  | .un _ a => 1 + a.size
  | .bi _ a b => 1 + a.size + b.size
def Ty.depth : Ty → Nat
  | .lf _ => 0
  | .un _ a => 1 + a.depth
  | .bi _ a b => max (1 + a.depth) (1 + b.depth)
theorem size_text (t : Ty) : t.size ≤ t.text.length := by
  induction t with
  | lf c => simp [Ty.size, Ty.text]
  | un c a ih => simp [Ty.size, Ty.text]; omega
  | bi c a b iha ihb => simp [Ty.size, Ty.text]; omega
theorem depth_size (t : Ty) : t.depth ≤ t.size := by
  induction t with
  | lf c => simp [Ty.size, Ty.depth]
  | un c a ih => simp [Ty.size, Ty.depth]; omega
  | bi c a b iha ihb => simp [Ty.size, Ty.depth]; omega

theorem m_var_parts (b : Nat) (w : World) : (method 314 133 (.pointer (some ⟨b, 0, none⟩)) "loop.example/instancesearch/impl.parts").run Try.prog w = .ok (207, .pointer (some ⟨b, 0, none⟩)) w := by kernel_rfl
theorem m_var_text (b : Nat) (w : World) : (method 314 133 (.pointer (some ⟨b, 0, none⟩)) "loop.example/instancesearch/impl.text").run Try.prog w = .ok (208, .pointer (some ⟨b, 0, none⟩)) w := by kernel_rfl
theorem m_con_parts (b : Nat) (w : World) : (method 314 162 (.pointer (some ⟨b, 0, none⟩)) "loop.example/instancesearch/impl.parts").run Try.prog w = .ok (214, .pointer (some ⟨b, 0, none⟩)) w := by kernel_rfl
theorem m_con_text (b : Nat) (w : World) : (method 314 162 (.pointer (some ⟨b, 0, none⟩)) "loop.example/instancesearch/impl.text").run Try.prog w = .ok (215, .pointer (some ⟨b, 0, none⟩)) w := by kernel_rfl
theorem m_cst_parts (b : Nat) (w : World) : (method 314 134 (.pointer (some ⟨b, 0, none⟩)) "loop.example/instancesearch/impl.parts").run Try.prog w = .ok (210, .pointer (some ⟨b, 0, none⟩)) w := by kernel_rfl
theorem m_cst_text (b : Nat) (w : World) : (method 314 134 (.pointer (some ⟨b, 0, none⟩)) "loop.example/instancesearch/impl.text").run Try.prog w = .ok (211, .pointer (some ⟨b, 0, none⟩)) w := by kernel_rfl

set_option maxHeartbeats 400000 in
theorem parts_var (b : Nat) (w : World) : Calls Try.prog 207 #[.pointer (some ⟨b, 0, none⟩)] w fun e w' => e = .returned (.slice none 0 0) ∧ w = w' := by
  go_enter Try.func207, Try.ntmps207
  go_wp2
  go_ret
  exact ⟨rfl, rfl⟩
set_option maxHeartbeats 400000 in
theorem parts_con (b : Nat) (w : World) : Calls Try.prog 214 #[.pointer (some ⟨b, 0, none⟩)] w fun e w' => e = .returned (.slice none 0 0) ∧ w = w' := by
  go_enter Try.func214, Try.ntmps214
  go_wp2
  go_ret
  exact ⟨rfl, rfl⟩
set_option maxHeartbeats 400000 in
theorem parts_cst (b : Nat) (g m cap : Nat) (w : World) (h : w.cell? ⟨b, 1, none⟩ = some (.slice (some ⟨g, 0, none⟩) m cap)) : Calls Try.prog 210 #[.pointer (some ⟨b, 0, none⟩)] w fun e w' => e = .returned (.slice (some ⟨g, 0, none⟩) m cap) ∧ w = w' := by
  go_enter Try.func210, Try.ntmps210
  go_wp2
  go_ret
  exact ⟨rfl, rfl⟩

set_option maxHeartbeats 1000000 in
set_option maxRecDepth 100000 in
theorem nodeSize_any (t : Ty) : ∀ (lo hi : Nat) (v : Value) (w : World), Rep w lo hi t v → t.size ≤ 60 →
    Calls Try.prog 88 #[v] w fun e w' => e = .returned (.int .i64 t.size) ∧ w = w' := by
  induction t with
  | lf c =>
    rintro lo hi v w ⟨b, h1, h2, ⟨hv, rfl, hb⟩ | ⟨hv, rfl, hb⟩⟩ hsz
    · have hm := m_var_parts b
      go_enter Try.func88, Try.ntmps88
      go_wp2_with (go_at_call 207; refine (parts_var _ _).mono ?_; rintro e w' ⟨rfl, rfl⟩)
      refine wp_loop_rounds 1 ?_
      rw [rounds_succ]
      go_wp2_with fail
      go_ret
      exact ⟨rfl, rfl⟩
    · have hm := m_con_parts b
      go_enter Try.func88, Try.ntmps88
      go_wp2_with (go_at_call 214; refine (parts_con _ _).mono ?_; rintro e w' ⟨rfl, rfl⟩)
      refine wp_loop_rounds 1 ?_
      rw [rounds_succ]
      go_wp2_with fail
      go_ret
      exact ⟨rfl, rfl⟩
  | un c a ih =>
    rintro lo hi v w ⟨b, g, cap, x, h1, h2, h3, h4, rfl, hb, hx, hrep⟩ hsz
    obtain ⟨c0, c1, _⟩ := two_cells hb
    have hm := m_cst_parts b
    have z : a.size ≤ 60 := by simp [Ty.size] at hsz; omega
    have hz : (0 : Int) ≤ (a.size : Int) := by omega
    have HB := hid hb
    have HX := hid hx
    clear hb
    go_enter Try.func88, Try.ntmps88
    go_wp2_with (go_at_call 210; refine (parts_cst _ _ _ _ _ c1).mono ?_; rintro e w' ⟨rfl, rfl⟩)
    refine wp_loop_rounds 2 ?_
    rw [rounds_succ]
    go_wp2_with fail
    refine (ih lo hi x _ hrep z).mono ?_
    rintro e w' ⟨rfl, rfl⟩
    go_wp2_with fail
    rw [rounds_succ]
    go_wp2_with fail
    go_ret
    exact ⟨ret_int (by simp [Ty.size]), rfl⟩
  | bi c a a' iha ihb =>
    rintro lo hi v w ⟨b, g, cap, x, x', h1, h2, h3, h4, rfl, hb, hx, hx', hrep, hrep'⟩ hsz
    obtain ⟨c0, c1, _⟩ := two_cells hb
    have hm := m_cst_parts b
    have z : a.size ≤ 60 := by simp [Ty.size] at hsz; omega
    have z' : a'.size ≤ 60 := by simp [Ty.size] at hsz; omega
    have HB := hid hb
    clear hb
    go_enter Try.func88, Try.ntmps88
    go_wp2_with (go_at_call 210; refine (parts_cst _ _ _ _ _ c1).mono ?_; rintro e w' ⟨rfl, rfl⟩)
    refine wp_loop_rounds 3 ?_
    rw [rounds_succ]
    go_wp2_with fail
    refine (iha lo hi x _ hrep z).mono ?_
    rintro e w' ⟨rfl, rfl⟩
    go_wp2_with fail
    rw [rounds_succ]
    go_wp2_with fail
    refine (ihb lo hi x' _ hrep' z').mono ?_
    rintro e w' ⟨rfl, rfl⟩
    go_wp2_with fail
    rw [rounds_succ]
    go_wp2_with fail
    go_ret
    exact ⟨ret_int (by simp [Ty.size]), rfl⟩

theorem cell_below {w w' : World} {g k : Nat} {x : Value} (h : w.cell? ⟨g, k, none⟩ = some x) (hg : g < w.heap.size) (hb : Below w.heap.size w w') : w'.cell? ⟨g, k, none⟩ = some x :=
  (hb.cell (p := ⟨g, k, none⟩) hg).trans h
theorem RepN.form {w : World} {S : Nat → Prop} {t : Ty} {h p : Value} (hr : RepN w S t h p) : ∃ (c : UInt8) (A : Option Addr) (m cap : Nat), h = .int .u8 c.toNat ∧ p = .slice A m cap := by
  cases t with
  | lf c => obtain ⟨h1, A, cap, h2⟩ := hr; exact ⟨c, A, 0, cap, h1, h2⟩
  | un c a => obtain ⟨h1, g, cap, _, _, h2, _⟩ := hr; exact ⟨c, _, 1, cap, h1, h2⟩
  | bi c a b => obtain ⟨h1, g, cap, _, _, _, _, h2, _⟩ := hr; exact ⟨c, _, 2, cap, h1, h2⟩
theorem RepN.below {w w' : World} {S : Nat → Prop} {t : Ty} {h p : Value} (hr : RepN w S t h p) (hS : ∀ g, S g → g < w.heap.size) (hb : Below w.heap.size w w') : RepN w' S t h p :=
  hr.keep fun g hg => ⟨hg, hb.block g (hS g hg)⟩

set_option maxHeartbeats 1000000 in
set_option maxRecDepth 100000 in
theorem l1Size_any (t : Ty) : ∀ (S : Nat → Prop) (h p : Value) (w : World), RepN w S t h p → (∀ g, S g → g < w.heap.size) → t.size ≤ 60 →
    Calls Try.prog 91 #[.agg #[h, p]] w fun e w' => e = .returned (.int .i64 t.size) ∧ Below w.heap.size w w' := by
  induction t with
  | lf c =>
    rintro S h p w ⟨rfl, A, cap, rfl⟩ hS hsz
    go_enter Try.func91, Try.ntmps91
    go_wp2_with fail
    refine wp_loop_rounds 1 ?_
    rw [rounds_succ]
    go_wp2_with fail
    go_ret
    exact ⟨rfl, (Below.refl _ _).alloc (Nat.le_refl _) _⟩
  | un c a ih =>
    rintro S h p w ⟨rfl, g, cap, x, y, rfl, hg, hx, hy, hrep⟩ hS hsz
    have hgl := hS g hg
    obtain ⟨c1, A1, m1, cap1, rfl, rfl⟩ := hrep.form
    have z : a.size ≤ 60 := by simp [Ty.size] at hsz; omega
    have hz : (0 : Int) ≤ (a.size : Int) := by omega
    have fx : ∀ o, (w.alloc o).cell? ⟨g, 0, none⟩ = some (.int .u8 c1.toNat) := fun o => cell_below hx hgl ((Below.refl _ _).alloc (Nat.le_refl _) o)
    have fy : ∀ o, (w.alloc o).cell? ⟨g, 1, none⟩ = some (.slice A1 m1 cap1) := fun o => cell_below hy hgl ((Below.refl _ _).alloc (Nat.le_refl _) o)
    have HX := hid hx
    have HY := hid hy
    clear hx hy
    go_enter Try.func91, Try.ntmps91
    go_wp2_with fail
    refine wp_loop_rounds 2 ?_
    rw [rounds_succ]
    go_wp2_with fail
    have hb2 : ∀ o o', Below w.heap.size w ((w.alloc o).alloc o') := fun o o' => ((Below.refl _ _).alloc (Nat.le_refl _) o).alloc (by simp only [World.size_alloc]; omega) o'
    refine (ih S _ _ _ (hrep.below hS (hb2 _ _)) (fun g hg => Nat.lt_of_lt_of_le (hS g hg) (hb2 _ _).size) z).mono ?_
    rintro e w2 ⟨rfl, hb3⟩
    go_wp2_with fail
    rw [rounds_succ]
    go_wp2_with fail
    go_ret
    exact ⟨ret_int (by simp [Ty.size]), (hb2 _ _).trans (hb3.mono (hb2 _ _).size)⟩
  | bi c a a' iha ihb =>
    rintro S h p w ⟨rfl, g, cap, x, y, x', y', rfl, hg, hx, hy, hx', hy', hrep, hrep'⟩ hS hsz
    have hgl := hS g hg
    obtain ⟨c1, A1, m1, cap1, rfl, rfl⟩ := hrep.form
    obtain ⟨c2, A2, m2, cap2, rfl, rfl⟩ := hrep'.form
    have z : a.size ≤ 60 := by simp [Ty.size] at hsz; omega
    have z' : a'.size ≤ 60 := by simp [Ty.size] at hsz; omega
    have hz : (0 : Int) ≤ (a.size : Int) := by omega
    have hz' : (0 : Int) ≤ (a'.size : Int) := by omega
    have fx : ∀ o, (w.alloc o).cell? ⟨g, 0, none⟩ = some (.int .u8 c1.toNat) := fun o => cell_below hx hgl ((Below.refl _ _).alloc (Nat.le_refl _) o)
    have fy : ∀ o, (w.alloc o).cell? ⟨g, 1, none⟩ = some (.slice A1 m1 cap1) := fun o => cell_below hy hgl ((Below.refl _ _).alloc (Nat.le_refl _) o)
    have HX := hid hx
    have HY := hid hy
    have HX' := hid hx'
    have HY' := hid hy'
    clear hx hy hx' hy'
    go_enter Try.func91, Try.ntmps91
    go_wp2_with fail
    refine wp_loop_rounds 3 ?_
    rw [rounds_succ]
    go_wp2_with fail
    have hb2 : ∀ o o', Below w.heap.size w ((w.alloc o).alloc o') := fun o o' => ((Below.refl _ _).alloc (Nat.le_refl _) o).alloc (by simp only [World.size_alloc]; omega) o'
    refine (iha S _ _ _ (hrep.below hS (hb2 _ _)) (fun g hg => Nat.lt_of_lt_of_le (hS g hg) (hb2 _ _).size) z).mono ?_
    rintro e w2 ⟨rfl, hb3⟩
    have hb4 := (hb2 _ _).trans (hb3.mono (hb2 _ _).size)
    have gx := cell_below HX'.out hgl hb4
    have gy := cell_below HY'.out hgl hb4
    go_wp2_with fail
    rw [rounds_succ]
    go_wp2_with fail
    have hb5 : ∀ o, Below w.heap.size w (w2.alloc o) := fun o => hb4.alloc hb4.size o
    refine (ihb S _ _ _ (hrep'.below hS (hb5 _)) (fun g hg => Nat.lt_of_lt_of_le (hS g hg) (hb5 _).size) z').mono ?_
    rintro e w3 ⟨rfl, hb6⟩
    go_wp2_with fail
    rw [rounds_succ]
    go_wp2_with fail
    go_ret
    exact ⟨ret_int (by simp [Ty.size]), (hb5 _).trans (hb6.mono (hb5 _).size)⟩

/-- A type's size; -1 for what is none. -/
def sizeOf' (l : List UInt8) : Int := match tyOf l with | some t => (t.size : Nat) | none => -1
theorem tyOf_size {l : List UInt8} {t : Ty} (h : tyOf l = some t) : t.size ≤ 60 := by
  obtain ⟨e, _, hl⟩ := tyOf_text h
  have := size_text t
  rw [e] at hl
  omega

set_option maxHeartbeats 400000 in
set_option maxRecDepth 100000 in
theorem sizeI_at (s : ByteArray) (hs : s.size ≤ maxLen) (w : World) (k : Int) (hk : Hid (sizeOf' s.data.toList = k)) :
    Calls Try.prog 35 #[.string s] w fun e w' => e = .returned (.int .i64 k) ∧ Below w.heap.size w w' := by
  go_enter Try.func35, Try.ntmps35
  go_wp2_with fail
  refine (readType_any s _ hs).mono ?_
  rintro e w1 ⟨hb, ⟨hn, rfl⟩ | ⟨t, T, b, hs1, rfl, hrep⟩⟩
  · go_wp2_with fail
    go_ret
    exact ⟨ret_int (by rw [← hk.out, sizeOf', hn]), hb⟩
  · go_wp2_with fail
    refine (nodeSize_any t _ _ _ _ hrep (tyOf_size hs1)).mono ?_
    rintro e w' ⟨rfl, rfl⟩
    go_wp2_with fail
    go_ret
    exact ⟨ret_int (by rw [← hk.out, sizeOf', hs1]), hb⟩

set_option maxHeartbeats 400000 in
set_option maxRecDepth 100000 in
theorem sizeS_at (s : ByteArray) (hs : s.size ≤ maxLen) (w : World) (k : Int) (hk : Hid (sizeOf' s.data.toList = k)) :
    Calls Try.prog 42 #[.string s] w fun e w' => e = .returned (.int .i64 k) ∧ Below w.heap.size w w' := by
  go_enter Try.func42, Try.ntmps42
  go_wp2_with fail
  refine (l1Read_any s _ hs).mono ?_
  rintro e w1 ⟨hb, ⟨hn, rfl⟩ | ⟨t, c, A, m, cap, hs1, rfl, hrep⟩⟩
  · go_wp2_with fail
    go_ret
    exact ⟨ret_int (by rw [← hk.out, sizeOf', hn]), hb.alloc hb.size _⟩
  · go_wp2_with fail
    have hb1 : ∀ o, Below w1.heap.size w1 (w1.alloc o) := fun o => (Below.refl _ _).alloc (Nat.le_refl _) o
    refine (l1Size_any t _ _ _ _ (hrep.below (fun g hg => hg.2) (hb1 _)) (fun g hg => Nat.lt_of_lt_of_le hg.2 (hb1 _).size) (tyOf_size hs1)).mono ?_
    rintro e w2 ⟨rfl, hb2⟩
    go_wp2_with fail
    go_ret
    exact ⟨ret_int (by rw [← hk.out, sizeOf', hs1]), (hb.alloc hb.size _).trans (hb2.mono (hb.alloc hb.size _).size)⟩

end Go.Proofs.Ytaccndloddcboaa
