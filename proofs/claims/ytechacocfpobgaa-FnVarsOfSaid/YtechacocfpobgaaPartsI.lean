/- SizeOf and DepthOf, in the program and in the model. The functions of chapter 1 that look at a type's text alone: HeadOf, CountVar, VarsOf, IsGround, in the program and in the model. The program's text of a node and of its parts: text, partTexts, joinType; and so PartsOf. -/
import Derived.Test.YtechacocfpobgaaSpecT
import Derived.LoopN
import Derived.Test.YtechacocfpobgaaJoin
namespace Go.Proofs.Ytechacocfpobgaa
open Go.RowKit

def Ty.size : Ty → Nat
  | .lf _ => 1
  | .un _ a => 1 + a.size
  | .bi _ a b => 1 + a.size + b.size
def Ty.depth : Ty → Nat
  | .lf _ => 0
  | .un _ a => 1 + a.depth
  | .bi _ a b => max (1 + a.depth) (1 + b.depth)
theorem size_text (t : Ty) : t.size ≤ t.text.length := by
  induction t with
  | lf c => simp [Ty.size, Ty.text]
  | un c a ih => simp [Ty.size, Ty.text]; omega
  | bi c a b iha ihb => simp [Ty.size, Ty.text]; omega
theorem depth_size (t : Ty) : t.depth ≤ t.size := by
  induction t with
  | lf c => simp [Ty.size, Ty.depth]
  | un c a ih => simp [Ty.size, Ty.depth]; omega
  | bi c a b iha ihb => simp [Ty.size, Ty.depth]; omega

theorem m_var_parts (b : Nat) (w : World) : (method 256 105 (.pointer (some ⟨b, 0, none⟩)) "loop.example/instancesearch/impl.parts").run Try.prog w = .ok (127, .pointer (some ⟨b, 0, none⟩)) w := by kernel_rfl
theorem m_var_text (b : Nat) (w : World) : (method 256 105 (.pointer (some ⟨b, 0, none⟩)) "loop.example/instancesearch/impl.text").run Try.prog w = .ok (128, .pointer (some ⟨b, 0, none⟩)) w := by kernel_rfl
theorem m_con_parts (b : Nat) (w : World) : (method 256 129 (.pointer (some ⟨b, 0, none⟩)) "loop.example/instancesearch/impl.parts").run Try.prog w = .ok (134, .pointer (some ⟨b, 0, none⟩)) w := by kernel_rfl
theorem m_con_text (b : Nat) (w : World) : (method 256 129 (.pointer (some ⟨b, 0, none⟩)) "loop.example/instancesearch/impl.text").run Try.prog w = .ok (135, .pointer (some ⟨b, 0, none⟩)) w := by kernel_rfl
theorem m_cst_parts (b : Nat) (w : World) : (method 256 106 (.pointer (some ⟨b, 0, none⟩)) "loop.example/instancesearch/impl.parts").run Try.prog w = .ok (130, .pointer (some ⟨b, 0, none⟩)) w := by kernel_rfl
theorem m_cst_text (b : Nat) (w : World) : (method 256 106 (.pointer (some ⟨b, 0, none⟩)) "loop.example/instancesearch/impl.text").run Try.prog w = .ok (131, .pointer (some ⟨b, 0, none⟩)) w := by kernel_rfl

set_option maxHeartbeats 400000 in
theorem parts_var (b : Nat) (w : World) : Calls Try.prog 127 #[.pointer (some ⟨b, 0, none⟩)] w fun e w' => e = .returned (.slice none 0 0) ∧ w = w' := by
  go_enter Try.func127, Try.ntmps127
  go_wp2
  go_ret
  exact ⟨rfl, rfl⟩
set_option maxHeartbeats 400000 in
theorem parts_con (b : Nat) (w : World) : Calls Try.prog 134 #[.pointer (some ⟨b, 0, none⟩)] w fun e w' => e = .returned (.slice none 0 0) ∧ w = w' := by
  go_enter Try.func134, Try.ntmps134
  go_wp2
  go_ret
  exact ⟨rfl, rfl⟩
set_option maxHeartbeats 400000 in
theorem parts_cst (b : Nat) (g m cap : Nat) (w : World) (h : w.cell? ⟨b, 1, none⟩ = some (.slice (some ⟨g, 0, none⟩) m cap)) : Calls Try.prog 130 #[.pointer (some ⟨b, 0, none⟩)] w fun e w' => e = .returned (.slice (some ⟨g, 0, none⟩) m cap) ∧ w = w' := by
  go_enter Try.func130, Try.ntmps130
  go_wp2
  go_ret
  exact ⟨rfl, rfl⟩

set_option maxHeartbeats 1000000 in
set_option maxRecDepth 100000 in
theorem nodeSize_any (t : Ty) : ∀ (lo hi : Nat) (v : Value) (w : World), Rep w lo hi t v → t.size ≤ 60 →
    Calls Try.prog 60 #[v] w fun e w' => e = .returned (.int .i64 t.size) ∧ w = w' := by
  induction t with
  | lf c =>
    rintro lo hi v w ⟨b, h1, h2, ⟨hv, rfl, hb⟩ | ⟨hv, rfl, hb⟩⟩ hsz
    · have hm := m_var_parts b
      go_enter Try.func60, Try.ntmps60
      go_wp2_with (go_at_call 127; refine (parts_var _ _).mono ?_; rintro e w' ⟨rfl, rfl⟩)
      refine wp_loop_rounds 1 ?_
      rw [rounds_succ]
      go_wp2_with fail
      go_ret
      exact ⟨rfl, rfl⟩
    · have hm := m_con_parts b
      go_enter Try.func60, Try.ntmps60
      go_wp2_with (go_at_call 134; refine (parts_con _ _).mono ?_; rintro e w' ⟨rfl, rfl⟩)
      refine wp_loop_rounds 1 ?_
      rw [rounds_succ]
      go_wp2_with fail
      go_ret
      exact ⟨rfl, rfl⟩
  | un c a ih =>
    rintro lo hi v w ⟨b, g, cap, x, h1, h2, h3, h4, rfl, hb, hx, hrep⟩ hsz
    obtain ⟨c0, c1, _⟩ := two_cells hb
    have hm := m_cst_parts b
    have z : a.size ≤ 60 := by simp [Ty.size] at hsz; omega
    have hz : (0 : Int) ≤ (a.size : Int) := by omega
    have HB := hid hb
    have HX := hid hx
    clear hb
    go_enter Try.func60, Try.ntmps60
    go_wp2_with (go_at_call 130; refine (parts_cst _ _ _ _ _ c1).mono ?_; rintro e w' ⟨rfl, rfl⟩)
    refine wp_loop_rounds 2 ?_
    rw [rounds_succ]
    go_wp2_with fail
    refine (ih lo hi x _ hrep z).mono ?_
    rintro e w' ⟨rfl, rfl⟩
    go_wp2_with fail
    rw [rounds_succ]
    go_wp2_with fail
    go_ret
    exact ⟨ret_int (by simp [Ty.size]), rfl⟩
  | bi c a a' iha ihb =>
    rintro lo hi v w ⟨b, g, cap, x, x', h1, h2, h3, h4, rfl, hb, hx, hx', hrep, hrep'⟩ hsz
    obtain ⟨c0, c1, _⟩ := two_cells hb
    have hm := m_cst_parts b
    have z : a.size ≤ 60 := by simp [Ty.size] at hsz; omega
    have z' : a'.size ≤ 60 := by simp [Ty.size] at hsz; omega
    have HB := hid hb
    clear hb
    go_enter Try.func60, Try.ntmps60
    go_wp2_with (go_at_call 130; refine (parts_cst _ _ _ _ _ c1).mono ?_; rintro e w' ⟨rfl, rfl⟩)
    refine wp_loop_rounds 3 ?_
    rw [rounds_succ]
    go_wp2_with fail
    refine (iha lo hi x _ hrep z).mono ?_
    rintro e w' ⟨rfl, rfl⟩
    go_wp2_with fail
    rw [rounds_succ]
    go_wp2_with fail
    refine (ihb lo hi x' _ hrep' z').mono ?_
    rintro e w' ⟨rfl, rfl⟩
    go_wp2_with fail
    rw [rounds_succ]
    go_wp2_with fail
    go_ret
    exact ⟨ret_int (by simp [Ty.size]), rfl⟩

theorem cell_below {w w' : World} {g k : Nat} {x : Value} (h : w.cell? ⟨g, k, none⟩ = some x) (hg : g < w.heap.size) (hb : Below w.heap.size w w') : w'.cell? ⟨g, k, none⟩ = some x :=
  (hb.cell (p := ⟨g, k, none⟩) hg).trans h
theorem RepN.form {w : World} {S : Nat → Prop} {t : Ty} {h p : Value} (hr : RepN w S t h p) : ∃ (c : UInt8) (A : Option Addr) (m cap : Nat), h = .int .u8 c.toNat ∧ p = .slice A m cap := by
  cases t with
  | lf c => obtain ⟨h1, A, cap, h2⟩ := hr; exact ⟨c, A, 0, cap, h1, h2⟩
  | un c a => obtain ⟨h1, g, cap, _, _, h2, _⟩ := hr; exact ⟨c, _, 1, cap, h1, h2⟩
  | bi c a b => obtain ⟨h1, g, cap, _, _, _, _, h2, _⟩ := hr; exact ⟨c, _, 2, cap, h1, h2⟩
theorem RepN.below {w w' : World} {S : Nat → Prop} {t : Ty} {h p : Value} (hr : RepN w S t h p) (hS : ∀ g, S g → g < w.heap.size) (hb : Below w.heap.size w w') : RepN w' S t h p :=
  hr.keep fun g hg => ⟨hg, hb.block g (hS g hg)⟩

set_option maxHeartbeats 1000000 in
set_option maxRecDepth 100000 in
theorem l1Size_any (t : Ty) : ∀ (S : Nat → Prop) (h p : Value) (w : World), RepN w S t h p → (∀ g, S g → g < w.heap.size) → t.size ≤ 60 →
    Calls Try.prog 63 #[.agg #[h, p]] w fun e w' => e = .returned (.int .i64 t.size) ∧ Below w.heap.size w w' := by
  induction t with
  | lf c =>
    rintro S h p w ⟨rfl, A, cap, rfl⟩ hS hsz
    go_enter Try.func63, Try.ntmps63
    go_wp2_with fail
    refine wp_loop_rounds 1 ?_
    rw [rounds_succ]
    go_wp2_with fail
    go_ret
    exact ⟨rfl, (Below.refl _ _).alloc (Nat.le_refl _) _⟩
  | un c a ih =>
    rintro S h p w ⟨rfl, g, cap, x, y, rfl, hg, hx, hy, hrep⟩ hS hsz
    have hgl := hS g hg
    obtain ⟨c1, A1, m1, cap1, rfl, rfl⟩ := hrep.form
    have z : a.size ≤ 60 := by simp [Ty.size] at hsz; omega
    have hz : (0 : Int) ≤ (a.size : Int) := by omega
    have fx : ∀ o, (w.alloc o).cell? ⟨g, 0, none⟩ = some (.int .u8 c1.toNat) := fun o => cell_below hx hgl ((Below.refl _ _).alloc (Nat.le_refl _) o)
    have fy : ∀ o, (w.alloc o).cell? ⟨g, 1, none⟩ = some (.slice A1 m1 cap1) := fun o => cell_below hy hgl ((Below.refl _ _).alloc (Nat.le_refl _) o)
    have HX := hid hx
    have HY := hid hy
    clear hx hy
    go_enter Try.func63, Try.ntmps63
    go_wp2_with fail
    refine wp_loop_rounds 2 ?_
    rw [rounds_succ]
    go_wp2_with fail
    have hb2 : ∀ o o', Below w.heap.size w ((w.alloc o).alloc o') := fun o o' => ((Below.refl _ _).alloc (Nat.le_refl _) o).alloc (by simp only [World.size_alloc]; omega) o'
    refine (ih S _ _ _ (hrep.below hS (hb2 _ _)) (fun g hg => Nat.lt_of_lt_of_le (hS g hg) (hb2 _ _).size) z).mono ?_
    rintro e w2 ⟨rfl, hb3⟩
    go_wp2_with fail
    rw [rounds_succ]
    go_wp2_with fail
    go_ret
    exact ⟨ret_int (by simp [Ty.size]), (hb2 _ _).trans (hb3.mono (hb2 _ _).size)⟩
  | bi c a a' iha ihb =>
    rintro S h p w ⟨rfl, g, cap, x, y, x', y', rfl, hg, hx, hy, hx', hy', hrep, hrep'⟩ hS hsz
    have hgl := hS g hg
    obtain ⟨c1, A1, m1, cap1, rfl, rfl⟩ := hrep.form
    obtain ⟨c2, A2, m2, cap2, rfl, rfl⟩ := hrep'.form
    have z : a.size ≤ 60 := by simp [Ty.size] at hsz; omega
    have z' : a'.size ≤ 60 := by simp [Ty.size] at hsz; omega
    have hz : (0 : Int) ≤ (a.size : Int) := by omega
    have hz' : (0 : Int) ≤ (a'.size : Int) := by omega
    have fx : ∀ o, (w.alloc o).cell? ⟨g, 0, none⟩ = some (.int .u8 c1.toNat) := fun o => cell_below hx hgl ((Below.refl _ _).alloc (Nat.le_refl _) o)
    have fy : ∀ o, (w.alloc o).cell? ⟨g, 1, none⟩ = some (.slice A1 m1 cap1) := fun o => cell_below hy hgl ((Below.refl _ _).alloc (Nat.le_refl _) o)
    have HX := hid hx
    have HY := hid hy
    have HX' := hid hx'
    have HY' := hid hy'
    clear hx hy hx' hy'
    go_enter Try.func63, Try.ntmps63
    go_wp2_with fail
    refine wp_loop_rounds 3 ?_
    rw [rounds_succ]
    go_wp2_with fail
    have hb2 : ∀ o o', Below w.heap.size w ((w.alloc o).alloc o') := fun o o' => ((Below.refl _ _).alloc (Nat.le_refl _) o).alloc (by simp only [World.size_alloc]; omega) o'
    refine (iha S _ _ _ (hrep.below hS (hb2 _ _)) (fun g hg => Nat.lt_of_lt_of_le (hS g hg) (hb2 _ _).size) z).mono ?_
    rintro e w2 ⟨rfl, hb3⟩
    have hb4 := (hb2 _ _).trans (hb3.mono (hb2 _ _).size)
    have gx := cell_below HX'.out hgl hb4
    have gy := cell_below HY'.out hgl hb4
    go_wp2_with fail
    rw [rounds_succ]
    go_wp2_with fail
    have hb5 : ∀ o, Below w.heap.size w (w2.alloc o) := fun o => hb4.alloc hb4.size o
    refine (ihb S _ _ _ (hrep'.below hS (hb5 _)) (fun g hg => Nat.lt_of_lt_of_le (hS g hg) (hb5 _).size) z').mono ?_
    rintro e w3 ⟨rfl, hb6⟩
    go_wp2_with fail
    rw [rounds_succ]
    go_wp2_with fail
    go_ret
    exact ⟨ret_int (by simp [Ty.size]), (hb5 _).trans (hb6.mono (hb5 _).size)⟩

/-- A type's size; -1 for what is none. -/
def sizeOf' (l : List UInt8) : Int := match tyOf l with | some t => (t.size : Nat) | none => -1
theorem tyOf_size {l : List UInt8} {t : Ty} (h : tyOf l = some t) : t.size ≤ 60 := by
  obtain ⟨e, _, hl⟩ := tyOf_text h
  have := size_text t
  rw [e] at hl
  omega

set_option maxHeartbeats 400000 in
set_option maxRecDepth 100000 in
theorem sizeI_at (s : ByteArray) (hs : s.size ≤ maxLen) (w : World) (k : Int) (hk : Hid (sizeOf' s.data.toList = k)) :
    Calls Try.prog 20 #[.string s] w fun e w' => e = .returned (.int .i64 k) ∧ Below w.heap.size w w' := by
  go_enter Try.func20, Try.ntmps20
  go_wp2_with fail
  refine (readType_any s _ hs).mono ?_
  rintro e w1 ⟨hb, ⟨hn, rfl⟩ | ⟨t, T, b, hs1, rfl, hrep⟩⟩
  · go_wp2_with fail
    go_ret
    exact ⟨ret_int (by rw [← hk.out, sizeOf', hn]), hb⟩
  · go_wp2_with fail
    refine (nodeSize_any t _ _ _ _ hrep (tyOf_size hs1)).mono ?_
    rintro e w' ⟨rfl, rfl⟩
    go_wp2_with fail
    go_ret
    exact ⟨ret_int (by rw [← hk.out, sizeOf', hs1]), hb⟩

set_option maxHeartbeats 400000 in
set_option maxRecDepth 100000 in
theorem sizeS_at (s : ByteArray) (hs : s.size ≤ maxLen) (w : World) (k : Int) (hk : Hid (sizeOf' s.data.toList = k)) :
    Calls Try.prog 27 #[.string s] w fun e w' => e = .returned (.int .i64 k) ∧ Below w.heap.size w w' := by
  go_enter Try.func27, Try.ntmps27
  go_wp2_with fail
  refine (l1Read_any s _ hs).mono ?_
  rintro e w1 ⟨hb, ⟨hn, rfl⟩ | ⟨t, c, A, m, cap, hs1, rfl, hrep⟩⟩
  · go_wp2_with fail
    go_ret
    exact ⟨ret_int (by rw [← hk.out, sizeOf', hn]), hb.alloc hb.size _⟩
  · go_wp2_with fail
    have hb1 : ∀ o, Below w1.heap.size w1 (w1.alloc o) := fun o => (Below.refl _ _).alloc (Nat.le_refl _) o
    refine (l1Size_any t _ _ _ _ (hrep.below (fun g hg => hg.2) (hb1 _)) (fun g hg => Nat.lt_of_lt_of_le hg.2 (hb1 _).size) (tyOf_size hs1)).mono ?_
    rintro e w2 ⟨rfl, hb2⟩
    go_wp2_with fail
    go_ret
    exact ⟨ret_int (by rw [← hk.out, sizeOf', hs1]), (hb.alloc hb.size _).trans (hb2.mono (hb.alloc hb.size _).size)⟩

end Go.Proofs.Ytechacocfpobgaa

namespace Go.Proofs.Ytechacocfpobgaa
open Go.RowKit

/-- A string out of a list of bytes. -/
def strOf (l : List UInt8) : ByteArray := ⟨l.toArray⟩
theorem strOf_list (l : List UInt8) : (strOf l).data.toList = l := by simp [strOf]
theorem strOf_eq {s : ByteArray} {l : List UInt8} (h : s.data.toList = l) : s = strOf l := by
  cases s with
  | mk d =>
    cases d with
    | mk x => simp at h; subst h; rfl

theorem ascii_of (c : UInt8) (h : 0 ≤ ar c) : c.toNat < 128 := by
  revert h
  refine u8_all (p := fun c => 0 ≤ ar c → c.toNat < 128) ?_ c
  decide +kernel

theorem encode_ascii (c : UInt8) (h : c.toNat < 128) : Utf8.encode (c.toNat : Nat) = strOf [c] := by
  revert h
  refine u8_all (p := fun c => c.toNat < 128 → Utf8.encode (c.toNat : Nat) = strOf [c]) ?_ c
  decide +kernel

set_option maxHeartbeats 400000 in
set_option maxRecDepth 100000 in
theorem letterText_any (c : UInt8) (hc : c.toNat < 128) (w : World) :
    Calls Try.prog 52 #[.int .u8 c.toNat] w fun e w' => e = .returned (.string (strOf [c])) ∧ w' = w := by
  go_enter Try.func52, Try.ntmps52
  go_wp2
  go_ret
  exact ⟨by show Ending.returned (.string (Utf8.encode (c.toNat : Nat))) = _; rw [encode_ascii c hc], rfl⟩

theorem take_snoc (s : ByteArray) (k : Nat) (h : k < s.size) : s.data.toList.take (k + 1) = s.data.toList.take k ++ [s[k]] := by
  rw [List.take_succ_eq_append_getElem (by simpa using h)]; rfl
theorem count_snoc (s : ByteArray) (c : UInt8) (k : Nat) (h : k < s.size) :
    ((s.data.toList.take (k + 1)).count c : Nat) = (s.data.toList.take k).count c + (if ((s[k].toNat : Int) == c.toNat) = true then 1 else 0) := by
  rw [take_snoc s k h, List.count_append]
  congr 1
  by_cases e : s[k] = c
  · simp [e]
  · have h1 : ¬ (s[k].toNat = c.toNat) := fun h => e (UInt8.toNat_inj.1 h)
    have h2 : ¬ ((s[k].toNat : Int) = c.toNat) := by omega
    simp [e, h2]

set_option maxHeartbeats 400000 in
set_option maxRecDepth 100000 in
theorem countLetter_any (s : ByteArray) (c : UInt8) (hs : s.size ≤ maxLen) (ha : ∀ i, (h : i < s.size) → (s[i]'h).toNat < 128) (w : World) :
    Calls Try.prog 62 #[.string s, .int .i32 c.toNat] w fun e w' => e = .returned (.int .i64 (s.data.toList.count c)) ∧ Below w.heap.size w w' := by
  unfold maxLen at hs
  go_enter Try.func62, Try.ntmps62
  go_wp2
  go_loopw [5] (fun n w' => ∃ (pos : Nat), pos ≤ s.size ∧ w' = w.iter s pos ∧ n = .int .i64 ((s.data.toList.take pos).count c : Nat)) (fun _ w' => s.size - w'.iterPos w.heap.size)
  case atStart => exact ⟨0, Nat.zero_le _, rfl, rfl⟩
  case round =>
    obtain ⟨pos, hp, rfl, rfl⟩ := hrel
    by_cases hlt : pos < s.size
    · have hnx : ∀ ty, (Instr.next (.pointer (some ⟨w.heap.size, 0, none⟩)) true ty).run Try.prog (w.iter s pos) = _ := fun ty => run_next_ascii w s pos ty hlt (ha pos hlt)
      have hcnt : (s.data.toList.take pos).count c ≤ pos := Nat.le_trans List.count_le_length (List.length_take_le _ _)
      have hsn := count_snoc s c pos hlt
      have HSN := hid hsn
      clear hsn
      go_wp2
      · have h : (↑s[pos].toNat == (c.toNat : Int)) = true := by assumption
        go_roundw
        case rel => exact ⟨pos + 1, hlt, rfl, by rw [HSN.out, if_pos h]; go_num⟩
        case measure => simp; omega
      · have h : (↑s[pos].toNat == (c.toNat : Int)) = false := by assumption
        go_roundw
        case rel => exact ⟨pos + 1, hlt, rfl, by rw [HSN.out, if_neg (by rw [h]; decide)]; rfl⟩
        case measure => simp; omega
    · have hnx : ∀ ty, (Instr.next (.pointer (some ⟨w.heap.size, 0, none⟩)) true ty).run Try.prog (w.iter s pos) = _ := fun ty => run_next_end w s pos ty hlt
      go_wp2
      go_ret
      exact ⟨ret_int (by rw [List.take_of_length_le (by simp; omega)]), (Below.refl _ _).alloc (Nat.le_refl _) _⟩

theorem text_ascii {t : Ty} (h : t.ok) : ∀ x ∈ t.text, x.toNat < 128 := by
  induction t with
  | lf c =>
    intro x hx
    simp [Ty.text] at hx
    subst hx
    exact ascii_of x (by rw [show ar x = 0 from h]; decide)
  | un c a ih =>
    intro x hx
    simp [Ty.text] at hx
    rcases hx with rfl | rfl | hx | rfl
    · exact ascii_of x (by rw [h.1]; decide)
    · decide
    · exact ih h.2 x hx
    · decide
  | bi c a b iha ihb =>
    intro x hx
    simp [Ty.text] at hx
    rcases hx with rfl | rfl | hx | rfl | hx | rfl
    · exact ascii_of x (by rw [h.1]; decide)
    · decide
    · exact iha h.2.1 x hx
    · decide
    · exact ihb h.2.2 x hx
    · decide
theorem tyOf_ascii {s : ByteArray} {t : Ty} (h : tyOf s.data.toList = some t) : ∀ i, (h : i < s.size) → (s[i]'h).toNat < 128 := by
  intro i hi
  obtain ⟨e, ho, _⟩ := tyOf_text h
  have hm : s[i] ∈ s.data.toList := by
    rw [List.mem_iff_getElem]
    exact ⟨i, by simpa using hi, rfl⟩
  rw [e] at hm
  exact text_ascii ho _ hm

set_option maxHeartbeats 400000 in
set_option maxRecDepth 100000 in
theorem countVarI_bad (s v : ByteArray) (hs : s.size ≤ maxLen) (hv : v.size ≤ maxLen) (b : Bool) (ht : Hid ((tyOf s.data.toList).isSome = b)) (hb : b = false ∨ v.size ≠ 1) (w : World) :
    Calls Try.prog 30 #[.string s, .string v] w fun e w' => e = .returned (.int .i64 (-1)) ∧ Below w.heap.size w w' := by
  have hm := hv
  unfold maxLen at hm
  by_cases hb1 : b = false
  · subst hb1
    go_enter Try.func30, Try.ntmps30
    go_wp2_with (go_at_call 15; refine (typeValidI_at s _ hs false ht).mono ?_; rintro e w1 ⟨rfl, hb1⟩)
    go_ret
    exact ⟨rfl, hb1⟩
  · have hb2 : b = true := by simpa using hb1
    have h1 : v.size ≠ 1 := by
      rcases hb with h | h
      · exact absurd h hb1
      · exact h
    have hz : ((v.size : Int) != 1) = true := by simp only [bne_iff_ne, ne_eq]; omega
    clear h1
    subst hb2
    clear hb hb1
    go_enter Try.func30, Try.ntmps30
    go_wp2_with (go_at_call 15; refine (typeValidI_at s _ hs true ht).mono ?_; rintro e w1 ⟨rfl, hb1⟩)
    go_ret
    exact ⟨rfl, hb1⟩

set_option maxHeartbeats 400000 in
set_option maxRecDepth 100000 in
theorem countVarI_no (s v : ByteArray) (hs : s.size ≤ maxLen) (h0 : 0 < v.size) (hz : ((v.size : Int) != 1) = false) (ht : Hid ((tyOf s.data.toList).isSome = true)) (hb : Hid (isVarB v[0] = false)) (w : World) :
    Calls Try.prog 30 #[.string s, .string v] w fun e w' => e = .returned (.int .i64 (-1)) ∧ Below w.heap.size w w' := by
  go_enter Try.func30, Try.ntmps30
  go_wp2_with (first | (go_at_call 15; refine (typeValidI_at s _ hs true ht).mono ?_; rintro e w1 ⟨rfl, hb1⟩) | (go_at_call 65; refine (isVariable_at _ false hb _).mono ?_; rintro e w' ⟨rfl, rfl⟩))
  go_ret
  exact ⟨rfl, hb1⟩

set_option maxHeartbeats 400000 in
set_option maxRecDepth 100000 in
theorem countVarI_yes (s v : ByteArray) (hs : s.size ≤ maxLen) (h0 : 0 < v.size) (hz : ((v.size : Int) != 1) = false) (t : Ty) (hty : Hid (tyOf s.data.toList = some t)) (ht : Hid ((tyOf s.data.toList).isSome = true)) (hb : Hid (isVarB v[0] = true)) (w : World) :
    Calls Try.prog 30 #[.string s, .string v] w fun e w' => e = .returned (.int .i64 (s.data.toList.count v[0] : Nat)) ∧ Below w.heap.size w w' := by
  have h8 : (v[0].toNat : Int) ≤ 255 := by have := v[0].toNat_lt; omega
  have h9 : (0 : Int) ≤ (v[0].toNat : Int) := by omega
  go_enter Try.func30, Try.ntmps30
  go_wp2_with (first | (go_at_call 15; refine (typeValidI_at s _ hs true ht).mono ?_; rintro e w1 ⟨rfl, hb1⟩) | (go_at_call 65; refine (isVariable_at _ true hb _).mono ?_; rintro e w' ⟨rfl, rfl⟩))
  refine (countLetter_any s v[0] hs (tyOf_ascii hty.out) _).mono ?_
  rintro e w2 ⟨rfl, hb2⟩
  go_wp2_with fail
  go_ret
  exact ⟨ret_int (by simp), hb1.trans (hb2.mono hb1.size)⟩

set_option maxHeartbeats 400000 in
set_option maxRecDepth 100000 in
theorem countVarS_bad (s v : ByteArray) (hs : s.size ≤ maxLen) (hv : v.size ≤ maxLen) (b : Bool) (ht : Hid ((tyOf s.data.toList).isSome = b)) (hb : b = false ∨ v.size ≠ 1) (w : World) :
    Calls Try.prog 31 #[.string s, .string v] w fun e w' => e = .returned (.int .i64 (-1)) ∧ Below w.heap.size w w' := by
  have hm := hv
  unfold maxLen at hm
  by_cases hb1 : b = false
  · subst hb1
    go_enter Try.func31, Try.ntmps31
    go_wp2_with (go_at_call 16; refine (typeValidS_at s _ hs false ht).mono ?_; rintro e w1 ⟨rfl, hb1⟩)
    go_ret
    exact ⟨rfl, hb1⟩
  · have hb2 : b = true := by simpa using hb1
    have h1 : v.size ≠ 1 := by
      rcases hb with h | h
      · exact absurd h hb1
      · exact h
    have hz : ((v.size : Int) != 1) = true := by simp only [bne_iff_ne, ne_eq]; omega
    clear h1
    subst hb2
    clear hb hb1
    go_enter Try.func31, Try.ntmps31
    go_wp2_with (go_at_call 16; refine (typeValidS_at s _ hs true ht).mono ?_; rintro e w1 ⟨rfl, hb1⟩)
    go_ret
    exact ⟨rfl, hb1⟩

theorem l1Variable_at (c : UInt8) (k : Bool) (h : Hid (isVarB c = k)) (w : World) :
    Calls Try.prog 66 #[.int .u8 c.toNat] w fun e w' => e = .returned (.bool k) ∧ w = w' := by
  rw [← h.out]
  exact (l1Variable_any c w).mono fun _ _ ⟨h1, h2⟩ => ⟨h1, h2.symm⟩
theorem below_drewN' {B : Nat} {a w : World} (h : Below B a w) (n : Nat) : Below B a (w.drewN n) := ⟨h.os, h.tape, h.output, h.size, h.block⟩

set_option maxHeartbeats 400000 in
set_option maxRecDepth 100000 in
theorem countVarS_no (s v : ByteArray) (hs : s.size ≤ maxLen) (h0 : 0 < v.size) (hz : ((v.size : Int) != 1) = false) (ht : Hid ((tyOf s.data.toList).isSome = true)) (hb : Hid (isVarB v[0] = false)) (w : World) :
    Calls Try.prog 31 #[.string s, .string v] w fun e w' => e = .returned (.int .i64 (-1)) ∧ Below w.heap.size w w' := by
  go_enter Try.func31, Try.ntmps31
  go_wp2_with (first | (go_at_call 16; refine (typeValidS_at s _ hs true ht).mono ?_; rintro e w1 ⟨rfl, hb1⟩) | (go_at_call 66; refine (l1Variable_at _ false hb _).mono ?_; rintro e w' ⟨rfl, rfl⟩))
  go_ret
  exact ⟨rfl, hb1⟩

set_option maxHeartbeats 400000 in
set_option maxRecDepth 100000 in
theorem countVarS_yes (s v : ByteArray) (hs : s.size ≤ maxLen) (h0 : 0 < v.size) (hz : ((v.size : Int) != 1) = false) (ht : Hid ((tyOf s.data.toList).isSome = true)) (hb : Hid (isVarB v[0] = true)) (w : World) :
    Calls Try.prog 31 #[.string s, .string v] w fun e w' => e = .returned (.int .i64 (s.data.toList.count v[0] : Nat)) ∧ Below w.heap.size w w' := by
  have hm := hs
  unfold maxLen at hm
  go_enter Try.func31, Try.ntmps31
  go_wp2_with (first | (go_at_call 16; refine (typeValidS_at s _ hs true ht).mono ?_; rintro e w1 ⟨rfl, hb1⟩) | (go_at_call 66; refine (l1Variable_at _ true hb _).mono ?_; rintro e w' ⟨rfl, rfl⟩))
  go_loopw [5, 6, 23] (fun n i k wr => ∃ (pos m : Nat), pos ≤ s.size ∧ wr = w1.drewN m ∧ k = .int .i64 pos ∧ n = .int .i64 ((s.data.toList.take pos).count v[0] : Nat)) (fun _ _ k _ => s.size - (intOf k).toNat)
  case atStart => exact ⟨0, 0, Nat.zero_le _, rfl, rfl, rfl⟩
  case round =>
    obtain ⟨pos, m, hp, rfl, rfl, rfl⟩ := hrel
    by_cases hlt : pos < s.size
    · have hcnt : (s.data.toList.take pos).count v[0] ≤ pos := Nat.le_trans List.count_le_length (List.length_take_le _ _)
      have HSN := hid (count_snoc s v[0] pos hlt)
      have hi1 : (0 : Int) ≤ (pos : Int) := by omega
      have hi2 : (pos : Int) < (s.size : Int) := by omega
      have hi3 : (0 : Int) < (v.size : Int) := by omega
      go_wp2_with fail
      go_quiet (fail)
      go_wp2_with fail
      · have h : (↑s[pos].toNat == (v[0].toNat : Int)) = true := by assumption
        go_roundw
        case rel => exact ⟨pos + 1, _, hlt, rfl, by go_num, by rw [HSN.out, if_pos h]; go_num⟩
        case measure => simp [intOf]; omega
      · have h : (↑s[pos].toNat == (v[0].toNat : Int)) = false := by assumption
        go_roundw
        case rel => exact ⟨pos + 1, _, hlt, rfl, by go_num, by rw [HSN.out, if_neg (by rw [h]; decide)]; rfl⟩
        case measure => simp [intOf]; omega
    · go_wp2_with fail
      go_ret
      exact ⟨ret_int (by rw [List.take_of_length_le (by simp; omega)]), below_drewN' hb1 m⟩

/-- How often a variable stands in a type; -1 where there is no such type or variable. -/
def cvOf (s v : ByteArray) : Int :=
  if (tyOf s.data.toList).isSome = true ∧ v.size = 1 ∧ isVarB (v.data.toList.headD 0) = true then (s.data.toList.count (v.data.toList.headD 0) : Nat) else -1

theorem head_at (v : ByteArray) (h : 0 < v.size) : v.data.toList.headD 0 = v[0] := by
  have e : v.data.toList[0]? = some v[0] := by
    rw [List.getElem?_eq_getElem (by simpa using h)]
    rfl
  cases hl : v.data.toList with
  | nil => rw [hl] at e; cases e
  | cons x l => rw [hl] at e; simpa using e

theorem countVarI_at (s v : ByteArray) (hs : s.size ≤ maxLen) (hv : v.size ≤ maxLen) (w : World) (k : Int) (hk : Hid (cvOf s v = k)) :
    Calls Try.prog 30 #[.string s, .string v] w fun e w' => e = .returned (.int .i64 k) ∧ Below w.heap.size w w' := by
  have hk := hk.out
  cases ht : tyOf s.data.toList with
  | none =>
    have e : k = -1 := by rw [← hk]; simp [cvOf, ht]
    subst e
    exact countVarI_bad s v hs hv false (by show (tyOf _).isSome = false; rw [ht]; rfl) (.inl rfl) w
  | some t =>
    have hts : Hid ((tyOf s.data.toList).isSome = true) := by show (tyOf _).isSome = true; rw [ht]; rfl
    by_cases h1 : v.size = 1
    · have hz : ((v.size : Int) != 1) = false := by simp [h1]
      have h0 : 0 < v.size := by omega
      cases hb : isVarB v[0] with
      | false =>
        have e : k = -1 := by rw [← hk, cvOf, head_at v h0, if_neg (by rw [hb]; simp)]
        subst e
        exact countVarI_no s v hs h0 hz hts hb w
      | true =>
        have e : k = (s.data.toList.count v[0] : Nat) := by rw [← hk, cvOf, head_at v h0, if_pos ⟨hts.out, h1, hb⟩]
        subst e
        exact countVarI_yes s v hs h0 hz t ht hts hb w
    · have e : k = -1 := by rw [← hk]; simp [cvOf, h1]
      subst e
      exact countVarI_bad s v hs hv true hts (.inr h1) w
theorem countVarS_at (s v : ByteArray) (hs : s.size ≤ maxLen) (hv : v.size ≤ maxLen) (w : World) (k : Int) (hk : Hid (cvOf s v = k)) :
    Calls Try.prog 31 #[.string s, .string v] w fun e w' => e = .returned (.int .i64 k) ∧ Below w.heap.size w w' := by
  have hk := hk.out
  cases ht : tyOf s.data.toList with
  | none =>
    have e : k = -1 := by rw [← hk]; simp [cvOf, ht]
    subst e
    exact countVarS_bad s v hs hv false (by show (tyOf _).isSome = false; rw [ht]; rfl) (.inl rfl) w
  | some t =>
    have hts : Hid ((tyOf s.data.toList).isSome = true) := by show (tyOf _).isSome = true; rw [ht]; rfl
    by_cases h1 : v.size = 1
    · have hz : ((v.size : Int) != 1) = false := by simp [h1]
      have h0 : 0 < v.size := by omega
      cases hb : isVarB v[0] with
      | false =>
        have e : k = -1 := by rw [← hk, cvOf, head_at v h0, if_neg (by rw [hb]; simp)]
        subst e
        exact countVarS_no s v hs h0 hz hts hb w
      | true =>
        have e : k = (s.data.toList.count v[0] : Nat) := by rw [← hk, cvOf, head_at v h0, if_pos ⟨hts.out, h1, hb⟩]
        subst e
        exact countVarS_yes s v hs h0 hz hts hb w
    · have e : k = -1 := by rw [← hk]; simp [cvOf, h1]
      subst e
      exact countVarS_bad s v hs hv true hts (.inr h1) w

end Go.Proofs.Ytechacocfpobgaa

namespace Go.Proofs.Ytechacocfpobgaa
open Go.RowKit

theorem cf_text_var (args : Array Value) (w : World) : (callFunc 128 args).run Try.prog w = .ok (.enter 128 args) w := by kernel_rfl
theorem cf_text_con (args : Array Value) (w : World) : (callFunc 135 args).run Try.prog w = .ok (.enter 135 args) w := by kernel_rfl
theorem cf_text_cst (args : Array Value) (w : World) : (callFunc 131 args).run Try.prog w = .ok (.enter 131 args) w := by kernel_rfl

theorem Rep.form {w : World} {lo hi : Nat} {t : Ty} {v : Value} (hr : Rep w lo hi t v) : ∃ T b, v = .iface T (.pointer (some ⟨b, 0, none⟩)) ∧ lo ≤ b ∧ b < hi := by
  cases t with
  | lf c =>
    obtain ⟨b, h1, h2, ⟨_, rfl, _⟩ | ⟨_, rfl, _⟩⟩ := hr
    · exact ⟨_, b, rfl, h1, h2⟩
    · exact ⟨_, b, rfl, h1, h2⟩
  | un c a => obtain ⟨b, g, cap, x, h1, h2, _, _, rfl, _⟩ := hr; exact ⟨_, b, rfl, h1, h2⟩
  | bi c a a' => obtain ⟨b, g, cap, x, x', h1, h2, _, _, rfl, _⟩ := hr; exact ⟨_, b, rfl, h1, h2⟩

/-- The text of a node, by its method. -/
def TextBy (t : Ty) : Prop := ∀ (lo hi T b : Nat) (w : World), Rep w lo hi t (.iface T (.pointer (some ⟨b, 0, none⟩))) → hi ≤ w.heap.size → t.ok → t.text.length ≤ 100000000000 →
  ∃ fn, (∀ w, (method 256 T (.pointer (some ⟨b, 0, none⟩)) "loop.example/instancesearch/impl.text").run Try.prog w = .ok (fn, .pointer (some ⟨b, 0, none⟩)) w) ∧
    (∀ args w, (callFunc fn args).run Try.prog w = .ok (.enter fn args) w) ∧
    Calls Try.prog fn #[.pointer (some ⟨b, 0, none⟩)] w fun e w' => e = .returned (.string (strOf t.text)) ∧ Below w.heap.size w w'

theorem stringInfo : (Try.prog.info? 9).map (fun i => (i.zero, i.size, i.bytes)) = some (some (.string ⟨#[]⟩), 1, 16) := by kernel_rfl

theorem own1 {w : World} {base : Nat} {e : TypeId} {v x : Value} (h : w.ownsRow base e 1 v 1 [x]) :
    ∃ g cap, v = .slice (some ⟨g, 0, none⟩) 1 cap ∧ base ≤ g ∧ g < w.heap.size ∧ w.cell? ⟨g, 0, none⟩ = some x ∧ 1 ≤ cap := by
  rcases h.2 with ⟨_, h0⟩ | ⟨g, cap, cur, rfl, hb, hg, hc, _, hz, ht⟩
  · cases h0
  · have c0 : cur[0]? = some x := by
      have := congrArg (·[0]?) ht
      simpa [List.getElem?_take] using this
    refine ⟨g, cap, rfl, hb, (Array.getElem?_eq_some_iff.1 hg).1, ?_, hc⟩
    unfold World.cell?
    rw [show w.heap[(⟨g, 0, none⟩ : Addr).block]? = _ from hg]
    exact c0

theorem news1 (w : World) (x : Value) (T : TypeId) : ∀ j u, [x][j]? = some u → (w.alloc (.cells #[x] T)).cell? ((⟨w.heap.size, 0, none⟩ : Addr).add j) = some u := by
  intro j u hj
  have e : j = 0 := by
    have := (List.getElem?_eq_some_iff.1 hj).1
    simp at this
    omega
  subst e
  simp only [List.getElem?_cons_zero, Option.some.injEq] at hj
  subst hj
  exact cell_new1 _ _ _

set_option maxHeartbeats 1000000 in
set_option maxRecDepth 100000 in
theorem partTexts_un (c : UInt8) (a : Ty) (ih : TextBy a) (lo hi b : Nat) (w : World) (hr : Rep w lo hi (.un c a) (.iface 106 (.pointer (some ⟨b, 0, none⟩)))) (hh : hi ≤ w.heap.size) (ho : a.ok) (hl : a.text.length ≤ 100000000000) :
    Calls Try.prog 51 #[.iface 106 (.pointer (some ⟨b, 0, none⟩))] w fun e w' =>
      ∃ g cap, e = .returned (.slice (some ⟨g, 0, none⟩) 1 cap) ∧ 1 ≤ cap ∧ w.heap.size ≤ g ∧ g < w'.heap.size ∧ w'.cell? ⟨g, 0, none⟩ = some (.string (strOf a.text)) ∧ Below w.heap.size w w' ∧ w'.ownsRow w.heap.size 9 1 (.slice (some ⟨g, 0, none⟩) 1 cap) 1 [.string (strOf a.text)] := by
  obtain ⟨i0, hi0, hz0, hz1, hz2⟩ := info_parts stringInfo
  obtain ⟨b', g, cap, x, h1, h2, h3, h4, hv, hb, hx, hrep⟩ := hr
  obtain rfl : b = b' := by
    simp only [Value.iface.injEq, Value.pointer.injEq, Option.some.injEq, Addr.mk.injEq, true_and, and_true] at hv
    exact hv
  clear hv
  obtain ⟨T, bx, rfl, hx1, hx2⟩ := hrep.form
  obtain ⟨fn, hm, hcf, hcall⟩ := ih lo hi T bx w hrep hh ho hl
  have HCALL := hid hcall
  clear hcall
  obtain ⟨c0, c1, _⟩ := two_cells hb
  have hmp := m_cst_parts b
  have HB := hid hb
  clear hb
  go_enter Try.func51, Try.ntmps51
  go_wp2_with (go_at_call 130; refine (parts_cst _ _ _ _ _ c1).mono ?_; rintro e w' ⟨rfl, rfl⟩)
  refine wp_loop_rounds 2 ?_
  rw [rounds_succ]
  go_wp2_with fail
  refine HCALL.out.mono ?_
  rintro e w1 ⟨rfl, hb1⟩
  clear hm hcf
  go_wp2_with (at_builtin; refine wpList_append_own _ rfl _ _ 24 rfl w.heap.size 9 i0 (.string ⟨#[]⟩) 1 16 Try.underlying24 hi0 hz0 hz1 hz2 rfl (by decide) (.slice none 0 0) 0 [] rfl ⟨rfl, .inl ⟨rfl, rfl⟩⟩ ⟨w1.heap.size, 0, none⟩ 1 1 [.string (strOf a.text)] rfl rfl ?c1 ?c2 ?c3 ?c4 ?c5 ?_)
  case c1 => exact news1 _ _ _
  case c2 =>
    intro u hu
    simp only [List.mem_singleton] at hu
    subst hu
    rfl
  case c3 => decide
  case c4 => decide
  case c5 => have := hb1.size; simp only [World.size_alloc]; omega
  intro v2 w2 hown2 hg2 hv2
  clear hv2
  have z2 := hg2.size
  simp only [World.size_alloc] at z2
  obtain ⟨g2, cap2, rfl, q1, q2, q3, q4⟩ := own1 hown2
  have Q3 := hid q3
  have HOW := hid hown2
  clear q3 hown2
  have hbw : Below w.heap.size w w2 := (hb1.alloc hb1.size _).grown hg2 (by have := hb1.size; simp only [World.size_alloc]; omega) (by intro k hk; simp [Value.ownBlock] at hk)
  go_wp2_with fail
  rw [rounds_succ]
  go_wp2_with fail
  go_ret
  exact ⟨g2, cap2, rfl, q4, q1, q2, Q3.out, hbw, HOW.out⟩

set_option maxHeartbeats 1000000 in
set_option maxRecDepth 100000 in
theorem partTexts_bi (c : UInt8) (a a' : Ty) (ih : TextBy a) (ih' : TextBy a') (lo hi b : Nat) (w : World) (hr : Rep w lo hi (.bi c a a') (.iface 106 (.pointer (some ⟨b, 0, none⟩)))) (hh : hi ≤ w.heap.size) (ho : a.ok) (ho' : a'.ok) (hl : a.text.length ≤ 100000000000) (hl' : a'.text.length ≤ 100000000000) :
    Calls Try.prog 51 #[.iface 106 (.pointer (some ⟨b, 0, none⟩))] w fun e w' =>
      ∃ g cap, e = .returned (.slice (some ⟨g, 0, none⟩) 2 cap) ∧ 2 ≤ cap ∧ w.heap.size ≤ g ∧ g < w'.heap.size ∧ w'.cell? ⟨g, 0, none⟩ = some (.string (strOf a.text)) ∧ w'.cell? ⟨g, 1, none⟩ = some (.string (strOf a'.text)) ∧ Below w.heap.size w w' ∧ w'.ownsRow w.heap.size 9 1 (.slice (some ⟨g, 0, none⟩) 2 cap) 2 [.string (strOf a.text), .string (strOf a'.text)] := by
  obtain ⟨i0, hi0, hz0, hz1, hz2⟩ := info_parts stringInfo
  obtain ⟨b', g, cap, x, x', h1, h2, h3, h4, hv, hb, hx, hx', hrep, hrep'⟩ := hr
  obtain rfl : b = b' := by
    simp only [Value.iface.injEq, Value.pointer.injEq, Option.some.injEq, Addr.mk.injEq, true_and, and_true] at hv
    exact hv
  clear hv
  obtain ⟨T, bx, rfl, hx1, hx2⟩ := hrep.form
  obtain ⟨T', bx', rfl, hx1', hx2'⟩ := hrep'.form
  obtain ⟨fn, hm, hcf, hcall⟩ := ih lo hi T bx w hrep hh ho hl
  have HCALL := hid hcall
  clear hcall
  obtain ⟨c0, c1, _⟩ := two_cells hb
  have hmp := m_cst_parts b
  have HB := hid hb
  have HX' := hid hx'
  clear hb hx'
  go_enter Try.func51, Try.ntmps51
  go_wp2_with (go_at_call 130; refine (parts_cst _ _ _ _ _ c1).mono ?_; rintro e w' ⟨rfl, rfl⟩)
  refine wp_loop_rounds 3 ?_
  rw [rounds_succ]
  go_wp2_with fail
  refine HCALL.out.mono ?_
  rintro e w1 ⟨rfl, hb1⟩
  clear hm hcf
  go_wp2_with (at_builtin; refine wpList_append_own _ rfl _ _ 24 rfl w.heap.size 9 i0 (.string ⟨#[]⟩) 1 16 Try.underlying24 hi0 hz0 hz1 hz2 rfl (by decide) (.slice none 0 0) 0 [] rfl ⟨rfl, .inl ⟨rfl, rfl⟩⟩ ⟨w1.heap.size, 0, none⟩ 1 1 [.string (strOf a.text)] rfl rfl ?c1 ?c2 ?c3 ?c4 ?c5 ?_)
  case c1 => exact news1 _ _ _
  case c2 =>
    intro u hu
    simp only [List.mem_singleton] at hu
    subst hu
    rfl
  case c3 => decide
  case c4 => decide
  case c5 => have := hb1.size; simp only [World.size_alloc]; omega
  intro v2 w2 hown2 hg2 hv2
  clear hv2
  have z2 := hg2.size
  simp only [World.size_alloc] at z2
  obtain ⟨g2, cap2, rfl, q1, q2, q3, q4⟩ := own1 hown2
  clear q3
  have hbw : Below w.heap.size w w2 := (hb1.alloc hb1.size _).grown hg2 (by have := hb1.size; simp only [World.size_alloc]; omega) (by intro k hk; simp [Value.ownBlock] at hk)
  have hrep2 : Rep w2 lo hi a' (.iface T' (.pointer (some ⟨bx', 0, none⟩))) := hrep'.keep (Nat.le_refl _) (Nat.le_refl _) fun k _ hk => hbw.block k (by omega)
  obtain ⟨fn', hm', hcf', hcall'⟩ := ih' lo hi T' bx' w2 hrep2 (by have := hbw.size; omega) ho' hl'
  have HCALL' := hid hcall'
  clear hcall'
  have hx2c : w2.cell? ⟨g, 1, none⟩ = some (.iface T' (.pointer (some ⟨bx', 0, none⟩))) := cell_below HX'.out (by omega) hbw
  have HOWN := hid hown2
  clear hown2
  go_wp2_with fail
  rw [rounds_succ]
  go_wp2_with fail
  refine HCALL'.out.mono ?_
  rintro e w3 ⟨rfl, hb3⟩
  clear hm' hcf' hx2c
  have hown3 : w3.ownsRow w.heap.size 9 1 (.slice (some ⟨g2, 0, none⟩) 1 cap2) 1 [.string (strOf a.text)] := own_kept HOWN.out (hb3.block g2 q2)
  go_wp2_with (at_builtin; refine wpList_append_own _ rfl _ _ 24 rfl w.heap.size 9 i0 (.string ⟨#[]⟩) 1 16 Try.underlying24 hi0 hz0 hz1 hz2 rfl (by decide) _ _ _ rfl (hown3.alloc _) ⟨w3.heap.size, 0, none⟩ 1 1 [.string (strOf a'.text)] rfl rfl ?d1 ?d2 ?d3 ?d4 ?d5 ?_)
  case d1 => exact news1 _ _ _
  case d2 =>
    intro u hu
    simp only [List.mem_singleton] at hu
    subst hu
    rfl
  case d3 => decide
  case d4 => decide
  case d5 => have := hb3.size; have := hbw.size; simp only [World.size_alloc]; omega
  intro v4 w4 hown4 hg4 hv4
  clear hv4 hown3
  have z4 := hg4.size
  simp only [World.size_alloc] at z4
  have hcap4 : ∃ g4 cap4, v4 = .slice (some ⟨g4, 0, none⟩) 2 cap4 ∧ 2 ≤ cap4 := by
    rcases hown4.2 with ⟨_, h0⟩ | ⟨g4, cap4, cur, hv, _, _, hc, _⟩
    · cases h0
    · exact ⟨g4, cap4, hv, hc⟩
  obtain ⟨g4, cap4, hv4, hc4⟩ := hcap4
  subst hv4
  obtain ⟨g5, cap5, hv5, y1, y2, y3, y4⟩ := own2 hown4
  simp only [Value.slice.injEq, Option.some.injEq, Addr.mk.injEq, true_and, and_true] at hv5
  obtain ⟨e1, e2⟩ := hv5
  subst e1
  clear e2
  have Y3 := hid y3
  have Y4 := hid y4
  have HOW := hid hown4
  clear y3 y4 hown4
  have hbw3 := hbw.trans (hb3.mono hbw.size)
  have hbw4 : Below w.heap.size w w4 := (hbw3.alloc hbw3.size _).grown hg4 (by have := hbw3.size; simp only [World.size_alloc]; omega) (by intro k hk; simp [Value.ownBlock] at hk; omega)
  go_wp2_with fail
  rw [rounds_succ]
  go_wp2_with fail
  go_ret
  exact ⟨g4, cap4, rfl, hc4, y1, y2, Y3.out, Y4.out, hbw4, HOW.out⟩

theorem join_at (g m cap : Nat) (xs : List ByteArray) (w : World) (hm : xs.length = m) (hcells : ∀ (j : Nat) x, xs[j]? = some x → w.cell? ⟨g, 0 + j, none⟩ = some (.string x)) (hg : g < w.heap.size) (hc : m ≤ cap) (hN : m ≤ 2)
    (r : ByteArray) (hr : Hid (strOf (Lib.join (xs.map (·.data.toList)) [44]) = r)) (hl : r.size ≤ 1000000000000) :
    Calls Try.prog 79 #[.slice (some ⟨g, 0, none⟩) m cap, .string { data := #[44] }] w fun e w' => e = .returned (.string r) ∧ Below w.heap.size w w' := by
  subst hm
  have hl' : (Lib.join (xs.map (·.data.toList)) [44]).length ≤ 1000000000000 := by
    have h := hl
    rw [← hr.out] at h
    exact h
  rw [← hr.out]
  exact Try.strings_Join g 0 cap xs { data := #[44] } w hcells hg (by omega) hc (by exact Nat.le_trans hl' (by decide))

set_option maxHeartbeats 400000 in
set_option maxRecDepth 100000 in
theorem joinType_any (hd : ByteArray) (g m cap : Nat) (xs : List ByteArray) (w : World) (hm : xs.length = m) (hcells : ∀ (j : Nat) x, xs[j]? = some x → w.cell? ⟨g, 0 + j, none⟩ = some (.string x)) (hg : g < w.heap.size) (hc : m ≤ cap) (hN : m ≤ 2) (h0 : 0 < m) (hh : hd.size ≤ 1)
    (r : ByteArray) (hr : Hid (strOf (Lib.join (xs.map (·.data.toList)) [44]) = r)) (hl : r.size ≤ 1000000000000) :
    Calls Try.prog 58 #[.string hd, .slice (some ⟨g, 0, none⟩) m cap] w fun e w' => e = .returned (.string (strOf (hd.data.toList ++ 40 :: (r.data.toList ++ [41])))) ∧ Below w.heap.size w w' := by
  have HC := hid hcells
  have HM := hid hm
  clear hcells hm
  have hf : ((m : Int) == 0) = false := by simp; omega
  go_enter Try.func58, Try.ntmps58
  go_wp2_with fail
  refine (join_at g m cap xs _ HM.out HC.out hg hc hN r hr hl).mono ?_
  rintro e w1 ⟨rfl, hb1⟩
  go_wp2_with fail
  go_ret
  refine ⟨?_, hb1⟩
  show Ending.returned (.string _) = .returned (.string _)
  congr 2
  exact strOf_eq (by simp [ByteArray.data_append])

set_option maxHeartbeats 400000 in
theorem text_var_any (b : Nat) (c : UInt8) (w : World) (hb : w.cell? ⟨b, 0, none⟩ = some (.int .u8 c.toNat)) (hc : c.toNat < 128) :
    Calls Try.prog 128 #[.pointer (some ⟨b, 0, none⟩)] w fun e w' => e = .returned (.string (strOf [c])) ∧ Below w.heap.size w w' := by
  go_enter Try.func128, Try.ntmps128
  go_wp2_with (go_at_call 52; refine (letterText_any c hc _).mono ?_; rintro e w' ⟨rfl, rfl⟩)
  go_ret
  exact ⟨rfl, Below.refl _ _⟩
set_option maxHeartbeats 400000 in
theorem text_con_any (b : Nat) (c : UInt8) (w : World) (hb : w.cell? ⟨b, 0, none⟩ = some (.int .u8 c.toNat)) (hc : c.toNat < 128) :
    Calls Try.prog 135 #[.pointer (some ⟨b, 0, none⟩)] w fun e w' => e = .returned (.string (strOf [c])) ∧ Below w.heap.size w w' := by
  go_enter Try.func135, Try.ntmps135
  go_wp2_with (go_at_call 52; refine (letterText_any c hc _).mono ?_; rintro e w' ⟨rfl, rfl⟩)
  go_ret
  exact ⟨rfl, Below.refl _ _⟩

theorem strOf_size (l : List UInt8) : (strOf l).size = l.length := by
  show l.toArray.size = l.length
  simp

set_option maxHeartbeats 400000 in
set_option maxRecDepth 100000 in
theorem text_un (c : UInt8) (a : Ty) (ih : TextBy a) (lo hi b : Nat) (w : World) (hr : Rep w lo hi (.un c a) (.iface 106 (.pointer (some ⟨b, 0, none⟩)))) (hh : hi ≤ w.heap.size) (ho : (Ty.un c a).ok) (hl : (Ty.un c a).text.length ≤ 100000000000) :
    Calls Try.prog 131 #[.pointer (some ⟨b, 0, none⟩)] w fun e w' => e = .returned (.string (strOf (Ty.un c a).text)) ∧ Below w.heap.size w w' := by
  have hc : c.toNat < 128 := ascii_of c (by rw [ho.1]; decide)
  have hla : a.text.length ≤ 100000000000 := by simp [Ty.text] at hl; omega
  have hcell : w.cell? ⟨b, 0, none⟩ = some (.int .u8 c.toNat) := by
    obtain ⟨b', g, cap, x, h1, h2, h3, h4, hv, hb, hx, hrep⟩ := hr
    simp only [Value.iface.injEq, Value.pointer.injEq, Option.some.injEq, Addr.mk.injEq, true_and, and_true] at hv
    subst hv
    exact (two_cells hb).1
  have HP := hid (partTexts_un c a ih lo hi b w hr hh ho.2 hla)
  obtain ⟨r, hr'⟩ : ∃ r, strOf a.text = r := ⟨_, rfl⟩
  have hrl : r.size ≤ 100000000000 := by rw [← hr', strOf_size]; exact hla
  have HR := hid hr'
  rw [hr'] at HP
  clear hr'
  obtain ⟨hd, hhd⟩ : ∃ hd, strOf [c] = hd := ⟨_, rfl⟩
  have HD := hid hhd
  have hhs : hd.size ≤ 1 := by rw [← hhd]; exact Nat.le_refl _
  have HL := hid (letterText_any c hc w)
  rw [hhd] at HL
  clear hhd
  go_enter Try.func131, Try.ntmps131
  go_wp2_with (go_at_call 52; refine HL.out.mono ?_; rintro e w' ⟨rfl, rfl⟩)
  refine HP.out.mono ?_
  rintro e w1 ⟨g, cap, rfl, hcap, hg1, hg2, hx, hb1, _⟩
  have HX := hid hx
  clear hx
  go_wp2_with fail
  refine (joinType_any hd g 1 cap [r] w1 rfl (fun j x hj => ?_) hg2 hcap (by decide) (by decide) hhs r ?_ (by omega)).mono ?_
  · have e : j = 0 := by
      have := (List.getElem?_eq_some_iff.1 hj).1
      simp at this
      omega
    subst e
    simp only [List.getElem?_cons_zero, Option.some.injEq] at hj
    subst hj
    exact HX.out
  · show strOf (Lib.join [r.data.toList] [44]) = r
    rw [Lib.join_one, ← HR.out, strOf_list]
  rintro e w2 ⟨rfl, hb2⟩
  go_wp2_with fail
  go_ret
  refine ⟨?_, hb1.trans (hb2.mono hb1.size)⟩
  show Ending.returned (.string _) = .returned (.string _)
  rw [← HR.out, ← HD.out, strOf_list, strOf_list]
  rfl

theorem join_two (x y sep : List UInt8) : Lib.join [x, y] sep = x ++ (sep ++ y) := by
  rw [Lib.join_cons]
  simp [Lib.joinTail]

set_option maxHeartbeats 400000 in
set_option maxRecDepth 100000 in
theorem text_bi (c : UInt8) (a a' : Ty) (ih : TextBy a) (ih' : TextBy a') (lo hi b : Nat) (w : World) (hr : Rep w lo hi (.bi c a a') (.iface 106 (.pointer (some ⟨b, 0, none⟩)))) (hh : hi ≤ w.heap.size) (ho : (Ty.bi c a a').ok) (hl : (Ty.bi c a a').text.length ≤ 100000000000) :
    Calls Try.prog 131 #[.pointer (some ⟨b, 0, none⟩)] w fun e w' => e = .returned (.string (strOf (Ty.bi c a a').text)) ∧ Below w.heap.size w w' := by
  have hc : c.toNat < 128 := ascii_of c (by rw [ho.1]; decide)
  have hla : a.text.length ≤ 100000000000 := by simp [Ty.text] at hl; omega
  have hla' : a'.text.length ≤ 100000000000 := by simp [Ty.text] at hl; omega
  have hcell : w.cell? ⟨b, 0, none⟩ = some (.int .u8 c.toNat) := by
    obtain ⟨b', g, cap, x, x', h1, h2, h3, h4, hv, hb, hx, hx', hrep, hrep'⟩ := hr
    simp only [Value.iface.injEq, Value.pointer.injEq, Option.some.injEq, Addr.mk.injEq, true_and, and_true] at hv
    subst hv
    exact (two_cells hb).1
  have HP := hid (partTexts_bi c a a' ih ih' lo hi b w hr hh ho.2.1 ho.2.2 hla hla')
  obtain ⟨r, hr'⟩ : ∃ r, strOf (a.text ++ ([44] ++ a'.text)) = r := ⟨_, rfl⟩
  have hrl : r.size ≤ 300000000000 := by rw [← hr', strOf_size]; simp; omega
  have HR := hid hr'
  clear hr'
  obtain ⟨hd, hhd⟩ : ∃ hd, strOf [c] = hd := ⟨_, rfl⟩
  have HD := hid hhd
  have hhs : hd.size ≤ 1 := by rw [← hhd]; exact Nat.le_refl _
  have HL := hid (letterText_any c hc w)
  rw [hhd] at HL
  clear hhd
  go_enter Try.func131, Try.ntmps131
  go_wp2_with (go_at_call 52; refine HL.out.mono ?_; rintro e w' ⟨rfl, rfl⟩)
  refine HP.out.mono ?_
  rintro e w1 ⟨g, cap, rfl, hcap, hg1, hg2, hx, hy, hb1, _⟩
  have HX := hid hx
  have HY := hid hy
  clear hx hy
  go_wp2_with fail
  refine (joinType_any hd g 2 cap [strOf a.text, strOf a'.text] w1 rfl (fun j x hj => ?_) hg2 hcap (by decide) (by decide) hhs r ?_ (by omega)).mono ?_
  · match j, hj with
    | 0, hj =>
      simp only [List.getElem?_cons_zero, Option.some.injEq] at hj
      subst hj
      exact HX.out
    | 1, hj =>
      simp only [List.getElem?_cons_succ, List.getElem?_cons_zero, Option.some.injEq] at hj
      subst hj
      exact HY.out
  · show strOf (Lib.join [(strOf a.text).data.toList, (strOf a'.text).data.toList] [44]) = r
    rw [join_two, ← HR.out, strOf_list, strOf_list]
  rintro e w2 ⟨rfl, hb2⟩
  go_wp2_with fail
  go_ret
  refine ⟨?_, hb1.trans (hb2.mono hb1.size)⟩
  show Ending.returned (.string _) = .returned (.string _)
  rw [← HR.out, ← HD.out, strOf_list, strOf_list]
  simp [Ty.text]

theorem textBy_any (t : Ty) : TextBy t := by
  induction t with
  | lf c =>
    intro lo hi T b w hr hh ho hl
    have hc : c.toNat < 128 := ascii_of c (by rw [show ar c = 0 from ho]; decide)
    obtain ⟨b', h1, h2, ⟨hv, he, hb⟩ | ⟨hv, he, hb⟩⟩ := hr
    · simp only [Value.iface.injEq, Value.pointer.injEq, Option.some.injEq, Addr.mk.injEq, and_true] at he
      obtain ⟨rfl, rfl⟩ := he
      exact ⟨_, m_var_text b, cf_text_var, text_var_any b c w (cell_of1 hb) hc⟩
    · simp only [Value.iface.injEq, Value.pointer.injEq, Option.some.injEq, Addr.mk.injEq, and_true] at he
      obtain ⟨rfl, rfl⟩ := he
      exact ⟨_, m_con_text b, cf_text_con, text_con_any b c w (cell_of1 hb) hc⟩
  | un c a ih =>
    intro lo hi T b w hr hh ho hl
    have hT : T = 106 := by
      obtain ⟨_, _, _, _, _, _, _, _, hv, _⟩ := hr
      simp only [Value.iface.injEq] at hv
      exact hv.1
    subst hT
    exact ⟨_, m_cst_text b, cf_text_cst, text_un c a ih lo hi b w hr hh ho hl⟩
  | bi c a a' iha ihb =>
    intro lo hi T b w hr hh ho hl
    have hT : T = 106 := by
      obtain ⟨_, _, _, _, _, _, _, _, _, hv, _⟩ := hr
      simp only [Value.iface.injEq] at hv
      exact hv.1
    subst hT
    exact ⟨_, m_cst_text b, cf_text_cst, text_bi c a a' iha ihb lo hi b w hr hh ho hl⟩

end Go.Proofs.Ytechacocfpobgaa
