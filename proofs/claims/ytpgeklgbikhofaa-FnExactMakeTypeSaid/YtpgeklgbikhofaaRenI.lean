/- RenameType of the program: a renamed tree, and its text. -/
import Derived.Test.YtpgeklgbikhofaaPartsI
import Derived.Deep.AppendLies
namespace Go.Proofs.Ytpgeklgbikhofaa
open Go.RowKit

/-- A capital letter in place of a small variable. -/
def capB (c : UInt8) : UInt8 := if 120 ≤ c ∧ c ≤ 122 then c - 120 + 88 else c
def Ty.ren : Ty → Ty
  | .lf c => .lf (capB c)
  | .un c a => .un c a.ren
  | .bi c a b => .bi c a.ren b.ren
theorem capB_ar (c : UInt8) (h : ar c = 0) : ar (capB c) = 0 := by
  revert h
  refine u8_all (p := fun c => ar c = 0 → ar (capB c) = 0) ?_ c
  decide +kernel
theorem capB_var (c : UInt8) (h : isVarB c = true) : isVarB (capB c) = true := by
  revert h
  refine u8_all (p := fun c => isVarB c = true → isVarB (capB c) = true) ?_ c
  decide +kernel
theorem capB_con (c : UInt8) (h : isVarB c = false) : capB c = c := by
  revert h
  refine u8_all (p := fun c => isVarB c = false → capB c = c) ?_ c
  decide +kernel
theorem ren_ok {t : Ty} (h : t.ok) : t.ren.ok := by
  induction t with
  | lf c => exact capB_ar c h
  | un c a ih => exact ⟨h.1, ih h.2⟩
  | bi c a b iha ihb => exact ⟨h.1, iha h.2.1, ihb h.2.2⟩
theorem capB_head (c : UInt8) (h : 0 < ar c) : capB c = c := by
  revert h
  refine u8_all (p := fun c => 0 < ar c → capB c = c) ?_ c
  decide +kernel
theorem ren_text {t : Ty} (h : t.ok) : t.ren.text = t.text.map capB := by
  induction t with
  | lf c => rfl
  | un c a ih =>
    have e : capB c = c := capB_head c (by rw [h.1]; decide)
    simp [Ty.ren, Ty.text, ih h.2, e]
    exact ⟨rfl, rfl⟩
  | bi c a b iha ihb =>
    have e : capB c = c := capB_head c (by rw [h.1]; decide)
    simp [Ty.ren, Ty.text, iha h.2.1, ihb h.2.2, e]
    exact ⟨rfl, rfl, rfl⟩

theorem cap_sub (c : UInt8) (h : (120 : Int) ≤ c.toNat) (h' : (c.toNat : Int) ≤ 122) : (c.toNat : Int) - 120 + 88 = (capB c).toNat := by
  have h1 : 120 ≤ c.toNat := by omega
  have h2 : c.toNat ≤ 122 := by omega
  clear h h'
  revert h1 h2
  refine u8_all (p := fun c => 120 ≤ c.toNat → c.toNat ≤ 122 → (c.toNat : Int) - 120 + 88 = (capB c).toNat) ?_ c
  decide +kernel
theorem cap_same (c : UInt8) (h : ¬ ((120 : Int) ≤ c.toNat ∧ (c.toNat : Int) ≤ 122)) : capB c = c := by
  have h1 : ¬ (120 ≤ c.toNat ∧ c.toNat ≤ 122) := by omega
  clear h
  revert h1
  refine u8_all (p := fun c => ¬ (120 ≤ c.toNat ∧ c.toNat ≤ 122) → capB c = c) ?_ c
  decide +kernel

set_option maxHeartbeats 400000 in
set_option maxRecDepth 100000 in
theorem capitalOf_any (c : UInt8) (w : World) :
    Calls Try.prog 77 #[.int .u8 c.toNat] w fun e w' => e = .returned (.int .u8 (capB c).toNat) ∧ w' = w := by
  have h8 : (c.toNat : Int) ≤ 255 := by have := c.toNat_lt; omega
  have h9 : (0 : Int) ≤ (c.toNat : Int) := by omega
  by_cases h1 : (120 : Int) ≤ c.toNat
  · by_cases h2 : (c.toNat : Int) ≤ 122
    · have HE := hid (cap_sub c h1 h2)
      go_enter Try.func77, Try.ntmps77
      go_wp2
      go_ret
      exact ⟨ret_int HE.out, rfl⟩
    · have HE := hid (cap_same c (by omega))
      go_enter Try.func77, Try.ntmps77
      go_wp2
      go_ret
      exact ⟨ret_int (by rw [HE.out]), rfl⟩
  · have HE := hid (cap_same c (by omega))
    go_enter Try.func77, Try.ntmps77
    go_wp2
    go_ret
    exact ⟨ret_int (by rw [HE.out]), rfl⟩

theorem ta_var_var (b : Nat) (w : World) : (Instr.typeAssert (.iface 87 (.pointer (some ⟨b, 0, none⟩))) 47 87 true).run Try.prog w = .ok (.tuple #[.pointer (some ⟨b, 0, none⟩), .bool true]) w := by kernel_rfl
theorem ta_con_var (b : Nat) (w : World) : (Instr.typeAssert (.iface 96 (.pointer (some ⟨b, 0, none⟩))) 47 87 true).run Try.prog w = .ok (.tuple #[.pointer none, .bool false]) w := by kernel_rfl
theorem ta_con_cst (b : Nat) (w : World) : (Instr.typeAssert (.iface 96 (.pointer (some ⟨b, 0, none⟩))) 47 90 true).run Try.prog w = .ok (.tuple #[.pointer none, .bool false]) w := by kernel_rfl
theorem ta_cst_var (b : Nat) (w : World) : (Instr.typeAssert (.iface 90 (.pointer (some ⟨b, 0, none⟩))) 47 87 true).run Try.prog w = .ok (.tuple #[.pointer none, .bool false]) w := by kernel_rfl
theorem ta_cst_cst (b : Nat) (w : World) : (Instr.typeAssert (.iface 90 (.pointer (some ⟨b, 0, none⟩))) 47 90 true).run Try.prog w = .ok (.tuple #[.pointer (some ⟨b, 0, none⟩), .bool true]) w := by kernel_rfl

/-- As Rep, the memory in blocks of S. -/
def RepP (w : World) (S : Nat → Prop) : Ty → Value → Prop
  | .lf c, v => ∃ b, S b ∧ ((isVarB c = true ∧ v = .iface 87 (.pointer (some ⟨b, 0, none⟩)) ∧ w.heap[b]? = some (.cells #[.int .u8 c.toNat] 89 (0, 0))) ∨
      (isVarB c = false ∧ v = .iface 96 (.pointer (some ⟨b, 0, none⟩)) ∧ w.heap[b]? = some (.cells #[.int .u8 c.toNat] 97 (0, 0))))
  | .un c a, v => ∃ b g cap x, S b ∧ S g ∧ v = .iface 90 (.pointer (some ⟨b, 0, none⟩)) ∧
      w.heap[b]? = some (.cells #[.int .u8 c.toNat, .slice (some ⟨g, 0, none⟩) 1 cap] 92 (0, 0)) ∧ w.cell? ⟨g, 0, none⟩ = some x ∧ RepP w S a x
  | .bi c a a', v => ∃ b g cap x x', S b ∧ S g ∧ v = .iface 90 (.pointer (some ⟨b, 0, none⟩)) ∧
      w.heap[b]? = some (.cells #[.int .u8 c.toNat, .slice (some ⟨g, 0, none⟩) 2 cap] 92 (0, 0)) ∧ w.cell? ⟨g, 0, none⟩ = some x ∧ w.cell? ⟨g, 1, none⟩ = some x' ∧ RepP w S a x ∧ RepP w S a' x'
theorem RepP.keep {w w' : World} {S S' : Nat → Prop} {t : Ty} : ∀ {v : Value}, RepP w S t v → (∀ k, S k → S' k ∧ w'.heap[k]? = w.heap[k]?) → RepP w' S' t v := by
  induction t with
  | lf c =>
    rintro v ⟨b, h1, h3⟩ hk
    refine ⟨b, (hk b h1).1, ?_⟩
    rw [(hk b h1).2]
    exact h3
  | un c a ih =>
    rintro v ⟨b, g, cap, x, h1, h3, h5, h6, h7, h8⟩ hk
    refine ⟨b, g, cap, x, (hk b h1).1, (hk g h3).1, h5, (hk b h1).2.trans h6, ?_, ih h8 hk⟩
    rw [World.cell?_of_block (w := w) (hk g h3).2]
    exact h7
  | bi c a a' ih ih' =>
    rintro v ⟨b, g, cap, x, x', h1, h3, h5, h6, h7, h7', h8, h9⟩ hk
    refine ⟨b, g, cap, x, x', (hk b h1).1, (hk g h3).1, h5, (hk b h1).2.trans h6, ?_, ?_, ih h8 hk, ih' h9 hk⟩
    · rw [World.cell?_of_block (w := w) (hk g h3).2]
      exact h7
    · rw [World.cell?_of_block (w := w) (hk g h3).2]
      exact h7'
theorem RepP.rep {w : World} {S : Nat → Prop} {lo hi : Nat} (hS : ∀ k, S k → lo ≤ k ∧ k < hi) {t : Ty} : ∀ {v : Value}, RepP w S t v → Rep w lo hi t v := by
  induction t with
  | lf c =>
    rintro v ⟨b, h1, h3⟩
    exact ⟨b, (hS b h1).1, (hS b h1).2, h3⟩
  | un c a ih =>
    rintro v ⟨b, g, cap, x, h1, h3, h5, h6, h7, h8⟩
    exact ⟨b, g, cap, x, (hS b h1).1, (hS b h1).2, (hS g h3).1, (hS g h3).2, h5, h6, h7, ih h8⟩
  | bi c a a' ih ih' =>
    rintro v ⟨b, g, cap, x, x', h1, h3, h5, h6, h7, h7', h8, h9⟩
    exact ⟨b, g, cap, x, x', (hS b h1).1, (hS b h1).2, (hS g h3).1, (hS g h3).2, h5, h6, h7, h7', ih h8, ih' h9⟩

/-- Where the memory of a renamed tree lies. -/
def RS (lo hi : Nat) (w w' : World) (k : Nat) : Prop := (lo ≤ k ∧ k < hi) ∨ (w.heap.size ≤ k ∧ k < w'.heap.size)

set_option maxHeartbeats 1600000 in
set_option maxRecDepth 100000 in
theorem renameNode_any (t : Ty) : ∀ (lo hi : Nat) (v : Value) (w : World), Rep w lo hi t v → hi ≤ w.heap.size → lo ≤ w.heap.size →
    Calls Try.prog 66 #[v] w fun e w' => ∃ T b, e = .returned (.iface T (.pointer (some ⟨b, 0, none⟩))) ∧ RepP w' (RS lo hi w w') t.ren (.iface T (.pointer (some ⟨b, 0, none⟩))) ∧ Below w.heap.size w w' := by
  induction t with
  | lf c =>
    rintro lo hi v w ⟨b, h1, h2, ⟨hv, rfl, hb⟩ | ⟨hv, rfl, hb⟩⟩ hh hlo
    · have c0 := cell_of1 hb
      have HB := hid hb
      clear hb
      have t1 := ta_var_var b
      go_enter Try.func66, Try.ntmps66
      go_wp2_with (go_at_call 77; refine (capitalOf_any c _).mono ?_; rintro e w' ⟨rfl, rfl⟩)
      go_ret
      exact ⟨_, _, rfl, ⟨_, .inr ⟨Nat.le_refl _, by simp only [World.size_alloc]; omega⟩, .inl ⟨capB_var c hv, rfl, heap_new1 _ _⟩⟩, (Below.refl _ _).alloc (Nat.le_refl _) _⟩
    · have t1 := ta_con_var b
      have t2 := ta_con_cst b
      go_enter Try.func66, Try.ntmps66
      go_wp2_with fail
      go_ret
      refine ⟨_, b, rfl, ⟨b, .inl ⟨h1, h2⟩, .inr ⟨?_, rfl, ?_⟩⟩, Below.refl _ _⟩
      · rw [capB_con c hv]; exact hv
      · rw [capB_con c hv]; exact hb
  | un c a ih =>
    rintro lo hi v w ⟨b, g, cap, x, h1, h2, h3, h4, rfl, hb, hx, hrep⟩ hh hlo
    obtain ⟨i0, hi0, hz0, hz1, hz2⟩ := info_parts nodeInfo
    obtain ⟨T, bx, rfl, _, _⟩ := hrep.form
    obtain ⟨c0, c1, _⟩ := two_cells hb
    have HB := hid hb
    clear hb
    have t1 := ta_cst_var b
    have t2 := ta_cst_cst b
    go_enter Try.func66, Try.ntmps66
    go_wp2_with fail
    refine wp_loop_rounds 2 ?_
    rw [rounds_succ]
    go_wp2_with fail
    refine (ih lo hi _ w hrep hh hlo).mono ?_
    rintro e w1 ⟨T1, b1, rfl, hrep1, hb1⟩
    have k0 := cell_below c0 (by omega) hb1
    have K0 := hid k0
    go_wp2_with (at_builtin; refine wpList_append_own _ rfl _ _ 79 rfl w.heap.size 47 i0 .nilIface 1 16 Try.underlying79 hi0 hz0 hz1 hz2 rfl (by decide) (.slice none 0 0) 0 [] rfl ⟨rfl, .inl ⟨rfl, rfl⟩⟩ ⟨w1.heap.size, 0, none⟩ 1 1 [.iface T1 (.pointer (some ⟨b1, 0, none⟩))] rfl rfl ?c1 ?c2 ?c3 ?c4 ?c5 ?_)
    case c1 => exact news1 _ _ _
    case c2 =>
      intro u hu
      simp only [List.mem_singleton] at hu
      subst hu
      rfl
    case c3 => decide
    case c4 => decide
    case c5 => have := hb1.size; simp only [World.size_alloc]; omega
    intro v2 w2 hown2 hg2 hv2
    clear hv2
    have z1 := hb1.size
    have z2 := hg2.size
    simp only [World.size_alloc] at z2
    obtain ⟨g2, cap2, rfl, q1, q2, q3, q4⟩ := own1 hown2
    have Q3 := hid q3
    clear q3 hown2
    have hbw : Below w.heap.size w w2 := (hb1.alloc hb1.size _).grown hg2 (by simp only [World.size_alloc]; omega) (by intro k hk; simp [Value.ownBlock] at hk)
    have hk2 : ∀ k, k < w1.heap.size → w2.heap[k]? = w1.heap[k]? := fun k hk => (hg2.block k (by simp only [World.size_alloc]; omega) (by simp [Value.ownBlock])).trans (Below.heap_alloc _ _ _ hk)
    have m0 := cell_below c0 (by omega) hbw
    have HK2 := hid hk2
    clear hk2 k0
    go_wp2_with fail
    rw [rounds_succ]
    go_wp2_with fail
    go_ret
    refine ⟨_, _, rfl, ⟨w2.heap.size, g2, cap2, .iface T1 (.pointer (some ⟨b1, 0, none⟩)), .inr ⟨by omega, by simp only [World.size_alloc]; omega⟩, .inr ⟨by omega, by simp only [World.size_alloc]; omega⟩, rfl, heap_new1 _ _, ?_, ?_⟩, hbw.alloc hbw.size _⟩
    · rw [World.cell?_of_block (w := w2) (Below.heap_alloc _ _ _ q2)]
      exact Q3.out
    · refine hrep1.keep fun k hk => ?_
      have hk' : k < w1.heap.size := by rcases hk with hk | hk <;> omega
      refine ⟨?_, (Below.heap_alloc _ _ _ (by omega)).trans (HK2.out k hk')⟩
      rcases hk with hk | hk
      · exact .inl hk
      · exact .inr ⟨hk.1, by simp only [World.size_alloc]; omega⟩
  | bi c a a' iha ihb =>
    rintro lo hi v w ⟨b, g, cap, x, x', h1, h2, h3, h4, rfl, hb, hx, hx', hrep, hrep'⟩ hh hlo
    obtain ⟨i0, hi0, hz0, hz1, hz2⟩ := info_parts nodeInfo
    obtain ⟨T, bx, rfl, _, _⟩ := hrep.form
    obtain ⟨T', bx', rfl, _, _⟩ := hrep'.form
    obtain ⟨c0, c1, _⟩ := two_cells hb
    have HB := hid hb
    have HX' := hid hx'
    clear hb hx'
    have t1 := ta_cst_var b
    have t2 := ta_cst_cst b
    go_enter Try.func66, Try.ntmps66
    go_wp2_with fail
    refine wp_loop_rounds 3 ?_
    rw [rounds_succ]
    go_wp2_with fail
    refine (iha lo hi _ w hrep hh hlo).mono ?_
    rintro e w1 ⟨T1, b1, rfl, hrep1, hb1⟩
    go_wp2_with (at_builtin; refine wpList_append_lies _ rfl _ _ 79 rfl w.heap.size 47 i0 .nilIface 1 16 Try.underlying79 hi0 hz0 hz1 hz2 rfl (by decide) (.slice none 0 0) 0 [] rfl ⟨rfl, .inl ⟨rfl, rfl⟩⟩ ⟨w1.heap.size, 0, none⟩ 1 1 [.iface T1 (.pointer (some ⟨b1, 0, none⟩))] rfl rfl ?c1 ?c2 (by decide) ?c3 ?c4 ?c5 (w1.heap.size + 1) (World.size_alloc _ _) ?_)
    case c1 => exact news1 _ _ _
    case c2 =>
      intro u hu
      simp only [List.mem_singleton] at hu
      subst hu
      rfl
    case c3 => decide
    case c4 => decide
    case c5 => have := hb1.size; simp only [World.size_alloc]; omega
    intro g2 cap2 w2 hown2 hg2 hat2 q2
    have z1 := hb1.size
    have z2 := hg2.size
    simp only [World.size_alloc] at z2
    have hg2n : g2 = w1.heap.size + 1 := by
      rcases hat2 with h | h
      · cases h
      · exact h
    have HG2 := hid hg2n
    have q1 : w.heap.size ≤ g2 := by omega
    have hg2a : w1.heap.size ≤ g2 := by omega
    clear hat2 hg2n
    have hbw : Below w.heap.size w w2 := (hb1.alloc hb1.size _).grown hg2 (by simp only [World.size_alloc]; omega) (by intro k hk; simp [Value.ownBlock] at hk)
    have hk2 : ∀ k, k < w1.heap.size → w2.heap[k]? = w1.heap[k]? := fun k hk => (hg2.block k (by simp only [World.size_alloc]; omega) (by simp [Value.ownBlock])).trans (Below.heap_alloc _ _ _ hk)
    have HK2 := hid hk2
    clear hk2
    have hrep2 : Rep w2 lo hi a' (.iface T' (.pointer (some ⟨bx', 0, none⟩))) := hrep'.keep (Nat.le_refl _) (Nat.le_refl _) fun k _ hk => hbw.block k (by omega)
    have hx2c : w2.cell? ⟨g, 1, none⟩ = some (.iface T' (.pointer (some ⟨bx', 0, none⟩))) := cell_below HX'.out (by omega) hbw
    have HOWN := hid hown2
    clear hown2
    go_wp2_with fail
    rw [rounds_succ]
    go_wp2_with fail
    refine (ihb lo hi _ w2 hrep2 (by have := hbw.size; omega) (by have := hbw.size; omega)).mono ?_
    rintro e w3 ⟨T3, b3, rfl, hrep3, hb3⟩
    clear hx2c
    have z3 := hb3.size
    have hown3 : w3.ownsRow w.heap.size 47 1 (.slice (some ⟨g2, 0, none⟩) 1 cap2) 1 [.iface T1 (.pointer (some ⟨b1, 0, none⟩))] := own_kept HOWN.out (hb3.block g2 q2)
    go_wp2_with (at_builtin; refine wpList_append_own _ rfl _ _ 79 rfl w.heap.size 47 i0 .nilIface 1 16 Try.underlying79 hi0 hz0 hz1 hz2 rfl (by decide) _ _ _ rfl (hown3.alloc _) ⟨w3.heap.size, 0, none⟩ 1 1 [.iface T3 (.pointer (some ⟨b3, 0, none⟩))] rfl rfl ?d1 ?d2 ?d3 ?d4 ?d5 ?_)
    case d1 => exact news1 _ _ _
    case d2 =>
      intro u hu
      simp only [List.mem_singleton] at hu
      subst hu
      rfl
    case d3 => decide
    case d4 => decide
    case d5 => simp only [World.size_alloc]; omega
    intro v4 w4 hown4 hg4 hv4
    clear hv4 hown3
    have z4 := hg4.size
    simp only [World.size_alloc] at z4
    obtain ⟨g4, cap4, rfl, y1, y2, y3, y4⟩ := own2 hown4
    have Y3 := hid y3
    have Y4 := hid y4
    clear y3 y4 hown4
    have hbw3 := hbw.trans (hb3.mono hbw.size)
    have hbw4 : Below w.heap.size w w4 := (hbw3.alloc hbw3.size _).grown hg4 (by have := hbw3.size; simp only [World.size_alloc]; omega) (by intro k hk; simp [Value.ownBlock] at hk; omega)
    have hk4 : ∀ k, k < w3.heap.size → k ≠ g2 → w4.heap[k]? = w3.heap[k]? := fun k hk hn => (hg4.block k (by simp only [World.size_alloc]; omega) (by simp [Value.ownBlock]; omega)).trans (Below.heap_alloc _ _ _ hk)
    have HK4 := hid hk4
    clear hk4
    have m0 := cell_below c0 (by omega) hbw4
    go_wp2_with fail
    rw [rounds_succ]
    go_wp2_with fail
    go_ret
    refine ⟨_, _, rfl, ⟨w4.heap.size, g4, cap4, .iface T1 (.pointer (some ⟨b1, 0, none⟩)), .iface T3 (.pointer (some ⟨b3, 0, none⟩)), .inr ⟨by omega, by simp only [World.size_alloc]; omega⟩, .inr ⟨by omega, by simp only [World.size_alloc]; omega⟩, rfl, heap_new1 _ _, ?_, ?_, ?_, ?_⟩, hbw4.alloc hbw4.size _⟩
    · rw [World.cell?_of_block (w := w4) (Below.heap_alloc _ _ _ y2)]
      exact Y3.out
    · rw [World.cell?_of_block (w := w4) (Below.heap_alloc _ _ _ y2)]
      exact Y4.out
    · refine hrep1.keep fun k hk => ?_
      have hk' : k < w1.heap.size := by rcases hk with hk | hk <;> omega
      refine ⟨?_, ?_⟩
      · rcases hk with hk | hk
        · exact .inl hk
        · exact .inr ⟨hk.1, by simp only [World.size_alloc]; omega⟩
      · rw [Below.heap_alloc _ _ _ (by omega), HK4.out k (by omega) (by omega), hb3.block k (by omega)]
        exact HK2.out k hk'
    · refine hrep3.keep fun k hk => ?_
      have hk' : k < w3.heap.size ∧ k ≠ g2 := by rcases hk with hk | hk <;> omega
      refine ⟨?_, ?_⟩
      · rcases hk with hk | hk
        · exact .inl hk
        · exact .inr ⟨by omega, by simp only [World.size_alloc]; omega⟩
      · rw [Below.heap_alloc _ _ _ (by omega)]
        exact HK4.out k hk'.1 hk'.2

end Go.Proofs.Ytpgeklgbikhofaa
