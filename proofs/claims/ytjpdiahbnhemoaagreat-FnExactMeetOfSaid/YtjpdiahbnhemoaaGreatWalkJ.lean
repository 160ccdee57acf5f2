/- The walk through two types in the program: their letters, their parts side by side, and what catches its panic. walkParts and endsWell of the program. -/
import Derived.Test.YtjpdiahbnhemoaaGreatApW
import Derived.Test.YtjpdiahbnhemoaaGreatUnW
import Derived.Defers
import Derived.Recover
namespace Go.Proofs.YtjpdiahbnhemoaaGreat
open Go.RowKit

def noBindC : List PanicEntry := [{ v := .iface 98 (.agg #[]), recovered := false }]
theorem m_var_head (b : Nat) (w : World) : (method 268 75 (.pointer (some ⟨b, 0, none⟩)) "loop.example/instancesearch/impl.head").run Tryz.prog w = .ok (105, .pointer (some ⟨b, 0, none⟩)) w := by kernel_rfl
theorem m_con_head (b : Nat) (w : World) : (method 268 111 (.pointer (some ⟨b, 0, none⟩)) "loop.example/instancesearch/impl.head").run Tryz.prog w = .ok (121, .pointer (some ⟨b, 0, none⟩)) w := by kernel_rfl
theorem m_cst_head (b : Nat) (w : World) : (method 268 107 (.pointer (some ⟨b, 0, none⟩)) "loop.example/instancesearch/impl.head").run Tryz.prog w = .ok (108, .pointer (some ⟨b, 0, none⟩)) w := by kernel_rfl
theorem cf_head_var (args : Array Value) (w : World) : (callFunc 105 args).run Tryz.prog w = .ok (.enter 105 args) w := by kernel_rfl
theorem cf_head_con (args : Array Value) (w : World) : (callFunc 121 args).run Tryz.prog w = .ok (.enter 121 args) w := by kernel_rfl
theorem cf_head_cst (args : Array Value) (w : World) : (callFunc 108 args).run Tryz.prog w = .ok (.enter 108 args) w := by kernel_rfl
theorem cf_parts_var (args : Array Value) (w : World) : (callFunc 106 args).run Tryz.prog w = .ok (.enter 106 args) w := by kernel_rfl
theorem cf_parts_con (args : Array Value) (w : World) : (callFunc 122 args).run Tryz.prog w = .ok (.enter 122 args) w := by kernel_rfl
theorem cf_parts_cst (args : Array Value) (w : World) : (callFunc 109 args).run Tryz.prog w = .ok (.enter 109 args) w := by kernel_rfl

theorem head_var (b : Nat) (c : UInt8) (w : World) (h : w.cell? ⟨b, 0, none⟩ = some (.int .u8 c.toNat)) : Calls Tryz.prog 105 #[.pointer (some ⟨b, 0, none⟩)] w fun e w' => e = .returned (.int .u8 c.toNat) ∧ w = w' := by
  go_enter Tryz.func105, Tryz.ntmps105
  go_wp2
  go_ret
  exact ⟨rfl, rfl⟩
theorem head_con (b : Nat) (c : UInt8) (w : World) (h : w.cell? ⟨b, 0, none⟩ = some (.int .u8 c.toNat)) : Calls Tryz.prog 121 #[.pointer (some ⟨b, 0, none⟩)] w fun e w' => e = .returned (.int .u8 c.toNat) ∧ w = w' := by
  go_enter Tryz.func121, Tryz.ntmps121
  go_wp2
  go_ret
  exact ⟨rfl, rfl⟩
theorem head_cst (b : Nat) (c : UInt8) (w : World) (h : w.cell? ⟨b, 0, none⟩ = some (.int .u8 c.toNat)) : Calls Tryz.prog 108 #[.pointer (some ⟨b, 0, none⟩)] w fun e w' => e = .returned (.int .u8 c.toNat) ∧ w = w' := by
  go_enter Tryz.func108, Tryz.ntmps108
  go_wp2
  go_ret
  exact ⟨rfl, rfl⟩

/-- The slice of a type's parts. -/
def PartsAt (w : World) (S : Nat → Prop) (t : Ty) (p : Value) : Prop := match t with
  | .lf _ => p = .slice none 0 0
  | .un _ a => ∃ g cap x, S g ∧ p = .slice (some ⟨g, 0, none⟩) 1 cap ∧ w.cell? ⟨g, 0, none⟩ = some x ∧ RepP w S a x
  | .bi _ a b => ∃ g cap x y, S g ∧ p = .slice (some ⟨g, 0, none⟩) 2 cap ∧ w.cell? ⟨g, 0, none⟩ = some x ∧ w.cell? ⟨g, 1, none⟩ = some y ∧ RepP w S a x ∧ RepP w S b y
/-- A tree in memory: its letter and its parts by the methods of its node. -/
structure NodeAt (w : World) (S : Nat → Prop) (t : Ty) (T b : Nat) : Prop where
  blk : S b
  head : ∃ fn, (∀ w, (method 268 T (.pointer (some ⟨b, 0, none⟩)) "loop.example/instancesearch/impl.head").run Tryz.prog w = .ok (fn, .pointer (some ⟨b, 0, none⟩)) w) ∧
    (∀ args w, (callFunc fn args).run Tryz.prog w = .ok (.enter fn args) w) ∧
    ∀ W : World, W.heap[b]? = w.heap[b]? → Calls Tryz.prog fn #[.pointer (some ⟨b, 0, none⟩)] W fun e w' => e = .returned (.int .u8 t.top.toNat) ∧ W = w'
  parts : ∃ fn p, PartsAt w S t p ∧ (∀ w, (method 268 T (.pointer (some ⟨b, 0, none⟩)) "loop.example/instancesearch/impl.parts").run Tryz.prog w = .ok (fn, .pointer (some ⟨b, 0, none⟩)) w) ∧
    (∀ args w, (callFunc fn args).run Tryz.prog w = .ok (.enter fn args) w) ∧
    ∀ W : World, W.heap[b]? = w.heap[b]? → Calls Tryz.prog fn #[.pointer (some ⟨b, 0, none⟩)] W fun e w' => e = .returned p ∧ W = w'
theorem nodeAt {w : World} {S : Nat → Prop} {t : Ty} {v : Value} (hr : RepP w S t v) : ∃ T b, v = .iface T (.pointer (some ⟨b, 0, none⟩)) ∧ NodeAt w S t T b := by
  cases t with
  | lf c =>
    obtain ⟨b, h1, ⟨hv, rfl, hb⟩ | ⟨hv, rfl, hb⟩⟩ := hr
    · exact ⟨_, b, rfl, h1, ⟨_, m_var_head b, cf_head_var, fun W hW => head_var b c W (cell_of1 (hW.trans hb))⟩, ⟨_, _, rfl, m_var_parts b, cf_parts_var, fun W _ => parts_var b W⟩⟩
    · exact ⟨_, b, rfl, h1, ⟨_, m_con_head b, cf_head_con, fun W hW => head_con b c W (cell_of1 (hW.trans hb))⟩, ⟨_, _, rfl, m_con_parts b, cf_parts_con, fun W _ => parts_con b W⟩⟩
  | un c a =>
    obtain ⟨b, g, cap, x, h1, h3, rfl, hb, hx, hrep⟩ := hr
    exact ⟨_, b, rfl, h1, ⟨_, m_cst_head b, cf_head_cst, fun W hW => head_cst b c W (two_cells' (hW.trans hb)).1⟩, ⟨_, _, ⟨g, cap, x, h3, rfl, hx, hrep⟩, m_cst_parts b, cf_parts_cst, fun W hW => parts_cst b g 1 cap W (two_cells' (hW.trans hb)).2.1⟩⟩
  | bi c a a' =>
    obtain ⟨b, g, cap, x, x', h1, h3, rfl, hb, hx, hx', hrep, hrep'⟩ := hr
    exact ⟨_, b, rfl, h1, ⟨_, m_cst_head b, cf_head_cst, fun W hW => head_cst b c W (two_cells' (hW.trans hb)).1⟩, ⟨_, _, ⟨g, cap, x, x', h3, rfl, hx, hx', hrep, hrep'⟩, m_cst_parts b, cf_parts_cst, fun W hW => parts_cst b g 2 cap W (two_cells' (hW.trans hb)).2.1⟩⟩

end Go.Proofs.YtjpdiahbnhemoaaGreat

namespace Go.Proofs.YtjpdiahbnhemoaaGreat
open Go.RowKit

theorem top_ne {c d : UInt8} (h : c ≠ d) : ((c.toNat : Int) != d.toNat) = true := by
  simp only [bne_iff_ne, ne_eq]
  intro e
  exact h (UInt8.toNat_inj.1 (by omega))

set_option maxHeartbeats 400000 in
set_option maxRecDepth 100000 in
theorem walk_clash (S : Nat → Prop) (m n : Ty) (v1 v2 fv : Value) (w : World) (h1 : RepP w S m v1) (h2 : RepP w S n v2) (hne : m.top ≠ n.top) :
    Calls Tryz.prog 36 #[v1, v2, fv] w fun e w' => e = .panicked noBindC ∧ w' = w := by
  obtain ⟨T1, b1, rfl, n1⟩ := nodeAt h1
  obtain ⟨T2, b2, rfl, n2⟩ := nodeAt h2
  obtain ⟨fh1, hm1, hc1, hk1⟩ := n1.head
  obtain ⟨fh2, hm2, hc2, hk2⟩ := n2.head
  have HK1 := hid hk1
  have HK2 := hid hk2
  have ht := top_ne hne
  clear hk1 hk2 n1 n2 h1 h2 hne
  go_enter Tryz.func36, Tryz.ntmps36
  go_wp2_with fail
  refine (HK1.out w rfl).mono ?_
  rintro e w' ⟨rfl, rfl⟩
  go_wp2_with fail
  refine (HK2.out w rfl).mono ?_
  rintro e w' ⟨rfl, rfl⟩
  go_wp2
  exact ⟨rfl, rfl, rfl⟩

set_option maxHeartbeats 400000 in
set_option maxRecDepth 100000 in
theorem walk_con (S : Nat → Prop) (c : UInt8) (v1 v2 fv : Value) (w : World) (h1 : RepP w S (.lf c) v1) (h2 : RepP w S (.lf c) v2) :
    Calls Tryz.prog 36 #[v1, v2, fv] w fun e w' => e = .returned (.tuple #[]) ∧ w' = w := by
  obtain ⟨T1, b1, rfl, n1⟩ := nodeAt h1
  obtain ⟨T2, b2, rfl, n2⟩ := nodeAt h2
  obtain ⟨fh1, hm1, hc1, hk1⟩ := n1.head
  obtain ⟨fh2, hm2, hc2, hk2⟩ := n2.head
  obtain ⟨fp1, p1, q1, pm1, pc1, pk1⟩ := n1.parts
  obtain ⟨fp2, p2, q2, pm2, pc2, pk2⟩ := n2.parts
  obtain rfl : p1 = .slice none 0 0 := q1
  obtain rfl : p2 = .slice none 0 0 := q2
  have HK1 := hid hk1
  have HK2 := hid hk2
  have PK1 := hid pk1
  have PK2 := hid pk2
  clear hk1 hk2 pk1 pk2 n1 n2 h1 h2
  simp only [Ty.top] at HK1 HK2
  go_enter Tryz.func36, Tryz.ntmps36
  go_wp2_with fail
  refine (HK1.out w rfl).mono ?_
  rintro e w' ⟨rfl, rfl⟩
  go_wp2_with fail
  refine (HK2.out w rfl).mono ?_
  rintro e w' ⟨rfl, rfl⟩
  go_wp2_with fail
  refine (PK2.out w rfl).mono ?_
  rintro e w' ⟨rfl, rfl⟩
  go_wp2_with fail
  refine (PK1.out w rfl).mono ?_
  rintro e w' ⟨rfl, rfl⟩
  go_wp2_with fail
  refine wp_loop_rounds 1 ?_
  rw [rounds_succ]
  go_wp2_with fail
  go_end0
  exact ⟨rfl, rfl⟩

set_option maxHeartbeats 1000000 in
set_option maxRecDepth 100000 in
theorem walk_un (S : Nat → Prop) (c : UInt8) (a b : Ty) (v1 v2 : Value) (fn : Nat) (k1 k2 : Value) (hcf : ∀ args w, (callFunc fn args).run Tryz.prog w = .ok (.enter fn args) w) (w : World) (h1 : RepP w S (.un c a) v1) (h2 : RepP w S (.un c b) v2) (R : Ending → World → Prop)
    (HC : ∀ x y, RepP w S a x → RepP w S b y → Calls Tryz.prog fn #[x, y, k1, k2] w R) (hR : ∀ e w', R e w' → e = .returned (.tuple #[]) ∨ e = .panicked noBindC) :
    Calls Tryz.prog 36 #[v1, v2, .func (.func fn) #[] #[k1, k2]] w R := by
  obtain ⟨T1, b1, rfl, n1⟩ := nodeAt h1
  obtain ⟨T2, b2, rfl, n2⟩ := nodeAt h2
  obtain ⟨fh1, hm1, hc1, hk1⟩ := n1.head
  obtain ⟨fh2, hm2, hc2, hk2⟩ := n2.head
  obtain ⟨fp1, p1, q1, pm1, pc1, pk1⟩ := n1.parts
  obtain ⟨fp2, p2, q2, pm2, pc2, pk2⟩ := n2.parts
  obtain ⟨g1, cap1, x, _, rfl, x1, rx⟩ := q1
  obtain ⟨g2, cap2, y, _, rfl, y1, ry⟩ := q2
  have HK1 := hid hk1
  have HK2 := hid hk2
  have PK1 := hid pk1
  have PK2 := hid pk2
  have HC' := hid (HC x y rx ry)
  have HR := hid hR
  obtain ⟨Tx, bx, rfl, _⟩ := rx.form
  obtain ⟨Ty', by', rfl, _⟩ := ry.form
  clear hk1 hk2 pk1 pk2 n1 n2 h1 h2 HC hR rx ry
  simp only [Ty.top] at HK1 HK2
  go_enter Tryz.func36, Tryz.ntmps36
  go_wp2_with fail
  refine (HK1.out w rfl).mono ?_
  rintro e w' ⟨rfl, rfl⟩
  go_wp2_with fail
  refine (HK2.out w rfl).mono ?_
  rintro e w' ⟨rfl, rfl⟩
  go_wp2_with fail
  refine (PK2.out w rfl).mono ?_
  rintro e w' ⟨rfl, rfl⟩
  go_wp2_with fail
  refine (PK1.out w rfl).mono ?_
  rintro e w' ⟨rfl, rfl⟩
  go_wp2_with fail
  refine wp_loop_rounds 2 ?_
  rw [rounds_succ]
  go_wp2_with fail
  refine HC'.out.mono ?_
  intro e w1 hr
  rcases HR.out e w1 hr with rfl | rfl
  · have HRR := hid hr
    clear hr
    go_wp2_with fail
    rw [rounds_succ]
    go_wp2_with fail
    go_end0
    exact HRR.out
  · have HRR := hid hr
    clear hr
    go_wp2
    exact ⟨rfl, HRR.out⟩

set_option maxHeartbeats 1000000 in
set_option maxRecDepth 100000 in
theorem walk_bi (S : Nat → Prop) (c : UInt8) (a a' b b' : Ty) (v1 v2 : Value) (fn : Nat) (k1 k2 : Value) (hcf : ∀ args w, (callFunc fn args).run Tryz.prog w = .ok (.enter fn args) w) (w : World) (h1 : RepP w S (.bi c a a') v1) (h2 : RepP w S (.bi c b b') v2) (R : Ending → World → Prop) (Q : World → Prop)
    (HC1 : ∀ x y, RepP w S a x → RepP w S b y → Calls Tryz.prog fn #[x, y, k1, k2] w fun e w1 => (e = .panicked noBindC ∧ R e w1) ∨ (e = .returned (.tuple #[]) ∧ Q w1))
    (HQ : ∀ w1, Q w1 → ∀ k, S k → w1.heap[k]? = w.heap[k]?)
    (HC2 : ∀ w1 x y, Q w1 → RepP w1 S a' x → RepP w1 S b' y → Calls Tryz.prog fn #[x, y, k1, k2] w1 R) (hR : ∀ e w', R e w' → e = .returned (.tuple #[]) ∨ e = .panicked noBindC) :
    Calls Tryz.prog 36 #[v1, v2, .func (.func fn) #[] #[k1, k2]] w R := by
  obtain ⟨T1, b1, rfl, n1⟩ := nodeAt h1
  obtain ⟨T2, b2, rfl, n2⟩ := nodeAt h2
  obtain ⟨fh1, hm1, hc1, hk1⟩ := n1.head
  obtain ⟨fh2, hm2, hc2, hk2⟩ := n2.head
  obtain ⟨fp1, p1, q1, pm1, pc1, pk1⟩ := n1.parts
  obtain ⟨fp2, p2, q2, pm2, pc2, pk2⟩ := n2.parts
  obtain ⟨g1, cap1, x, x', sg1, rfl, x1, x2, rx, rx'⟩ := q1
  obtain ⟨g2, cap2, y, y', sg2, rfl, y1, y2, ry, ry'⟩ := q2
  have HK1 := hid hk1
  have HK2 := hid hk2
  have PK1 := hid pk1
  have PK2 := hid pk2
  have HCA := hid (HC1 x y rx ry)
  have HCB := hid (fun w1 (hq : Q w1) => HC2 w1 x' y' hq (rx'.keep fun k hk => ⟨hk, HQ w1 hq k hk⟩) (ry'.keep fun k hk => ⟨hk, HQ w1 hq k hk⟩))
  have HX := hid (fun w1 (hq : Q w1) => (World.cell?_of_block (w := w) (w' := w1) (a := ⟨g1, 1, none⟩) (HQ w1 hq g1 sg1)).trans x2)
  have HY := hid (fun w1 (hq : Q w1) => (World.cell?_of_block (w := w) (w' := w1) (a := ⟨g2, 1, none⟩) (HQ w1 hq g2 sg2)).trans y2)
  have HR := hid hR
  obtain ⟨Tx, bx, rfl, _⟩ := rx.form
  obtain ⟨Ty', by', rfl, _⟩ := ry.form
  obtain ⟨Tx2, bx2, rfl, _⟩ := rx'.form
  obtain ⟨Ty2, by2, rfl, _⟩ := ry'.form
  clear hk1 hk2 pk1 pk2 n1 n2 h1 h2 HC1 HC2 hR rx ry rx' ry' x2 y2 HQ
  simp only [Ty.top] at HK1 HK2
  go_enter Tryz.func36, Tryz.ntmps36
  go_wp2_with fail
  refine (HK1.out w rfl).mono ?_
  rintro e w' ⟨rfl, rfl⟩
  go_wp2_with fail
  refine (HK2.out w rfl).mono ?_
  rintro e w' ⟨rfl, rfl⟩
  go_wp2_with fail
  refine (PK2.out w rfl).mono ?_
  rintro e w' ⟨rfl, rfl⟩
  go_wp2_with fail
  refine (PK1.out w rfl).mono ?_
  rintro e w' ⟨rfl, rfl⟩
  go_wp2_with fail
  refine wp_loop_rounds 3 ?_
  rw [rounds_succ]
  go_wp2_with fail
  refine HCA.out.mono ?_
  rintro e w1 (⟨rfl, hr⟩ | ⟨rfl, hq⟩)
  · have HRR := hid hr
    clear hr
    go_wp2
    exact ⟨rfl, HRR.out⟩
  · have z1 := HX.out w1 hq
    have z2 := HY.out w1 hq
    have HQ1 := hid hq
    clear hq
    go_wp2_with fail
    rw [rounds_succ]
    go_wp2_with fail
    refine (HCB.out w1 HQ1.out).mono ?_
    intro e w2 hr
    rcases HR.out e w2 hr with rfl | rfl
    · have HRR := hid hr
      clear hr
      go_wp2_with fail
      rw [rounds_succ]
      go_wp2_with fail
      go_end0
      exact HRR.out
    · have HRR := hid hr
      clear hr
      go_wp2
      exact ⟨rfl, HRR.out⟩

set_option maxRecDepth 100000 in
theorem catchB (p : Addr) (w : World) (x : Value) (hc : w.cell? p = some x) (hz : w.frozen? p = false) :
    CallsD Tryz.prog 55 #[.pointer (some p)] (.panicking [{ v := .iface 98 (.agg #[]), recovered := false }]) w fun e u' w' =>
      e = .returned (.tuple #[]) ∧ u' = .panicking [{ v := .iface 98 (.agg #[]), recovered := true }] ∧ w' = w.setCell p (.bool false) := by
  refine callsD_of_wpS Tryz.func55 rfl fun c₀ cs hu => ?_
  apply wpS_seq
  apply wpS_region
  simp [wpOpsS, go_sem, recoverD, hu, Tryz.ntmps55, Exit.thenS]
  refine wpS_cond (t := true) (by simp [Act.eval, Array.replicate]) ?_
  simp only [if_true]
  apply wpS_region
  simp [wpOpsS, go_sem, hc, hz, bodyPostS, results, Tryz.results55]
set_option maxRecDepth 100000 in
theorem catchB_idle (p : Addr) (w : World) :
    CallsD Tryz.prog 55 #[.pointer (some p)] .returning w fun e u' w' => e = .returned (.tuple #[]) ∧ u' = .returning ∧ w' = w := by
  refine callsD_of_wpS Tryz.func55 rfl fun c₀ cs hu => ?_
  apply wpS_seq
  apply wpS_region
  simp [wpOpsS, go_sem, recoverD, hu, Tryz.ntmps55, Exit.thenS]
  refine wpS_cond (t := false) (by simp [Act.eval, Array.replicate]) ?_
  simp only [Bool.false_eq_true, if_false]
  refine wpS_of_wp (wp_skip ?_)
  cases c₀
  simp_all [bodyPostS, results, Tryz.results55]

set_option maxHeartbeats 400000 in
set_option maxRecDepth 100000 in
theorem endsWell_any (fn : Nat) (k1 k2 k3 : Value) (hcf : ∀ args w, (callFunc fn args).run Tryz.prog w = .ok (.enter fn args) w) (w : World) (R : Ending → World → Prop)
    (HC : Calls Tryz.prog fn #[k1, k2, k3] (w.alloc (.cells #[.bool false] 4)) R)
    (hR : ∀ e w1, R e w1 → (e = .returned (.tuple #[]) ∨ e = .panicked noBindC) ∧ w1.heap[w.heap.size]? = some (.cells #[.bool false] 4 (0, 0))) :
    Calls Tryz.prog 37 #[.func (.func fn) #[] #[k1, k2, k3]] w fun e w' => ∃ w1 r, e = .returned (.bool r) ∧ w' = w1.setCell ⟨w.heap.size, 0, none⟩ (.bool r) ∧ R (if r = true then .returned (.tuple #[]) else .panicked noBindC) w1 := by
  have hmf : ∀ (fn : Fn) (first cap : Array Value) (w : World), (Instr.makeFunc fn first cap).run Tryz.prog w = .ok (.func fn first cap) w := fun _ _ _ _ => rfl
  have HCC := hid HC
  have HR := hid hR
  clear HC hR
  go_enter_defers Tryz.func37, Tryz.ntmps37
  go_wp2_with fail
  refine HCC.out.mono ?_
  intro e w1 hr
  obtain ⟨he, hb⟩ := HR.out e w1 hr
  have c1 := cell_of1 hb
  have f1 : w1.frozen? ⟨w.heap.size, 0, none⟩ = false := free_of1 hb
  have HRR := hid hr
  clear hr hb
  rcases he with rfl | rfl
  · go_wp2_with fail
    refine leaves_cons (f := 55) (args := #[.pointer (some ⟨w.heap.size, 0, none⟩)]) (by simp) (by simp [go_sem]) ?_
    refine (catchB_idle _ _).mono ?_
    rintro e u' w'' ⟨rfl, rfl, rfl⟩
    simp only
    exact ⟨.bool true, by simp [results, Tryz.results37, go_sem, c1], w1, true, rfl, rfl, HRR.out⟩
  · go_wp2_with fail
    refine leaves_cons (f := 55) (args := #[.pointer (some ⟨w.heap.size, 0, none⟩)]) (by simp) (by simp [go_sem]) ?_
    refine (catchB ⟨w.heap.size, 0, none⟩ w1 (.bool false) c1 f1).mono ?_
    rintro e u' w'' ⟨rfl, rfl, rfl⟩
    simp only [settle]
    exact ⟨.bool false, by simp [results, Tryz.results37, go_sem, c1], w1, false, rfl, rfl, HRR.out⟩

end Go.Proofs.YtjpdiahbnhemoaaGreat
