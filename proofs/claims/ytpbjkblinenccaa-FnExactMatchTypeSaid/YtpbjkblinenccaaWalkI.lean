/- The walk through two types in the program: their letters, their parts side by side, and what catches its panic. -/
import Derived.Test.YtpbjkblinenccaaApI
import Derived.Test.YtpbjkblinenccaaUnW
import Derived.Defers
import Derived.Recover
namespace Go.Proofs.Ytpbjkblinenccaa
open Go.RowKit

def noBindC : List PanicEntry := [{ v := .iface 126 (.agg #[]), recovered := false }]
theorem m_var_head (b : Nat) (w : World) : (method 289 97 (.pointer (some ⟨b, 0, none⟩)) "loop.example/instancesearch/impl.head").run Try.prog w = .ok (150, .pointer (some ⟨b, 0, none⟩)) w := by kernel_rfl
theorem m_con_head (b : Nat) (w : World) : (method 289 139 (.pointer (some ⟨b, 0, none⟩)) "loop.example/instancesearch/impl.head").run Try.prog w = .ok (157, .pointer (some ⟨b, 0, none⟩)) w := by kernel_rfl
theorem m_cst_head (b : Nat) (w : World) : (method 289 132 (.pointer (some ⟨b, 0, none⟩)) "loop.example/instancesearch/impl.head").run Try.prog w = .ok (154, .pointer (some ⟨b, 0, none⟩)) w := by kernel_rfl
theorem cf_head_var (args : Array Value) (w : World) : (callFunc 150 args).run Try.prog w = .ok (.enter 150 args) w := by kernel_rfl
theorem cf_head_con (args : Array Value) (w : World) : (callFunc 157 args).run Try.prog w = .ok (.enter 157 args) w := by kernel_rfl
theorem cf_head_cst (args : Array Value) (w : World) : (callFunc 154 args).run Try.prog w = .ok (.enter 154 args) w := by kernel_rfl
theorem cf_parts_var (args : Array Value) (w : World) : (callFunc 151 args).run Try.prog w = .ok (.enter 151 args) w := by kernel_rfl
theorem cf_parts_con (args : Array Value) (w : World) : (callFunc 158 args).run Try.prog w = .ok (.enter 158 args) w := by kernel_rfl
theorem cf_parts_cst (args : Array Value) (w : World) : (callFunc 155 args).run Try.prog w = .ok (.enter 155 args) w := by kernel_rfl

theorem head_var (b : Nat) (c : UInt8) (w : World) (h : w.cell? ⟨b, 0, none⟩ = some (.int .u8 c.toNat)) : Calls Try.prog 150 #[.pointer (some ⟨b, 0, none⟩)] w fun e w' => e = .returned (.int .u8 c.toNat) ∧ w = w' := by
  go_enter Try.func150, Try.ntmps150
  go_wp2
  go_ret
  exact ⟨rfl, rfl⟩
theorem head_con (b : Nat) (c : UInt8) (w : World) (h : w.cell? ⟨b, 0, none⟩ = some (.int .u8 c.toNat)) : Calls Try.prog 157 #[.pointer (some ⟨b, 0, none⟩)] w fun e w' => e = .returned (.int .u8 c.toNat) ∧ w = w' := by
  go_enter Try.func157, Try.ntmps157
  go_wp2
  go_ret
  exact ⟨rfl, rfl⟩
theorem head_cst (b : Nat) (c : UInt8) (w : World) (h : w.cell? ⟨b, 0, none⟩ = some (.int .u8 c.toNat)) : Calls Try.prog 154 #[.pointer (some ⟨b, 0, none⟩)] w fun e w' => e = .returned (.int .u8 c.toNat) ∧ w = w' := by
  go_enter Try.func154, Try.ntmps154
  go_wp2
  go_ret
  exact ⟨rfl, rfl⟩

/-- The slice of a type's parts. -/
def PartsAt (w : World) (S : Nat → Prop) (t : Ty) (p : Value) : Prop := match t with
  | .lf _ => p = .slice none 0 0
  | .un _ a => ∃ g cap x, S g ∧ p = .slice (some ⟨g, 0, none⟩) 1 cap ∧ w.cell? ⟨g, 0, none⟩ = some x ∧ RepP w S a x
  | .bi _ a b => ∃ g cap x y, S g ∧ p = .slice (some ⟨g, 0, none⟩) 2 cap ∧ w.cell? ⟨g, 0, none⟩ = some x ∧ w.cell? ⟨g, 1, none⟩ = some y ∧ RepP w S a x ∧ RepP w S b y
/-- A tree in memory: its letter and its parts by the methods of its node. -/
structure NodeAt (w : World) (S : Nat → Prop) (t : Ty) (T b : Nat) : Prop where
  blk : S b
  head : ∃ fn, (∀ w, (method 289 T (.pointer (some ⟨b, 0, none⟩)) "loop.example/instancesearch/impl.head").run Try.prog w = .ok (fn, .pointer (some ⟨b, 0, none⟩)) w) ∧
    (∀ args w, (callFunc fn args).run Try.prog w = .ok (.enter fn args) w) ∧
    ∀ W : World, W.heap[b]? = w.heap[b]? → Calls Try.prog fn #[.pointer (some ⟨b, 0, none⟩)] W fun e w' => e = .returned (.int .u8 t.top.toNat) ∧ W = w'
  parts : ∃ fn p, PartsAt w S t p ∧ (∀ w, (method 289 T (.pointer (some ⟨b, 0, none⟩)) "loop.example/instancesearch/impl.parts").run Try.prog w = .ok (fn, .pointer (some ⟨b, 0, none⟩)) w) ∧
    (∀ args w, (callFunc fn args).run Try.prog w = .ok (.enter fn args) w) ∧
    ∀ W : World, W.heap[b]? = w.heap[b]? → Calls Try.prog fn #[.pointer (some ⟨b, 0, none⟩)] W fun e w' => e = .returned p ∧ W = w'
theorem nodeAt {w : World} {S : Nat → Prop} {t : Ty} {v : Value} (hr : RepP w S t v) : ∃ T b, v = .iface T (.pointer (some ⟨b, 0, none⟩)) ∧ NodeAt w S t T b := by
  cases t with
  | lf c =>
    obtain ⟨b, h1, ⟨hv, rfl, hb⟩ | ⟨hv, rfl, hb⟩⟩ := hr
    · exact ⟨_, b, rfl, h1, ⟨_, m_var_head b, cf_head_var, fun W hW => head_var b c W (cell_of1 (hW.trans hb))⟩, ⟨_, _, rfl, m_var_parts b, cf_parts_var, fun W _ => parts_var b W⟩⟩
    · exact ⟨_, b, rfl, h1, ⟨_, m_con_head b, cf_head_con, fun W hW => head_con b c W (cell_of1 (hW.trans hb))⟩, ⟨_, _, rfl, m_con_parts b, cf_parts_con, fun W _ => parts_con b W⟩⟩
  | un c a =>
    obtain ⟨b, g, cap, x, h1, h3, rfl, hb, hx, hrep⟩ := hr
    exact ⟨_, b, rfl, h1, ⟨_, m_cst_head b, cf_head_cst, fun W hW => head_cst b c W (two_cells' (hW.trans hb)).1⟩, ⟨_, _, ⟨g, cap, x, h3, rfl, hx, hrep⟩, m_cst_parts b, cf_parts_cst, fun W hW => parts_cst b g 1 cap W (two_cells' (hW.trans hb)).2.1⟩⟩
  | bi c a a' =>
    obtain ⟨b, g, cap, x, x', h1, h3, rfl, hb, hx, hx', hrep, hrep'⟩ := hr
    exact ⟨_, b, rfl, h1, ⟨_, m_cst_head b, cf_head_cst, fun W hW => head_cst b c W (two_cells' (hW.trans hb)).1⟩, ⟨_, _, ⟨g, cap, x, x', h3, rfl, hx, hx', hrep, hrep'⟩, m_cst_parts b, cf_parts_cst, fun W hW => parts_cst b g 2 cap W (two_cells' (hW.trans hb)).2.1⟩⟩

end Go.Proofs.Ytpbjkblinenccaa
