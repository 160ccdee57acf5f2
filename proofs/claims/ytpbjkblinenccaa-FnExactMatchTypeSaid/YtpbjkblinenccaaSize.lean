/- SizeOf and DepthOf, in the program and in the model. -/
import Derived.Test.YtpbjkblinenccaaSpecT
import Derived.LoopN
namespace Go.Proofs.Ytpbjkblinenccaa
open Go.RowKit

def Ty.size : Ty → Nat
  | .lf _ => 1
  | .un _ a => 1 + a.size
  | .bi _ a b => 1 + a.size + b.size
def Ty.depth : Ty → Nat
  | .lf _ => 0
  | .un _ a => 1 + a.depth
  | .bi _ a b => max (1 + a.depth) (1 + b.depth)
theorem size_text (t : Ty) : t.size ≤ t.text.length := by
  induction t with
  | lf c => simp [Ty.size, Ty.text]
  | un c a ih => simp [Ty.size, Ty.text]; omega
  | bi c a b iha ihb => simp [Ty.size, Ty.text]; omega
theorem depth_size (t : Ty) : t.depth ≤ t.size := by
  induction t with
  | lf c => simp [Ty.size, Ty.depth]
  | un c a ih => simp [Ty.size, Ty.depth]; omega
  | bi c a b iha ihb => simp [Ty.size, Ty.depth]; omega

theorem m_var_parts (b : Nat) (w : World) : (method 289 97 (.pointer (some ⟨b, 0, none⟩)) "loop.example/instancesearch/impl.parts").run Try.prog w = .ok (151, .pointer (some ⟨b, 0, none⟩)) w := by kernel_rfl
theorem m_var_text (b : Nat) (w : World) : (method 289 97 (.pointer (some ⟨b, 0, none⟩)) "loop.example/instancesearch/impl.text").run Try.prog w = .ok (152, .pointer (some ⟨b, 0, none⟩)) w := by kernel_rfl
theorem m_con_parts (b : Nat) (w : World) : (method 289 139 (.pointer (some ⟨b, 0, none⟩)) "loop.example/instancesearch/impl.parts").run Try.prog w = .ok (158, .pointer (some ⟨b, 0, none⟩)) w := by kernel_rfl
theorem m_con_text (b : Nat) (w : World) : (method 289 139 (.pointer (some ⟨b, 0, none⟩)) "loop.example/instancesearch/impl.text").run Try.prog w = .ok (159, .pointer (some ⟨b, 0, none⟩)) w := by kernel_rfl
theorem m_cst_parts (b : Nat) (w : World) : (method 289 132 (.pointer (some ⟨b, 0, none⟩)) "loop.example/instancesearch/impl.parts").run Try.prog w = .ok (155, .pointer (some ⟨b, 0, none⟩)) w := by kernel_rfl
theorem m_cst_text (b : Nat) (w : World) : (method 289 132 (.pointer (some ⟨b, 0, none⟩)) "loop.example/instancesearch/impl.text").run Try.prog w = .ok (156, .pointer (some ⟨b, 0, none⟩)) w := by kernel_rfl

set_option maxHeartbeats 400000 in
theorem parts_var (b : Nat) (w : World) : Calls Try.prog 151 #[.pointer (some ⟨b, 0, none⟩)] w fun e w' => e = .returned (.slice none 0 0) ∧ w = w' := by
  go_enter Try.func151, Try.ntmps151
  go_wp2
  go_ret
  exact ⟨rfl, rfl⟩
set_option maxHeartbeats 400000 in
theorem parts_con (b : Nat) (w : World) : Calls Try.prog 158 #[.pointer (some ⟨b, 0, none⟩)] w fun e w' => e = .returned (.slice none 0 0) ∧ w = w' := by
  go_enter Try.func158, Try.ntmps158
  go_wp2
  go_ret
  exact ⟨rfl, rfl⟩
set_option maxHeartbeats 400000 in
theorem parts_cst (b : Nat) (g m cap : Nat) (w : World) (h : w.cell? ⟨b, 1, none⟩ = some (.slice (some ⟨g, 0, none⟩) m cap)) : Calls Try.prog 155 #[.pointer (some ⟨b, 0, none⟩)] w fun e w' => e = .returned (.slice (some ⟨g, 0, none⟩) m cap) ∧ w = w' := by
  go_enter Try.func155, Try.ntmps155
  go_wp2
  go_ret
  exact ⟨rfl, rfl⟩

theorem cell_below {w w' : World} {g k : Nat} {x : Value} (h : w.cell? ⟨g, k, none⟩ = some x) (hg : g < w.heap.size) (hb : Below w.heap.size w w') : w'.cell? ⟨g, k, none⟩ = some x :=
  (hb.cell (p := ⟨g, k, none⟩) hg).trans h
theorem RepN.form {w : World} {S : Nat → Prop} {t : Ty} {h p : Value} (hr : RepN w S t h p) : ∃ (c : UInt8) (A : Option Addr) (m cap : Nat), h = .int .u8 c.toNat ∧ p = .slice A m cap := by
  cases t with
  | lf c => obtain ⟨h1, A, cap, h2⟩ := hr; exact ⟨c, A, 0, cap, h1, h2⟩
  | un c a => obtain ⟨h1, g, cap, _, _, h2, _⟩ := hr; exact ⟨c, _, 1, cap, h1, h2⟩
  | bi c a b => obtain ⟨h1, g, cap, _, _, _, _, h2, _⟩ := hr; exact ⟨c, _, 2, cap, h1, h2⟩
theorem RepN.below {w w' : World} {S : Nat → Prop} {t : Ty} {h p : Value} (hr : RepN w S t h p) (hS : ∀ g, S g → g < w.heap.size) (hb : Below w.heap.size w w') : RepN w' S t h p :=
  hr.keep fun g hg => ⟨hg, hb.block g (hS g hg)⟩

/-- A type's size; -1 for what is none. -/
def sizeOf' (l : List UInt8) : Int := match tyOf l with | some t => (t.size : Nat) | none => -1
theorem tyOf_size {l : List UInt8} {t : Ty} (h : tyOf l = some t) : t.size ≤ 60 := by
  obtain ⟨e, _, hl⟩ := tyOf_text h
  have := size_text t
  rw [e] at hl
  omega

end Go.Proofs.Ytpbjkblinenccaa
