/- RenameType of the program: a renamed tree, and its text. -/
import Derived.Test.YtmpmalcjfckemaaDoorPartsI
import Derived.Deep.AppendLies
namespace Go.Proofs.YtmpmalcjfckemaaDoor
open Go.RowKit

/-- A capital letter in place of a small variable. -/
def capB (c : UInt8) : UInt8 := if 120 ≤ c ∧ c ≤ 122 then c - 120 + 88 else c
def Ty.ren : Ty → Ty
  | .lf c => .lf (capB c)
  | .un c a => .un c a.ren
  | .bi c a b => .bi c a.ren b.ren
theorem capB_ar (c : UInt8) (h : ar c = 0) : ar (capB c) = 0 := by
  revert h
  refine u8_all (p := fun c => ar c = 0 → ar (capB c) = 0) ?_ c
  decide +kernel
theorem capB_var (c : UInt8) (h : isVarB c = true) : isVarB (capB c) = true := by
  revert h
  refine u8_all (p := fun c => isVarB c = true → isVarB (capB c) = true) ?_ c
  decide +kernel
theorem capB_con (c : UInt8) (h : isVarB c = false) : capB c = c := by
  revert h
  refine u8_all (p := fun c => isVarB c = false → capB c = c) ?_ c
  decide +kernel
theorem ren_ok {t : Ty} (h : t.ok) : t.ren.ok := by
  induction t with
  | lf c => exact capB_ar c h
  | un c a ih => exact ⟨h.1, ih h.2⟩
  | bi c a b iha ihb => exact ⟨h.1, iha h.2.1, ihb h.2.2⟩
theorem capB_head (c : UInt8) (h : 0 < ar c) : capB c = c := by
  revert h
  refine u8_all (p := fun c => 0 < ar c → capB c = c) ?_ c
  decide +kernel
theorem ren_text {t : Ty} (h : t.ok) : t.ren.text = t.text.map capB := by
  induction t with
  | lf c => rfl
  | un c a ih =>
    have e : capB c = c := capB_head c (by rw [h.1]; decide)
    simp [Ty.ren, Ty.text, ih h.2, e]
    exact ⟨rfl, rfl⟩
  | bi c a b iha ihb =>
    have e : capB c = c := capB_head c (by rw [h.1]; decide)
    simp [Ty.ren, Ty.text, iha h.2.1, ihb h.2.2, e]
    exact ⟨rfl, rfl, rfl⟩

theorem cap_sub (c : UInt8) (h : (120 : Int) ≤ c.toNat) (h' : (c.toNat : Int) ≤ 122) : (c.toNat : Int) - 120 + 88 = (capB c).toNat := by
  have h1 : 120 ≤ c.toNat := by omega
  have h2 : c.toNat ≤ 122 := by omega
  clear h h'
  revert h1 h2
  refine u8_all (p := fun c => 120 ≤ c.toNat → c.toNat ≤ 122 → (c.toNat : Int) - 120 + 88 = (capB c).toNat) ?_ c
  decide +kernel
theorem cap_same (c : UInt8) (h : ¬ ((120 : Int) ≤ c.toNat ∧ (c.toNat : Int) ≤ 122)) : capB c = c := by
  have h1 : ¬ (120 ≤ c.toNat ∧ c.toNat ≤ 122) := by omega
  clear h
  revert h1
  refine u8_all (p := fun c => ¬ (120 ≤ c.toNat ∧ c.toNat ≤ 122) → capB c = c) ?_ c
  decide +kernel

theorem ta_var_var (b : Nat) (w : World) : (Instr.typeAssert (.iface 125 (.pointer (some ⟨b, 0, none⟩))) 78 125 true).run Tryd.prog w = .ok (.tuple #[.pointer (some ⟨b, 0, none⟩), .bool true]) w := by kernel_rfl
theorem ta_con_var (b : Nat) (w : World) : (Instr.typeAssert (.iface 128 (.pointer (some ⟨b, 0, none⟩))) 78 125 true).run Tryd.prog w = .ok (.tuple #[.pointer none, .bool false]) w := by kernel_rfl
theorem ta_con_cst (b : Nat) (w : World) : (Instr.typeAssert (.iface 128 (.pointer (some ⟨b, 0, none⟩))) 78 120 true).run Tryd.prog w = .ok (.tuple #[.pointer none, .bool false]) w := by kernel_rfl
theorem ta_cst_var (b : Nat) (w : World) : (Instr.typeAssert (.iface 120 (.pointer (some ⟨b, 0, none⟩))) 78 125 true).run Tryd.prog w = .ok (.tuple #[.pointer none, .bool false]) w := by kernel_rfl
theorem ta_cst_cst (b : Nat) (w : World) : (Instr.typeAssert (.iface 120 (.pointer (some ⟨b, 0, none⟩))) 78 120 true).run Tryd.prog w = .ok (.tuple #[.pointer (some ⟨b, 0, none⟩), .bool true]) w := by kernel_rfl

/-- A letter of the program's own variables, or one of the others that it uses. -/
def isVarX (c : UInt8) : Bool := isVarB c || c == 82 || c == 83 || c == 84 || c == 114 || c == 115 || c == 116
theorem isVarX_ok {c : UInt8} (h : ar c = 0) : isVarX c = isVarB c := by
  revert h
  refine u8_all (p := fun c => ar c = 0 → isVarX c = isVarB c) ?_ c
  decide +kernel

theorem capX_var (c : UInt8) (h : isVarX c = true) : isVarX (capB c) = true := by
  revert h
  refine u8_all (p := fun c => isVarX c = true → isVarX (capB c) = true) ?_ c
  decide +kernel

/-- Variables replaced. -/
def Ty.sub (σ : UInt8 → Ty) : Ty → Ty
  | .lf c => if isVarX c = true then σ c else .lf c
  | .un c a => .un c (a.sub σ)
  | .bi c a b => .bi c (a.sub σ) (b.sub σ)
theorem ren_sub {t : Ty} (h : t.ok) : t.sub (fun c => .lf (capB c)) = t.ren := by
  induction t with
  | lf c =>
    rcases hv : isVarX c with _ | _
    · have : isVarB c = false := by rw [← isVarX_ok h]; exact hv
      simp [Ty.sub, Ty.ren, hv, capB_con c this]
    · simp [Ty.sub, Ty.ren, hv]
  | un c a ih => simp [Ty.sub, Ty.ren, ih h.2]
  | bi c a b iha ihb => simp [Ty.sub, Ty.ren, iha h.2.1, ihb h.2.2]

/-- As Rep, the memory in blocks of S. -/
def RepP (w : World) (S : Nat → Prop) : Ty → Value → Prop
  | .lf c, v => ∃ b, S b ∧ ((isVarX c = true ∧ v = .iface 125 (.pointer (some ⟨b, 0, none⟩)) ∧ w.heap[b]? = some (.cells #[.int .u8 c.toNat] 127 (0, 0))) ∨
      (isVarX c = false ∧ v = .iface 128 (.pointer (some ⟨b, 0, none⟩)) ∧ w.heap[b]? = some (.cells #[.int .u8 c.toNat] 129 (0, 0))))
  | .un c a, v => ∃ b g cap x, S b ∧ S g ∧ v = .iface 120 (.pointer (some ⟨b, 0, none⟩)) ∧
      w.heap[b]? = some (.cells #[.int .u8 c.toNat, .slice (some ⟨g, 0, none⟩) 1 cap] 124 (0, 0)) ∧ w.cell? ⟨g, 0, none⟩ = some x ∧ RepP w S a x
  | .bi c a a', v => ∃ b g cap x x', S b ∧ S g ∧ v = .iface 120 (.pointer (some ⟨b, 0, none⟩)) ∧
      w.heap[b]? = some (.cells #[.int .u8 c.toNat, .slice (some ⟨g, 0, none⟩) 2 cap] 124 (0, 0)) ∧ w.cell? ⟨g, 0, none⟩ = some x ∧ w.cell? ⟨g, 1, none⟩ = some x' ∧ RepP w S a x ∧ RepP w S a' x'
theorem RepP.keep {w w' : World} {S S' : Nat → Prop} {t : Ty} : ∀ {v : Value}, RepP w S t v → (∀ k, S k → S' k ∧ w'.heap[k]? = w.heap[k]?) → RepP w' S' t v := by
  induction t with
  | lf c =>
    rintro v ⟨b, h1, h3⟩ hk
    refine ⟨b, (hk b h1).1, ?_⟩
    rw [(hk b h1).2]
    exact h3
  | un c a ih =>
    rintro v ⟨b, g, cap, x, h1, h3, h5, h6, h7, h8⟩ hk
    refine ⟨b, g, cap, x, (hk b h1).1, (hk g h3).1, h5, (hk b h1).2.trans h6, ?_, ih h8 hk⟩
    rw [World.cell?_of_block (w := w) (hk g h3).2]
    exact h7
  | bi c a a' ih ih' =>
    rintro v ⟨b, g, cap, x, x', h1, h3, h5, h6, h7, h7', h8, h9⟩ hk
    refine ⟨b, g, cap, x, x', (hk b h1).1, (hk g h3).1, h5, (hk b h1).2.trans h6, ?_, ?_, ih h8 hk, ih' h9 hk⟩
    · rw [World.cell?_of_block (w := w) (hk g h3).2]
      exact h7
    · rw [World.cell?_of_block (w := w) (hk g h3).2]
      exact h7'
theorem RepP.form {w : World} {S : Nat → Prop} {t : Ty} {v : Value} (hr : RepP w S t v) : ∃ T b, v = .iface T (.pointer (some ⟨b, 0, none⟩)) ∧ S b := by
  cases t with
  | lf c =>
    obtain ⟨b, h1, ⟨_, rfl, _⟩ | ⟨_, rfl, _⟩⟩ := hr
    · exact ⟨_, b, rfl, h1⟩
    · exact ⟨_, b, rfl, h1⟩
  | un c a => obtain ⟨b, g, cap, x, h1, _, rfl, _⟩ := hr; exact ⟨_, b, rfl, h1⟩
  | bi c a a' => obtain ⟨b, g, cap, x, x', h1, _, rfl, _⟩ := hr; exact ⟨_, b, rfl, h1⟩
theorem RepP.rep {w : World} {S : Nat → Prop} {lo hi : Nat} (hS : ∀ k, S k → lo ≤ k ∧ k < hi) {t : Ty} (ho : t.ok) : ∀ {v : Value}, RepP w S t v → Rep w lo hi t v := by
  induction t with
  | lf c =>
    rintro v ⟨b, h1, h3⟩
    rw [isVarX_ok ho] at h3
    exact ⟨b, (hS b h1).1, (hS b h1).2, h3⟩
  | un c a ih =>
    rintro v ⟨b, g, cap, x, h1, h3, h5, h6, h7, h8⟩
    exact ⟨b, g, cap, x, (hS b h1).1, (hS b h1).2, (hS g h3).1, (hS g h3).2, h5, h6, h7, ih ho.2 h8⟩
  | bi c a a' ih ih' =>
    rintro v ⟨b, g, cap, x, x', h1, h3, h5, h6, h7, h7', h8, h9⟩
    exact ⟨b, g, cap, x, x', (hS b h1).1, (hS b h1).2, (hS g h3).1, (hS g h3).2, h5, h6, h7, h7', ih ho.2.1 h8, ih' ho.2.2 h9⟩
theorem Rep.repP {w : World} {lo hi : Nat} {t : Ty} (ho : t.ok) : ∀ {v : Value}, Rep w lo hi t v → RepP w (fun k => lo ≤ k ∧ k < hi) t v := by
  induction t with
  | lf c =>
    rintro v ⟨b, h1, h2, h3⟩
    rw [← isVarX_ok ho] at h3
    exact ⟨b, ⟨h1, h2⟩, h3⟩
  | un c a ih =>
    rintro v ⟨b, g, cap, x, h1, h2, h3, h4, h5, h6, h7, h8⟩
    exact ⟨b, g, cap, x, ⟨h1, h2⟩, ⟨h3, h4⟩, h5, h6, h7, ih ho.2 h8⟩
  | bi c a a' ih ih' =>
    rintro v ⟨b, g, cap, x, x', h1, h2, h3, h4, h5, h6, h7, h7', h8, h9⟩
    exact ⟨b, g, cap, x, x', ⟨h1, h2⟩, ⟨h3, h4⟩, h5, h6, h7, h7', ih ho.2.1 h8, ih' ho.2.2 h9⟩

/-- A function of the program that gives σ c for a variable c, in blocks of S' or new ones; w0: what it must find unchanged. -/
def Gives (fn : Nat) (cap : Array Value) (w0 : World) (S S' : Nat → Prop) (σ : UInt8 → Ty) : Prop :=
  ∀ (w : World) (b : Nat) (c : UInt8), Below w0.heap.size w0 w → S b → isVarX c = true → w.heap[b]? = some (.cells #[.int .u8 c.toNat] 127 (0, 0)) →
    Calls Tryd.prog fn (#[.pointer (some ⟨b, 0, none⟩)] ++ cap) w fun e w' => ∃ T b', e = .returned (.iface T (.pointer (some ⟨b', 0, none⟩))) ∧
      RepP w' (fun k => S' k ∨ (w.heap.size ≤ k ∧ k < w'.heap.size)) (σ c) (.iface T (.pointer (some ⟨b', 0, none⟩))) ∧ Below w.heap.size w w'

end Go.Proofs.YtmpmalcjfckemaaDoor
