/- HeadOf, VarsOf, IsGround, in the program and in the model. RenameType of the program: a renamed tree, and its text. RenameType, in the program and in the model. -/
import Derived.Test.YtlpfgiegapelmaaDoorPartsI
import Derived.Lib.OthersKept
import Derived.Deep.AppendLies
import Derived.Laws.IdiomStrings
namespace Go.Proofs.YtlpfgiegapelmaaDoor
open Go.RowKit

/-- A type's first letter, as a string. -/
def headOf (s : ByteArray) : ByteArray := if (tyOf s.data.toList).isSome = true then strOf [s.data.toList.headD 0] else ⟨#[]⟩
theorem size_pos {s : ByteArray} {t : Ty} (h : tyOf s.data.toList = some t) : 0 < s.size := by
  obtain ⟨e, _, _⟩ := tyOf_text h
  have h1 := text_pos t
  have h2 : s.size = s.data.toList.length := by simp
  rw [h2, e]
  exact h1
/-- The variables' letters, in order. -/
def V6 : ByteArray := { data := #[88, 89, 90, 120, 121, 122] }
theorem V6_size : V6.size = 6 := rfl
theorem V6_ascii : ∀ i, (h : i < V6.size) → (V6[i]'h).toNat < 128 := by
  intro i h
  have h' : i < 6 := h
  match i, h' with
  | 0, _ => exact (by decide : (88 : UInt8).toNat < 128)
  | 1, _ => exact (by decide : (89 : UInt8).toNat < 128)
  | 2, _ => exact (by decide : (90 : UInt8).toNat < 128)
  | 3, _ => exact (by decide : (120 : UInt8).toNat < 128)
  | 4, _ => exact (by decide : (121 : UInt8).toNat < 128)
  | 5, _ => exact (by decide : (122 : UInt8).toNat < 128)
/-- Those of the letters that stand in a text. -/
def varsIn (l vs : List UInt8) : List UInt8 := vs.filter fun c => decide (0 < l.count c)
theorem varsIn_snoc (l : List UInt8) (k : Nat) (h : k < V6.size) :
    varsIn l (V6.data.toList.take (k + 1)) = varsIn l (V6.data.toList.take k) ++ (if 0 < l.count V6[k] then [V6[k]] else []) := by
  rw [take_snoc V6 k h, varsIn, List.filter_append]
  congr 1
  by_cases e : 0 < l.count V6[k]
  · rw [if_pos e]
    simp
    exact List.count_pos_iff.1 e
  · rw [if_neg e]
    simp
    exact fun h => e (List.count_pos_iff.2 h)
theorem varsIn_len (l vs : List UInt8) : (varsIn l vs).length ≤ vs.length := List.length_filter_le _ _

theorem append_list (a : ByteArray) (l : List UInt8) : (a ++ strOf l).data.toList = a.data.toList ++ l := by
  rw [ByteArray.data_append, Array.toList_append]
  rfl
theorem V6_cell (i : Nat) (h : i < 6) : (#[Value.string { data := #[88] }, .string { data := #[89] }, .string { data := #[90] }, .string { data := #[120] }, .string { data := #[121] }, .string { data := #[122] }] : Array Value)[i]? = some (.string (strOf [V6[i]'h])) := by
  match i, h with
  | 0, _ => rfl
  | 1, _ => rfl
  | 2, _ => rfl
  | 3, _ => rfl
  | 4, _ => rfl
  | 5, _ => rfl

/-- What the model's loop adds for a letter. -/
theorem cv_pos (s : ByteArray) (c : UInt8) (hc : isVarB c = true) : (0 < cvOf s (strOf [c])) ↔ ((tyOf s.data.toList).isSome = true ∧ 0 < s.data.toList.count c) := by
  have h1 : (strOf [c]).data.toList.headD 0 = c := rfl
  have h2 : (strOf [c]).size = 1 := rfl
  rw [cvOf, h1]
  by_cases ht : (tyOf s.data.toList).isSome = true
  · rw [if_pos ⟨ht, h2, hc⟩]
    simp only [ht, true_and]
    omega
  · rw [if_neg (fun h => ht h.1)]
    simp [ht]
theorem V6_var (i : Nat) (h : i < 6) : isVarB (V6[i]'h) = true := by
  match i, h with
  | 0, _ => rfl
  | 1, _ => rfl
  | 2, _ => rfl
  | 3, _ => rfl
  | 4, _ => rfl
  | 5, _ => rfl

/-- A type's variables. -/
def varsOf (l : List UInt8) : List UInt8 := if (tyOf l).isSome = true then varsIn l V6.data.toList else []

/-- A type without variables. -/
def groundB (l : List UInt8) : Bool := (tyOf l).isSome && (varsOf l).isEmpty

end Go.Proofs.YtlpfgiegapelmaaDoor

namespace Go.Proofs.YtlpfgiegapelmaaDoor
open Go.RowKit

/-- A capital letter in place of a small variable. -/
def capB (c : UInt8) : UInt8 := if 120 ≤ c ∧ c ≤ 122 then c - 120 + 88 else c
def Ty.ren : Ty → Ty
  | .lf c => .lf (capB c)
  | .un c a => .un c a.ren
  | .bi c a b => .bi c a.ren b.ren
theorem capB_ar (c : UInt8) (h : ar c = 0) : ar (capB c) = 0 := by
  revert h
  refine u8_all (p := fun c => ar c = 0 → ar (capB c) = 0) ?_ c
  decide +kernel
theorem capB_var (c : UInt8) (h : isVarB c = true) : isVarB (capB c) = true := by
  revert h
  refine u8_all (p := fun c => isVarB c = true → isVarB (capB c) = true) ?_ c
  decide +kernel
theorem capB_con (c : UInt8) (h : isVarB c = false) : capB c = c := by
  revert h
  refine u8_all (p := fun c => isVarB c = false → capB c = c) ?_ c
  decide +kernel
theorem ren_ok {t : Ty} (h : t.ok) : t.ren.ok := by
  induction t with
  | lf c => exact capB_ar c h
  | un c a ih => exact ⟨h.1, ih h.2⟩
  | bi c a b iha ihb => exact ⟨h.1, iha h.2.1, ihb h.2.2⟩
theorem capB_head (c : UInt8) (h : 0 < ar c) : capB c = c := by
  revert h
  refine u8_all (p := fun c => 0 < ar c → capB c = c) ?_ c
  decide +kernel
theorem ren_text {t : Ty} (h : t.ok) : t.ren.text = t.text.map capB := by
  induction t with
  | lf c => rfl
  | un c a ih =>
    have e : capB c = c := capB_head c (by rw [h.1]; decide)
    simp [Ty.ren, Ty.text, ih h.2, e]
    exact ⟨rfl, rfl⟩
  | bi c a b iha ihb =>
    have e : capB c = c := capB_head c (by rw [h.1]; decide)
    simp [Ty.ren, Ty.text, iha h.2.1, ihb h.2.2, e]
    exact ⟨rfl, rfl, rfl⟩

theorem cap_sub (c : UInt8) (h : (120 : Int) ≤ c.toNat) (h' : (c.toNat : Int) ≤ 122) : (c.toNat : Int) - 120 + 88 = (capB c).toNat := by
  have h1 : 120 ≤ c.toNat := by omega
  have h2 : c.toNat ≤ 122 := by omega
  clear h h'
  revert h1 h2
  refine u8_all (p := fun c => 120 ≤ c.toNat → c.toNat ≤ 122 → (c.toNat : Int) - 120 + 88 = (capB c).toNat) ?_ c
  decide +kernel
theorem cap_same (c : UInt8) (h : ¬ ((120 : Int) ≤ c.toNat ∧ (c.toNat : Int) ≤ 122)) : capB c = c := by
  have h1 : ¬ (120 ≤ c.toNat ∧ c.toNat ≤ 122) := by omega
  clear h
  revert h1
  refine u8_all (p := fun c => ¬ (120 ≤ c.toNat ∧ c.toNat ≤ 122) → capB c = c) ?_ c
  decide +kernel

/-- A letter of the program's own variables, or one of the others that it uses. -/
def isVarX (c : UInt8) : Bool := isVarB c || c == 82 || c == 83 || c == 84 || c == 114 || c == 115 || c == 116
theorem isVarX_ok {c : UInt8} (h : ar c = 0) : isVarX c = isVarB c := by
  revert h
  refine u8_all (p := fun c => ar c = 0 → isVarX c = isVarB c) ?_ c
  decide +kernel

theorem capX_var (c : UInt8) (h : isVarX c = true) : isVarX (capB c) = true := by
  revert h
  refine u8_all (p := fun c => isVarX c = true → isVarX (capB c) = true) ?_ c
  decide +kernel

/-- Variables replaced. -/
def Ty.sub (σ : UInt8 → Ty) : Ty → Ty
  | .lf c => if isVarX c = true then σ c else .lf c
  | .un c a => .un c (a.sub σ)
  | .bi c a b => .bi c (a.sub σ) (b.sub σ)
theorem ren_sub {t : Ty} (h : t.ok) : t.sub (fun c => .lf (capB c)) = t.ren := by
  induction t with
  | lf c =>
    rcases hv : isVarX c with _ | _
    · have : isVarB c = false := by rw [← isVarX_ok h]; exact hv
      simp [Ty.sub, Ty.ren, hv, capB_con c this]
    · simp [Ty.sub, Ty.ren, hv]
  | un c a ih => simp [Ty.sub, Ty.ren, ih h.2]
  | bi c a b iha ihb => simp [Ty.sub, Ty.ren, iha h.2.1, ihb h.2.2]

end Go.Proofs.YtlpfgiegapelmaaDoor

namespace Go.Proofs.YtlpfgiegapelmaaDoor
open Go.RowKit

/-- A renamed type's text. -/
def renOf (l : List UInt8) : List UInt8 := if (tyOf l).isSome = true then l.map capB else []

theorem conv_one (w : World) (c : UInt8) : (convert 22 9 (.slice (some ⟨w.heap.size, 0, none⟩) 1 1)).run Tryd.prog (w.alloc (.cells #[.int .u8 c.toNat] 5)) = .ok (.string (strOf [c])) (w.alloc (.cells #[.int .u8 c.toNat] 5)) := by
  refine run_convert_bytes_back _ _ _ 5 ⟨w.heap.size, 0, none⟩ 1 [c] Tryd.underlying22 Tryd.underlying5 Tryd.underlying9 (fun j hj => ?_)
  have e : j = 0 := by simp at hj; omega
  subst e
  exact cell_new1 _ _ _

end Go.Proofs.YtlpfgiegapelmaaDoor
