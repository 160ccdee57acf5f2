/- The walk of matching in the program: its closure, and match. match of the program. -/
import Derived.Test.YtjpdiahbnhemoaaGreatWalkJ
import Derived.Test.YtjpdiahbnhemoaaGreatMtW
namespace Go.Proofs.YtjpdiahbnhemoaaGreat
open Go.RowKit

/-- How the walk ends. -/
def MtEnd (w : World) (sb : Nat) (S : Nat → Prop) (r : Option (UInt8 → Option Ty)) (e : Ending) (w' : World) : Prop :=
  But w.heap.size sb w w' ∧ match r with
    | none => e = .panicked noBindC
    | some g => e = .returned (.tuple #[]) ∧ Stnd w' sb S g
theorem mtEnd_or {w : World} {sb : Nat} {S : Nat → Prop} {r : Option (UInt8 → Option Ty)} {e : Ending} {w' : World} (h : MtEnd w sb S r e w') : e = .returned (.tuple #[]) ∨ e = .panicked noBindC := by
  obtain ⟨_, h⟩ := h
  cases r with
  | none => exact .inr h
  | some g => exact .inl h.1
/-- The walk's own variable and that of the standings. -/
structure Walking (fn : Nat) (w : World) (p1 p2 sb : Nat) : Prop where
  c1 : w.cell? ⟨p1, 0, none⟩ = some (.func (.func fn) #[] #[.pointer (some ⟨p1, 0, none⟩), .pointer (some ⟨p2, 0, none⟩)])
  c2 : w.cell? ⟨p2, 0, none⟩ = some (.pointer (some ⟨sb, 0, none⟩))
  l1 : p1 < w.heap.size
  l2 : p2 < w.heap.size
  n1 : p1 ≠ sb
  n2 : p2 ≠ sb
theorem Walking.keep {fn : Nat} {w w' : World} {p1 p2 sb : Nat} (h : Walking fn w p1 p2 sb) (hb : But w.heap.size sb w w') : Walking fn w' p1 p2 sb :=
  ⟨(World.cell?_of_block (w := w) (w' := w') (a := ⟨p1, 0, none⟩) (hb.block p1 h.l1 h.n1)).trans h.c1, (World.cell?_of_block (w := w) (w' := w') (a := ⟨p2, 0, none⟩) (hb.block p2 h.l2 h.n2)).trans h.c2, Nat.lt_of_lt_of_le h.l1 hb.size, Nat.lt_of_lt_of_le h.l2 hb.size, h.n1, h.n2⟩

theorem bytes_ne {a b : ByteArray} (h : ¬ a = b) : (a.toList == b.toList) = false := by
  rw [ByteArray.toList_eq, ByteArray.toList_eq, beq_eq_false_iff_ne]
  exact fun e => h (WideShapes.bytes_inj e)
theorem str_inj {l l' : List UInt8} (h : strOf l = strOf l') : l = l' := by
  have := congrArg (fun b : ByteArray => b.data.toList) h
  simpa [strOf_list] using this

theorem ar_top {t : Ty} (h : t.ok) : ar t.top = match t with | .lf _ => 0 | .un _ _ => 1 | .bi _ _ _ => 2 := by
  cases t with
  | lf c => exact h
  | un c a => exact h.1
  | bi c a b => exact h.1
theorem mtEnd_none {w : World} {sb : Nat} {S : Nat → Prop} {e : Ending} {w' : World} (h : e = .panicked noBindC ∧ w' = w) : MtEnd w sb S none e w' := by
  obtain ⟨rfl, rfl⟩ := h
  exact ⟨But.refl _ _ _, rfl⟩

theorem mt_free {c : UInt8} {t : Ty} {f : UInt8 → Option Ty} (hc : isVarX c = true) (hf : f c = none) : mt (.lf c) t f = some (bindT f c t) := by
  unfold mt
  rw [if_pos hc, hf]
theorem mt_bound {c : UInt8} {t u : Ty} {f : UInt8 → Option Ty} (hc : isVarX c = true) (hf : f c = some u) : mt (.lf c) t f = if u.text = t.text then some f else none := by
  unfold mt
  rw [if_pos hc, hf]

theorem mt_con {c : UInt8} {f : UInt8 → Option Ty} (hc : isVarX c = false) (t : Ty) : mt (.lf c) t f = match t with | .lf d => if c = d then some f else none | _ => none := by
  unfold mt
  rw [if_neg (by rw [hc]; decide)]
  cases t <;> rfl
theorem mt_clash {P t : Ty} {f : UInt8 → Option Ty} (hv : ∀ c, P = .lf c → isVarX c = false) (h : P.top ≠ t.top) : mt P t f = none := by
  cases P with
  | lf c =>
    rw [mt_con (hv c rfl)]
    cases t with
    | lf d => exact if_neg h
    | un d a => rfl
    | bi d a a' => rfl
  | un c a =>
    cases t with
    | lf d => rfl
    | un d a => exact if_neg h
    | bi d a a' => rfl
  | bi c a a' =>
    cases t with
    | lf d => rfl
    | un d a => rfl
    | bi d y y' => exact if_neg h

end Go.Proofs.YtjpdiahbnhemoaaGreat

namespace Go.Proofs.YtjpdiahbnhemoaaGreat
open Go.RowKit

/-- How match ends. -/
def MtOk (w : World) (sb : Nat) (S : Nat → Prop) (r : Option (UInt8 → Option Ty)) (e : Ending) (w' : World) : Prop :=
  But w.heap.size sb w w' ∧ match r with
    | none => e = .returned (.bool false)
    | some g => e = .returned (.bool true) ∧ Stnd w' sb S g

theorem walking_start (fn sb : Nat) (i1 i2 : Value) (w : World) (hs : sb < w.heap.size) (W : World) (hW : (((w.alloc (.cells #[.pointer (some ⟨sb, 0, none⟩)] 51)).alloc (.cells #[i1] 48)).alloc (.cells #[i2] 48)).alloc (.cells #[.func (.func fn) #[] #[.pointer (some ⟨w.heap.size + 1 + 1 + 1, 0, none⟩), .pointer (some ⟨w.heap.size, 0, none⟩)]] 74) = W) :
    Below w.heap.size w W ∧ W.heap.size = w.heap.size + 4 ∧ Walking fn W (w.heap.size + 1 + 1 + 1) w.heap.size sb ∧ W.cell? ⟨w.heap.size + 1, 0, none⟩ = some i1 ∧ W.cell? ⟨w.heap.size + 1 + 1, 0, none⟩ = some i2 := by
  subst hW
  have hb : Below w.heap.size w ((((w.alloc (.cells #[.pointer (some ⟨sb, 0, none⟩)] 51)).alloc (.cells #[i1] 48)).alloc (.cells #[i2] 48)).alloc (.cells #[.func (.func fn) #[] #[.pointer (some ⟨w.heap.size + 1 + 1 + 1, 0, none⟩), .pointer (some ⟨w.heap.size, 0, none⟩)]] 74)) :=
    ((((Below.refl _ _).alloc (Nat.le_refl _) _).alloc (by simp only [World.size_alloc]; omega) _).alloc (by simp only [World.size_alloc]; omega) _).alloc (by simp only [World.size_alloc]; omega) _
  have q3 := cell_new1 (((w.alloc (.cells #[.pointer (some ⟨sb, 0, none⟩)] 51)).alloc (.cells #[i1] 48)).alloc (.cells #[i2] 48)) (.func (.func fn) #[] #[.pointer (some ⟨w.heap.size + 1 + 1 + 1, 0, none⟩), .pointer (some ⟨w.heap.size, 0, none⟩)]) 74
  have q2 := cell_new1 ((w.alloc (.cells #[.pointer (some ⟨sb, 0, none⟩)] 51)).alloc (.cells #[i1] 48)) i2 48
  have q1 := cell_new1 (w.alloc (.cells #[.pointer (some ⟨sb, 0, none⟩)] 51)) i1 48
  have q0 := cell_new1 w (.pointer (some ⟨sb, 0, none⟩)) 51
  simp only [World.size_alloc] at q1 q2 q3
  refine ⟨hb, by simp only [World.size_alloc], ⟨q3, ?_, ?_, ?_, by omega, by omega⟩, ?_, ?_⟩
  · rw [World.cell?_alloc_lt _ _ _ (by simp only [World.size_alloc]; omega), World.cell?_alloc_lt _ _ _ (by simp only [World.size_alloc]; omega), World.cell?_alloc_lt _ _ _ (by simp only [World.size_alloc]; omega)]
    exact q0
  · simp only [World.size_alloc]; omega
  · simp only [World.size_alloc]; omega
  · rw [World.cell?_alloc_lt _ _ _ (by simp only [World.size_alloc]; omega), World.cell?_alloc_lt _ _ _ (by simp only [World.size_alloc]; omega)]
    exact q1
  · rw [World.cell?_alloc_lt _ _ _ (by simp only [World.size_alloc]; omega)]
    exact q2

end Go.Proofs.YtjpdiahbnhemoaaGreat
