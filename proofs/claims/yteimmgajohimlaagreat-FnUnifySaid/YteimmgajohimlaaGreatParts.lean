/- PartsOf, in the program and in the model. -/
import Derived.Test.YteimmgajohimlaaGreatPartsI
import Derived.Test.YteimmgajohimlaaGreatMarks
namespace Go.Proofs.YteimmgajohimlaaGreat
open Go.RowKit

def Ty.kids : Ty → List Ty
  | .lf _ => []
  | .un _ a => [a]
  | .bi _ a b => [a, b]
/-- The texts of a type's parts. -/
def partsL (l : List UInt8) : List ByteArray := match tyOf l with | some t => t.kids.map fun a => strOf a.text | none => []
theorem partsL_len (l : List UInt8) : (partsL l).length ≤ 2 := by
  unfold partsL
  split
  · rename_i t _
    cases t <;> simp [Ty.kids]
  · simp

/-- A slice of strings that a call has made: nil, or a row of its own. -/
def MadeStrs (w : World) (lo : Nat) (A : Option Addr) (n : Nat) (xs : List ByteArray) : Prop :=
  (A = none ∧ n = 0 ∧ xs = []) ∨ ∃ g, A = some ⟨g, 0, none⟩ ∧ lo ≤ g ∧ OwnStrs w g n xs
theorem MadeStrs.strs {w : World} {lo : Nat} {A : Option Addr} {n : Nat} {xs : List ByteArray} (h : MadeStrs w lo A n xs) : Strs w A n xs := by
  rcases h with ⟨rfl, rfl, rfl⟩ | ⟨g, rfl, _, h⟩
  · exact ⟨rfl, fun h => absurd h (Nat.lt_irrefl 0)⟩
  · exact h.strs
theorem own_strs {w : World} {base g n cap : Nat} {xs : List ByteArray} (h : w.ownsRow base 9 1 (.slice (some ⟨g, 0, none⟩) n cap) n (xs.map Value.string)) : OwnStrs w g n xs := by
  obtain ⟨h1, h2 | ⟨g', cap', cur, hv, hb, hg, hn, _, hz, ht⟩⟩ := h
  · cases h2.1
  · simp only [Value.slice.injEq, Option.some.injEq, Addr.mk.injEq, true_and, and_true] at hv
    obtain ⟨rfl, rfl⟩ := hv
    refine ⟨cur, hg, by omega, by simpa using h1, fun j x hj => ?_⟩
    have hl := (List.getElem?_eq_some_iff.1 hj).1
    have h3 := congrArg (·[j]?) ht
    simp only [List.getElem?_take, List.getElem?_map, hj, Option.map_some] at h3
    split at h3
    · simpa using h3
    · cases h3

def PartsEnd (w : World) (xs : List ByteArray) (e : Ending) (w' : World) : Prop :=
  ∃ A cap, e = .returned (.slice A xs.length cap) ∧ MadeStrs w' w.heap.size A xs.length xs ∧ Below w.heap.size w w'

set_option maxHeartbeats 400000 in
set_option maxRecDepth 100000 in
theorem partTexts_any (t : Ty) (lo hi : Nat) (v : Value) (w : World) (hr : Rep w lo hi t v) (hh : hi ≤ w.heap.size) (ho : t.ok) (hl : t.text.length ≤ 60) :
    Calls Tryz.prog 147 #[v] w (PartsEnd w (t.kids.map fun a => strOf a.text)) := by
  cases t with
  | lf c =>
    obtain ⟨b, h1, h2, ⟨hv, rfl, hb⟩ | ⟨hv, rfl, hb⟩⟩ := hr
    · have hm := m_var_parts b
      go_enter Tryz.func147, Tryz.ntmps147
      go_wp2_with (go_at_call 141; refine (parts_var _ _).mono ?_; rintro e w' ⟨rfl, rfl⟩)
      refine wp_loop_rounds 1 ?_
      rw [rounds_succ]
      go_wp2_with fail
      go_ret
      exact ⟨none, 0, rfl, .inl ⟨rfl, rfl, rfl⟩, Below.refl _ _⟩
    · have hm := m_con_parts b
      go_enter Tryz.func147, Tryz.ntmps147
      go_wp2_with (go_at_call 157; refine (parts_con _ _).mono ?_; rintro e w' ⟨rfl, rfl⟩)
      refine wp_loop_rounds 1 ?_
      rw [rounds_succ]
      go_wp2_with fail
      go_ret
      exact ⟨none, 0, rfl, .inl ⟨rfl, rfl, rfl⟩, Below.refl _ _⟩
  | un c a =>
    have hv := hr
    obtain ⟨b, _, _, _, _, _, _, _, rfl, _⟩ := hv
    refine (partTexts_un c a (textBy_any a) lo hi b w hr hh ho.2 (by simp [Ty.text] at hl; omega)).mono ?_
    rintro e w' ⟨g, cap, rfl, _, hg, _, _, hb, hown⟩
    exact ⟨_, cap, rfl, .inr ⟨g, rfl, hg, own_strs (xs := [strOf a.text]) hown⟩, hb⟩
  | bi c a a' =>
    have hv := hr
    obtain ⟨b, _, _, _, _, _, _, _, _, rfl, _⟩ := hv
    refine (partTexts_bi c a a' (textBy_any a) (textBy_any a') lo hi b w hr hh ho.2.1 ho.2.2 (by simp [Ty.text] at hl; omega) (by simp [Ty.text] at hl; omega)).mono ?_
    rintro e w' ⟨g, cap, rfl, _, hg, _, _, _, hb, hown⟩
    exact ⟨_, cap, rfl, .inr ⟨g, rfl, hg, own_strs (xs := [strOf a.text, strOf a'.text]) hown⟩, hb⟩

end Go.Proofs.YteimmgajohimlaaGreat
