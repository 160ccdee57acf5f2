/- Arguments of chapter 3 opened: needs, classes, instances, worlds. -/
import Derived.Test.YtjpdiahbnhemoaaInsA
import Derived.Deep.Slices
import Derived.Deep.SlicePairs
import Derived.Deep.Fields
import Derived.WideShapes
namespace Go.Proofs.Ytjpdiahbnhemoaa
open Go.ChangeShapes Go.WideShapes Go.RowKit

section
variable {H : Type} {enc : TypeId × Value → H} {w : World} {base : Nat} {spare : Nat → Bool} {held : Bool}

/-- No string of a list of pairs is too long for a machine. -/
def PrsOk (zs : List (ByteArray × ByteArray)) : Prop := ∀ z ∈ zs, z.1.size ≤ maxLen ∧ z.2.size ≤ maxLen

theorem agg_of {cs : Array Value} {l : List Value} (h : (Value.agg cs).cells.toList = l) : Value.agg cs = .agg l.toArray := by
  subst h
  rfl
theorem get_some {α : Type} {l : List α} {n i : Nat} (h : l.length = n) (hi : i < n) : ∃ y, l[i]? = some y := ⟨l[i]'(by omega), List.getElem?_eq_getElem _⟩

theorem open_pairs {t e : TypeId} {f0 f1 : Field} {fuel : Nat} {cs : List Value} {x : DataW H × List MemPlace} (ht : Try.prog.underlying t = some (.slice e)) (he : Try.prog.underlying e = some (.struct #[f0, f1]))
    (ce : Try.prog.cellsOf e = 2) (o0 : f0.offset = 0) (o1 : f1.offset = 1) (c0 : Try.prog.cellsOf f0.type = 1) (c1 : Try.prog.cellsOf f1.type = 1) (s0 : Try.prog.underlying f0.type = some .string) (s1 : Try.prog.underlying f1.type = some .string)
    (h : DataW.trod enc Try.prog w base spare held fuel t cs = some x) : ∃ A len cap zs, cs = [.slice A len cap] ∧ len ≤ cap ∧ cap ≤ maxLen ∧ Prs w A len zs ∧ PrsOk zs := by
  rcases Go.Deep.open_slice_pairs ht he ce o0 o1 c0 c1 h with ⟨rfl, _⟩ | ⟨a, l, c, m, n, V0, V1, D0, D1, P0, P1, rfl, hx0, hl, hm, hmm, _, hall⟩
  · exact ⟨none, 0, 0, [], rfl, Nat.le_refl _, Nat.zero_le _, ⟨rfl, fun h => absurd h (Nat.lt_irrefl 0)⟩, fun x hx => by cases hx⟩
  · obtain ⟨zs, hp, hq⟩ := prs_of (a := a) (len := l) (V0 := V0) (V1 := V1) (m := m) (by rw [hmm]; split <;> omega) (fun i hi => ⟨(hall i hi).1, (hall i hi).2.1⟩) (fun i hi => by
      obtain ⟨s1', e1, _, h1⟩ := DataW.trod_string s0 (hall i hi).2.2.1
      obtain ⟨s2', e2, _, h2⟩ := DataW.trod_string s1 (hall i hi).2.2.2
      simp only [List.cons.injEq, and_true] at e1 e2
      exact ⟨⟨s1', e1, h1⟩, s2', e2, h2⟩)
    exact ⟨some a, l, c, zs, rfl, hl, hm, hp, hq⟩

set_option maxRecDepth 100000 in
theorem open_need {fuel : Nat} {cs : List Value} {x : DataW H × List MemPlace} (h : DataW.trod enc Try.prog w base spare held fuel 34 cs = some x) :
    ∃ a b, cs = [.string a, .string b] ∧ a.size ≤ maxLen ∧ b.size ≤ maxLen := by
  obtain ⟨y0, y1, n, _, hl, h0, h1⟩ := trod_struct2 Try.underlying34 h
  have c : Try.prog.cellsOf 34 = 2 := by kernel_rfl
  have cS : Try.prog.cellsOf 9 = 1 := by kernel_rfl
  rw [c] at hl
  have h0' : DataW.trod enc Try.prog w base spare held n 9 (List.take (Try.prog.cellsOf 9) (cs.drop 0)) = some y0 := h0
  have h1' : DataW.trod enc Try.prog w base spare held n 9 (List.take (Try.prog.cellsOf 9) (cs.drop 1)) = some y1 := h1
  rw [cS] at h0'
  rw [cS] at h1'
  clear h0 h1
  match cs, hl with
  | [u, v], _ =>
    simp only [List.drop_zero, List.drop_succ_cons, List.take_succ_cons, List.take_zero, List.take_nil] at h0' h1'
    obtain ⟨a, ea, _, ha⟩ := DataW.trod_string Try.underlying9 h0'
    obtain ⟨b, eb, _, hb⟩ := DataW.trod_string Try.underlying9 h1'
    simp only [List.cons.injEq, and_true] at ea eb
    subst ea
    subst eb
    exact ⟨a, b, rfl, ha, hb⟩

theorem open_needs {fuel : Nat} {cs : List Value} {x : DataW H × List MemPlace} (h : DataW.trod enc Try.prog w base spare held fuel 40 cs = some x) :
    ∃ A len cap zs, cs = [.slice A len cap] ∧ len ≤ cap ∧ cap ≤ maxLen ∧ Prs w A len zs ∧ PrsOk zs :=
  open_pairs Try.underlying40 Try.underlying34 (by kernel_rfl) rfl rfl (by kernel_rfl) (by kernel_rfl) Try.underlying9 Try.underlying9 h
set_option maxRecDepth 100000 in
theorem open_instance {fuel : Nat} {cs : List Value} {x : DataW H × List MemPlace} (h : DataW.trod enc Try.prog w base spare held fuel 42 cs = some x) :
    ∃ a b A len cap zs, cs = [.string a, .string b, .slice A len cap] ∧ len ≤ cap ∧ cap ≤ maxLen ∧ Prs w A len zs ∧ InsOk ⟨a, b, zs⟩ := by
  obtain ⟨y0, y1, n, _, hl, h0, h1⟩ := trod_struct2 Try.underlying42 h
  have c : Try.prog.cellsOf 42 = 3 := by kernel_rfl
  have cN : Try.prog.cellsOf 34 = 2 := by kernel_rfl
  have cS : Try.prog.cellsOf 40 = 1 := by kernel_rfl
  rw [c] at hl
  have h0' : DataW.trod enc Try.prog w base spare held n 34 (List.take (Try.prog.cellsOf 34) (cs.drop 0)) = some y0 := h0
  have h1' : DataW.trod enc Try.prog w base spare held n 40 (List.take (Try.prog.cellsOf 40) (cs.drop 2)) = some y1 := h1
  rw [cN] at h0'
  rw [cS] at h1'
  clear h0 h1
  match cs, hl with
  | [u, v, s], _ =>
    simp only [List.drop_zero, List.drop_succ_cons, List.take_succ_cons, List.take_zero, List.take_nil] at h0' h1'
    obtain ⟨a, b, eab, ha, hb⟩ := open_need h0'
    obtain ⟨A, len, cap, zs, es, h2, h3, h4, h5⟩ := open_needs h1'
    simp only [List.cons.injEq, and_true] at eab es
    obtain ⟨rfl, rfl⟩ := eab
    subst es
    exact ⟨a, b, A, len, cap, zs, rfl, h2, h3, h4, ha, hb, h5⟩

/-- What an instance's cells hold. -/
def InsAt (w : World) (a : Addr) (i : Ins) : Prop := w.cell? a = some (.string i.c) ∧ w.cell? (a.add 1) = some (.string i.t) ∧ ∃ B m cap, w.cell? (a.add 2) = some (.slice B m cap) ∧ m ≤ maxLen ∧ Prs w B m i.ns

end
end Go.Proofs.Ytjpdiahbnhemoaa
