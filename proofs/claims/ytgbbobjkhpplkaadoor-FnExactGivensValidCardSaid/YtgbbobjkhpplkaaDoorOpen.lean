/- Arguments of chapter 3 opened: needs, classes, instances, worlds. -/
import Derived.Test.YtgbbobjkhpplkaaDoorInsA
import Derived.Deep.Slices
import Derived.Deep.SlicePairs
import Derived.Deep.Fields
import Derived.WideShapes
namespace Go.Proofs.YtgbbobjkhpplkaaDoor
open Go.ChangeShapes Go.WideShapes Go.RowKit

section
variable {H : Type} {enc : TypeId × Value → H} {w : World} {base : Nat} {spare : Nat → Bool} {held : Bool}

/-- No string of a list of pairs is too long for a machine. -/
def PrsOk (zs : List (ByteArray × ByteArray)) : Prop := ∀ z ∈ zs, z.1.size ≤ maxLen ∧ z.2.size ≤ maxLen

theorem agg_of {cs : Array Value} {l : List Value} (h : (Value.agg cs).cells.toList = l) : Value.agg cs = .agg l.toArray := by
  subst h
  rfl
theorem get_some {α : Type} {l : List α} {n i : Nat} (h : l.length = n) (hi : i < n) : ∃ y, l[i]? = some y := ⟨l[i]'(by omega), List.getElem?_eq_getElem _⟩

theorem open_pairs {t e : TypeId} {f0 f1 : Field} {fuel : Nat} {cs : List Value} {x : DataW H × List MemPlace} (ht : Tryd.prog.underlying t = some (.slice e)) (he : Tryd.prog.underlying e = some (.struct #[f0, f1]))
    (ce : Tryd.prog.cellsOf e = 2) (o0 : f0.offset = 0) (o1 : f1.offset = 1) (c0 : Tryd.prog.cellsOf f0.type = 1) (c1 : Tryd.prog.cellsOf f1.type = 1) (s0 : Tryd.prog.underlying f0.type = some .string) (s1 : Tryd.prog.underlying f1.type = some .string)
    (h : DataW.trod enc Tryd.prog w base spare held fuel t cs = some x) : ∃ A len cap zs, cs = [.slice A len cap] ∧ len ≤ cap ∧ cap ≤ maxLen ∧ Prs w A len zs ∧ PrsOk zs := by
  rcases Go.Deep.open_slice_pairs ht he ce o0 o1 c0 c1 h with ⟨rfl, _⟩ | ⟨a, l, c, m, n, V0, V1, D0, D1, P0, P1, rfl, hx0, hl, hm, hmm, _, hall⟩
  · exact ⟨none, 0, 0, [], rfl, Nat.le_refl _, Nat.zero_le _, ⟨rfl, fun h => absurd h (Nat.lt_irrefl 0)⟩, fun x hx => by cases hx⟩
  · obtain ⟨zs, hp, hq⟩ := prs_of (a := a) (len := l) (V0 := V0) (V1 := V1) (m := m) (by rw [hmm]; split <;> omega) (fun i hi => ⟨(hall i hi).1, (hall i hi).2.1⟩) (fun i hi => by
      obtain ⟨s1', e1, _, h1⟩ := DataW.trod_string s0 (hall i hi).2.2.1
      obtain ⟨s2', e2, _, h2⟩ := DataW.trod_string s1 (hall i hi).2.2.2
      simp only [List.cons.injEq, and_true] at e1 e2
      exact ⟨⟨s1', e1, h1⟩, s2', e2, h2⟩)
    exact ⟨some a, l, c, zs, rfl, hl, hm, hp, hq⟩

set_option maxRecDepth 100000 in
theorem open_need {fuel : Nat} {cs : List Value} {x : DataW H × List MemPlace} (h : DataW.trod enc Tryd.prog w base spare held fuel 44 cs = some x) :
    ∃ a b, cs = [.string a, .string b] ∧ a.size ≤ maxLen ∧ b.size ≤ maxLen := by
  obtain ⟨y0, y1, n, _, hl, h0, h1⟩ := trod_struct2 Tryd.underlying44 h
  have c : Tryd.prog.cellsOf 44 = 2 := by kernel_rfl
  have cS : Tryd.prog.cellsOf 9 = 1 := by kernel_rfl
  rw [c] at hl
  have h0' : DataW.trod enc Tryd.prog w base spare held n 9 (List.take (Tryd.prog.cellsOf 9) (cs.drop 0)) = some y0 := h0
  have h1' : DataW.trod enc Tryd.prog w base spare held n 9 (List.take (Tryd.prog.cellsOf 9) (cs.drop 1)) = some y1 := h1
  rw [cS] at h0'
  rw [cS] at h1'
  clear h0 h1
  match cs, hl with
  | [u, v], _ =>
    simp only [List.drop_zero, List.drop_succ_cons, List.take_succ_cons, List.take_zero, List.take_nil] at h0' h1'
    obtain ⟨a, ea, _, ha⟩ := DataW.trod_string Tryd.underlying9 h0'
    obtain ⟨b, eb, _, hb⟩ := DataW.trod_string Tryd.underlying9 h1'
    simp only [List.cons.injEq, and_true] at ea eb
    subst ea
    subst eb
    exact ⟨a, b, rfl, ha, hb⟩

theorem open_needs {fuel : Nat} {cs : List Value} {x : DataW H × List MemPlace} (h : DataW.trod enc Tryd.prog w base spare held fuel 26 cs = some x) :
    ∃ A len cap zs, cs = [.slice A len cap] ∧ len ≤ cap ∧ cap ≤ maxLen ∧ Prs w A len zs ∧ PrsOk zs :=
  open_pairs Tryd.underlying26 Tryd.underlying44 (by kernel_rfl) rfl rfl (by kernel_rfl) (by kernel_rfl) Tryd.underlying9 Tryd.underlying9 h
theorem open_classes {fuel : Nat} {cs : List Value} {x : DataW H × List MemPlace} (h : DataW.trod enc Tryd.prog w base spare held fuel 22 cs = some x) :
    ∃ A len cap zs, cs = [.slice A len cap] ∧ len ≤ cap ∧ cap ≤ maxLen ∧ Prs w A len zs ∧ PrsOk zs :=
  open_pairs Tryd.underlying22 Tryd.underlying58 (by kernel_rfl) rfl rfl (by kernel_rfl) (by kernel_rfl) Tryd.underlying9 Tryd.underlying9 h

set_option maxRecDepth 100000 in
theorem open_instance {fuel : Nat} {cs : List Value} {x : DataW H × List MemPlace} (h : DataW.trod enc Tryd.prog w base spare held fuel 61 cs = some x) :
    ∃ a b A len cap zs, cs = [.string a, .string b, .slice A len cap] ∧ len ≤ cap ∧ cap ≤ maxLen ∧ Prs w A len zs ∧ InsOk ⟨a, b, zs⟩ := by
  obtain ⟨y0, y1, n, _, hl, h0, h1⟩ := trod_struct2 Tryd.underlying61 h
  have c : Tryd.prog.cellsOf 61 = 3 := by kernel_rfl
  have cN : Tryd.prog.cellsOf 44 = 2 := by kernel_rfl
  have cS : Tryd.prog.cellsOf 26 = 1 := by kernel_rfl
  rw [c] at hl
  have h0' : DataW.trod enc Tryd.prog w base spare held n 44 (List.take (Tryd.prog.cellsOf 44) (cs.drop 0)) = some y0 := h0
  have h1' : DataW.trod enc Tryd.prog w base spare held n 26 (List.take (Tryd.prog.cellsOf 26) (cs.drop 2)) = some y1 := h1
  rw [cN] at h0'
  rw [cS] at h1'
  clear h0 h1
  match cs, hl with
  | [u, v, s], _ =>
    simp only [List.drop_zero, List.drop_succ_cons, List.take_succ_cons, List.take_zero, List.take_nil] at h0' h1'
    obtain ⟨a, b, eab, ha, hb⟩ := open_need h0'
    obtain ⟨A, len, cap, zs, es, h2, h3, h4, h5⟩ := open_needs h1'
    simp only [List.cons.injEq, and_true] at eab es
    obtain ⟨rfl, rfl⟩ := eab
    subst es
    exact ⟨a, b, A, len, cap, zs, rfl, h2, h3, h4, ha, hb, h5⟩

/-- What an instance's cells hold. -/
def InsAt (w : World) (a : Addr) (i : Ins) : Prop := w.cell? a = some (.string i.c) ∧ w.cell? (a.add 1) = some (.string i.t) ∧ ∃ B m cap, w.cell? (a.add 2) = some (.slice B m cap) ∧ m ≤ maxLen ∧ Prs w B m i.ns

set_option maxRecDepth 100000 in
theorem open_instances {fuel : Nat} {cs : List Value} {x : DataW H × List MemPlace} (h : DataW.trod enc Tryd.prog w base spare held fuel 23 cs = some x) :
    ∃ A len cap is, cs = [.slice A len cap] ∧ len ≤ cap ∧ cap ≤ maxLen ∧ Inss w A len is ∧ ∀ i ∈ is, InsOk i := by
  rcases Go.Deep.open_slice Tryd.underlying23 h with ⟨rfl, _⟩ | ⟨a, len, cap, m, n, D, Pl, rfl, hb, hl, hm, hmm, _, hall⟩
  · exact ⟨none, 0, 0, [], rfl, Nat.le_refl _, Nat.zero_le _, ⟨rfl, fun h => absurd h (Nat.lt_irrefl 0)⟩, fun x hx => by cases hx⟩
  · have c : Tryd.prog.cellsOf 61 = 3 := by kernel_rfl
    have hlm : len ≤ m := by rw [hmm]; split <;> omega
    have each : ∀ i, ∃ z : Ins, i < m → (w.cell? (a.add (i * 3)) = some (.string z.c) ∧ w.cell? (a.add (i * 3 + 1)) = some (.string z.t) ∧ (∃ B k cap, w.cell? (a.add (i * 3 + 2)) = some (.slice B k cap) ∧ k ≤ maxLen ∧ Prs w B k z.ns) ∧ InsOk z) := by
      intro i
      by_cases hi : i < m
      · obtain ⟨cs', hcs, htr⟩ := hall i hi
        rw [c] at hcs
        obtain ⟨x1, x2, B, k, cap', zs, rfl, h2, h3, h4, h5⟩ := open_instance htr
        obtain ⟨_, _, hat⟩ := World.cells?_some hcs
        have q0 := hat 0 (by decide)
        have q1 := hat 1 (by decide)
        have q2 := hat 2 (by decide)
        rw [Go.Deep.add_add] at q0 q1 q2
        exact ⟨⟨x1, x2, zs⟩, fun _ => ⟨q0, q1, ⟨B, k, cap', q2, Nat.le_trans h2 h3, h4⟩, h5⟩⟩
      · exact ⟨⟨⟨#[]⟩, ⟨#[]⟩, []⟩, fun h => absurd h hi⟩
    obtain ⟨f, hf⟩ := Classical.axiomOfChoice each
    refine ⟨some a, len, cap, (List.range len).map f, rfl, hl, hm, ⟨by simp, fun hn => ?_⟩, fun z hz => ?_⟩
    · have h0 := (hf 0 (by omega)).1
      have e0 : a.add (0 * 3) = a := by simp [Addr.add]
      rw [e0] at h0
      obtain ⟨b, o, sp⟩ := a
      have hsp : sp = none := by
        unfold World.cell? at h0
        split at h0
        · cases sp with
          | none => rfl
          | some k => simp at h0
        · cases h0
      subst hsp
      have hb : b < w.heap.size := by
        unfold World.cell? at h0
        split at h0
        · rename_i c _ _ hh
          exact (Array.getElem?_eq_some_iff.1 hh).1
        · cases h0
      have ea : ∀ j, (⟨b, o, none⟩ : Addr).add j = ⟨b, o + j, none⟩ := fun j => by
        unfold Addr.add
        split
        · rename_i h
          subst h
          rfl
        · rfl
      refine ⟨b, o, rfl, hb, fun j z hj => ?_⟩
      have hjl : j < len := by
        have := (List.getElem?_eq_some_iff.1 hj).1
        simpa using this
      simp only [List.getElem?_map, List.getElem?_range hjl, Option.map_some, Option.some.injEq] at hj
      subst hj
      obtain ⟨q0, q1, q2, _⟩ := hf j (by omega)
      rw [ea] at q0 q1
      simp only [ea] at q2
      exact ⟨q0, q1, q2⟩
    · obtain ⟨i, hi, rfl⟩ := List.mem_map.1 hz
      have hi' := List.mem_range.1 hi
      exact (hf i (by omega)).2.2.2

set_option maxRecDepth 100000 in
theorem open_world {fuel : Nat} {cs : List Value} {x : DataW H × List MemPlace} (h : DataW.trod enc Tryd.prog w base spare held fuel 25 cs = some x) :
    ∃ A n cap zs B m cap' is, cs = [.slice A n cap, .slice B m cap'] ∧ n ≤ maxLen ∧ m ≤ maxLen ∧ Prs w A n zs ∧ PrsOk zs ∧ Inss w B m is ∧ ∀ i ∈ is, InsOk i := by
  obtain ⟨y0, y1, n, _, hl, h0, h1⟩ := trod_struct2 Tryd.underlying25 h
  have c : Tryd.prog.cellsOf 25 = 2 := by kernel_rfl
  have c0 : Tryd.prog.cellsOf 22 = 1 := by kernel_rfl
  have c1 : Tryd.prog.cellsOf 23 = 1 := by kernel_rfl
  rw [c] at hl
  have h0' : DataW.trod enc Tryd.prog w base spare held n 22 (List.take (Tryd.prog.cellsOf 22) (cs.drop 0)) = some y0 := h0
  have h1' : DataW.trod enc Tryd.prog w base spare held n 23 (List.take (Tryd.prog.cellsOf 23) (cs.drop 1)) = some y1 := h1
  rw [c0] at h0'
  rw [c1] at h1'
  clear h0 h1
  match cs, hl with
  | [u, v], _ =>
    simp only [List.drop_zero, List.drop_succ_cons, List.take_succ_cons, List.take_zero, List.take_nil] at h0' h1'
    obtain ⟨A, n1, cap, zs, es, h2, h3, h4, h5⟩ := open_classes h0'
    obtain ⟨B, m, cap', is, es', k2, k3, k4, k5⟩ := open_instances h1'
    simp only [List.cons.injEq, and_true] at es es'
    subst es
    subst es'
    exact ⟨A, n1, cap, zs, B, m, cap', is, rfl, Nat.le_trans h2 h3, Nat.le_trans k2 k3, h4, h5, k4, k5⟩

end
end Go.Proofs.YtgbbobjkhpplkaaDoor
