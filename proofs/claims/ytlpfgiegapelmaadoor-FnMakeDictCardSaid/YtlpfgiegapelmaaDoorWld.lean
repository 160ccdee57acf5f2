/- The exact laws' own helpers over worlds: toInstanceS, eqInstanceS, szWorld, toWorld, eqWorld. -/
import Derived.Test.YtlpfgiegapelmaaDoorInsA
import Derived.Test.YtlpfgiegapelmaaDoorArgsC
import Derived.Test.YtlpfgiegapelmaaDoorLoose
namespace Go.Proofs.YtlpfgiegapelmaaDoor
open Go.RowKit

theorem made3_get (n l : Nat) (h : l < n) : (madeCells #[.string ⟨#[]⟩, .string ⟨#[]⟩, .slice none 0 0] (n * 3))[l * 3]? = some (Value.string ⟨#[]⟩) ∧ (madeCells #[.string ⟨#[]⟩, .string ⟨#[]⟩, .slice none 0 0] (n * 3))[l * 3 + 1]? = some (Value.string ⟨#[]⟩) ∧ (madeCells #[.string ⟨#[]⟩, .string ⟨#[]⟩, .slice none 0 0] (n * 3))[l * 3 + 2]? = some (Value.slice none 0 0) := by
  have h0 : l * 3 < n * 3 := by omega
  have h1 : l * 3 + 1 < n * 3 := by omega
  have h2 : l * 3 + 2 < n * 3 := by omega
  have e1 : (l * 3 + 1) % 3 = 1 := by omega
  have e2 : (l * 3 + 2) % 3 = 2 := by omega
  exact ⟨by simp [madeCells, h0], by simp [madeCells, h1, e1], by simp [madeCells, h2, e2]⟩

/-- A slice of n instances in memory of its own, from a block on. -/
def InssO (w : World) (lo : Nat) (A : Option Addr) (n : Nat) (is : List Ins) : Prop :=
  is.length = n ∧ ∃ g, A = some ⟨g, 0, none⟩ ∧ lo ≤ g ∧ g < w.heap.size ∧ ∀ (j : Nat) i, is[j]? = some i → w.cell? ⟨g, j * 3, none⟩ = some (.string i.c) ∧ w.cell? ⟨g, j * 3 + 1, none⟩ = some (.string i.t) ∧
    ∃ b m, w.cell? ⟨g, j * 3 + 2, none⟩ = some (.slice (some ⟨b, 0, none⟩) m m) ∧ lo ≤ b ∧ m ≤ 1048576 ∧ Prs w (some ⟨b, 0, none⟩) m i.ns
theorem InssO.inss {w : World} {lo : Nat} {A : Option Addr} {n : Nat} {is : List Ins} (h : InssO w lo A n is) : Inss w A n is := by
  obtain ⟨hl, g, rfl, _, hg, hc⟩ := h
  refine ⟨hl, fun _ => ⟨g, 0, rfl, hg, fun j i hj => ?_⟩⟩
  obtain ⟨h1, h2, b, m, h3, _, h5, h6⟩ := hc j i hj
  rw [Nat.zero_add]
  exact ⟨h1, h2, _, m, m, h3, by unfold maxLen; omega, h6⟩
theorem InssO.keep {w w' : World} {lo : Nat} {A : Option Addr} {n : Nat} {is : List Ins} (h : InssO w lo A n is) (hz : w.heap.size ≤ w'.heap.size) (hk : ∀ k, lo ≤ k → k < w.heap.size → w'.heap[k]? = w.heap[k]?) : InssO w' lo A n is := by
  obtain ⟨hl, g, rfl, hlo, hg, hc⟩ := h
  refine ⟨hl, g, rfl, hlo, Nat.lt_of_lt_of_le hg hz, fun j i hj => ?_⟩
  obtain ⟨h1, h2, b, m, h3, h4, h5, h6⟩ := hc j i hj
  have e := hk g hlo hg
  refine ⟨?_, ?_, b, m, ?_, h4, h5, ?_⟩
  · rw [World.cell?_of_block (w := w) (w' := w') (a := ⟨g, j * 3, none⟩) e]; exact h1
  · rw [World.cell?_of_block (w := w) (w' := w') (a := ⟨g, j * 3 + 1, none⟩) e]; exact h2
  · rw [World.cell?_of_block (w := w) (w' := w') (a := ⟨g, j * 3 + 2, none⟩) e]; exact h3
  · by_cases hm : 0 < m
    · obtain ⟨g', o', e', hg', _⟩ := h6.2 hm
      simp only [Option.some.injEq, Addr.mk.injEq] at e'
      refine h6.keep hz fun a ha => ?_
      simp only [Option.some.injEq] at ha
      subst ha
      exact hk b h4 (by omega)
    · exact ⟨h6.1, fun h => absurd h hm⟩

end Go.Proofs.YtlpfgiegapelmaaDoor
