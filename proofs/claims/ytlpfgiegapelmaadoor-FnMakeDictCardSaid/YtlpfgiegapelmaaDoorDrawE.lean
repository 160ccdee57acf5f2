/- A drawn number of a list that is written out. -/
import Derived.Test.YtlpfgiegapelmaaDoorDrawC
namespace Go.Proofs.YtlpfgiegapelmaaDoor
open Go.RowKit
set_option linter.unusedVariables false

/-- A number of a list that is written out. -/
theorem num_new (rb P n : Nat) (cs : Array Value) (T : TypeId) (xs : List Int) (w : World) (hr : Rdr w rb P) (hP : P ≤ 1099511627776) (hcs : cs = (xs.map (Value.int .i64)).toArray) (hn : n = xs.length) (h0 : 0 < n) (h1 : n ≤ 1000) :
    Calls Tryd.prog 58 #[.pointer (some ⟨rb, 0, none⟩), .slice (some ⟨w.heap.size, 0, none⟩) n n] (w.alloc (.cells cs T)) fun e w' => ∃ x, x ∈ xs ∧ e = .returned (.int .i64 x) ∧ Gave rb P 1 w w' := by
  have hb : Below w.heap.size w (w.alloc (.cells cs T)) := (Below.refl _ _).alloc (Nat.le_refl _) _
  have hrb : rb < w.heap.size := by obtain ⟨_, _, _, _, _, _, h, _⟩ := hr; exact h
  subst hn
  refine (num_any rb P w.heap.size 0 xs.length xs.length xs _ (hr.keep hb) hP (fun j x hj => ?_) rfl h0 h1 (by simp only [World.size_alloc]; omega) (by omega)).mono ?_
  · subst hcs
    rw [Nat.zero_add]
    unfold World.cell?
    rw [show (w.alloc (.cells _ T)).heap[(⟨w.heap.size, j, none⟩ : Addr).block]? = _ from heap_new1 _ _]
    simp [hj]
  · rintro e w' ⟨x, hx, rfl, hG⟩
    exact ⟨x, hx, rfl, hG.1, (But.of_below hb).trans (hG.2.mono hb.size)⟩

end Go.Proofs.YtlpfgiegapelmaaDoor
