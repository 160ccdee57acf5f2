/- FormatBindings in the program. -/
import Derived.Test.YtmpmalcjfckemaaDoorFmtW
import Derived.Test.YtmpmalcjfckemaaDoorJoin
import Derived.OwnWalk
namespace Go.Proofs.YtmpmalcjfckemaaDoor
open Go.RowKit

theorem bnd_cat (x y : ByteArray) : x ++ ({ data := #[61] } : ByteArray) ++ y = strOf (bnd (x, y)) := strOf_eq (by simp [ByteArray.data_append, bnd])
theorem own_row {w : World} {base n : Nat} {T : TypeId} {v : Value} {xs : List Value} (h : w.ownsRow base T 1 v n xs) (hn : 0 < n) :
    ∃ g cap, v = .slice (some ⟨g, 0, none⟩) n cap ∧ base ≤ g ∧ g < w.heap.size ∧ n ≤ cap ∧ ∀ (j : Nat) u, xs[j]? = some u → w.cell? ⟨g, j, none⟩ = some u := by
  have hc : ∀ g, v.ownBlock = some g → ∀ j u, xs[j]? = some u → w.cell? ((⟨g, 0, none⟩ : Addr).add j) = some u := fun g hg => h.cells hg
  have hl := h.lt
  obtain ⟨h1, ⟨rfl, rfl⟩ | ⟨g, cap, cur, rfl, hb, hg, hnc, _⟩⟩ := h
  · exact absurd hn (Nat.lt_irrefl 0)
  · refine ⟨g, cap, rfl, hb, (hl g rfl).2, hnc, fun j u hj => ?_⟩
    have := hc g rfl j u hj
    rwa [show (⟨g, 0, none⟩ : Addr).add j = ⟨g, j, none⟩ by unfold Addr.add; split <;> simp_all] at this

end Go.Proofs.YtmpmalcjfckemaaDoor
