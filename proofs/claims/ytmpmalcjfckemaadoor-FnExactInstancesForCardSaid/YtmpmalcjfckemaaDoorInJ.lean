/- The program's reader of worlds: an instance; ParseInstance. -/
import Derived.Test.YtmpmalcjfckemaaDoorInW
import Derived.Test.YtmpmalcjfckemaaDoorPnN
import Derived.Deep.Cut
namespace Go.Proofs.YtmpmalcjfckemaaDoor
open Go.RowKit
set_option linter.unusedVariables false

theorem own_heap {w w' : World} {base n k : Nat} {T : TypeId} {v : Value} {xs : List Value} (h : w.ownsRow base T k v n xs) (hb : ∀ g, v.ownBlock = some g → w'.heap[g]? = w.heap[g]?) : w'.ownsRow base T k v n xs := by
  refine ⟨h.1, ?_⟩
  rcases h.2 with hn | ⟨g, cap, cur, rfl, hb0, hgg, rest⟩
  · exact .inl hn
  · exact .inr ⟨g, cap, cur, rfl, hb0, (hb g rfl).trans hgg, rest⟩
theorem own_mono {w : World} {base base' n k : Nat} {T : TypeId} {v : Value} {xs : List Value} (h : w.ownsRow base T k v n xs) (hb : base' ≤ base) : w.ownsRow base' T k v n xs := by
  refine ⟨h.1, ?_⟩
  rcases h.2 with hn | ⟨g, cap, cur, rfl, hb0, rest⟩
  · exact .inl hn
  · exact .inr ⟨g, cap, cur, rfl, Nat.le_trans hb hb0, rest⟩
theorem set1_other {w : World} {k j rb : Nat} (hne : rb ≠ k) (x : Value) : (w.setCell ⟨k, j, none⟩ x).heap[rb]? = w.heap[rb]? := by
  simp [World.setCell, Array.getElem?_modify, Ne.symm hne]
theorem set1_but {w : World} {k j rb B : Nat} (hk : B ≤ k) (x : Value) : But B rb w (w.setCell ⟨k, j, none⟩ x) :=
  ⟨rfl, rfl, rfl, by simp [World.setCell], fun i hi _ => set1_other (by omega) x⟩
theorem set3_other {w : World} {k rb : Nat} (hne : rb ≠ k) (x y z : Value) : (((w.setCell ⟨k, 0, none⟩ x).setCell ⟨k, 1, none⟩ y).setCell ⟨k, 2, none⟩ z).heap[rb]? = w.heap[rb]? :=
  (set1_other hne z).trans (set2_other hne x y)
theorem set3_but {w : World} {k rb B : Nat} (hk : B ≤ k) (x y z : Value) : But B rb w (((w.setCell ⟨k, 0, none⟩ x).setCell ⟨k, 1, none⟩ y).setCell ⟨k, 2, none⟩ z) :=
  (set2_but hk x y).trans (set1_but hk z)
theorem inBlk {w : World} {k : Nat} {a b c : Value} {T : TypeId} (h : w.heap[k]? = some (.cells #[a, b, c] T (0, 0))) (z : Value) : (w.setCell ⟨k, 2, none⟩ z).heap[k]? = some (.cells #[a, b, z] T (0, 0)) := by
  simp [World.setCell, Array.getElem?_modify, h]

theorem insZero : (Tryd.prog.info? 58).map (fun i => (i.zero, i.size, i.bytes)) = some (some (.agg #[.string ⟨#[]⟩, .string ⟨#[]⟩, .slice none 0 0]), 3, 56) := by kernel_rfl

end Go.Proofs.YtmpmalcjfckemaaDoor
