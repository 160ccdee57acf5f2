/- PartsOf in the model. -/
import Derived.Test.YtlpfgiegapelmaaDoorTextS
import Derived.Test.YtlpfgiegapelmaaDoorParts
namespace Go.Proofs.YtlpfgiegapelmaaDoor
open Go.RowKit

theorem own_empty {w : World} {g : Nat} {T : TypeId} (h : w.heap[g]? = some (.cells #[] T (0, 0))) (base : Nat) (hb : base ≤ g) : w.ownsRow base T 1 (.slice (some ⟨g, 0, none⟩) 0 0) 0 [] :=
  ⟨rfl, .inr ⟨g, 0, #[], rfl, hb, h, Nat.le_refl _, Nat.zero_le _, rfl, rfl⟩⟩

set_option maxHeartbeats 400000 in
theorem markStringS_nil (k : Nat) (c : Nat) (w : World) :
    Calls Tryd.prog 41 #[.slice none 0 c, .int .i64 k] w fun e w' => e = .returned (.int .i64 (k + 0 : Nat)) ∧ w = w' := by
  go_enter Tryd.func41, Tryd.ntmps41
  go_wp2_with fail
  refine wp_loop_rounds 1 ?_
  rw [rounds_succ]
  go_wp2_with fail
  go_ret
  exact ⟨rfl, rfl⟩
theorem Strs.keep {w w' : World} {A : Option Addr} {n : Nat} {xs : List ByteArray} (h : Strs w A n xs) (hz : w.heap.size ≤ w'.heap.size) (hk : ∀ k, k < w.heap.size → w'.heap[k]? = w.heap[k]?) : Strs w' A n xs := by
  refine ⟨h.1, fun hn => ?_⟩
  obtain ⟨g, o, e, hg, hc⟩ := h.2 hn
  exact ⟨g, o, e, by omega, fun j x hj => (World.cell?_of_block (w := w) (a := ⟨g, o + j, none⟩) (hk g hg)).trans (hc j x hj)⟩
theorem Strs.drewN {w : World} {A : Option Addr} {n : Nat} {xs : List ByteArray} (h : Strs w A n xs) (m : Nat) : Strs (w.drewN m) A n xs := h

end Go.Proofs.YtlpfgiegapelmaaDoor
