/- The model's text of a node (l1Text). -/
import Derived.Test.YtlpfgiegapelmaaDoorRen
import Derived.Deep.DeepCutAuto
import Derived.Deep.CutBlock
namespace Go.Proofs.YtlpfgiegapelmaaDoor
open Go.RowKit

theorem sl0 (w : World) : (Instr.slice 9 (.string { data := #[40, 44] }) (some (.int .i64 0)) (some (.int .i64 1)) none).run Tryd.prog w = .ok (.string { data := #[40] }) w := by kernel_rfl
theorem sl1 (w : World) : (Instr.slice 9 (.string { data := #[40, 44] }) (some (.int .i64 1)) (some (.int .i64 2)) none).run Tryd.prog w = .ok (.string { data := #[44] }) w := by kernel_rfl

/-- conv_one, the block of the byte behind others. -/
theorem conv_at (W : World) (g : Nat) (c : UInt8) (h : W.cell? ⟨g, 0, none⟩ = some (.int .u8 c.toNat)) : (convert 22 9 (.slice (some ⟨g, 0, none⟩) 1 1)).run Tryd.prog W = .ok (.string (strOf [c])) W := by
  refine run_convert_bytes_back _ _ _ 5 ⟨g, 0, none⟩ 1 [c] Tryd.underlying22 Tryd.underlying5 Tryd.underlying9 (fun j hj => ?_)
  have e : j = 0 := by simp at hj; omega
  subst e
  exact h

end Go.Proofs.YtlpfgiegapelmaaDoor
