/- Two lists of the same bindings, compared by the laws' own words. -/
import Derived.Test.YteimmgajohimlaaGreatArgsB
import Derived.Test.YteimmgajohimlaaGreatCells
namespace Go.Proofs.YteimmgajohimlaaGreat
open Go.RowKit

set_option maxHeartbeats 1000000 in
set_option maxRecDepth 100000 in
theorem inBindings_same (A B : Option Addr) (n c d : Nat) (zs : List (ByteArray × ByteArray)) (w : World) (ha : Prs w A n zs) (hb : Prs w B n zs) (hn : n ≤ 1048576) :
    Calls Tryz.prog 10 #[.slice A n c, .slice B n d] w fun e w' => e = .returned (.bool true) ∧ Below w.heap.size w w' := by
  have HA := hid ha
  have HB := hid hb
  clear ha hb
  go_enter Tryz.func10, Tryz.ntmps10
  go_wp2_with fail
  go_loopw [11] (fun i wr => ∃ j : Nat, j ≤ n ∧ i = .int .i64 j ∧ Below w.heap.size w wr) (fun i _ => n - (intOf i).toNat)
  case atStart => exact ⟨0, Nat.zero_le _, rfl, Below.refl _ _⟩
  case round =>
    obtain ⟨j, hj, rfl, hbel⟩ := hrel
    by_cases hlt : j < n
    · obtain ⟨g, o, rfl, hgl, hca⟩ := HA.out.2 (by omega)
      obtain ⟨g', o', rfl, hgl', hca'⟩ := HB.out.2 (by omega)
      have hx : zs[j]? = some (zs[j]'(by have := HA.out.1; omega)) := List.getElem?_eq_getElem _
      obtain ⟨ca, cb⟩ := hca j _ hx
      obtain ⟨da, db⟩ := hca' j _ hx
      obtain ⟨⟨x, y⟩, ex⟩ : ∃ z, zs[j]'(by have := HA.out.1; omega) = z := ⟨_, rfl⟩
      rw [ex] at ca cb da db
      have ca1 := cell_below ca hgl hbel
      have cb1 := cell_below cb hgl hbel
      have da1 := cell_below da hgl' hbel
      have db1 := cell_below db hgl' hbel
      clear hca hca' hx ex ca cb da db
      have i1 : (0 : Int) ≤ (j : Int) := by omega
      have i2 : (j : Int) < (n : Int) := by omega
      go_wp2_with fail
      go_quiet (fail)
      go_wp2_with fail
      go_roundw
      case rel => exact ⟨j + 1, hlt, by go_num, hbel.trans ⟨rfl, rfl, rfl, Nat.le_refl _, fun _ _ => rfl⟩⟩
      case measure => simp [intOf]; omega
    · go_wp2_with fail
      go_ret
      exact ⟨rfl, hbel⟩

end Go.Proofs.YteimmgajohimlaaGreat
