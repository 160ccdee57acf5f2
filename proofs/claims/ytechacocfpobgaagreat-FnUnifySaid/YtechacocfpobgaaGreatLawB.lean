/- Two lists of the same bindings, compared by the laws' own words. What the laws over functions that hand back bindings turn on. -/
import Derived.Test.YtechacocfpobgaaGreatArgsB
import Derived.Test.YtechacocfpobgaaGreatMtV
namespace Go.Proofs.YtechacocfpobgaaGreat
open Go.RowKit

set_option maxHeartbeats 1000000 in
set_option maxRecDepth 100000 in
theorem inBindings_same (A B : Option Addr) (n c d : Nat) (zs : List (ByteArray × ByteArray)) (w : World) (ha : Prs w A n zs) (hb : Prs w B n zs) (hn : n ≤ 1048576) :
    Calls Tryz.prog 9 #[.slice A n c, .slice B n d] w fun e w' => e = .returned (.bool true) ∧ Below w.heap.size w w' := by
  have HA := hid ha
  have HB := hid hb
  clear ha hb
  go_enter Tryz.func9, Tryz.ntmps9
  go_wp2_with fail
  go_loopw [11] (fun i wr => ∃ j : Nat, j ≤ n ∧ i = .int .i64 j ∧ Below w.heap.size w wr) (fun i _ => n - (intOf i).toNat)
  case atStart => exact ⟨0, Nat.zero_le _, rfl, Below.refl _ _⟩
  case round =>
    obtain ⟨j, hj, rfl, hbel⟩ := hrel
    by_cases hlt : j < n
    · obtain ⟨g, o, rfl, hgl, hca⟩ := HA.out.2 (by omega)
      obtain ⟨g', o', rfl, hgl', hca'⟩ := HB.out.2 (by omega)
      have hx : zs[j]? = some (zs[j]'(by have := HA.out.1; omega)) := List.getElem?_eq_getElem _
      obtain ⟨ca, cb⟩ := hca j _ hx
      obtain ⟨da, db⟩ := hca' j _ hx
      obtain ⟨⟨x, y⟩, ex⟩ : ∃ z, zs[j]'(by have := HA.out.1; omega) = z := ⟨_, rfl⟩
      rw [ex] at ca cb da db
      have ca1 := cell_below ca hgl hbel
      have cb1 := cell_below cb hgl hbel
      have da1 := cell_below da hgl' hbel
      have db1 := cell_below db hgl' hbel
      clear hca hca' hx ex ca cb da db
      have i1 : (0 : Int) ≤ (j : Int) := by omega
      have i2 : (j : Int) < (n : Int) := by omega
      go_wp2_with fail
      go_quiet (fail)
      go_wp2_with fail
      go_roundw
      case rel => exact ⟨j + 1, hlt, by go_num, hbel.trans ⟨rfl, rfl, rfl, Nat.le_refl _, fun _ _ => rfl⟩⟩
      case measure => simp [intOf]; omega
    · go_wp2_with fail
      go_ret
      exact ⟨rfl, hbel⟩

end Go.Proofs.YtechacocfpobgaaGreat

namespace Go.Proofs.YtechacocfpobgaaGreat
open Go.RowKit

/-- A call that hands back bindings of its own and a truth. -/
def TwoEnd (bb : Bool) (zs : List (ByteArray × ByteArray)) (W : World) (e : Ending) (w' : World) : Prop :=
  Below W.heap.size W w' ∧ ∃ v, e = .returned (.tuple #[v, .bool bb]) ∧ w'.ownsRow W.heap.size 33 2 v zs.length (cells2 zs)
theorem told_len (f : UInt8 → Option Ty) : (told f).length ≤ 6 := by
  unfold told
  exact Nat.le_trans (List.length_filterMap_le _ _) (by decide)
theorem row_kept {w w' : World} {base : Nat} {e : TypeId} {size n : Nat} {v : Value} {xs : List Value} (h : w.ownsRow base e size v n xs) (hb : Below w.heap.size w w') : w'.ownsRow base e size v n xs := by
  refine ⟨h.1, ?_⟩
  rcases h.2 with h | ⟨g, cap, cur, e1, h1, h2, r⟩
  · exact .inl h
  · exact .inr ⟨g, cap, cur, e1, h1, (hb.block g (Array.getElem?_eq_some_iff.1 h2).1).trans h2, r⟩
theorem row_two {w : World} {base n c : Nat} {A : Option Addr} {zs : List (ByteArray × ByteArray)} (h : w.ownsRow base 33 2 (.slice A n c) n (cells2 zs)) :
    (Value.slice A n c = .slice none 0 0 ∧ n = 0 ∧ zs = []) ∨ ∃ g, Value.slice A n c = .slice (some ⟨g, 0, none⟩) n c ∧ base ≤ g ∧ RowPrs w g n zs := by
  have hl : zs.length = n := by
    have h1 := h.1
    rw [cells2_len] at h1
    omega
  rcases h.2 with ⟨e, h0⟩ | ⟨g, cap, cur, e, hb, hg, hc, hm, hs, ht⟩
  · exact .inl ⟨e, h0, List.eq_nil_of_length_eq_zero (hl.trans h0)⟩
  · refine .inr ⟨g, ?_, hb, cur, hg, by omega, hl, fun j z hj => ?_⟩
    · simp only [Value.slice.injEq] at e ⊢
      exact ⟨e.1, trivial, trivial⟩
    · have hjl : j < zs.length := (List.getElem?_eq_some_iff.1 hj).1
      obtain ⟨e1, e2⟩ := cells2_at zs j z hj
      rw [← ht] at e1 e2
      rw [List.getElem?_take_of_lt (by omega), Array.getElem?_toList] at e1
      rw [List.getElem?_take_of_lt (by omega), Array.getElem?_toList] at e2
      exact ⟨e1, e2⟩
theorem Prs.low {w w' : World} {A : Option Addr} {n k : Nat} {zs : List (ByteArray × ByteArray)} (h : Prs w A n zs) (hlt : 0 < n → ∃ g o, A = some ⟨g, o, none⟩ ∧ g < k) (hb : Below k w w') : Prs w' A n zs := by
  refine ⟨h.1, fun hn => ?_⟩
  obtain ⟨g, o, rfl, hg, hc⟩ := h.2 hn
  obtain ⟨g', o', e, hk⟩ := hlt hn
  simp only [Option.some.injEq, Addr.mk.injEq, and_true] at e
  obtain ⟨rfl, rfl⟩ := e
  refine ⟨g, o, rfl, Nat.lt_of_lt_of_le hg hb.size, fun j z hj => ?_⟩
  have hq := hb.block g hk
  exact ⟨(World.cell?_of_block (w := w) (w' := w') (a := ⟨g, o + j * 2, none⟩) hq).trans (hc j z hj).1, (World.cell?_of_block (w := w) (w' := w') (a := ⟨g, o + j * 2 + 1, none⟩) hq).trans (hc j z hj).2⟩

end Go.Proofs.YtechacocfpobgaaGreat
