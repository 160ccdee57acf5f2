/- Two lists of the same bindings, compared by the laws' own words. What the laws over functions that hand back bindings turn on. -/
import Derived.Test.YtjpdiahbnhemoaaArgsB
import Derived.Test.YtjpdiahbnhemoaaMtV
namespace Go.Proofs.Ytjpdiahbnhemoaa
open Go.RowKit

end Go.Proofs.Ytjpdiahbnhemoaa

namespace Go.Proofs.Ytjpdiahbnhemoaa
open Go.RowKit

/-- A call that hands back bindings of its own and a truth. -/
def TwoEnd (bb : Bool) (zs : List (ByteArray × ByteArray)) (W : World) (e : Ending) (w' : World) : Prop :=
  Below W.heap.size W w' ∧ ∃ v, e = .returned (.tuple #[v, .bool bb]) ∧ w'.ownsRow W.heap.size 80 2 v zs.length (cells2 zs)
theorem told_len (f : UInt8 → Option Ty) : (told f).length ≤ 6 := by
  unfold told
  exact Nat.le_trans (List.length_filterMap_le _ _) (by decide)
theorem row_kept {w w' : World} {base : Nat} {e : TypeId} {size n : Nat} {v : Value} {xs : List Value} (h : w.ownsRow base e size v n xs) (hb : Below w.heap.size w w') : w'.ownsRow base e size v n xs := by
  refine ⟨h.1, ?_⟩
  rcases h.2 with h | ⟨g, cap, cur, e1, h1, h2, r⟩
  · exact .inl h
  · exact .inr ⟨g, cap, cur, e1, h1, (hb.block g (Array.getElem?_eq_some_iff.1 h2).1).trans h2, r⟩
theorem row_two {w : World} {base n c : Nat} {A : Option Addr} {zs : List (ByteArray × ByteArray)} (h : w.ownsRow base 80 2 (.slice A n c) n (cells2 zs)) :
    (Value.slice A n c = .slice none 0 0 ∧ n = 0 ∧ zs = []) ∨ ∃ g, Value.slice A n c = .slice (some ⟨g, 0, none⟩) n c ∧ base ≤ g ∧ RowPrs w g n zs := by
  have hl : zs.length = n := by
    have h1 := h.1
    rw [cells2_len] at h1
    omega
  rcases h.2 with ⟨e, h0⟩ | ⟨g, cap, cur, e, hb, hg, hc, hm, hs, ht⟩
  · exact .inl ⟨e, h0, List.eq_nil_of_length_eq_zero (hl.trans h0)⟩
  · refine .inr ⟨g, ?_, hb, cur, hg, by omega, hl, fun j z hj => ?_⟩
    · simp only [Value.slice.injEq] at e ⊢
      exact ⟨e.1, trivial, trivial⟩
    · have hjl : j < zs.length := (List.getElem?_eq_some_iff.1 hj).1
      obtain ⟨e1, e2⟩ := cells2_at zs j z hj
      rw [← ht] at e1 e2
      rw [List.getElem?_take_of_lt (by omega), Array.getElem?_toList] at e1
      rw [List.getElem?_take_of_lt (by omega), Array.getElem?_toList] at e2
      exact ⟨e1, e2⟩
theorem Prs.low {w w' : World} {A : Option Addr} {n k : Nat} {zs : List (ByteArray × ByteArray)} (h : Prs w A n zs) (hlt : 0 < n → ∃ g o, A = some ⟨g, o, none⟩ ∧ g < k) (hb : Below k w w') : Prs w' A n zs := by
  refine ⟨h.1, fun hn => ?_⟩
  obtain ⟨g, o, rfl, hg, hc⟩ := h.2 hn
  obtain ⟨g', o', e, hk⟩ := hlt hn
  simp only [Option.some.injEq, Addr.mk.injEq, and_true] at e
  obtain ⟨rfl, rfl⟩ := e
  refine ⟨g, o, rfl, Nat.lt_of_lt_of_le hg hb.size, fun j z hj => ?_⟩
  have hq := hb.block g hk
  exact ⟨(World.cell?_of_block (w := w) (w' := w') (a := ⟨g, o + j * 2, none⟩) hq).trans (hc j z hj).1, (World.cell?_of_block (w := w) (w' := w') (a := ⟨g, o + j * 2 + 1, none⟩) hq).trans (hc j z hj).2⟩

end Go.Proofs.Ytjpdiahbnhemoaa
