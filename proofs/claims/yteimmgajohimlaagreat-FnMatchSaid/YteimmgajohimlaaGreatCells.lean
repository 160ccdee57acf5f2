/- Rows of pairs of strings that a call has built. -/
import Derived.Test.YteimmgajohimlaaGreatArgsB
import Derived.Deep.AppendLies
import Derived.OwnWalk
namespace Go.Proofs.YteimmgajohimlaaGreat
open Go.RowKit

/-- The cells of pairs of strings. -/
def cells2 (zs : List (ByteArray × ByteArray)) : List Value := zs.flatMap fun z => [.string z.1, .string z.2]
theorem cells2_len (zs : List (ByteArray × ByteArray)) : (cells2 zs).length = zs.length * 2 := by
  induction zs with
  | nil => rfl
  | cons z zs ih =>
    show ([Value.string z.1, .string z.2] ++ cells2 zs).length = _
    rw [List.length_append, ih]
    simp
    omega
theorem cells2_at : ∀ (zs : List (ByteArray × ByteArray)) (j : Nat) (z : ByteArray × ByteArray), zs[j]? = some z → (cells2 zs)[j * 2]? = some (.string z.1) ∧ (cells2 zs)[j * 2 + 1]? = some (.string z.2) := by
  intro zs
  induction zs with
  | nil => intro j z h; simp at h
  | cons y ys ih =>
    intro j z h
    show ([Value.string y.1, .string y.2] ++ cells2 ys)[j * 2]? = _ ∧ ([Value.string y.1, .string y.2] ++ cells2 ys)[j * 2 + 1]? = _
    cases j with
    | zero =>
      simp only [List.getElem?_cons_zero, Option.some.injEq] at h
      subst h
      exact ⟨rfl, rfl⟩
    | succ j =>
      simp only [List.getElem?_cons_succ] at h
      obtain ⟨h1, h2⟩ := ih j z h
      rw [show (j + 1) * 2 = j * 2 + 2 by omega, show j * 2 + 2 + 1 = j * 2 + 1 + 2 by omega]
      exact ⟨h1, h2⟩
theorem cells2_snoc (zs : List (ByteArray × ByteArray)) (x y : ByteArray) : cells2 (zs ++ [(x, y)]) = cells2 zs ++ [.string x, .string y] := by
  unfold cells2
  rw [List.flatMap_append]
  rfl

theorem own_pairs {w : World} {base n : Nat} {T : TypeId} {v : Value} {zs : List (ByteArray × ByteArray)} (h : w.ownsRow base T 2 v n (cells2 zs)) : ∃ B c, v = .slice B n c ∧ n ≤ c ∧ Prs w B n zs := by
  have hl : zs.length = n := by
    have h1 := h.1
    rw [cells2_len] at h1
    omega
  rcases h.2 with ⟨rfl, rfl⟩ | ⟨g, cap, cur, rfl, hb, hg, hc, hm, hs, ht⟩
  · exact ⟨none, 0, rfl, Nat.le_refl _, hl, fun h => absurd h (Nat.lt_irrefl 0)⟩
  · refine ⟨some ⟨g, 0, none⟩, cap, rfl, hc, hl, fun _ => ⟨g, 0, rfl, (Array.getElem?_eq_some_iff.1 hg).1, fun j z hj => ?_⟩⟩
    obtain ⟨e1, e2⟩ := cells2_at zs j z hj
    have hadd : ∀ k, (⟨g, 0, none⟩ : Addr).add k = ⟨g, 0 + k, none⟩ := fun k => by unfold Addr.add; split <;> simp_all
    have q1 := h.cells (g := g) rfl (j * 2) _ e1
    have q2 := h.cells (g := g) rfl (j * 2 + 1) _ e2
    rw [hadd] at q1 q2
    exact ⟨q1, q2⟩

end Go.Proofs.YteimmgajohimlaaGreat
