/- A world that the exact laws copy for themselves, in memory of its own: toInstanceS, toWorld. Rows of numbers in the exact laws: what is marked in them, and that they stay. Rows of needs that a call owns, in the exact laws. -/
import Derived.Test.YtlpfgiegapelmaaDoorWld
import Derived.Test.YtlpfgiegapelmaaDoorMrkX
import Derived.Test.YtlpfgiegapelmaaDoorKeep
namespace Go.Proofs.YtlpfgiegapelmaaDoor
open Go.RowKit
set_option linter.unusedVariables false

end Go.Proofs.YtlpfgiegapelmaaDoor

namespace Go.Proofs.YtlpfgiegapelmaaDoor
open Go.RowKit
set_option linter.unusedVariables false

theorem NumAt.ints {w : World} {A : Option Addr} {n : Nat} {ks : List Nat} (h : NumAt w A n ks) : Ints w A n (zOf ks) := by
  refine ⟨by rw [zOf_length]; exact h.1, fun hn => ?_⟩
  obtain ⟨g, o, e, hg, hc⟩ := h.2 hn
  refine ⟨g, o, e, hg, fun j x hj => ?_⟩
  obtain ⟨k, hk, rfl⟩ := zOf_at hj
  exact hc j k hk
theorem eqIntS_b (A B : Option Addr) (n c d : Nat) (xs : List Int) (w : World) (ha : Ints w A n xs) (hb : Ints w B n xs) (hn : n ≤ 1048576) :
    Calls Tryd.prog 47 #[.slice A n c, .slice B n d] w fun e w' => e = .returned (.bool true) ∧ Below w.heap.size w w' :=
  (eqIntS_same A B n c d xs w ha hb hn).mono fun e w' ⟨h1, m, h2⟩ => ⟨h1, by rw [h2]; exact ⟨rfl, rfl, rfl, Nat.le_refl _, fun _ _ => rfl⟩⟩
theorem But.below_from {w w' : World} {g lo : Nat} (h : But w.heap.size g w w') (hl : lo ≤ g) (hw : lo ≤ w.heap.size) : Below lo w w' :=
  ⟨h.os, h.tape, h.output, h.size, fun k hk => h.block k (Nat.lt_of_lt_of_le hk hw) (by omega)⟩
/-- Marks laid into what a call owns: nothing below has changed. -/
theorem markK_any (lo : Nat) (A : Option Addr) (n c k : Nat) (ks : List Nat) (w : World) (h : OwnK w lo (.slice A n c) ks) (hn : ks.length = n) (hlo : lo ≤ w.heap.size) (hk : 0 < k) (hkn : k + n ≤ 4194304) :
    Calls Tryd.prog 48 #[.slice A n c, .int .i64 k] w fun e w' => e = .returned (.int .i64 (k + n : Nat)) ∧ Ints w' A n (marksZ k n) ∧ Below lo w w' := by
  rcases h.2 with ⟨hA, h0⟩ | ⟨g, cap, cur, hA, hb, hg, hc, hm, hs, ht⟩
  · injection hA with h1 h2 h3
    subst h1
    have hn0 : n = 0 := by omega
    subst hn0
    subst h3
    refine (markIntS_nil k 0 w).mono fun e w' ⟨h4, h5⟩ => ⟨by rw [h4]; rfl, ⟨rfl, fun h => absurd h (Nat.lt_irrefl 0)⟩, by rw [h5]; exact Below.refl _ _⟩
  · injection hA with h1 h2 h3
    subst h1
    have hrow : OwnZ w g n (zOf ks) := by
      refine ⟨cur, hg, by omega, by rw [zOf_length, hn], fun j x hj => ?_⟩
      have hjl : j < ks.length := by have := (List.getElem?_eq_some_iff.1 hj).1; rwa [zOf_length] at this
      have e : (cur.toList.take (ks.length * 1))[j]? = some (.int .i64 x) := by rw [ht, List.getElem?_map, hj]; rfl
      rw [List.getElem?_take, if_pos (by omega)] at e
      simpa using e
    exact (markIntS_any g k n c (zOf ks) w hrow hk hkn).mono fun e w' ⟨h4, h5, h6⟩ => ⟨h4, h5.ints, h6.below_from hb hlo⟩

end Go.Proofs.YtlpfgiegapelmaaDoor

namespace Go.Proofs.YtlpfgiegapelmaaDoor
open Go.RowKit
set_option linter.unusedVariables false

end Go.Proofs.YtlpfgiegapelmaaDoor
