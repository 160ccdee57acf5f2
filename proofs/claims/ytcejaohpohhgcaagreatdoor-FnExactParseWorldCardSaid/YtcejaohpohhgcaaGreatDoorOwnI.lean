/- A row of instances that was handed back: a block of its own, and one for the needs of each. -/
import Derived.Test.YtcejaohpohhgcaaGreatDoorMrkI
import Derived.Test.YtcejaohpohhgcaaGreatDoorInsA
namespace Go.Proofs.YtcejaohpohhgcaaGreatDoor
open Go.RowKit
set_option linter.unusedVariables false

/-- An instance, and where its needs lie. -/
abbrev InP := Ins × (Option Addr × Nat)
def cells3 (ps : List InP) : List Value := ps.flatMap fun p => [.string p.1.c, .string p.1.t, .slice p.2.1 p.1.ns.length p.2.2]
theorem cells3_len (ps : List InP) : (cells3 ps).length = ps.length * 3 := by
  induction ps with
  | nil => rfl
  | cons p ps ih =>
    unfold cells3 at ih ⊢
    rw [List.flatMap_cons, List.length_append, ih]
    simp only [List.length_cons, List.length_nil]
    omega
theorem cells3_at : ∀ (ps : List InP) (j : Nat) (p : InP), ps[j]? = some p → (cells3 ps)[j * 3]? = some (.string p.1.c) ∧ (cells3 ps)[j * 3 + 1]? = some (.string p.1.t) ∧ (cells3 ps)[j * 3 + 2]? = some (.slice p.2.1 p.1.ns.length p.2.2)
  | [], j, p, h => by simp at h
  | q :: ps, 0, p, h => by
    simp only [List.getElem?_cons_zero, Option.some.injEq] at h
    subst h
    exact ⟨rfl, rfl, rfl⟩
  | q :: ps, j + 1, p, h => by
    have h' : ps[j]? = some p := by simpa using h
    obtain ⟨h1, h2, h3⟩ := cells3_at ps j p h'
    have e : cells3 (q :: ps) = .string q.1.c :: .string q.1.t :: .slice q.2.1 q.1.ns.length q.2.2 :: cells3 ps := rfl
    rw [e, show (j + 1) * 3 = j * 3 + 1 + 1 + 1 by omega]
    exact ⟨by simpa using h1, by simpa using h2, by simpa using h3⟩
theorem cells3_snoc (ps : List InP) (p : InP) : cells3 (ps ++ [p]) = cells3 ps ++ [.string p.1.c, .string p.1.t, .slice p.2.1 p.1.ns.length p.2.2] := by
  unfold cells3
  rw [List.flatMap_append, List.flatMap_cons, List.flatMap_nil, List.append_nil]
/-- Block g is a row of instances of which the first m are those. -/
def RowI (w : World) (g m : Nat) (ps : List InP) : Prop :=
  ∃ cur : Array Value, w.heap[g]? = some (.cells cur 39 (0, 0)) ∧ m * 3 ≤ cur.size ∧ ps.length = m ∧ ∀ (j : Nat) p, ps[j]? = some p → cur[j * 3]? = some (.string p.1.c) ∧ cur[j * 3 + 1]? = some (.string p.1.t) ∧ cur[j * 3 + 2]? = some (.slice p.2.1 p.1.ns.length p.2.2)
theorem RowI.keep {w w' : World} {g m : Nat} {ps : List InP} (h : RowI w g m ps) (e : w'.heap[g]? = w.heap[g]?) : RowI w' g m ps := by
  obtain ⟨cur, h1, h2⟩ := h
  exact ⟨cur, e.trans h1, h2⟩
theorem RowI.lt {w : World} {g m : Nat} {ps : List InP} (h : RowI w g m ps) : g < w.heap.size := by
  obtain ⟨cur, h1, _⟩ := h
  exact (Array.getElem?_eq_some_iff.1 h1).1
theorem RowI.of {w : World} {base m g c : Nat} {ps : List InP} (h : w.ownsRow base 39 3 (.slice (some ⟨g, 0, none⟩) m c) m (cells3 ps)) : RowI w g m ps := by
  have hl : ps.length = m := by
    have h1 := h.1
    rw [cells3_len] at h1
    omega
  rcases h.2 with ⟨hA, rfl⟩ | ⟨g', cap, cur, hA, hb, hg, hc, hm, hs, ht⟩
  · cases hA
  · injection hA with h1 h2 h3
    injection h1 with h1
    injection h1 with h1
    subst h1
    refine ⟨cur, hg, by rw [hs]; exact Nat.mul_le_mul_right 3 hc, hl, fun j p hj => ?_⟩
    obtain ⟨e1, e2, e3⟩ := cells3_at ps j p hj
    have hjn : j < m := by rw [← hl]; exact (List.getElem?_eq_some_iff.1 hj).1
    rw [← ht] at e1 e2 e3
    rw [List.getElem?_take, if_pos (by omega)] at e1 e2 e3
    exact ⟨by simpa using e1, by simpa using e2, by simpa using e3⟩
theorem at_mid {A B : List InP} {p : InP} {j : Nat} {q : InP} (h : (A ++ p :: B)[j]? = some q) : (j < A.length ∧ ∀ x, (A ++ x :: B)[j]? = some q) ∨ (j = A.length ∧ q = p) ∨ (A.length < j ∧ ∀ x, (A ++ x :: B)[j]? = some q) := by
  rcases Nat.lt_trichotomy j A.length with hj | hj | hj
  · refine .inl ⟨hj, fun x => ?_⟩
    rw [List.getElem?_append_left hj] at h ⊢
    exact h
  · subst hj
    rw [List.getElem?_append_right (Nat.le_refl _)] at h
    simp at h
    exact .inr (.inl ⟨rfl, h.symm⟩)
  · refine .inr (.inr ⟨hj, fun x => ?_⟩)
    rw [List.getElem?_append_right (by omega)] at h ⊢
    obtain ⟨k, hk⟩ : ∃ k, j - A.length = k + 1 := ⟨j - A.length - 1, by omega⟩
    rw [hk] at h ⊢
    simpa using h
theorem RowI.set0 {w : World} {g m : Nat} {A B : List InP} {p : InP} (h : RowI w g m (A ++ p :: B)) (x : ByteArray) : RowI (w.setCell ⟨g, A.length * 3, none⟩ (.string x)) g m (A ++ (⟨x, p.1.t, p.1.ns⟩, p.2) :: B) := by
  obtain ⟨cur, h1, h2, h3, h4⟩ := h
  have hb : A.length < m := by rw [← h3]; simp
  refine ⟨cur.setIfInBounds (A.length * 3) (.string x), by simp [World.setCell, Array.getElem?_modify, h1], by simpa using h2, by rw [← h3]; simp, fun j q hj => ?_⟩
  rcases at_mid hj with ⟨hl, hq⟩ | ⟨rfl, rfl⟩ | ⟨hl, hq⟩
  · obtain ⟨e1, e2, e3⟩ := h4 j q (hq p)
    refine ⟨?_, ?_, ?_⟩ <;> rw [Array.getElem?_setIfInBounds, if_neg (by omega)] <;> assumption
  · obtain ⟨e1, e2, e3⟩ := h4 A.length p (by simp)
    refine ⟨by rw [Array.getElem?_setIfInBounds, if_pos rfl, if_pos (by omega)], ?_, ?_⟩ <;> rw [Array.getElem?_setIfInBounds, if_neg (by omega)] <;> assumption
  · obtain ⟨e1, e2, e3⟩ := h4 j q (hq p)
    refine ⟨?_, ?_, ?_⟩ <;> rw [Array.getElem?_setIfInBounds, if_neg (by omega)] <;> assumption
theorem RowI.set1 {w : World} {g m : Nat} {A B : List InP} {p : InP} (h : RowI w g m (A ++ p :: B)) (x : ByteArray) : RowI (w.setCell ⟨g, A.length * 3 + 1, none⟩ (.string x)) g m (A ++ (⟨p.1.c, x, p.1.ns⟩, p.2) :: B) := by
  obtain ⟨cur, h1, h2, h3, h4⟩ := h
  have hb : A.length < m := by rw [← h3]; simp
  refine ⟨cur.setIfInBounds (A.length * 3 + 1) (.string x), by simp [World.setCell, Array.getElem?_modify, h1], by simpa using h2, by rw [← h3]; simp, fun j q hj => ?_⟩
  rcases at_mid hj with ⟨hl, hq⟩ | ⟨rfl, rfl⟩ | ⟨hl, hq⟩
  · obtain ⟨e1, e2, e3⟩ := h4 j q (hq p)
    refine ⟨?_, ?_, ?_⟩ <;> rw [Array.getElem?_setIfInBounds, if_neg (by omega)] <;> assumption
  · obtain ⟨e1, e2, e3⟩ := h4 A.length p (by simp)
    refine ⟨?_, by rw [Array.getElem?_setIfInBounds, if_pos rfl, if_pos (by omega)], ?_⟩ <;> rw [Array.getElem?_setIfInBounds, if_neg (by omega)] <;> assumption
  · obtain ⟨e1, e2, e3⟩ := h4 j q (hq p)
    refine ⟨?_, ?_, ?_⟩ <;> rw [Array.getElem?_setIfInBounds, if_neg (by omega)] <;> assumption
theorem RowI.ns {w : World} {g m : Nat} {A B : List InP} {p : InP} (h : RowI w g m (A ++ p :: B)) (ns : List (ByteArray × ByteArray)) (hn : ns.length = p.1.ns.length) : RowI w g m (A ++ (⟨p.1.c, p.1.t, ns⟩, p.2) :: B) := by
  obtain ⟨cur, h1, h2, h3, h4⟩ := h
  refine ⟨cur, h1, h2, by rw [← h3]; simp, fun j q hj => ?_⟩
  rcases at_mid hj with ⟨hl, hq⟩ | ⟨rfl, rfl⟩ | ⟨hl, hq⟩
  · exact h4 j q (hq p)
  · obtain ⟨e1, e2, e3⟩ := h4 A.length p (by simp)
    exact ⟨e1, e2, by rw [hn]; exact e3⟩
  · exact h4 j q (hq p)

/-- The needs lie in blocks of their own. -/
def InR (w : World) (lo g : Nat) (ps : List InP) : Prop :=
  (∀ (j : Nat) p, ps[j]? = some p → OwnN w lo p.2.1 p.1.ns.length p.1.ns ∧ ∀ a, p.2.1 = some a → a.block ≠ g) ∧
  ∀ (j k : Nat) p q a b, j ≠ k → ps[j]? = some p → ps[k]? = some q → p.2.1 = some a → q.2.1 = some b → a.block ≠ b.block
theorem OwnN.keep {w w' : World} {lo n : Nat} {A : Option Addr} {zs : List (ByteArray × ByteArray)} (h : OwnN w lo A n zs) (hz : w.heap.size ≤ w'.heap.size) (hk : ∀ a, A = some a → lo ≤ a.block → a.block < w.heap.size → w'.heap[a.block]? = w.heap[a.block]?) : OwnN w' lo A n zs := by
  rcases h with h | ⟨g, rfl, h1, h2, h3⟩
  · exact .inl h
  · exact .inr ⟨g, rfl, h1, Nat.lt_of_lt_of_le h2 hz, h3.keep (hk _ rfl h1 h2)⟩
theorem OwnN.mono {w : World} {lo lo' n : Nat} {A : Option Addr} {zs : List (ByteArray × ByteArray)} (h : OwnN w lo A n zs) (hl : lo' ≤ lo) : OwnN w lo' A n zs := by
  rcases h with h | ⟨g, rfl, h1, h2, h3⟩
  · exact .inl h
  · exact .inr ⟨g, rfl, Nat.le_trans hl h1, h2, h3⟩
theorem OwnN.at {w : World} {lo n : Nat} {A : Option Addr} {zs : List (ByteArray × ByteArray)} (h : OwnN w lo A n zs) : ∀ a, A = some a → lo ≤ a.block ∧ a.block < w.heap.size := by
  rcases h with ⟨rfl, _⟩ | ⟨g, rfl, h1, h2, h3⟩
  · intro a h; cases h
  · intro a h; injection h with h; rw [← h]; exact ⟨h1, h2⟩
theorem InR.keep {w w' : World} {lo g : Nat} {ps : List InP} (h : InR w lo g ps) (hz : w.heap.size ≤ w'.heap.size) (hk : ∀ k, lo ≤ k → k < w.heap.size → k ≠ g → w'.heap[k]? = w.heap[k]?) : InR w' lo g ps :=
  ⟨fun j p hj => ⟨(h.1 j p hj).1.keep hz fun a ha h1 h2 => hk _ h1 h2 ((h.1 j p hj).2 a ha), (h.1 j p hj).2⟩, h.2⟩
/-- The row moves: its new block is none of the needs'. -/
theorem InR.move {w : World} {lo g g' : Nat} {ps : List InP} (h : InR w lo g ps) (hg : g' = g ∨ w.heap.size ≤ g') : InR w lo g' ps := by
  refine ⟨fun j p hj => ⟨(h.1 j p hj).1, fun a ha => ?_⟩, h.2⟩
  rcases hg with rfl | hg
  · exact (h.1 j p hj).2 a ha
  · have := (h.1 j p hj).1.at a ha
    omega
theorem InR.move2 {w : World} {lo g g' b : Nat} {ps : List InP} (h : InR w lo g ps) (hb : ∀ (j : Nat) q a, ps[j]? = some q → q.2.1 = some a → a.block < b) (hg : g' = g ∨ b ≤ g') : InR w lo g' ps := by
  refine ⟨fun j p hj => ⟨(h.1 j p hj).1, fun a ha => ?_⟩, h.2⟩
  rcases hg with rfl | hg
  · exact (h.1 j p hj).2 a ha
  · have := hb j p a hj ha
    omega
theorem InR.snoc {w : World} {lo lo2 g : Nat} {ps : List InP} {p : InP} (h : InR w lo g ps) (hp : OwnN w lo2 p.2.1 p.1.ns.length p.1.ns) (hlo : lo ≤ lo2) (hgp : ∀ a, p.2.1 = some a → a.block ≠ g) (hold : ∀ (j : Nat) q a, ps[j]? = some q → q.2.1 = some a → a.block < lo2) : InR w lo g (ps ++ [p]) := by
  have hat : ∀ (j : Nat) q, (ps ++ [p])[j]? = some q → ps[j]? = some q ∨ (j = ps.length ∧ q = p) := by
    intro j q hj
    rcases Nat.lt_or_ge j ps.length with hl | hl
    · rw [List.getElem?_append_left hl] at hj
      exact .inl hj
    · rw [List.getElem?_append_right hl] at hj
      have hjl : j - ps.length = 0 := by
        have := (List.getElem?_eq_some_iff.1 hj).1
        simp at this
        omega
      rw [hjl] at hj
      simp at hj
      exact .inr ⟨by omega, hj.symm⟩
  refine ⟨fun j q hj => ?_, fun j k q r a b hjk hj hk ha hb => ?_⟩
  · rcases hat j q hj with h1 | ⟨_, rfl⟩
    · exact h.1 j q h1
    · exact ⟨hp.mono hlo, hgp⟩
  · rcases hat j q hj with h1 | ⟨e1, rfl⟩ <;> rcases hat k r hk with h2 | ⟨e2, rfl⟩
    · exact h.2 j k q r a b hjk h1 h2 ha hb
    · have h3 := hold j q a h1 ha
      have h4 := hp.at b hb
      omega
    · have h3 := hold k r b h2 hb
      have h4 := hp.at a ha
      omega
    · exact absurd (e1.trans e2.symm) hjk
theorem InR.lt {w : World} {lo g : Nat} {ps : List InP} (h : InR w lo g ps) : ∀ (j : Nat) q a, ps[j]? = some q → q.2.1 = some a → a.block < w.heap.size := fun j q a hj ha => ((h.1 j q hj).1.at a ha).2

/-- A slice of instances that was handed back. -/
def OwnW (w : World) (lo : Nat) (B : Option Addr) (m : Nat) (is : List Ins) : Prop :=
  (B = none ∧ m = 0 ∧ is = []) ∨ ∃ g ps, B = some ⟨g, 0, none⟩ ∧ lo ≤ g ∧ ps.map Prod.fst = is ∧ RowI w g m ps ∧ InR w lo g ps
theorem OwnW.keep {w w' : World} {lo m : Nat} {B : Option Addr} {is : List Ins} (h : OwnW w lo B m is) (hz : w.heap.size ≤ w'.heap.size) (hk : ∀ k, lo ≤ k → k < w.heap.size → w'.heap[k]? = w.heap[k]?) : OwnW w' lo B m is := by
  rcases h with h | ⟨g, ps, rfl, h1, h2, h3, h4⟩
  · exact .inl h
  · exact .inr ⟨g, ps, rfl, h1, h2, h3.keep (hk g h1 h3.lt), h4.keep hz fun k h5 h6 _ => hk k h5 h6⟩
theorem OwnW.below {w w' : World} {lo m : Nat} {B : Option Addr} {is : List Ins} (h : OwnW w lo B m is) (hb : Below w.heap.size w w') : OwnW w' lo B m is := h.keep hb.size fun k _ hk => hb.block k hk
theorem OwnW.inss {w : World} {lo m : Nat} {B : Option Addr} {is : List Ins} (h : OwnW w lo B m is) (hn : ∀ i ∈ is, i.ns.length ≤ maxLen) : Inss w B m is := by
  rcases h with ⟨rfl, rfl, rfl⟩ | ⟨g, ps, rfl, h1, rfl, ⟨cur, h3, h4, h5, h6⟩, h7⟩
  · exact ⟨rfl, fun h => absurd h (Nat.lt_irrefl 0)⟩
  · refine ⟨by rw [List.length_map]; exact h5, fun _ => ⟨g, 0, rfl, (Array.getElem?_eq_some_iff.1 h3).1, fun j i hj => ?_⟩⟩
    rw [List.getElem?_map] at hj
    rcases hp : ps[j]? with _ | p
    · rw [hp] at hj; cases hj
    · rw [hp] at hj
      have hi : p.1 = i := by simpa using hj
      subst hi
      obtain ⟨e1, e2, e3⟩ := h6 j p hp
      have c : ∀ (l : Nat) v, cur[l]? = some v → w.cell? ⟨g, 0 + l, none⟩ = some v := fun l v hv => by rw [Nat.zero_add]; exact cell_blk h3 hv
      exact ⟨c _ _ e1, c _ _ e2, p.2.1, p.1.ns.length, p.2.2, c _ _ e3, hn _ (List.mem_map.2 ⟨p, List.mem_of_getElem? hp, rfl⟩), (h7.1 j p hp).1.prs⟩

end Go.Proofs.YtcejaohpohhgcaaGreatDoor
