/- The exact laws' own helpers over an argument of bindings: szBindingS, toBindingS, eqBindingS. Rows of pairs of strings that a call has built. -/
import Derived.Test.YtjpdiahbnhemoaaGreatDoorPartsI
import Derived.Deep.OwnRows
import Derived.Deep.SlicePairs
import Derived.Deep.RegionWith
import Derived.Deep.AppendLies
import Derived.OwnWalk
namespace Go.Proofs.YtjpdiahbnhemoaaGreatDoor
open Go.RowKit

/-- A slice of n pairs of strings. -/
def Prs (w : World) (A : Option Addr) (n : Nat) (zs : List (ByteArray × ByteArray)) : Prop :=
  zs.length = n ∧ (0 < n → ∃ g o, A = some ⟨g, o, none⟩ ∧ g < w.heap.size ∧ ∀ (j : Nat) z, zs[j]? = some z → w.cell? ⟨g, o + j * 2, none⟩ = some (.string z.1) ∧ w.cell? ⟨g, o + j * 2 + 1, none⟩ = some (.string z.2))
theorem Prs.below {w w' : World} {A : Option Addr} {n : Nat} {zs : List (ByteArray × ByteArray)} (h : Prs w A n zs) (hb : Below w.heap.size w w') : Prs w' A n zs := by
  refine ⟨h.1, fun hn => ?_⟩
  obtain ⟨g, o, rfl, hg, hc⟩ := h.2 hn
  exact ⟨g, o, rfl, Nat.lt_of_lt_of_le hg hb.size, fun j z hj => ⟨cell_below (hc j z hj).1 hg hb, cell_below (hc j z hj).2 hg hb⟩⟩
theorem Prs.drewN {w : World} {A : Option Addr} {n : Nat} {zs : List (ByteArray × ByteArray)} (h : Prs w A n zs) (m : Nat) : Prs (w.drewN m) A n zs := h

/-- How many bytes all strings have. -/
def tot (zs : List (ByteArray × ByteArray)) : Nat := (zs.map fun z => z.1.size + z.2.size).sum
theorem tot_snoc {zs : List (ByteArray × ByteArray)} {k : Nat} {z : ByteArray × ByteArray} (h : zs[k]? = some z) : tot (zs.take (k + 1)) = tot (zs.take k) + (z.1.size + z.2.size) := by
  rw [List.take_add_one, h]
  simp [tot]
theorem tot_take_le (zs : List (ByteArray × ByteArray)) (k : Nat) : tot (zs.take k) ≤ tot zs := by
  have h : tot zs = tot (zs.take k) + tot (zs.drop k) := by
    have := congrArg (fun l => (List.map (fun z : ByteArray × ByteArray => z.1.size + z.2.size) l).sum) (List.take_append_drop k zs)
    simp only [List.map_append, List.sum_append] at this
    exact this.symm
  omega
theorem tot_mem {zs : List (ByteArray × ByteArray)} {z : ByteArray × ByteArray} (h : z ∈ zs) : z.1.size + z.2.size ≤ tot zs := by
  induction zs with
  | nil => cases h
  | cons y ys ih =>
    rcases List.mem_cons.1 h with rfl | h
    · simp [tot]
    · have := ih h
      simp [tot] at this ⊢
      omega

theorem made2_get (n l : Nat) (h : l < n * 2) : (madeCells #[.string ⟨#[]⟩, .string ⟨#[]⟩] (n * 2))[l]? = some (Value.string ⟨#[]⟩) := by
  have h2 : l % 2 = 0 ∨ l % 2 = 1 := by omega
  rcases h2 with h2 | h2 <;> simp [madeCells, h, h2]

theorem cell_blk {w : World} {g j : Nat} {cur : Array Value} {T : TypeId} {v : Value} (h : w.heap[g]? = some (.cells cur T (0, 0))) (hv : cur[j]? = some v) : w.cell? ⟨g, j, none⟩ = some v := by
  unfold World.cell?
  rw [show w.heap[(⟨g, j, none⟩ : Addr).block]? = _ from h]
  exact hv
theorem frz_blk {w : World} {g : Nat} {cur : Array Value} {T : TypeId} (h : w.heap[g]? = some (.cells cur T (0, 0))) (j : Nat) : w.frozen? ⟨g, j, none⟩ = false := by
  unfold World.frozen?
  rw [show w.heap[(⟨g, j, none⟩ : Addr).block]? = _ from h]
  simp

/-- The string of a value that is one. -/
def sv (v : Value) : ByteArray := match v with | .string s => s | _ => ⟨#[]⟩

/-- An argument of pairs of strings, opened. -/
theorem prs_of {w : World} {a : Addr} {len m : Nat} {V0 V1 : Nat → Value} (hl : len ≤ m) (h : ∀ i, i < m → w.cell? (a.add (i * 2)) = some (V0 i) ∧ w.cell? (a.add (i * 2 + 1)) = some (V1 i))
    (hs : ∀ i, i < m → (∃ s, V0 i = .string s ∧ s.size ≤ maxLen) ∧ ∃ s, V1 i = .string s ∧ s.size ≤ maxLen) :
    ∃ zs, Prs w (some a) len zs ∧ ∀ z ∈ zs, z.1.size ≤ maxLen ∧ z.2.size ≤ maxLen := by
  refine ⟨(List.range len).map fun i => (sv (V0 i), sv (V1 i)), ⟨by simp, fun hn => ?_⟩, fun z hz => ?_⟩
  · have h0 := (h 0 (by omega)).1
    rw [(hs 0 (by omega)).1.choose_spec.1] at h0
    have e0 : a.add (0 * 2) = a := by simp [Addr.add]
    rw [e0] at h0
    obtain ⟨b, o, sp⟩ := a
    have hsp : sp = none := by
      unfold World.cell? at h0
      split at h0
      · cases sp with
        | none => rfl
        | some k => simp at h0
      · cases h0
    subst hsp
    have hb : b < w.heap.size := by
      unfold World.cell? at h0
      split at h0
      · rename_i c _ _ hh
        exact (Array.getElem?_eq_some_iff.1 hh).1
      · cases h0
    have ea : ∀ j, (⟨b, o, none⟩ : Addr).add j = ⟨b, o + j, none⟩ := fun j => by
      unfold Addr.add
      split
      · rename_i h
        subst h
        rfl
      · rfl
    refine ⟨b, o, rfl, hb, fun j z hj => ?_⟩
    have hjl : j < len := by
      have := (List.getElem?_eq_some_iff.1 hj).1
      simpa using this
    simp only [List.getElem?_map, List.getElem?_range hjl, Option.map_some, Option.some.injEq] at hj
    subst hj
    obtain ⟨h1, h2⟩ := h j (by omega)
    obtain ⟨⟨s1, e1, _⟩, s2, e2, _⟩ := hs j (by omega)
    rw [ea] at h1 h2
    rw [h1, show o + j * 2 + 1 = o + (j * 2 + 1) by omega, h2, e1, e2]
    exact ⟨rfl, rfl⟩
  · obtain ⟨i, hi, rfl⟩ := List.mem_map.1 hz
    have hi' := List.mem_range.1 hi
    obtain ⟨⟨s1, e1, h1⟩, s2, e2, h2⟩ := hs i (by omega)
    rw [e1, e2]
    exact ⟨h1, h2⟩

end Go.Proofs.YtjpdiahbnhemoaaGreatDoor

namespace Go.Proofs.YtjpdiahbnhemoaaGreatDoor
open Go.RowKit

/-- The cells of pairs of strings. -/
def cells2 (zs : List (ByteArray × ByteArray)) : List Value := zs.flatMap fun z => [.string z.1, .string z.2]
theorem cells2_len (zs : List (ByteArray × ByteArray)) : (cells2 zs).length = zs.length * 2 := by
  induction zs with
  | nil => rfl
  | cons z zs ih =>
    show ([Value.string z.1, .string z.2] ++ cells2 zs).length = _
    rw [List.length_append, ih]
    simp
    omega
theorem cells2_at : ∀ (zs : List (ByteArray × ByteArray)) (j : Nat) (z : ByteArray × ByteArray), zs[j]? = some z → (cells2 zs)[j * 2]? = some (.string z.1) ∧ (cells2 zs)[j * 2 + 1]? = some (.string z.2) := by
  intro zs
  induction zs with
  | nil => intro j z h; simp at h
  | cons y ys ih =>
    intro j z h
    show ([Value.string y.1, .string y.2] ++ cells2 ys)[j * 2]? = _ ∧ ([Value.string y.1, .string y.2] ++ cells2 ys)[j * 2 + 1]? = _
    cases j with
    | zero =>
      simp only [List.getElem?_cons_zero, Option.some.injEq] at h
      subst h
      exact ⟨rfl, rfl⟩
    | succ j =>
      simp only [List.getElem?_cons_succ] at h
      obtain ⟨h1, h2⟩ := ih j z h
      rw [show (j + 1) * 2 = j * 2 + 2 by omega, show j * 2 + 2 + 1 = j * 2 + 1 + 2 by omega]
      exact ⟨h1, h2⟩
theorem cells2_snoc (zs : List (ByteArray × ByteArray)) (x y : ByteArray) : cells2 (zs ++ [(x, y)]) = cells2 zs ++ [.string x, .string y] := by
  unfold cells2
  rw [List.flatMap_append]
  rfl

theorem own_pairs {w : World} {base n : Nat} {T : TypeId} {v : Value} {zs : List (ByteArray × ByteArray)} (h : w.ownsRow base T 2 v n (cells2 zs)) : ∃ B c, v = .slice B n c ∧ n ≤ c ∧ Prs w B n zs := by
  have hl : zs.length = n := by
    have h1 := h.1
    rw [cells2_len] at h1
    omega
  rcases h.2 with ⟨rfl, rfl⟩ | ⟨g, cap, cur, rfl, hb, hg, hc, hm, hs, ht⟩
  · exact ⟨none, 0, rfl, Nat.le_refl _, hl, fun h => absurd h (Nat.lt_irrefl 0)⟩
  · refine ⟨some ⟨g, 0, none⟩, cap, rfl, hc, hl, fun _ => ⟨g, 0, rfl, (Array.getElem?_eq_some_iff.1 hg).1, fun j z hj => ?_⟩⟩
    obtain ⟨e1, e2⟩ := cells2_at zs j z hj
    have hadd : ∀ k, (⟨g, 0, none⟩ : Addr).add k = ⟨g, 0 + k, none⟩ := fun k => by unfold Addr.add; split <;> simp_all
    have q1 := h.cells (g := g) rfl (j * 2) _ e1
    have q2 := h.cells (g := g) rfl (j * 2 + 1) _ e2
    rw [hadd] at q1 q2
    exact ⟨q1, q2⟩

end Go.Proofs.YtjpdiahbnhemoaaGreatDoor
