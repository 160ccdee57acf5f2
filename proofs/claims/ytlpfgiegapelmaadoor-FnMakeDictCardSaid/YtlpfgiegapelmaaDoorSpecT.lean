/- The model's reader of types: its steps, its recursion; what it answers. The model's reader of types: a node without parts, a node with parts, and so its whole contract. The model's l1Read and TypeValid. -/
import Derived.Test.YtlpfgiegapelmaaDoorReadT
import Derived.Deep.RegionWith
import Derived.Deep.RegionHeld3
import Derived.RegionTactic
import Derived.ChangeAlike
import Derived.Deep.AppendLies
import Derived.StillTactics
import Derived.OwnWalk
import Derived.Deep.RegionLaw
namespace Go.Proofs.YtlpfgiegapelmaaDoor
open Go.RowKit

/-- (h, p) are the two fields of a node of the model that stands for the type t; its memory lies in blocks of S. -/
def RepN (w : World) (S : Nat → Prop) : Ty → Value → Value → Prop
  | .lf c, h, p => h = .int .u8 c.toNat ∧ ∃ A cap, p = .slice A 0 cap
  | .un c a, h, p => h = .int .u8 c.toNat ∧ ∃ g cap x y, p = .slice (some ⟨g, 0, none⟩) 1 cap ∧ S g ∧ w.cell? ⟨g, 0, none⟩ = some x ∧ w.cell? ⟨g, 1, none⟩ = some y ∧ RepN w S a x y
  | .bi c a b, h, p => h = .int .u8 c.toNat ∧ ∃ g cap x y x' y', p = .slice (some ⟨g, 0, none⟩) 2 cap ∧ S g ∧ w.cell? ⟨g, 0, none⟩ = some x ∧ w.cell? ⟨g, 1, none⟩ = some y ∧
      w.cell? ⟨g, 2, none⟩ = some x' ∧ w.cell? ⟨g, 3, none⟩ = some y' ∧ RepN w S a x y ∧ RepN w S b x' y'

theorem RepN.keep {w w' : World} {S S' : Nat → Prop} {t : Ty} : ∀ {h p : Value}, RepN w S t h p → (∀ g, S g → S' g ∧ w'.heap[g]? = w.heap[g]?) → RepN w' S' t h p := by
  induction t with
  | lf c => exact fun hr _ => hr
  | un c a ih =>
    rintro h p ⟨h0, g, cap, x, y, h1, h2, h4, h5, h6⟩ hk
    refine ⟨h0, g, cap, x, y, h1, (hk g h2).1, ?_, ?_, ih h6 hk⟩
    · rw [World.cell?_of_block (w := w) (hk g h2).2]; exact h4
    · rw [World.cell?_of_block (w := w) (hk g h2).2]; exact h5
  | bi c a b iha ihb =>
    rintro h p ⟨h0, g, cap, x, y, x', y', h1, h2, h4, h5, h6, h7, h8, h9⟩ hk
    refine ⟨h0, g, cap, x, y, x', y', h1, (hk g h2).1, ?_, ?_, ?_, ?_, iha h8 hk, ihb h9 hk⟩
    · rw [World.cell?_of_block (w := w) (hk g h2).2]; exact h4
    · rw [World.cell?_of_block (w := w) (hk g h2).2]; exact h5
    · rw [World.cell?_of_block (w := w) (hk g h2).2]; exact h6
    · rw [World.cell?_of_block (w := w) (hk g h2).2]; exact h7

/-- The cells xs hold, two by two, nodes that stand for the types ts. -/
def Kids (w : World) (S : Nat → Prop) : List Ty → List Value → Prop
  | [], xs => xs = []
  | t :: ts, xs => ∃ x y ys, xs = x :: y :: ys ∧ RepN w S t x y ∧ Kids w S ts ys
theorem Kids.keep {w w' : World} {S S' : Nat → Prop} {ts : List Ty} : ∀ {xs : List Value}, Kids w S ts xs → (∀ g, S g → S' g ∧ w'.heap[g]? = w.heap[g]?) → Kids w' S' ts xs := by
  induction ts with
  | nil => exact fun h _ => h
  | cons t ts ih =>
    rintro xs ⟨x, y, ys, rfl, h1, h2⟩ hk
    exact ⟨x, y, ys, rfl, h1.keep hk, ih h2 hk⟩
theorem Kids.snoc {w : World} {S : Nat → Prop} {t : Ty} {x y : Value} (ht : RepN w S t x y) {ts : List Ty} : ∀ {xs : List Value}, Kids w S ts xs → Kids w S (ts ++ [t]) (xs ++ [x, y]) := by
  induction ts with
  | nil => rintro xs rfl; exact ⟨x, y, [], rfl, ht, rfl⟩
  | cons t' ts ih =>
    rintro xs ⟨x', y', ys, rfl, h1, h2⟩
    exact ⟨x', y', ys ++ [x, y], rfl, h1, ih h2⟩

theorem But.setAt {B rb : Nat} {a w : World} (h : But B rb a w) {p : Addr} (hp : B ≤ p.block) (u : Value) : But B rb a (w.setCell p u) :=
  h.trans (But.of_below ((Below.refl _ _).setCell hp u))

end Go.Proofs.YtlpfgiegapelmaaDoor

namespace Go.Proofs.YtlpfgiegapelmaaDoor
open Go.RowKit

theorem parse_seq_none (n : Nat) (c : UInt8) (l : List UInt8) (a : Nat) (ha : a = 1 ∨ a = 2) (e : ar c = a) (h : seqP (parse n) a l = none) : parse (n + 1) (c :: l) = none := by
  rcases ha with rfl | rfl
  · have e' : ar c = 1 := e
    rcases parts1_seq (parse n) l with ⟨h1, _⟩ | ⟨t, r, h1, _⟩
    · simp [parse, e', h1]
    · rw [h1] at h; cases h
  · have e' : ar c = 2 := e
    rcases parts2_seq (parse n) l with ⟨h1, _⟩ | ⟨t, t', r, h1, _⟩
    · simp [parse, e', h1]
    · rw [h1] at h; cases h

theorem idx0 (w : World) : (Instr.index 9 (.string { data := #[40, 44] }) (.int .i64 0)).run Tryd.prog w = .ok (.int .u8 40) w := by kernel_rfl
theorem idx1 (w : World) : (Instr.index 9 (.string { data := #[40, 44] }) (.int .i64 1)).run Tryd.prog w = .ok (.int .u8 44) w := by kernel_rfl
theorem idx_sep (i : Nat) (h : i < 2) (w : World) : (Instr.index 9 (.string { data := #[40, 44] }) (.int .i64 i)).run Tryd.prog w = .ok (.int .u8 (sep i).toNat) w := by
  have : i = 0 ∨ i = 1 := by omega
  rcases this with rfl | rfl
  · exact idx0 w
  · exact idx1 w
theorem But.drew {B rb : Nat} {a w : World} (h : But B rb a w) : But B rb a w.drew := h.trans ⟨rfl, rfl, rfl, Nat.le_refl _, fun _ _ _ => rfl⟩
theorem But.undrew {B rb : Nat} {a w : World} (h : But B rb a.drew w) : But B rb a w := ⟨h.os, h.tape, h.output, h.size, h.block⟩

/-- A type with parts, by how many they are. -/
def mkTy (c : UInt8) : List Ty → Ty
  | [t] => .un c t
  | [t, t'] => .bi c t t'
  | _ => .lf c
theorem parse_seq_some (n : Nat) (c : UInt8) (l : List UInt8) (a : Nat) (ha : a = 1 ∨ a = 2) (e : ar c = a) {ts : List Ty} {r : List UInt8} (h : seqP (parse n) a l = some (ts, r)) :
    parse (n + 1) (c :: l) = (skipP 41 r).bind fun l3 => some (mkTy c ts, l3) := by
  rcases ha with rfl | rfl
  · have e' : ar c = 1 := e
    rcases parts1_seq (parse n) l with ⟨_, h1⟩ | ⟨t, r', h1, h2⟩
    · rw [h1] at h; cases h
    · rw [h1] at h
      simp only [Option.some.injEq, Prod.mk.injEq] at h
      obtain ⟨rfl, rfl⟩ := h
      cases h3 : skipP 41 r' <;> simp [parse, e', h2, h3, mkTy]
  · have e' : ar c = 2 := e
    rcases parts2_seq (parse n) l with ⟨_, h1⟩ | ⟨t, t', r', h1, h2⟩
    · rw [h1] at h; cases h
    · rw [h1] at h
      simp only [Option.some.injEq, Prod.mk.injEq] at h
      obtain ⟨rfl, rfl⟩ := h
      cases h3 : skipP 41 r' <;> simp [parse, e', h2, h3, mkTy]
theorem own_cells {w : World} {base : Nat} {e : TypeId} {size g m cap : Nat} {xs : List Value} (h : w.ownsRow base e size (.slice (some ⟨g, 0, none⟩) m cap) m xs) {j : Nat} {u : Value} (hj : xs[j]? = some u) : w.cell? ⟨g, j, none⟩ = some u := by
  have hc := h.cells (g := g) rfl j u hj
  have hadd : (⟨g, 0, none⟩ : Addr).add j = ⟨g, j, none⟩ := by unfold Addr.add; split <;> simp_all
  rwa [hadd] at hc
/-- The cells of a block of two. -/
theorem two_cells {w : World} {b : Nat} {h p : Value} {T : TypeId} (e : w.heap[b]? = some (.cells #[h, p] T (0, 0))) :
    w.cell? ⟨b, 0, none⟩ = some h ∧ w.cell? ⟨b, 1, none⟩ = some p ∧ ∀ k, w.frozen? ⟨b, k, none⟩ = false := by
  refine ⟨?_, ?_, fun k => ?_⟩
  · unfold World.cell?; rw [show w.heap[(⟨b, 0, none⟩ : Addr).block]? = _ from e]; rfl
  · unfold World.cell?; rw [show w.heap[(⟨b, 1, none⟩ : Addr).block]? = _ from e]; rfl
  · unfold World.frozen?; rw [show w.heap[(⟨b, k, none⟩ : Addr).block]? = _ from e]; simp
theorem own_slice {w : World} {base : Nat} {e : TypeId} {size : Nat} {v : Value} {n : Nat} {xs : List Value} (h : w.ownsRow base e size v n xs) (h' : v.ownBlock ≠ none) :
    ∃ g cap, v = .slice (some ⟨g, 0, none⟩) n cap ∧ base ≤ g ∧ g < w.heap.size := by
  rcases h.2 with ⟨rfl, _⟩ | ⟨g, cap, cur, rfl, hb, hg, _⟩
  · exact absurd rfl h'
  · exact ⟨g, cap, rfl, hb, (Array.getElem?_eq_some_iff.1 hg).1⟩

theorem own_kept {w w' : World} {base : Nat} {e : TypeId} {size : Nat} {g m cap : Nat} {xs : List Value} (h : w.ownsRow base e size (.slice (some ⟨g, 0, none⟩) m cap) m xs) (hk : w'.heap[g]? = w.heap[g]?) :
    w'.ownsRow base e size (.slice (some ⟨g, 0, none⟩) m cap) m xs := by
  refine ⟨h.1, ?_⟩
  rcases h.2 with ⟨h', _⟩ | ⟨g', cap', cur, h', hb, hg, r⟩
  · cases h'
  · have e1 : g = g' := by
      simp only [Value.slice.injEq, Option.some.injEq, Addr.mk.injEq] at h'
      exact h'.1.1
    subst e1
    exact .inr ⟨g, cap', cur, h', hb, hk.trans hg, r⟩

end Go.Proofs.YtlpfgiegapelmaaDoor

namespace Go.Proofs.YtlpfgiegapelmaaDoor
open Go.RowKit

/-- What the model's l1Read comes to. -/
def NodeTypeEnd (w : World) (o : Option Ty) (e : Ending) (w' : World) : Prop :=
  Below w.heap.size w w' ∧ ((o = none ∧ e = .returned (.tuple #[.agg #[.int .u8 0, .slice none 0 0], .bool false])) ∨
    ∃ (t : Ty) (c : UInt8) (A : Option Addr) (m cap : Nat), o = some t ∧ e = .returned (.tuple #[.agg #[.int .u8 c.toNat, .slice A m cap], .bool true]) ∧ RepN w' (fun g => w.heap.size ≤ g ∧ g < w'.heap.size) t (.int .u8 c.toNat) (.slice A m cap))

theorem tyOf_none {l : List UInt8} (h : parse l.length l = none) : tyOf l = none := by
  unfold tyOf
  split
  · rw [h]
  · rfl
theorem tyOf_long {l : List UInt8} (h : 60 < l.length) : tyOf l = none := by
  unfold tyOf
  rw [if_neg (by omega)]
theorem tyOf_rest {l : List UInt8} {t : Ty} {x : UInt8} {r : List UInt8} (h : parse l.length l = some (t, x :: r)) : tyOf l = none := by
  unfold tyOf
  split
  · rw [h]
  · rfl
theorem tyOf_some {l : List UInt8} {t : Ty} (h : parse l.length l = some (t, [])) (hl : l.length ≤ 60) : tyOf l = some t := by
  unfold tyOf
  rw [if_pos hl, h]

end Go.Proofs.YtlpfgiegapelmaaDoor
