/- The model's reader of types: its steps, its recursion; what it answers. The model's reader of types: a node without parts, a node with parts, and so its whole contract. The model's l1Read and TypeValid. -/
import Derived.Test.YtgbbobjkhpplkaaDoorReadT
import Derived.Deep.RegionWith
import Derived.Deep.RegionHeld3
import Derived.RegionTactic
import Derived.ChangeAlike
import Derived.Deep.AppendLies
import Derived.StillTactics
import Derived.OwnWalk
import Derived.Deep.RegionLaw
namespace Go.Proofs.YtgbbobjkhpplkaaDoor
open Go.RowKit

/-- The model's reader at block rb: its text, how far it is, whether it has failed. -/
def RdS (w : World) (rb : Nat) (s : ByteArray) (k : Nat) (bad : Bool) : Prop :=
  w.heap[rb]? = some (.cells #[.string s, .int .i64 k, .bool bad] 114 (0, 0))

theorem RdS.lt {w : World} {rb : Nat} {s : ByteArray} {k : Nat} {bad : Bool} (h : RdS w rb s k bad) : rb < w.heap.size := (Array.getElem?_eq_some_iff.1 h).1
theorem RdS.keep {w w' : World} {rb : Nat} {s : ByteArray} {k : Nat} {bad : Bool} (h : RdS w rb s k bad) (e : w'.heap[rb]? = w.heap[rb]?) : RdS w' rb s k bad := e.trans h
theorem RdS.c0 {w : World} {rb : Nat} {s : ByteArray} {k : Nat} {bad : Bool} (h : RdS w rb s k bad) : w.cell? ⟨rb, 0, none⟩ = some (.string s) := by
  unfold World.cell?; rw [show w.heap[(⟨rb, 0, none⟩ : Addr).block]? = _ from h]; rfl
theorem RdS.c1 {w : World} {rb : Nat} {s : ByteArray} {k : Nat} {bad : Bool} (h : RdS w rb s k bad) : w.cell? ⟨rb, 1, none⟩ = some (.int .i64 k) := by
  unfold World.cell?; rw [show w.heap[(⟨rb, 1, none⟩ : Addr).block]? = _ from h]; rfl
theorem RdS.c2 {w : World} {rb : Nat} {s : ByteArray} {k : Nat} {bad : Bool} (h : RdS w rb s k bad) : w.cell? ⟨rb, 2, none⟩ = some (.bool bad) := by
  unfold World.cell?; rw [show w.heap[(⟨rb, 2, none⟩ : Addr).block]? = _ from h]; rfl
theorem RdS.f {w : World} {rb : Nat} {s : ByteArray} {k : Nat} {bad : Bool} (h : RdS w rb s k bad) (o : Nat) : w.frozen? ⟨rb, o, none⟩ = false := by
  unfold World.frozen?; rw [show w.heap[(⟨rb, o, none⟩ : Addr).block]? = _ from h]; simp

set_option maxHeartbeats 400000 in
theorem nextS_no (rb : Nat) (s : ByteArray) (k : Nat) (w : World) (h0 : w.cell? ⟨rb, 0, none⟩ = some (.string s)) (h1 : w.cell? ⟨rb, 1, none⟩ = some (.int .i64 k)) (bad : Bool) (h2 : w.cell? ⟨rb, 2, none⟩ = some (.bool bad))
    (hf : w.frozen? ⟨rb, 2, none⟩ = false) (hk : s.size ≤ k) :
    Calls Tryd.prog 74 #[.pointer (some ⟨rb, 0, none⟩)] w fun e w' => e = .returned (.int .u8 0) ∧ ∃ n, w' = (w.setCell ⟨rb, 2, none⟩ (.bool true)).drewN n := by
  go_enter Tryd.func74, Tryd.ntmps74
  go_wp2_with fail
  go_quiet (fail)
  go_wp2_with fail
  go_ret
  exact ⟨rfl, nq, rfl⟩

set_option maxHeartbeats 400000 in
theorem nextS_some (rb : Nat) (s : ByteArray) (k : Nat) (w : World) (h0 : w.cell? ⟨rb, 0, none⟩ = some (.string s)) (h1 : w.cell? ⟨rb, 1, none⟩ = some (.int .i64 k)) (hf : w.frozen? ⟨rb, 1, none⟩ = false) (hk : k < s.size) (hs : s.size ≤ maxLen) :
    Calls Tryd.prog 74 #[.pointer (some ⟨rb, 0, none⟩)] w fun e w' => e = .returned (.int .u8 s[k].toNat) ∧ ∃ n m, w' = ((w.drewN n).setCell ⟨rb, 1, none⟩ (.int .i64 (k + 1))).drewN m := by
  unfold maxLen at hs
  go_enter Tryd.func74, Tryd.ntmps74
  go_wp2_with fail
  go_quiet (fail)
  go_wp2_with fail
  go_quiet (fail)
  go_wp2_with fail
  go_ret
  exact ⟨rfl, _, _, rfl⟩

/-- A step of the model's reader. -/
theorem nextS_any (rb : Nat) (s : ByteArray) (k : Nat) (bad : Bool) (w : World) (hr : RdS w rb s k bad) (hs : s.size ≤ maxLen) :
    Calls Tryd.prog 74 #[.pointer (some ⟨rb, 0, none⟩)] w fun e w' => But w.heap.size rb w w' ∧
      ((s.data.toList.drop k = [] ∧ e = .returned (.int .u8 0) ∧ RdS w' rb s k true) ∨
        ∃ c l, s.data.toList.drop k = c :: l ∧ s.data.toList.drop (k + 1) = l ∧ e = .returned (.int .u8 c.toNat) ∧ RdS w' rb s (k + 1) bad) := by
  have hz : s.size = s.data.toList.length := by simp
  by_cases hk : k < s.size
  · refine (nextS_some rb s k w hr.c0 hr.c1 (hr.f 1) hk hs).mono ?_
    rintro e w' ⟨rfl, n, m, rfl⟩
    refine ⟨(((But.refl _ _ _).drewN n).set _ _).drewN m, .inr ⟨s[k], s.data.toList.drop (k + 1), ?_, rfl, rfl, ?_⟩⟩
    · rw [List.drop_eq_getElem_cons (by omega)]
      rfl
    · have h := hr
      unfold RdS at h ⊢
      show (w.setCell _ _).heap[rb]? = _
      simp [World.setCell, Array.getElem?_modify, h]
  · refine (nextS_no rb s k w hr.c0 hr.c1 bad hr.c2 (hr.f 2) (by omega)).mono ?_
    rintro e w' ⟨rfl, n, rfl⟩
    refine ⟨((But.refl _ _ _).set _ _).drewN n, .inl ⟨List.drop_eq_nil_of_le (by omega), rfl, ?_⟩⟩
    have h := hr
    unfold RdS at h ⊢
    show (w.setCell _ _).heap[rb]? = _
    simp [World.setCell, Array.getElem?_modify, h]

/-- (h, p) are the two fields of a node of the model that stands for the type t; its memory lies in blocks of S. -/
def RepN (w : World) (S : Nat → Prop) : Ty → Value → Value → Prop
  | .lf c, h, p => h = .int .u8 c.toNat ∧ ∃ A cap, p = .slice A 0 cap
  | .un c a, h, p => h = .int .u8 c.toNat ∧ ∃ g cap x y, p = .slice (some ⟨g, 0, none⟩) 1 cap ∧ S g ∧ w.cell? ⟨g, 0, none⟩ = some x ∧ w.cell? ⟨g, 1, none⟩ = some y ∧ RepN w S a x y
  | .bi c a b, h, p => h = .int .u8 c.toNat ∧ ∃ g cap x y x' y', p = .slice (some ⟨g, 0, none⟩) 2 cap ∧ S g ∧ w.cell? ⟨g, 0, none⟩ = some x ∧ w.cell? ⟨g, 1, none⟩ = some y ∧
      w.cell? ⟨g, 2, none⟩ = some x' ∧ w.cell? ⟨g, 3, none⟩ = some y' ∧ RepN w S a x y ∧ RepN w S b x' y'

theorem RepN.keep {w w' : World} {S S' : Nat → Prop} {t : Ty} : ∀ {h p : Value}, RepN w S t h p → (∀ g, S g → S' g ∧ w'.heap[g]? = w.heap[g]?) → RepN w' S' t h p := by
  induction t with
  | lf c => exact fun hr _ => hr
  | un c a ih =>
    rintro h p ⟨h0, g, cap, x, y, h1, h2, h4, h5, h6⟩ hk
    refine ⟨h0, g, cap, x, y, h1, (hk g h2).1, ?_, ?_, ih h6 hk⟩
    · rw [World.cell?_of_block (w := w) (hk g h2).2]; exact h4
    · rw [World.cell?_of_block (w := w) (hk g h2).2]; exact h5
  | bi c a b iha ihb =>
    rintro h p ⟨h0, g, cap, x, y, x', y', h1, h2, h4, h5, h6, h7, h8, h9⟩ hk
    refine ⟨h0, g, cap, x, y, x', y', h1, (hk g h2).1, ?_, ?_, ?_, ?_, iha h8 hk, ihb h9 hk⟩
    · rw [World.cell?_of_block (w := w) (hk g h2).2]; exact h4
    · rw [World.cell?_of_block (w := w) (hk g h2).2]; exact h5
    · rw [World.cell?_of_block (w := w) (hk g h2).2]; exact h6
    · rw [World.cell?_of_block (w := w) (hk g h2).2]; exact h7

/-- The cells xs hold, two by two, nodes that stand for the types ts. -/
def Kids (w : World) (S : Nat → Prop) : List Ty → List Value → Prop
  | [], xs => xs = []
  | t :: ts, xs => ∃ x y ys, xs = x :: y :: ys ∧ RepN w S t x y ∧ Kids w S ts ys
theorem Kids.keep {w w' : World} {S S' : Nat → Prop} {ts : List Ty} : ∀ {xs : List Value}, Kids w S ts xs → (∀ g, S g → S' g ∧ w'.heap[g]? = w.heap[g]?) → Kids w' S' ts xs := by
  induction ts with
  | nil => exact fun h _ => h
  | cons t ts ih =>
    rintro xs ⟨x, y, ys, rfl, h1, h2⟩ hk
    exact ⟨x, y, ys, rfl, h1.keep hk, ih h2 hk⟩
theorem Kids.snoc {w : World} {S : Nat → Prop} {t : Ty} {x y : Value} (ht : RepN w S t x y) {ts : List Ty} : ∀ {xs : List Value}, Kids w S ts xs → Kids w S (ts ++ [t]) (xs ++ [x, y]) := by
  induction ts with
  | nil => rintro xs rfl; exact ⟨x, y, [], rfl, ht, rfl⟩
  | cons t' ts ih =>
    rintro xs ⟨x', y', ys, rfl, h1, h2⟩
    exact ⟨x', y', ys ++ [x, y], rfl, h1, ih h2⟩

/-- What a call of the model's node comes to. -/
def NodeEnd (rb : Nat) (s : ByteArray) (w : World) (o : Option (Ty × List UInt8)) (e : Ending) (w' : World) : Prop :=
  But w.heap.size rb w w' ∧ ∃ (c : UInt8) (A : Option Addr) (m cap k : Nat), e = .returned (.agg #[.int .u8 c.toNat, .slice A m cap]) ∧ k ≤ s.size ∧
    ((o = none ∧ RdS w' rb s k true) ∨ ∃ t r, o = some (t, r) ∧ s.data.toList.drop k = r ∧ RdS w' rb s k false ∧ RepN w' (fun g => w.heap.size ≤ g ∧ g < w'.heap.size) t (.int .u8 c.toNat) (.slice A m cap))

/-- The contract of (*l1Reader).node at rests of at most n bytes. -/
def NodesAt (s : ByteArray) (n : Nat) : Prop := ∀ (rb k : Nat) (w : World), k ≤ s.size → s.size ≤ k + n → RdS w rb s k false →
  Calls Tryd.prog 64 #[.pointer (some ⟨rb, 0, none⟩)] w (NodeEnd rb s w (parse n (s.data.toList.drop k)))

theorem l1Arity_at (c : UInt8) (a : Int) (h : Hid (ar c = a)) (w : World) :
    Calls Tryd.prog 75 #[.int .u8 c.toNat] w fun e w' => e = .returned (.int .i64 a) ∧ w' = w := by
  rw [← h.out]
  exact l1Arity_any c w

theorem nodeInfoS : (Tryd.prog.info? 91).map (fun i => (i.zero, i.size, i.bytes)) = some (some (.agg #[.int .u8 0, .slice none 0 0]), 2, 32) := by kernel_rfl

theorem RdS.setBad {w : World} {rb : Nat} {s : ByteArray} {k : Nat} {b : Bool} (h : RdS w rb s k b) (b' : Bool) : RdS (w.setCell ⟨rb, 2, none⟩ (.bool b')) rb s k b' := by
  unfold RdS at h ⊢
  simp [World.setCell, Array.getElem?_modify, h]
theorem RdS.setAt {w : World} {rb : Nat} {s : ByteArray} {k : Nat} {b : Bool} (h : RdS w rb s k b) {p : Addr} (hp : rb ≠ p.block) (u : Value) : RdS (w.setCell p u) rb s k b :=
  h.keep (Below.heap_setCell _ _ _ _ hp)
theorem RdS.alloc {w : World} {rb : Nat} {s : ByteArray} {k : Nat} {b : Bool} (h : RdS w rb s k b) (o : Obj) : RdS (w.alloc o) rb s k b := h.keep (Below.heap_alloc _ _ _ h.lt)
theorem But.setAt {B rb : Nat} {a w : World} (h : But B rb a w) {p : Addr} (hp : B ≤ p.block) (u : Value) : But B rb a (w.setCell p u) :=
  h.trans (But.of_below ((Below.refl _ _).setCell hp u))

theorem cells_res {w w1 : World} {h p : Value} (z : w.heap.size < w1.heap.size) (e : w1.heap[w.heap.size]? = some (.cells #[h, p] 91 (0, 0))) :
    (∀ o o', ((w1.alloc o).alloc o').cell? ⟨w.heap.size, 0, none⟩ = some h) ∧ (∀ o o', ((w1.alloc o).alloc o').cell? ⟨w.heap.size, 1, none⟩ = some p) ∧ (∀ o o' k, ((w1.alloc o).alloc o').frozen? ⟨w.heap.size, k, none⟩ = false) := by
  have e' : ∀ o o', ((w1.alloc o).alloc o').heap[w.heap.size]? = some (.cells #[h, p] 91 (0, 0)) := fun o o' => by
    rw [Below.heap_alloc _ _ _ (by simp only [World.size_alloc]; omega), Below.heap_alloc _ _ _ z]
    exact e
  refine ⟨fun o o' => ?_, fun o o' => ?_, fun o o' k => ?_⟩
  · unfold World.cell?; rw [show ((w1.alloc o).alloc o').heap[(⟨w.heap.size, 0, none⟩ : Addr).block]? = _ from e' o o']; rfl
  · unfold World.cell?; rw [show ((w1.alloc o).alloc o').heap[(⟨w.heap.size, 1, none⟩ : Addr).block]? = _ from e' o o']; rfl
  · unfold World.frozen?; rw [show ((w1.alloc o).alloc o').heap[(⟨w.heap.size, k, none⟩ : Addr).block]? = _ from e' o o']; simp

set_option maxHeartbeats 400000 in
set_option maxRecDepth 100000 in
theorem nodeS_leaf (s : ByteArray) (hs : s.size ≤ maxLen) (n : Nat) (rb k : Nat) (w : World) (hk : k < s.size) (hr : RdS w rb s k false) (c : UInt8) (l : List UInt8) (hl : s.data.toList.drop k = c :: l) (a : Int) (ea : Hid (ar c = a)) (ha : a = 0 ∨ a = -1) :
    Calls Tryd.prog 64 #[.pointer (some ⟨rb, 0, none⟩)] w (NodeEnd rb s w (parse (n + 1) (s.data.toList.drop k))) := by
  have HL := hid hl
  clear hl
  go_enter Tryd.func64, Tryd.ntmps64
  go_wp2_with fail
  refine (nextS_any rb s k false _ (hr.keep (Below.heap_alloc _ _ _ hr.lt)) hs).mono ?_
  rintro e w1 ⟨hb1, ⟨hl1, rfl, hr1⟩ | ⟨c', l', hl1, hl2, rfl, hr1⟩⟩
  · rw [HL.out] at hl1; cases hl1
  · obtain ⟨rfl, rfl⟩ : c' = c ∧ l' = l := by
      rw [HL.out] at hl1
      injection hl1 with e1 e2
      exact ⟨e1.symm, e2.symm⟩
    clear hl1
    have z1 := hb1.size
    simp only [World.size_alloc] at z1
    have zr := hr.lt
    have q2 : ∀ o o', ((w1.alloc o).alloc o').cell? ⟨rb, 2, none⟩ = some (.bool false) := fun o o' => by
      rw [World.cell?_alloc_lt _ _ _ (by simp only [World.size_alloc]; omega), World.cell?_alloc_lt _ _ _ (by show rb < _; omega)]
      exact hr1.c2
    have f2 : ∀ o o', ((w1.alloc o).alloc o').frozen? ⟨rb, 2, none⟩ = false := fun o o' => by
      rw [World.frozen?_alloc_old _ _ _ (by simp only [World.size_alloc]; omega), World.frozen?_alloc_old _ _ _ (by show rb ≠ _; omega)]
      exact hr1.f 2
    have hbel : But w.heap.size rb w w1 := (But.alloc (But.refl _ _ _) (Nat.le_refl _) _).trans (hb1.mono (by simp only [World.size_alloc]; omega))
    obtain ⟨g0, g1, gf⟩ := cells_res (by omega) ((hb1.block w.heap.size (by simp only [World.size_alloc]; omega) (by omega)).trans (heap_new1 _ _))
    have HL2 := hid hl2
    clear hl2
    have dr : rb ≠ w.heap.size := by omega
    rcases ha with rfl | rfl
    all_goals
      go_wp2_with (go_at_call 75; refine (l1Arity_at _ _ ea _).mono ?_; rintro e w' ⟨rfl, rfl⟩)
      refine wp_loop_rounds 1 ?_
      rw [rounds_succ]
      go_wp2_with fail
      refine bodyPost_ret (v := .agg #[.int .u8 c'.toNat, .slice (some ⟨w1.heap.size, 0, none⟩) 0 0]) (by simp [results, Tryd.results64, go_sem, g0, g1]) rfl
        ⟨((((hbel.alloc (by omega) _).alloc (by simp only [World.size_alloc]; omega) _).set _ _).setAt (Nat.le_refl _) _).setAt (Nat.le_refl _) _, c', _, 0, 0, k + 1, rfl, hk, ?_⟩
    · refine .inr ⟨.lf c', l', by rw [HL.out]; simp [parse, ea.out], HL2.out, ((((hr1.alloc _).alloc _).setBad false).setAt dr _).setAt dr _, rfl, _, _, rfl⟩
    · refine .inl ⟨by rw [HL.out]; simp [parse, ea.out], ((((hr1.alloc _).alloc _).setBad true).setAt dr _).setAt dr _⟩

end Go.Proofs.YtgbbobjkhpplkaaDoor

namespace Go.Proofs.YtgbbobjkhpplkaaDoor
open Go.RowKit

theorem l1Arity_zero (w : World) : Calls Tryd.prog 75 #[.int .u8 0] w fun e w' => e = .returned (.int .i64 (-1)) ∧ w' = w :=
  l1Arity_at 0 (-1) (by show ar 0 = -1; decide +kernel) w

set_option maxHeartbeats 400000 in
set_option maxRecDepth 100000 in
theorem nodeS_nil (s : ByteArray) (hs : s.size ≤ maxLen) (n : Nat) (rb k : Nat) (w : World) (hk : k ≤ s.size) (hr : RdS w rb s k false) (hl : s.data.toList.drop k = []) :
    Calls Tryd.prog 64 #[.pointer (some ⟨rb, 0, none⟩)] w (NodeEnd rb s w (parse n (s.data.toList.drop k))) := by
  have HL := hid hl
  clear hl
  go_enter Tryd.func64, Tryd.ntmps64
  go_wp2_with fail
  refine (nextS_any rb s k false _ (hr.keep (Below.heap_alloc _ _ _ hr.lt)) hs).mono ?_
  rintro e w1 ⟨hb1, ⟨hl1, rfl, hr1⟩ | ⟨c', l', hl1, hl2, rfl, hr1⟩⟩
  · clear hl1
    have z1 := hb1.size
    simp only [World.size_alloc] at z1
    have zr := hr.lt
    have q2 : ∀ o o', ((w1.alloc o).alloc o').cell? ⟨rb, 2, none⟩ = some (.bool true) := fun o o' => by
      rw [World.cell?_alloc_lt _ _ _ (by simp only [World.size_alloc]; omega), World.cell?_alloc_lt _ _ _ (by show rb < _; omega)]
      exact hr1.c2
    have f2 : ∀ o o', ((w1.alloc o).alloc o').frozen? ⟨rb, 2, none⟩ = false := fun o o' => by
      rw [World.frozen?_alloc_old _ _ _ (by simp only [World.size_alloc]; omega), World.frozen?_alloc_old _ _ _ (by show rb ≠ _; omega)]
      exact hr1.f 2
    have hbel : But w.heap.size rb w w1 := (But.alloc (But.refl _ _ _) (Nat.le_refl _) _).trans (hb1.mono (by simp only [World.size_alloc]; omega))
    obtain ⟨g0, g1, gf⟩ := cells_res (by omega) ((hb1.block w.heap.size (by simp only [World.size_alloc]; omega) (by omega)).trans (heap_new1 _ _))
    have dr : rb ≠ w.heap.size := by omega
    go_wp2_with (go_at_call 75; refine (l1Arity_zero _).mono ?_; rintro e w' ⟨rfl, rfl⟩)
    refine wp_loop_rounds 1 ?_
    rw [rounds_succ]
    go_wp2_with fail
    refine bodyPost_ret (v := .agg #[.int .u8 0, .slice (some ⟨w1.heap.size, 0, none⟩) 0 0]) (by simp [results, Tryd.results64, go_sem, g0, g1]) rfl
        ⟨((((hbel.alloc (by omega) _).alloc (by simp only [World.size_alloc]; omega) _).set _ _).setAt (Nat.le_refl _) _).setAt (Nat.le_refl _) _, 0, _, 0, 0, k, rfl, hk, .inl ⟨?_, ((((hr1.alloc _).alloc _).setBad true).setAt dr _).setAt dr _⟩⟩
    rw [HL.out]
    cases n <;> rfl
  · rw [HL.out] at hl1; cases hl1

/-- What stands at the head of each round of the model's loop over a type's parts. -/
def Round (s : ByteArray) (rb n a k0 nb : Nat) (c : UInt8) (l : List UInt8) (w : World) (i : Nat) (wr : World) : Prop :=
  ∃ k bad pv m xs ts, RdS wr rb s k bad ∧ (bad = false → k0 ≤ k) ∧ k ≤ s.size ∧ wr.heap[nb]? = some (.cells #[.int .u8 c.toNat, pv] 91 (0, 0)) ∧
    wr.ownsRow (w.heap.size + 1) 91 2 pv m xs ∧ pv.ownBlock ≠ some nb ∧ pv.ownBlock ≠ none ∧ m ≤ i ∧ But w.heap.size rb w wr ∧
    wr.heap[w.heap.size]? = some (.cells #[.int .u8 0, .slice none 0 0] 91 (0, 0)) ∧
    ((bad = true ∧ seqP (parse n) a l = none) ∨
      (bad = false ∧ m = i ∧ seqP (parse n) i l = some (ts, s.data.toList.drop k) ∧ Kids wr (fun g => w.heap.size < g ∧ g < wr.heap.size ∧ some g ≠ pv.ownBlock ∧ g ≠ nb) ts xs))

theorem parse_seq_none (n : Nat) (c : UInt8) (l : List UInt8) (a : Nat) (ha : a = 1 ∨ a = 2) (e : ar c = a) (h : seqP (parse n) a l = none) : parse (n + 1) (c :: l) = none := by
  rcases ha with rfl | rfl
  · have e' : ar c = 1 := e
    rcases parts1_seq (parse n) l with ⟨h1, _⟩ | ⟨t, r, h1, _⟩
    · simp [parse, e', h1]
    · rw [h1] at h; cases h
  · have e' : ar c = 2 := e
    rcases parts2_seq (parse n) l with ⟨h1, _⟩ | ⟨t, t', r, h1, _⟩
    · simp [parse, e', h1]
    · rw [h1] at h; cases h

theorem nextS_end (rb : Nat) (s : ByteArray) (k : Nat) (bad : Bool) (w : World) (hr : RdS w rb s k bad) (hs : s.size ≤ maxLen) (h : Hid (s.data.toList.drop k = [])) :
    Calls Tryd.prog 74 #[.pointer (some ⟨rb, 0, none⟩)] w fun e w' => e = .returned (.int .u8 0) ∧ But w.heap.size rb w w' ∧ RdS w' rb s k true := by
  refine (nextS_any rb s k bad w hr hs).mono ?_
  rintro e w' ⟨hb, ⟨_, rfl, hr'⟩ | ⟨c, l, h', _⟩⟩
  · exact ⟨rfl, hb, hr'⟩
  · rw [h.out] at h'; cases h'
theorem nextS_at (rb : Nat) (s : ByteArray) (k : Nat) (bad : Bool) (w : World) (hr : RdS w rb s k bad) (hs : s.size ≤ maxLen) (c : UInt8) (l : List UInt8) (h : Hid (s.data.toList.drop k = c :: l)) :
    Calls Tryd.prog 74 #[.pointer (some ⟨rb, 0, none⟩)] w fun e w' => e = .returned (.int .u8 c.toNat) ∧ But w.heap.size rb w w' ∧ RdS w' rb s (k + 1) bad := by
  refine (nextS_any rb s k bad w hr hs).mono ?_
  rintro e w' ⟨hb, ⟨h', _⟩ | ⟨c', l', h', _, rfl, hr'⟩⟩
  · rw [h.out] at h'; cases h'
  · rw [h.out] at h'
    injection h' with e1 e2
    subst e1
    exact ⟨rfl, hb, hr'⟩

theorem idx0 (w : World) : (Instr.index 9 (.string { data := #[40, 44] }) (.int .i64 0)).run Tryd.prog w = .ok (.int .u8 40) w := by kernel_rfl
theorem idx1 (w : World) : (Instr.index 9 (.string { data := #[40, 44] }) (.int .i64 1)).run Tryd.prog w = .ok (.int .u8 44) w := by kernel_rfl
theorem idx_sep (i : Nat) (h : i < 2) (w : World) : (Instr.index 9 (.string { data := #[40, 44] }) (.int .i64 i)).run Tryd.prog w = .ok (.int .u8 (sep i).toNat) w := by
  have : i = 0 ∨ i = 1 := by omega
  rcases this with rfl | rfl
  · exact idx0 w
  · exact idx1 w
theorem RdS.drew {w : World} {rb : Nat} {s : ByteArray} {k : Nat} {bad : Bool} (h : RdS w rb s k bad) : RdS w.drew rb s k bad := h
theorem But.drew {B rb : Nat} {a w : World} (h : But B rb a w) : But B rb a w.drew := h.trans ⟨rfl, rfl, rfl, Nat.le_refl _, fun _ _ _ => rfl⟩
theorem But.undrew {B rb : Nat} {a w : World} (h : But B rb a.drew w) : But B rb a w := ⟨h.os, h.tape, h.output, h.size, h.block⟩

theorem NodeEnd.at_none {rb : Nat} {s : ByteArray} {w : World} {e : Ending} {w' : World} (h : NodeEnd rb s w none e w') :
    But w.heap.size rb w w' ∧ ∃ (c : UInt8) (A : Option Addr) (m cap k : Nat), e = .returned (.agg #[.int .u8 c.toNat, .slice A m cap]) ∧ k ≤ s.size ∧ RdS w' rb s k true := by
  obtain ⟨hb, c, A, m, cap, k, he, hk, ⟨_, hr⟩ | ⟨_, _, hq, _⟩⟩ := h
  · exact ⟨hb, c, A, m, cap, k, he, hk, hr⟩
  · cases hq
theorem NodeEnd.at_some {rb : Nat} {s : ByteArray} {w : World} {t : Ty} {r : List UInt8} {e : Ending} {w' : World} (h : NodeEnd rb s w (some (t, r)) e w') :
    But w.heap.size rb w w' ∧ ∃ (c : UInt8) (A : Option Addr) (m cap k : Nat), e = .returned (.agg #[.int .u8 c.toNat, .slice A m cap]) ∧ k ≤ s.size ∧ s.data.toList.drop k = r ∧ RdS w' rb s k false ∧
      RepN w' (fun g => w.heap.size ≤ g ∧ g < w'.heap.size) t (.int .u8 c.toNat) (.slice A m cap) := by
  obtain ⟨hb, c, A, m, cap, k, he, hk, ⟨hq, _⟩ | ⟨t', r', hq, h1, h2, h3⟩⟩ := h
  · cases hq
  · simp only [Option.some.injEq, Prod.mk.injEq] at hq
    obtain ⟨rfl, rfl⟩ := hq
    exact ⟨hb, c, A, m, cap, k, he, hk, h1, h2, h3⟩

/-- A type with parts, by how many they are. -/
def mkTy (c : UInt8) : List Ty → Ty
  | [t] => .un c t
  | [t, t'] => .bi c t t'
  | _ => .lf c
theorem parse_seq_some (n : Nat) (c : UInt8) (l : List UInt8) (a : Nat) (ha : a = 1 ∨ a = 2) (e : ar c = a) {ts : List Ty} {r : List UInt8} (h : seqP (parse n) a l = some (ts, r)) :
    parse (n + 1) (c :: l) = (skipP 41 r).bind fun l3 => some (mkTy c ts, l3) := by
  rcases ha with rfl | rfl
  · have e' : ar c = 1 := e
    rcases parts1_seq (parse n) l with ⟨_, h1⟩ | ⟨t, r', h1, h2⟩
    · rw [h1] at h; cases h
    · rw [h1] at h
      simp only [Option.some.injEq, Prod.mk.injEq] at h
      obtain ⟨rfl, rfl⟩ := h
      cases h3 : skipP 41 r' <;> simp [parse, e', h2, h3, mkTy]
  · have e' : ar c = 2 := e
    rcases parts2_seq (parse n) l with ⟨_, h1⟩ | ⟨t, t', r', h1, h2⟩
    · rw [h1] at h; cases h
    · rw [h1] at h
      simp only [Option.some.injEq, Prod.mk.injEq] at h
      obtain ⟨rfl, rfl⟩ := h
      cases h3 : skipP 41 r' <;> simp [parse, e', h2, h3, mkTy]
theorem own_cells {w : World} {base : Nat} {e : TypeId} {size g m cap : Nat} {xs : List Value} (h : w.ownsRow base e size (.slice (some ⟨g, 0, none⟩) m cap) m xs) {j : Nat} {u : Value} (hj : xs[j]? = some u) : w.cell? ⟨g, j, none⟩ = some u := by
  have hc := h.cells (g := g) rfl j u hj
  have hadd : (⟨g, 0, none⟩ : Addr).add j = ⟨g, j, none⟩ := by unfold Addr.add; split <;> simp_all
  rwa [hadd] at hc
theorem rep_mk {w : World} {S : Nat → Prop} {c : UInt8} {ts : List Ty} {xs : List Value} {base g m cap : Nat} (hm : m = 1 ∨ m = 2) (hk : Kids w S ts xs) (ht : ts.length = m)
    (ho : w.ownsRow base 91 2 (.slice (some ⟨g, 0, none⟩) m cap) m xs) (hg : S g) : RepN w S (mkTy c ts) (.int .u8 c.toNat) (.slice (some ⟨g, 0, none⟩) m cap) := by
  rcases hm with rfl | rfl
  · match ts, ht with
    | [t], _ =>
      obtain ⟨x, y, ys, rfl, h1, h2⟩ := hk
      have h2' : ys = [] := h2
      subst h2'
      exact ⟨rfl, g, cap, x, y, rfl, hg, own_cells ho rfl, own_cells ho rfl, h1⟩
  · match ts, ht with
    | [t, t'], _ =>
      obtain ⟨x, y, ys, rfl, h1, x', y', ys', rfl, h2, h3⟩ := hk
      have h3' : ys' = [] := h3
      subst h3'
      exact ⟨rfl, g, cap, x, y, x', y', rfl, hg, own_cells ho rfl, own_cells ho rfl, own_cells ho rfl, own_cells ho rfl, h1, h2⟩

/-- The cells of a block of two. -/
theorem two_cells {w : World} {b : Nat} {h p : Value} {T : TypeId} (e : w.heap[b]? = some (.cells #[h, p] T (0, 0))) :
    w.cell? ⟨b, 0, none⟩ = some h ∧ w.cell? ⟨b, 1, none⟩ = some p ∧ ∀ k, w.frozen? ⟨b, k, none⟩ = false := by
  refine ⟨?_, ?_, fun k => ?_⟩
  · unfold World.cell?; rw [show w.heap[(⟨b, 0, none⟩ : Addr).block]? = _ from e]; rfl
  · unfold World.cell?; rw [show w.heap[(⟨b, 1, none⟩ : Addr).block]? = _ from e]; rfl
  · unfold World.frozen?; rw [show w.heap[(⟨b, k, none⟩ : Addr).block]? = _ from e]; simp
theorem own_slice {w : World} {base : Nat} {e : TypeId} {size : Nat} {v : Value} {n : Nat} {xs : List Value} (h : w.ownsRow base e size v n xs) (h' : v.ownBlock ≠ none) :
    ∃ g cap, v = .slice (some ⟨g, 0, none⟩) n cap ∧ base ≤ g ∧ g < w.heap.size := by
  rcases h.2 with ⟨rfl, _⟩ | ⟨g, cap, cur, rfl, hb, hg, _⟩
  · exact absurd rfl h'
  · exact ⟨g, cap, rfl, hb, (Array.getElem?_eq_some_iff.1 hg).1⟩

theorem own_kept {w w' : World} {base : Nat} {e : TypeId} {size : Nat} {g m cap : Nat} {xs : List Value} (h : w.ownsRow base e size (.slice (some ⟨g, 0, none⟩) m cap) m xs) (hk : w'.heap[g]? = w.heap[g]?) :
    w'.ownsRow base e size (.slice (some ⟨g, 0, none⟩) m cap) m xs := by
  refine ⟨h.1, ?_⟩
  rcases h.2 with ⟨h', _⟩ | ⟨g', cap', cur, h', hb, hg, r⟩
  · cases h'
  · have e1 : g = g' := by
      simp only [Value.slice.injEq, Option.some.injEq, Addr.mk.injEq] at h'
      exact h'.1.1
    subst e1
    exact .inr ⟨g, cap', cur, h', hb, hk.trans hg, r⟩

set_option maxHeartbeats 1600000 in
set_option maxRecDepth 100000 in
theorem nodeS_parts (s : ByteArray) (hs : s.size ≤ maxLen) (n : Nat) (ih : NodesAt s n) (rb k : Nat) (w : World) (hk : k < s.size) (hn : s.size ≤ k + (n + 1)) (hr : RdS w rb s k false) (c : UInt8) (l : List UInt8) (hl : s.data.toList.drop k = c :: l)
    (a : Nat) (ea : Hid (ar c = a)) (ha : a = 1 ∨ a = 2) :
    Calls Tryd.prog 64 #[.pointer (some ⟨rb, 0, none⟩)] w (NodeEnd rb s w (parse (n + 1) (s.data.toList.drop k))) := by
  have HL := hid hl
  clear hl
  go_enter Tryd.func64, Tryd.ntmps64
  go_wp2_with fail
  refine (nextS_any rb s k false _ (hr.keep (Below.heap_alloc _ _ _ hr.lt)) hs).mono ?_
  rintro e w1 ⟨hb1, ⟨hl1, rfl, hr1⟩ | ⟨c', l', hl1, hl2, rfl, hr1⟩⟩
  · rw [HL.out] at hl1; cases hl1
  · obtain ⟨rfl, rfl⟩ : c' = c ∧ l' = l := by
      rw [HL.out] at hl1
      injection hl1 with e1 e2
      exact ⟨e1.symm, e2.symm⟩
    clear hl1
    have z1 := hb1.size
    simp only [World.size_alloc] at z1
    have zr := hr.lt
    have q2 : ∀ o o', ((w1.alloc o).alloc o').cell? ⟨rb, 2, none⟩ = some (.bool false) := fun o o' => by
      rw [World.cell?_alloc_lt _ _ _ (by simp only [World.size_alloc]; omega), World.cell?_alloc_lt _ _ _ (by show rb < _; omega)]
      exact hr1.c2
    have f2 : ∀ o o', ((w1.alloc o).alloc o').frozen? ⟨rb, 2, none⟩ = false := fun o o' => by
      rw [World.frozen?_alloc_old _ _ _ (by simp only [World.size_alloc]; omega), World.frozen?_alloc_old _ _ _ (by show rb ≠ _; omega)]
      exact hr1.f 2
    have hbel : But w.heap.size rb w w1 := (But.alloc (But.refl _ _ _) (Nat.le_refl _) _).trans (hb1.mono (by simp only [World.size_alloc]; omega))
    have hres := (hb1.block w.heap.size (by simp only [World.size_alloc]; omega) (by omega)).trans (heap_new1 _ _)
    have HRES := hid hres
    clear hres
    have HL2 := hid hl2
    clear hl2
    have dr : rb ≠ w.heap.size := by omega
    go_wp2_with (go_at_call 75; refine (l1Arity_at _ _ ea _).mono ?_; rintro e w' ⟨rfl, rfl⟩)
    clear q2 f2
    go_loopw [5] (fun v wr => ∃ i : Nat, i ≤ a ∧ v = .int .i64 i ∧ Round s rb n a (k + 1) (w1.heap.size + 1) c' l' w i wr) (fun v _ => a - (intOf v).toNat)
    case atStart =>
      have ed : decide ((a : Int) < 0) = false := by simp
      rw [ed]
      refine ⟨0, Nat.zero_le _, rfl, k + 1, false, .slice (some ⟨w1.heap.size, 0, none⟩) 0 0, 0, [], [], ((hr1.alloc _).alloc _).setBad false, fun _ => Nat.le_refl _, hk, ?_, ?_, ?_, ?_, Nat.le_refl _,
        ((hbel.alloc (by omega) _).alloc (by simp only [World.size_alloc]; omega) _).set _ _, ?_, .inr ⟨rfl, rfl, by rw [HL2.out]; rfl, rfl⟩⟩
      · rw [Below.heap_setCell _ _ _ _ (by show w1.heap.size + 1 ≠ rb; omega)]
        have := heap_new1 (w1.alloc (.cells #[] 91)) (.cells #[.int .u8 c'.toNat, .slice (some ⟨w1.heap.size, 0, none⟩) 0 0] 91)
        rwa [World.size_alloc] at this
      · refine ⟨rfl, .inr ⟨w1.heap.size, 0, #[], rfl, by omega, ?_, Nat.le_refl _, Nat.zero_le _, rfl, rfl⟩⟩
        rw [Below.heap_setCell _ _ _ _ (by show w1.heap.size ≠ rb; omega), Below.heap_alloc _ _ _ (by simp only [World.size_alloc]; omega)]
        exact heap_new1 _ _
      · simp [Value.ownBlock]
      · simp [Value.ownBlock]
      · rw [Below.heap_setCell _ _ _ _ (by show w.heap.size ≠ rb; omega), Below.heap_alloc _ _ _ (by simp only [World.size_alloc]; omega), Below.heap_alloc _ _ _ (by omega)]
        exact HRES.out
    case round =>
      obtain ⟨i, hi, rfl, k', bad, pv, m, xs, ts, hr2, hk1, hk2, hnb, hown, hpv1, hpv2, hm, hb2, hres, hst⟩ := hrel
      have c2 := hr2.c2
      have fb := hr2.f 2
      obtain ⟨n0, n1, nf⟩ := two_cells hnb
      obtain ⟨r0, r1, rf⟩ := two_cells hres
      have ei : a = 1 ∨ a = 2 := ha
      obtain ⟨g, cap, rfl, hg1, hg2⟩ := own_slice hown hpv2
      have HNB := hid hnb
      have HRS := hid hres
      have HKD := hid hst
      clear hnb hres hst hpv2
      cases bad with
      | true =>
        have hnone : parse (n + 1) (s.data.toList.drop k) = none := by
          rcases HKD.out with ⟨_, hz⟩ | ⟨hz, _⟩
          · rw [HL.out]
            exact parse_seq_none n c' l' a ha ea.out hz
          · cases hz
        have HNO := hid hnone
        clear hnone
        by_cases hlt : i < a
        all_goals
          go_wp2_with fail
          refine bodyPost_ret (v := .agg #[.int .u8 c'.toNat, .slice (some ⟨g, 0, none⟩) m cap]) (by simp [results, Tryd.results64, go_sem, r0, r1]) rfl
            ⟨(hb2.setAt (Nat.le_refl _) _).setAt (Nat.le_refl _) _, c', _, m, cap, k', rfl, hk2, .inl ⟨HNO.out, (hr2.setAt dr _).setAt dr _⟩⟩
      | false =>
        have hkk : k + 1 ≤ k' := hk1 rfl
        clear hk1
        by_cases hlt : i < a
        · have hix := idx_sep i (by omega)
          rcases hd : s.data.toList.drop k' with _ | ⟨x, l2⟩
          · have HD := hid hd
            clear hd
            have hz : ((0 : Int) != (sep i).toNat) = true := by
              have : i = 0 ∨ i = 1 := by omega
              rcases this with rfl | rfl <;> decide
            go_wp2_with fail
            first | (go_region_with (first | (go_at_call 74; refine (nextS_end rb s k' false _ hr2.drew hs HD).mono ?_; rintro e w2 ⟨rfl, hb3, hr3⟩; have q3 := hr3.c2; have f3 := hr3.f 2))) | fail
            all_goals
              go_wp2_with fail
              go_roundw
              case rel =>
                have hnone : seqP (parse n) a l' = none := by
                  rcases HKD.out with ⟨hz', _⟩ | ⟨_, _, hsq, _⟩
                  · cases hz'
                  · refine seqP_none (i := i + 1) ?_ a hlt
                    simp [seqP, hsq, HD.out, skipP]
                have z3 := hb3.size
                have z3' : wr.heap.size ≤ w2.heap.size := z3
                have zn : w1.heap.size + 1 < wr.heap.size := (Array.getElem?_eq_some_iff.1 HNB.out).1
                have hb3' : But wr.heap.size rb wr w2 := hb3.undrew
                have hg3 : w2.heap[g]? = wr.heap[g]? := hb3'.block g hg2 (by omega)
                refine ⟨i + 1, hlt, by go_num, k', true, _, m, xs, [], hr3.setBad true, fun h => by (cases h), hk2, ?_, ownsRow_setCell_below (own_kept hown hg3) (by show rb < _; omega) _, hpv1, by simp [Value.ownBlock], by omega, (hb2.trans (hb3'.mono (by have := hb2.size; omega))).set _ _, ?_, .inl ⟨rfl, hnone⟩⟩
                · rw [Below.heap_setCell _ _ _ _ (by show w1.heap.size + 1 ≠ rb; omega), hb3'.block _ zn (by omega)]
                  exact HNB.out
                · rw [Below.heap_setCell _ _ _ _ (by show w.heap.size ≠ rb; omega), hb3'.block _ (by omega) (by omega)]
                  exact HRS.out
              case measure => simp [intOf]; omega
          · have HD := hid hd
            have hlen : k' + 1 ≤ s.size := by
              have := congrArg List.length hd
              rw [List.length_drop] at this
              have e : s.size = s.data.toList.length := by simp
              rw [e]
              simp at this
              omega
            clear hd
            by_cases hx : x = sep i
            · have e3 := hx
              subst e3
              have hq4 : s.size ≤ k' + 1 + n := by omega
              go_wp2_with fail
              first | (go_region_with (first | (go_at_call 74; refine (nextS_at rb s k' false _ hr2.drew hs _ l2 HD).mono ?_; rintro e w2 ⟨rfl, hb3, hr3⟩; have q3 := hr3.c2; have f3 := hr3.f 2))) | fail
              all_goals
                go_wp2_with fail
                have hb3' : But wr.heap.size rb wr w2 := hb3.undrew
                have z3' : wr.heap.size ≤ w2.heap.size := hb3'.size
                have zn : w1.heap.size + 1 < wr.heap.size := (Array.getElem?_eq_some_iff.1 HNB.out).1
                have F1 : RdS (w2.setCell ⟨rb, 2, none⟩ (.bool false)) rb s (k' + 1) false := hr3.setBad false
                have F2 : But wr.heap.size rb wr (w2.setCell ⟨rb, 2, none⟩ (.bool false)) := hb3'.set _ _
                obtain ⟨W9, hW9⟩ : ∃ W9, w2.setCell ⟨rb, 2, none⟩ (.bool false) = W9 := ⟨_, rfl⟩
                rw [hW9] at F1 F2 ⊢
                clear hW9
                have F3 := (F2.block _ zn (by omega)).trans HNB.out
                have F4 := own_kept hown (F2.block g hg2 (by omega))
                have z9 := F2.size
                obtain ⟨_, p1, pf⟩ := two_cells F3
                have HF3 := hid F3
                clear F3
                have K4 : ∀ w4, But W9.drew.heap.size rb W9.drew w4 → W9.heap.size ≤ w4.heap.size ∧ w4.cell? ⟨w1.heap.size + 1, 1, none⟩ = some (.slice (some ⟨g, 0, none⟩) m cap) ∧
                    (∀ o, (w4.alloc o).cell? ⟨w1.heap.size + 1, 1, none⟩ = some (.slice (some ⟨g, 0, none⟩) m cap)) ∧
                    w4.ownsRow (w.heap.size + 1) 91 2 (.slice (some ⟨g, 0, none⟩) m cap) m xs ∧ w4.heap[w1.heap.size + 1]? = some (.cells #[.int .u8 c'.toNat, .slice (some ⟨g, 0, none⟩) m cap] 91 (0, 0)) := fun w4 hb4 => by
                  have z4 : W9.heap.size ≤ w4.heap.size := hb4.size
                  have e4 : w4.heap[w1.heap.size + 1]? = W9.heap[w1.heap.size + 1]? := hb4.block (w1.heap.size + 1) (by show w1.heap.size + 1 < W9.heap.size; omega) (by omega)
                  have eg : w4.heap[g]? = W9.heap[g]? := hb4.block g (by show g < W9.heap.size; omega) (by omega)
                  have q4 : w4.cell? ⟨w1.heap.size + 1, 1, none⟩ = some (.slice (some ⟨g, 0, none⟩) m cap) := (World.cell?_of_block (w := W9) (a := ⟨w1.heap.size + 1, 1, none⟩) e4).trans p1
                  exact ⟨z4, q4, fun o => (World.cell?_alloc_lt _ _ _ (by show w1.heap.size + 1 < _; omega)).trans q4, own_kept F4 eg, e4.trans HF3.out⟩
                have HK4 := hid K4
                clear K4
                have G5 : ∀ (w4 w5 : World) (o : Obj), (w4.alloc o).grownBy w5 (Value.slice (some ⟨g, 0, none⟩) m cap).ownBlock → W9.heap.size ≤ w4.heap.size → w4.heap[w1.heap.size + 1]? = some (.cells #[.int .u8 c'.toNat, .slice (some ⟨g, 0, none⟩) m cap] 91 (0, 0)) →
                    w5.heap[w1.heap.size + 1]? = some (.cells #[.int .u8 c'.toNat, .slice (some ⟨g, 0, none⟩) m cap] 91 (0, 0)) := fun w4 w5 o hg5 z4 e4 => by
                  rw [hg5.block _ (by simp only [World.size_alloc]; omega) (fun h => hpv1 h.symm), Below.heap_alloc _ _ _ (by omega)]
                  exact e4
                have HG5 := hid G5
                clear G5
                have hih := ih rb (k' + 1) W9.drew hlen (by omega) F1.drew
                obtain ⟨i0, hi0, hz0, hz1, hz2⟩ := info_parts nodeInfoS
                rcases hp : parse n (s.data.toList.drop (k' + 1)) with _ | ⟨t, r⟩
                · rw [hp] at hih
                  have HP := hid hp
                  clear hp
                  have HIH := hid hih
                  clear hih
                  go_region_law
                    (first
                      | (refine step_append_lies _ (by rfl) _ _ _ (by rfl) (w.heap.size + 1) 91 i0 _ 2 32 Tryd.underlying89 hi0 hz0 hz1 hz2 rfl (by omega) (.slice (some ⟨g, 0, none⟩) m cap) m xs (by rfl) (hown4.alloc _)
                           ⟨w4.heap.size, 0, none⟩ 1 1 [.int .u8 c4.toNat, .slice A4 m4 cap4] (by rfl) (by rfl) (World.news_of_block (cs := #[.int .u8 c4.toNat, .slice A4 m4 cap4]) (t := 91) (fr := (0, 0)) (heap_alloc_new w4 _)) (by simp [Value.oneCell'])
                           (by omega) (by simp only [maxLen]; omega) (by omega) (by simp only [World.size_alloc]; omega) (w4.heap.size + 1) (by simp) ?_
                         intro gg cap5 w5 hown5 hg5 hat5 hlt5
                         have e5 : w5.heap[w1.heap.size + 1]? = some (.cells #[.int .u8 c'.toNat, .slice (some ⟨g, 0, none⟩) m cap] 91 (0, 0)) := HG5.out w4 w5 _ hg5 z4 E4.out
                         obtain ⟨_, c5, ff5⟩ := two_cells e5
                         have f5 := ff5 1
                         have E5 := hid e5
                         clear e5 ff5)
                      | (go_simp
                         go_at_call 64
                         refine HIH.out.mono ?_
                         intro e w4 hend
                         obtain ⟨hb4, c4, A4, m4, cap4, k4, rfl, hk4, hr4⟩ := hend.at_none
                         obtain ⟨z4, q4, q5, hown4, e4⟩ := HK4.out w4 hb4
                         have E4 := hid e4
                         clear e4))
                  all_goals
                    go_wp2_with fail
                    go_roundw
                    case rel =>
                      have zb5 : w4.heap.size + 1 ≤ w5.heap.size := by have := hg5.size; simpa only [World.size_alloc] using this
                      have hgn : g ≠ w1.heap.size + 1 := fun h => hpv1 (by rw [h]; rfl)
                      have hggn : gg ≠ w1.heap.size + 1 := by
                        rcases hat5 with h | h
                        · simp only [Value.ownBlock, Option.some.injEq] at h; omega
                        · omega
                      have hgg : g = gg ∨ gg = w4.heap.size + 1 := by
                        rcases hat5 with h | h
                        · simp only [Value.ownBlock, Option.some.injEq] at h; exact .inl h
                        · exact .inr h
                      have hk5 : ∀ j, j < w4.heap.size → j ≠ g → j ≠ w1.heap.size + 1 → (w5.setCell ⟨w1.heap.size + 1, 1, none⟩ (.slice (some ⟨gg, 0, none⟩) (m + 1) cap5)).heap[j]? = w4.heap[j]? := fun j h1 h2 h3 => by
                        rw [Below.heap_setCell _ _ _ _ h3, hg5.block _ (by simp only [World.size_alloc]; omega) (by simp [Value.ownBlock]; omega), Below.heap_alloc _ _ _ h1]
                      have hb49 : But W9.heap.size rb W9 w4 := hb4.undrew
                      have hbw : But w.heap.size rb w (w5.setCell ⟨w1.heap.size + 1, 1, none⟩ (.slice (some ⟨gg, 0, none⟩) (m + 1) cap5)) :=
                        ((((hb2.trans (F2.mono (by have := hb2.size; omega))).trans (hb49.mono (by have := hb2.size; omega))).alloc (by have := hb2.size; omega) _).trans
                          (But.of_below ((Below.refl _ _).grown hg5 (by have := hb2.size; simp only [World.size_alloc]; omega) (by intro k hk; simp [Value.ownBlock] at hk; omega)))).setAt (by show w.heap.size ≤ w1.heap.size + 1; omega) _
                      have hnbf : (w5.setCell ⟨w1.heap.size + 1, 1, none⟩ (.slice (some ⟨gg, 0, none⟩) (m + 1) cap5)).heap[w1.heap.size + 1]? = some (.cells #[.int .u8 c'.toNat, .slice (some ⟨gg, 0, none⟩) (m + 1) cap5] 91 (0, 0)) := by
                        have h := E5.out
                        simp [World.setCell, Array.getElem?_modify, h]
                      have hresf : (w5.setCell ⟨w1.heap.size + 1, 1, none⟩ (.slice (some ⟨gg, 0, none⟩) (m + 1) cap5)).heap[w.heap.size]? = some (.cells #[.int .u8 0, .slice none 0 0] 91 (0, 0)) := by
                        rw [hk5 _ (by omega) (by omega) (by omega), hb49.block _ (by omega) (by omega), F2.block _ (by omega) (by omega)]
                        exact HRS.out
                      have hownf : (w5.setCell ⟨w1.heap.size + 1, 1, none⟩ (.slice (some ⟨gg, 0, none⟩) (m + 1) cap5)).ownsRow (w.heap.size + 1) 91 2 (.slice (some ⟨gg, 0, none⟩) (m + 1) cap5) (m + 1) (xs ++ [.int .u8 c4.toNat, .slice A4 m4 cap4]) :=
                        own_kept hown5 (Below.heap_setCell _ _ _ _ hggn)
                      have hrf := hr4.keep (hk5 rb (by omega) (by omega) (by omega))
                      have hnone : seqP (parse n) a l' = none := by
                        rcases HKD.out with ⟨hz', _⟩ | ⟨_, _, hsq, _⟩
                        · cases hz'
                        · refine seqP_none (i := i + 1) ?_ a hlt
                          have hd1 : s.data.toList.drop (k' + 1) = l2 := by
                            have := HD.out
                            rw [← List.drop_drop, this]
                            rfl
                          have hp' := HP.out
                          rw [hd1] at hp'
                          simp [seqP, hsq, HD.out, skipP_cons, hp']
                      exact ⟨i + 1, hlt, by go_num, k4, true, _, m + 1, _, [], hrf, fun h => by (cases h), hk4, hnbf, hownf, by simp [Value.ownBlock]; exact hggn, by simp [Value.ownBlock], by omega, hbw, hresf, .inl ⟨rfl, hnone⟩⟩
                    case measure => simp [intOf]; omega
                · rw [hp] at hih
                  have HP := hid hp
                  clear hp
                  have HIH := hid hih
                  clear hih
                  go_region_law
                    (first
                      | (refine step_append_lies _ (by rfl) _ _ _ (by rfl) (w.heap.size + 1) 91 i0 _ 2 32 Tryd.underlying89 hi0 hz0 hz1 hz2 rfl (by omega) (.slice (some ⟨g, 0, none⟩) m cap) m xs (by rfl) (hown4.alloc _)
                           ⟨w4.heap.size, 0, none⟩ 1 1 [.int .u8 c4.toNat, .slice A4 m4 cap4] (by rfl) (by rfl) (World.news_of_block (cs := #[.int .u8 c4.toNat, .slice A4 m4 cap4]) (t := 91) (fr := (0, 0)) (heap_alloc_new w4 _)) (by simp [Value.oneCell'])
                           (by omega) (by simp only [maxLen]; omega) (by omega) (by simp only [World.size_alloc]; omega) (w4.heap.size + 1) (by simp) ?_
                         intro gg cap5 w5 hown5 hg5 hat5 hlt5
                         have e5 : w5.heap[w1.heap.size + 1]? = some (.cells #[.int .u8 c'.toNat, .slice (some ⟨g, 0, none⟩) m cap] 91 (0, 0)) := HG5.out w4 w5 _ hg5 z4 E4.out
                         obtain ⟨_, c5, ff5⟩ := two_cells e5
                         have f5 := ff5 1
                         have E5 := hid e5
                         clear e5 ff5)
                      | (go_simp
                         go_at_call 64
                         refine HIH.out.mono ?_
                         intro e w4 hend
                         obtain ⟨hb4, c4, A4, m4, cap4, k4, rfl, hk4, hk5, hr4, hrep4⟩ := hend.at_some
                         obtain ⟨z4, q4, q5, hown4, e4⟩ := HK4.out w4 hb4
                         have E4 := hid e4
                         clear e4
                         have HK5 := hid hk5
                         clear hk5))
                  all_goals
                    go_wp2_with fail
                    go_roundw
                    case rel =>
                      have zb5 : w4.heap.size + 1 ≤ w5.heap.size := by have := hg5.size; simpa only [World.size_alloc] using this
                      have hgn : g ≠ w1.heap.size + 1 := fun h => hpv1 (by rw [h]; rfl)
                      have hggn : gg ≠ w1.heap.size + 1 := by
                        rcases hat5 with h | h
                        · simp only [Value.ownBlock, Option.some.injEq] at h; omega
                        · omega
                      have hgg : g = gg ∨ gg = w4.heap.size + 1 := by
                        rcases hat5 with h | h
                        · simp only [Value.ownBlock, Option.some.injEq] at h; exact .inl h
                        · exact .inr h
                      have hk5 : ∀ j, j < w4.heap.size → j ≠ g → j ≠ w1.heap.size + 1 → (w5.setCell ⟨w1.heap.size + 1, 1, none⟩ (.slice (some ⟨gg, 0, none⟩) (m + 1) cap5)).heap[j]? = w4.heap[j]? := fun j h1 h2 h3 => by
                        rw [Below.heap_setCell _ _ _ _ h3, hg5.block _ (by simp only [World.size_alloc]; omega) (by simp [Value.ownBlock]; omega), Below.heap_alloc _ _ _ h1]
                      have hb49 : But W9.heap.size rb W9 w4 := hb4.undrew
                      have hbw : But w.heap.size rb w (w5.setCell ⟨w1.heap.size + 1, 1, none⟩ (.slice (some ⟨gg, 0, none⟩) (m + 1) cap5)) :=
                        ((((hb2.trans (F2.mono (by have := hb2.size; omega))).trans (hb49.mono (by have := hb2.size; omega))).alloc (by have := hb2.size; omega) _).trans
                          (But.of_below ((Below.refl _ _).grown hg5 (by have := hb2.size; simp only [World.size_alloc]; omega) (by intro k hk; simp [Value.ownBlock] at hk; omega)))).setAt (by show w.heap.size ≤ w1.heap.size + 1; omega) _
                      have hnbf : (w5.setCell ⟨w1.heap.size + 1, 1, none⟩ (.slice (some ⟨gg, 0, none⟩) (m + 1) cap5)).heap[w1.heap.size + 1]? = some (.cells #[.int .u8 c'.toNat, .slice (some ⟨gg, 0, none⟩) (m + 1) cap5] 91 (0, 0)) := by
                        have h := E5.out
                        simp [World.setCell, Array.getElem?_modify, h]
                      have hresf : (w5.setCell ⟨w1.heap.size + 1, 1, none⟩ (.slice (some ⟨gg, 0, none⟩) (m + 1) cap5)).heap[w.heap.size]? = some (.cells #[.int .u8 0, .slice none 0 0] 91 (0, 0)) := by
                        rw [hk5 _ (by omega) (by omega) (by omega), hb49.block _ (by omega) (by omega), F2.block _ (by omega) (by omega)]
                        exact HRS.out
                      have hownf : (w5.setCell ⟨w1.heap.size + 1, 1, none⟩ (.slice (some ⟨gg, 0, none⟩) (m + 1) cap5)).ownsRow (w.heap.size + 1) 91 2 (.slice (some ⟨gg, 0, none⟩) (m + 1) cap5) (m + 1) (xs ++ [.int .u8 c4.toNat, .slice A4 m4 cap4]) :=
                        own_kept hown5 (Below.heap_setCell _ _ _ _ hggn)
                      have hrf := hr4.keep (hk5 rb (by omega) (by omega) (by omega))
                      have zk : k' + 1 ≤ k4 := by
                        have h1 := parse_shorter HP.out
                        have h2 := congrArg List.length HK5.out
                        rw [List.length_drop] at h2
                        have e : s.size = s.data.toList.length := by simp
                        rw [List.length_drop] at h1
                        omega
                      rcases HKD.out with ⟨hz', _⟩ | ⟨_, hmi, hsq, hkids⟩
                      · cases hz'
                      · subst hmi
                        have hd1 : s.data.toList.drop (k' + 1) = l2 := by
                          have := HD.out
                          rw [← List.drop_drop, this]
                          rfl
                        have hseq : seqP (parse n) (m + 1) l' = some (ts ++ [t], s.data.toList.drop k4) := by
                          have hp' := HP.out
                          rw [hd1] at hp'
                          simp [seqP, hsq, HD.out, skipP_cons, hp', HK5.out]
                        refine ⟨m + 1, hlt, by go_num, k4, false, _, m + 1, _, ts ++ [t], hrf, fun _ => by omega, hk4, hnbf, hownf, by simp [Value.ownBlock]; exact hggn, by simp [Value.ownBlock], Nat.le_refl _, hbw, hresf, .inr ⟨rfl, rfl, hseq, Kids.snoc (RepN.keep hrep4 fun x hx => ?_) (Kids.keep hkids fun x hx => ?_)⟩⟩
                        · obtain ⟨hx1, hx2⟩ := hx
                          have hx1' : W9.heap.size ≤ x := hx1
                          refine ⟨⟨by omega, by simp [World.setCell]; omega, ?_, by omega⟩, hk5 x hx2 (by omega) (by omega)⟩
                          simp only [Value.ownBlock, ne_eq, Option.some.injEq]
                          omega
                        · obtain ⟨hx1, hx2, hx3, hx4⟩ := hx
                          have hx5 : x ≠ g := fun h => hx3 (by rw [h]; rfl)
                          refine ⟨⟨hx1, by simp [World.setCell]; omega, ?_, hx4⟩, ?_⟩
                          · simp only [Value.ownBlock, ne_eq, Option.some.injEq]
                            omega
                          · rw [hk5 x (by omega) hx5 hx4, hb49.block _ (by omega) (by omega), F2.block _ (by omega) (by omega)]
                    case measure => simp [intOf]; omega
            · have hz : ((x.toNat : Int) != (sep i).toNat) = true := by
                simp only [bne_iff_ne, ne_eq]
                intro e
                exact hx (UInt8.toNat_inj.1 (by omega))
              have HX := hid hx
              clear hx
              go_wp2_with fail
              first | (go_region_with (first | (go_at_call 74; refine (nextS_at rb s k' false _ hr2.drew hs x l2 HD).mono ?_; rintro e w2 ⟨rfl, hb3, hr3⟩; have q3 := hr3.c2; have f3 := hr3.f 2))) | fail
              all_goals
                go_wp2_with fail
                go_roundw
                case rel =>
                  have hnone : seqP (parse n) a l' = none := by
                    rcases HKD.out with ⟨hz', _⟩ | ⟨_, _, hsq, _⟩
                    · cases hz'
                    · refine seqP_none (i := i + 1) ?_ a hlt
                      simp [seqP, hsq, HD.out, skipP, HX.out]
                  have z3 := hb3.size
                  have z3' : wr.heap.size ≤ w2.heap.size := z3
                  have zn : w1.heap.size + 1 < wr.heap.size := (Array.getElem?_eq_some_iff.1 HNB.out).1
                  have hb3' : But wr.heap.size rb wr w2 := hb3.undrew
                  have hg3 : w2.heap[g]? = wr.heap[g]? := hb3'.block g hg2 (by omega)
                  refine ⟨i + 1, hlt, by go_num, k' + 1, true, _, m, xs, [], hr3.setBad true, fun h => by (cases h), hlen, ?_, ownsRow_setCell_below (own_kept hown hg3) (by show rb < _; omega) _, hpv1, by simp [Value.ownBlock], by omega, (hb2.trans (hb3'.mono (by have := hb2.size; omega))).set _ _, ?_, .inl ⟨rfl, hnone⟩⟩
                  · rw [Below.heap_setCell _ _ _ _ (by show w1.heap.size + 1 ≠ rb; omega), hb3'.block _ zn (by omega)]
                    exact HNB.out
                  · rw [Below.heap_setCell _ _ _ _ (by show w.heap.size ≠ rb; omega), hb3'.block _ (by omega) (by omega)]
                    exact HRS.out
                case measure => simp [intOf]; omega
        · have hia : i = a := by omega
          subst hia
          rcases hd : s.data.toList.drop k' with _ | ⟨x, l2⟩
          · have HD := hid hd
            clear hd
            go_wp2_with (go_at_call 74; refine (nextS_end rb s k' false _ hr2 hs HD).mono ?_; rintro e w2 ⟨rfl, hb3, hr3⟩; have q3 := hr3.c2; have f3 := hr3.f 2; have HNN := hid ((hb3.block _ (Array.getElem?_eq_some_iff.1 HNB.out).1 (by omega)).trans HNB.out); have HRR := hid ((hb3.block _ (Array.getElem?_eq_some_iff.1 HRS.out).1 (by omega)).trans HRS.out); obtain ⟨n0', n1', nf'⟩ := two_cells HNN.out; obtain ⟨r0', r1', rf'⟩ := two_cells HRR.out)
            have hnone : parse (n + 1) (s.data.toList.drop k) = none := by
              rcases HKD.out with ⟨hz', _⟩ | ⟨_, _, hsq, _⟩
              · cases hz'
              · rw [HL.out, parse_seq_some n c' l' i ha ea.out hsq, HD.out]
                rfl
            have hb23 := hb2.trans (hb3.mono hb2.size)
            exact bodyPost_ret (v := .agg #[.int .u8 c'.toNat, .slice (some ⟨g, 0, none⟩) m cap]) (by simp [results, Tryd.results64, go_sem, r0', r1']) rfl
              ⟨((hb23.set _ _).setAt (Nat.le_refl _) _).setAt (Nat.le_refl _) _, c', _, m, cap, k', rfl, hk2, .inl ⟨hnone, ((hr3.setBad true).setAt dr _).setAt dr _⟩⟩
          · have HD := hid hd
            have hlen : k' + 1 ≤ s.size := by
              have := congrArg List.length hd
              rw [List.length_drop] at this
              have e : s.size = s.data.toList.length := by simp
              rw [e]
              simp at this
              omega
            clear hd
            by_cases hx : x = 41
            · subst hx
              go_wp2_with (go_at_call 74; refine (nextS_at rb s k' false _ hr2 hs _ l2 HD).mono ?_; rintro e w2 ⟨rfl, hb3, hr3⟩; have q3 := hr3.c2; have f3 := hr3.f 2; have HNN := hid ((hb3.block _ (Array.getElem?_eq_some_iff.1 HNB.out).1 (by omega)).trans HNB.out); have HRR := hid ((hb3.block _ (Array.getElem?_eq_some_iff.1 HRS.out).1 (by omega)).trans HRS.out); obtain ⟨n0', n1', nf'⟩ := two_cells HNN.out; obtain ⟨r0', r1', rf'⟩ := two_cells HRR.out)
              have hb23 := hb2.trans (hb3.mono hb2.size)
              rcases HKD.out with ⟨hz', _⟩ | ⟨_, hmi, hsq, hkids⟩
              · cases hz'
              · subst hmi
                have hsome : parse (n + 1) (s.data.toList.drop k) = some (mkTy c' ts, l2) := by
                  rw [HL.out, parse_seq_some n c' l' m ha ea.out hsq, HD.out, skipP_cons]
                  rfl
                have hd1 : s.data.toList.drop (k' + 1) = l2 := by
                  have := HD.out
                  rw [← List.drop_drop, this]
                  rfl
                have hrep : RepN wr (fun x => w.heap.size < x ∧ x < wr.heap.size) (mkTy c' ts) (.int .u8 c'.toNat) (.slice (some ⟨g, 0, none⟩) m cap) :=
                  rep_mk ha (Kids.keep hkids fun x hx => ⟨⟨hx.1, hx.2.1⟩, rfl⟩) (seqP_length hsq) hown ⟨by omega, hg2⟩
                have z3 := hb3.size
                refine bodyPost_ret (v := .agg #[.int .u8 c'.toNat, .slice (some ⟨g, 0, none⟩) m cap]) (by simp [results, Tryd.results64, go_sem, r0', r1']) rfl
                  ⟨((hb23.set _ _).setAt (Nat.le_refl _) _).setAt (Nat.le_refl _) _, c', _, m, cap, k' + 1, rfl, hlen, .inr ⟨mkTy c' ts, l2, hsome, hd1, ((hr3.setBad false).setAt dr _).setAt dr _, RepN.keep hrep fun x hx => ⟨⟨by omega, by simp [World.setCell]; omega⟩, ?_⟩⟩⟩
                rw [Below.heap_setCell _ _ _ _ (by show x ≠ w.heap.size; omega), Below.heap_setCell _ _ _ _ (by show x ≠ w.heap.size; omega), Below.heap_setCell _ _ _ _ (by show x ≠ rb; omega)]
                exact hb3.block x hx.2 (by omega)
            · have hz : ((x.toNat : Int) != 41) = true := by
                simp only [bne_iff_ne, ne_eq]
                intro e
                exact hx (UInt8.toNat_inj.1 (by show x.toNat = 41; omega))
              have HX := hid hx
              clear hx
              go_wp2_with (go_at_call 74; refine (nextS_at rb s k' false _ hr2 hs x l2 HD).mono ?_; rintro e w2 ⟨rfl, hb3, hr3⟩; have q3 := hr3.c2; have f3 := hr3.f 2; have HNN := hid ((hb3.block _ (Array.getElem?_eq_some_iff.1 HNB.out).1 (by omega)).trans HNB.out); have HRR := hid ((hb3.block _ (Array.getElem?_eq_some_iff.1 HRS.out).1 (by omega)).trans HRS.out); obtain ⟨n0', n1', nf'⟩ := two_cells HNN.out; obtain ⟨r0', r1', rf'⟩ := two_cells HRR.out)
              have hnone : parse (n + 1) (s.data.toList.drop k) = none := by
                rcases HKD.out with ⟨hz', _⟩ | ⟨_, _, hsq, _⟩
                · cases hz'
                · rw [HL.out, parse_seq_some n c' l' i ha ea.out hsq, HD.out]
                  simp [skipP, HX.out]
              have hb23 := hb2.trans (hb3.mono hb2.size)
              exact bodyPost_ret (v := .agg #[.int .u8 c'.toNat, .slice (some ⟨g, 0, none⟩) m cap]) (by simp [results, Tryd.results64, go_sem, r0', r1']) rfl
                ⟨((hb23.set _ _).setAt (Nat.le_refl _) _).setAt (Nat.le_refl _) _, c', _, m, cap, k' + 1, rfl, hlen, .inl ⟨hnone, ((hr3.setBad true).setAt dr _).setAt dr _⟩⟩

theorem nodeS_any (s : ByteArray) (hs : s.size ≤ maxLen) (n : Nat) : NodesAt s n := by
  induction n with
  | zero =>
    intro rb k w hk hn hr
    refine nodeS_nil s hs 0 rb k w hk hr ?_
    exact List.drop_eq_nil_of_le (by simp; omega)
  | succ n ih =>
    intro rb k w hk hn hr
    rcases hl : s.data.toList.drop k with _ | ⟨c, l⟩
    · rw [← hl]
      exact nodeS_nil s hs (n + 1) rb k w hk hr hl
    · have hk' : k < s.size := by
        have h := congrArg List.length hl
        rw [List.length_drop] at h
        have e : s.size = s.data.toList.length := by simp
        simp at h
        omega
      rw [← hl]
      rcases ar_cases c with ha | ha | ha | ha
      · exact nodeS_leaf s hs n rb k w hk' hr c l hl (-1) ha (.inr rfl)
      · exact nodeS_leaf s hs n rb k w hk' hr c l hl 0 ha (.inl rfl)
      · exact nodeS_parts s hs n ih rb k w hk' hn hr c l hl 1 ha (.inl rfl)
      · exact nodeS_parts s hs n ih rb k w hk' hn hr c l hl 2 ha (.inr rfl)

end Go.Proofs.YtgbbobjkhpplkaaDoor

namespace Go.Proofs.YtgbbobjkhpplkaaDoor
open Go.RowKit

/-- What the model's l1Read comes to. -/
def NodeTypeEnd (w : World) (o : Option Ty) (e : Ending) (w' : World) : Prop :=
  Below w.heap.size w w' ∧ ((o = none ∧ e = .returned (.tuple #[.agg #[.int .u8 0, .slice none 0 0], .bool false])) ∨
    ∃ (t : Ty) (c : UInt8) (A : Option Addr) (m cap : Nat), o = some t ∧ e = .returned (.tuple #[.agg #[.int .u8 c.toNat, .slice A m cap], .bool true]) ∧ RepN w' (fun g => w.heap.size ≤ g ∧ g < w'.heap.size) t (.int .u8 c.toNat) (.slice A m cap))

theorem tyOf_none {l : List UInt8} (h : parse l.length l = none) : tyOf l = none := by
  unfold tyOf
  split
  · rw [h]
  · rfl
theorem tyOf_long {l : List UInt8} (h : 60 < l.length) : tyOf l = none := by
  unfold tyOf
  rw [if_neg (by omega)]
theorem tyOf_rest {l : List UInt8} {t : Ty} {x : UInt8} {r : List UInt8} (h : parse l.length l = some (t, x :: r)) : tyOf l = none := by
  unfold tyOf
  split
  · rw [h]
  · rfl
theorem tyOf_some {l : List UInt8} {t : Ty} (h : parse l.length l = some (t, [])) (hl : l.length ≤ 60) : tyOf l = some t := by
  unfold tyOf
  rw [if_pos hl, h]

set_option maxHeartbeats 400000 in
set_option maxRecDepth 100000 in
theorem l1Read_any (s : ByteArray) (w : World) (hs : s.size ≤ maxLen) :
    Calls Tryd.prog 52 #[.string s] w (NodeTypeEnd w (tyOf s.data.toList)) := by
  have hm := hs
  unfold maxLen at hm
  go_enter Tryd.func52, Tryd.ntmps52
  go_wp2_with fail
  have hz0 : (0 : Int) = ((0 : Nat) : Int) := rfl
  have hr0 : RdS ((w.alloc (.cells #[.int .u8 0, .slice none 0 0] 91)).alloc (.cells #[.string s, .int .i64 0, .bool false] 114)) (w.heap.size + 1) s 0 false := by
    have := heap_new1 (w.alloc (.cells #[.int .u8 0, .slice none 0 0] 91)) (.cells #[.string s, .int .i64 0, .bool false] 114)
    rwa [World.size_alloc] at this
  have hnode := nodeS_any s hs s.data.toList.length (w.heap.size + 1) 0 _ (Nat.zero_le _) (by simp) hr0
  rw [List.drop_zero] at hnode
  have HN := hid hnode
  clear hnode hz0 hr0
  refine HN.out.mono ?_
  rintro e w1 ⟨hb1, c, A, m, cap, k, rfl, hk, hend⟩
  have z1 := hb1.size
  simp only [World.size_alloc] at z1
  have hres : w1.heap[w.heap.size]? = some (.cells #[.int .u8 0, .slice none 0 0] 91 (0, 0)) := by
    rw [hb1.block _ (by simp only [World.size_alloc]; omega) (by omega), Below.heap_alloc _ _ _ (by simp only [World.size_alloc]; omega)]
    exact heap_new1 _ _
  have hbel : Below w.heap.size w w1 := (((Below.refl _ _).alloc (Nat.le_refl _) _).alloc (by simp only [World.size_alloc]; omega) _).trans (hb1.below' (by simp only [World.size_alloc]; omega) (by omega))
  obtain ⟨r0, r1, rf⟩ := two_cells hres
  have g0 : ∀ o, (w1.alloc o).cell? ⟨w.heap.size, 0, none⟩ = some (.int .u8 0) := fun o => (World.cell?_alloc_lt _ _ _ (by show w.heap.size < _; omega)).trans r0
  have g1 : ∀ o, (w1.alloc o).cell? ⟨w.heap.size, 1, none⟩ = some (.slice none 0 0) := fun o => (World.cell?_alloc_lt _ _ _ (by show w.heap.size < _; omega)).trans r1
  have gf : ∀ o k, (w1.alloc o).frozen? ⟨w.heap.size, k, none⟩ = false := fun o k => (World.frozen?_alloc_old _ _ _ (by show w.heap.size ≠ _; omega)).trans (rf k)
  clear r0 r1 rf
  rcases hend with ⟨hn1, hr1⟩ | ⟨t, r, hs1, hd1, hr1, hrep⟩
  · have b0 : ∀ o, (w1.alloc o).cell? ⟨w.heap.size + 1, 2, none⟩ = some (.bool true) := fun o => (World.cell?_alloc_lt _ _ _ (by show w.heap.size + 1 < _; omega)).trans hr1.c2
    go_wp2_with fail
    exact bodyPost_ret (v := .tuple #[.agg #[.int .u8 0, .slice none 0 0], .bool false]) (by simp [results, Tryd.results52, go_sem, g0, g1]) rfl
      ⟨((hbel.alloc (by omega) _).setCell (Nat.le_refl _) _).setCell (Nat.le_refl _) _, .inl ⟨tyOf_none hn1, rfl⟩⟩
  · have b0 : ∀ o, (w1.alloc o).cell? ⟨w.heap.size + 1, 2, none⟩ = some (.bool false) := fun o => (World.cell?_alloc_lt _ _ _ (by show w.heap.size + 1 < _; omega)).trans hr1.c2
    have b1 : ∀ o, (w1.alloc o).cell? ⟨w.heap.size + 1, 1, none⟩ = some (.int .i64 k) := fun o => (World.cell?_alloc_lt _ _ _ (by show w.heap.size + 1 < _; omega)).trans hr1.c1
    by_cases hks : k = s.size
    · have hd : ((k : Int) != (s.size : Int)) = false := by simp [hks]
      have hrn : r = [] := by
        rw [← hd1, hks]
        exact List.drop_eq_nil_of_le (by simp)
      have HRN := hid hrn
      clear hks hd1 hrn
      have hrn := HRN
      by_cases hl : s.size ≤ 60
      · go_wp2_with fail
        refine bodyPost_ret (v := .tuple #[.agg #[.int .u8 c.toNat, .slice A m cap], .bool true]) (by simp [results, Tryd.results52, go_sem, g0, g1]) rfl
          ⟨((hbel.alloc (by omega) _).setCell (Nat.le_refl _) _).setCell (Nat.le_refl _) _, .inr ⟨t, c, A, m, cap, tyOf_some (by rw [hs1, hrn.out]) (by simp; omega), rfl, RepN.keep hrep fun x hx => ?_⟩⟩
        obtain ⟨hx1, hx2⟩ := hx
        simp only [World.size_alloc] at hx1
        refine ⟨⟨by omega, by simp [World.setCell]; omega⟩, ?_⟩
        rw [Below.heap_setCell _ _ _ _ (by show x ≠ w.heap.size; omega), Below.heap_setCell _ _ _ _ (by show x ≠ w.heap.size; omega), Below.heap_alloc _ _ _ hx2]
      · go_wp2_with fail
        exact bodyPost_ret (v := .tuple #[.agg #[.int .u8 0, .slice none 0 0], .bool false]) (by simp [results, Tryd.results52, go_sem, g0, g1]) rfl
          ⟨((hbel.alloc (by omega) _).setCell (Nat.le_refl _) _).setCell (Nat.le_refl _) _, .inl ⟨tyOf_long (by simp; omega), rfl⟩⟩
    · have hd : ((k : Int) != (s.size : Int)) = true := by simp; omega
      have HKS := hid hks
      clear hks
      rcases r with _ | ⟨x, r⟩
      · exact absurd (by
          have h := congrArg List.length hd1
          rw [List.length_drop] at h
          have e : s.size = s.data.toList.length := by simp
          simp at h
          omega) HKS.out
      · clear hd1
        go_wp2_with fail
        exact bodyPost_ret (v := .tuple #[.agg #[.int .u8 0, .slice none 0 0], .bool false]) (by simp [results, Tryd.results52, go_sem, g0, g1]) rfl
          ⟨((hbel.alloc (by omega) _).setCell (Nat.le_refl _) _).setCell (Nat.le_refl _) _, .inl ⟨tyOf_rest hs1, rfl⟩⟩

set_option maxHeartbeats 400000 in
set_option maxRecDepth 100000 in
theorem typeValidS_any (s : ByteArray) (w : World) (hs : s.size ≤ maxLen) :
    Calls Tryd.prog 41 #[.string s] w fun e w' => e = .returned (.bool (tyOf s.data.toList).isSome) ∧ Below w.heap.size w w' := by
  go_enter Tryd.func41, Tryd.ntmps41
  go_wp2_with fail
  refine (l1Read_any s _ hs).mono ?_
  rintro e w1 ⟨hb, ⟨hn, rfl⟩ | ⟨t, c, A, m, cap, hs1, rfl, hrep⟩⟩
  · go_wp2_with fail
    go_ret
    exact ⟨ret_bool (by rw [hn]; rfl), hb.alloc hb.size _⟩
  · go_wp2_with fail
    go_ret
    exact ⟨ret_bool (by rw [hs1]; rfl), hb.alloc hb.size _⟩

theorem typeValidS_at (s : ByteArray) (w : World) (hs : s.size ≤ maxLen) (v : Bool) (h : Hid ((tyOf s.data.toList).isSome = v)) :
    Calls Tryd.prog 41 #[.string s] w fun e w' => e = .returned (.bool v) ∧ Below w.heap.size w w' := by
  rw [← h.out]
  exact typeValidS_any s w hs
theorem typeValidI_at (s : ByteArray) (w : World) (hs : s.size ≤ maxLen) (v : Bool) (h : Hid ((tyOf s.data.toList).isSome = v)) :
    Calls Tryd.prog 37 #[.string s] w fun e w' => e = .returned (.bool v) ∧ Below w.heap.size w w' := by
  rw [← h.out]
  exact typeValidI_any s w hs

end Go.Proofs.YtgbbobjkhpplkaaDoor
