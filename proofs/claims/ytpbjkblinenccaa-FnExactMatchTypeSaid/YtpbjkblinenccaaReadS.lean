/- The model's reader of types: its steps, its recursion; what it answers. -/
import Derived.Test.YtpbjkblinenccaaReadT
import Derived.Deep.RegionWith
import Derived.Deep.RegionHeld3
import Derived.RegionTactic
import Derived.ChangeAlike
namespace Go.Proofs.Ytpbjkblinenccaa
open Go.RowKit

/-- The model's reader at block rb: its text, how far it is, whether it has failed. -/
def RdS (w : World) (rb : Nat) (s : ByteArray) (k : Nat) (bad : Bool) : Prop :=
  w.heap[rb]? = some (.cells #[.string s, .int .i64 k, .bool bad] 110 (0, 0))

theorem RdS.lt {w : World} {rb : Nat} {s : ByteArray} {k : Nat} {bad : Bool} (h : RdS w rb s k bad) : rb < w.heap.size := (Array.getElem?_eq_some_iff.1 h).1
theorem RdS.keep {w w' : World} {rb : Nat} {s : ByteArray} {k : Nat} {bad : Bool} (h : RdS w rb s k bad) (e : w'.heap[rb]? = w.heap[rb]?) : RdS w' rb s k bad := e.trans h
theorem RdS.c0 {w : World} {rb : Nat} {s : ByteArray} {k : Nat} {bad : Bool} (h : RdS w rb s k bad) : w.cell? ⟨rb, 0, none⟩ = some (.string s) := by
  unfold World.cell?; rw [show w.heap[(⟨rb, 0, none⟩ : Addr).block]? = _ from h]; rfl
theorem RdS.c1 {w : World} {rb : Nat} {s : ByteArray} {k : Nat} {bad : Bool} (h : RdS w rb s k bad) : w.cell? ⟨rb, 1, none⟩ = some (.int .i64 k) := by
  unfold World.cell?; rw [show w.heap[(⟨rb, 1, none⟩ : Addr).block]? = _ from h]; rfl
theorem RdS.c2 {w : World} {rb : Nat} {s : ByteArray} {k : Nat} {bad : Bool} (h : RdS w rb s k bad) : w.cell? ⟨rb, 2, none⟩ = some (.bool bad) := by
  unfold World.cell?; rw [show w.heap[(⟨rb, 2, none⟩ : Addr).block]? = _ from h]; rfl
theorem RdS.f {w : World} {rb : Nat} {s : ByteArray} {k : Nat} {bad : Bool} (h : RdS w rb s k bad) (o : Nat) : w.frozen? ⟨rb, o, none⟩ = false := by
  unfold World.frozen?; rw [show w.heap[(⟨rb, o, none⟩ : Addr).block]? = _ from h]; simp

set_option maxHeartbeats 400000 in
theorem nextS_no (rb : Nat) (s : ByteArray) (k : Nat) (w : World) (h0 : w.cell? ⟨rb, 0, none⟩ = some (.string s)) (h1 : w.cell? ⟨rb, 1, none⟩ = some (.int .i64 k)) (bad : Bool) (h2 : w.cell? ⟨rb, 2, none⟩ = some (.bool bad))
    (hf : w.frozen? ⟨rb, 2, none⟩ = false) (hk : s.size ≤ k) :
    Calls Try.prog 98 #[.pointer (some ⟨rb, 0, none⟩)] w fun e w' => e = .returned (.int .u8 0) ∧ ∃ n, w' = (w.setCell ⟨rb, 2, none⟩ (.bool true)).drewN n := by
  go_enter Try.func98, Try.ntmps98
  go_wp2_with fail
  go_quiet (fail)
  go_wp2_with fail
  go_ret
  exact ⟨rfl, nq, rfl⟩

set_option maxHeartbeats 400000 in
theorem nextS_some (rb : Nat) (s : ByteArray) (k : Nat) (w : World) (h0 : w.cell? ⟨rb, 0, none⟩ = some (.string s)) (h1 : w.cell? ⟨rb, 1, none⟩ = some (.int .i64 k)) (hf : w.frozen? ⟨rb, 1, none⟩ = false) (hk : k < s.size) (hs : s.size ≤ maxLen) :
    Calls Try.prog 98 #[.pointer (some ⟨rb, 0, none⟩)] w fun e w' => e = .returned (.int .u8 s[k].toNat) ∧ ∃ n m, w' = ((w.drewN n).setCell ⟨rb, 1, none⟩ (.int .i64 (k + 1))).drewN m := by
  unfold maxLen at hs
  go_enter Try.func98, Try.ntmps98
  go_wp2_with fail
  go_quiet (fail)
  go_wp2_with fail
  go_quiet (fail)
  go_wp2_with fail
  go_ret
  exact ⟨rfl, _, _, rfl⟩

/-- A step of the model's reader. -/
theorem nextS_any (rb : Nat) (s : ByteArray) (k : Nat) (bad : Bool) (w : World) (hr : RdS w rb s k bad) (hs : s.size ≤ maxLen) :
    Calls Try.prog 98 #[.pointer (some ⟨rb, 0, none⟩)] w fun e w' => But w.heap.size rb w w' ∧
      ((s.data.toList.drop k = [] ∧ e = .returned (.int .u8 0) ∧ RdS w' rb s k true) ∨
        ∃ c l, s.data.toList.drop k = c :: l ∧ s.data.toList.drop (k + 1) = l ∧ e = .returned (.int .u8 c.toNat) ∧ RdS w' rb s (k + 1) bad) := by
  have hz : s.size = s.data.toList.length := by simp
  by_cases hk : k < s.size
  · refine (nextS_some rb s k w hr.c0 hr.c1 (hr.f 1) hk hs).mono ?_
    rintro e w' ⟨rfl, n, m, rfl⟩
    refine ⟨(((But.refl _ _ _).drewN n).set _ _).drewN m, .inr ⟨s[k], s.data.toList.drop (k + 1), ?_, rfl, rfl, ?_⟩⟩
    · rw [List.drop_eq_getElem_cons (by omega)]
      rfl
    · have h := hr
      unfold RdS at h ⊢
      show (w.setCell _ _).heap[rb]? = _
      simp [World.setCell, Array.getElem?_modify, h]
  · refine (nextS_no rb s k w hr.c0 hr.c1 bad hr.c2 (hr.f 2) (by omega)).mono ?_
    rintro e w' ⟨rfl, n, rfl⟩
    refine ⟨((But.refl _ _ _).set _ _).drewN n, .inl ⟨List.drop_eq_nil_of_le (by omega), rfl, ?_⟩⟩
    have h := hr
    unfold RdS at h ⊢
    show (w.setCell _ _).heap[rb]? = _
    simp [World.setCell, Array.getElem?_modify, h]

/-- (h, p) are the two fields of a node of the model that stands for the type t; its memory lies in blocks of S. -/
def RepN (w : World) (S : Nat → Prop) : Ty → Value → Value → Prop
  | .lf c, h, p => h = .int .u8 c.toNat ∧ ∃ A cap, p = .slice A 0 cap
  | .un c a, h, p => h = .int .u8 c.toNat ∧ ∃ g cap x y, p = .slice (some ⟨g, 0, none⟩) 1 cap ∧ S g ∧ w.cell? ⟨g, 0, none⟩ = some x ∧ w.cell? ⟨g, 1, none⟩ = some y ∧ RepN w S a x y
  | .bi c a b, h, p => h = .int .u8 c.toNat ∧ ∃ g cap x y x' y', p = .slice (some ⟨g, 0, none⟩) 2 cap ∧ S g ∧ w.cell? ⟨g, 0, none⟩ = some x ∧ w.cell? ⟨g, 1, none⟩ = some y ∧
      w.cell? ⟨g, 2, none⟩ = some x' ∧ w.cell? ⟨g, 3, none⟩ = some y' ∧ RepN w S a x y ∧ RepN w S b x' y'

theorem RepN.keep {w w' : World} {S S' : Nat → Prop} {t : Ty} : ∀ {h p : Value}, RepN w S t h p → (∀ g, S g → S' g ∧ w'.heap[g]? = w.heap[g]?) → RepN w' S' t h p := by
  induction t with
  | lf c => exact fun hr _ => hr
  | un c a ih =>
    rintro h p ⟨h0, g, cap, x, y, h1, h2, h4, h5, h6⟩ hk
    refine ⟨h0, g, cap, x, y, h1, (hk g h2).1, ?_, ?_, ih h6 hk⟩
    · rw [World.cell?_of_block (w := w) (hk g h2).2]; exact h4
    · rw [World.cell?_of_block (w := w) (hk g h2).2]; exact h5
  | bi c a b iha ihb =>
    rintro h p ⟨h0, g, cap, x, y, x', y', h1, h2, h4, h5, h6, h7, h8, h9⟩ hk
    refine ⟨h0, g, cap, x, y, x', y', h1, (hk g h2).1, ?_, ?_, ?_, ?_, iha h8 hk, ihb h9 hk⟩
    · rw [World.cell?_of_block (w := w) (hk g h2).2]; exact h4
    · rw [World.cell?_of_block (w := w) (hk g h2).2]; exact h5
    · rw [World.cell?_of_block (w := w) (hk g h2).2]; exact h6
    · rw [World.cell?_of_block (w := w) (hk g h2).2]; exact h7

/-- The cells xs hold, two by two, nodes that stand for the types ts. -/
def Kids (w : World) (S : Nat → Prop) : List Ty → List Value → Prop
  | [], xs => xs = []
  | t :: ts, xs => ∃ x y ys, xs = x :: y :: ys ∧ RepN w S t x y ∧ Kids w S ts ys
theorem Kids.keep {w w' : World} {S S' : Nat → Prop} {ts : List Ty} : ∀ {xs : List Value}, Kids w S ts xs → (∀ g, S g → S' g ∧ w'.heap[g]? = w.heap[g]?) → Kids w' S' ts xs := by
  induction ts with
  | nil => exact fun h _ => h
  | cons t ts ih =>
    rintro xs ⟨x, y, ys, rfl, h1, h2⟩ hk
    exact ⟨x, y, ys, rfl, h1.keep hk, ih h2 hk⟩
theorem Kids.snoc {w : World} {S : Nat → Prop} {t : Ty} {x y : Value} (ht : RepN w S t x y) {ts : List Ty} : ∀ {xs : List Value}, Kids w S ts xs → Kids w S (ts ++ [t]) (xs ++ [x, y]) := by
  induction ts with
  | nil => rintro xs rfl; exact ⟨x, y, [], rfl, ht, rfl⟩
  | cons t' ts ih =>
    rintro xs ⟨x', y', ys, rfl, h1, h2⟩
    exact ⟨x', y', ys ++ [x, y], rfl, h1, ih h2⟩

/-- What a call of the model's node comes to. -/
def NodeEnd (rb : Nat) (s : ByteArray) (w : World) (o : Option (Ty × List UInt8)) (e : Ending) (w' : World) : Prop :=
  But w.heap.size rb w w' ∧ ∃ (c : UInt8) (A : Option Addr) (m cap k : Nat), e = .returned (.agg #[.int .u8 c.toNat, .slice A m cap]) ∧ k ≤ s.size ∧
    ((o = none ∧ RdS w' rb s k true) ∨ ∃ t r, o = some (t, r) ∧ s.data.toList.drop k = r ∧ RdS w' rb s k false ∧ RepN w' (fun g => w.heap.size ≤ g ∧ g < w'.heap.size) t (.int .u8 c.toNat) (.slice A m cap))

/-- The contract of (*l1Reader).node at rests of at most n bytes. -/
def NodesAt (s : ByteArray) (n : Nat) : Prop := ∀ (rb k : Nat) (w : World), k ≤ s.size → s.size ≤ k + n → RdS w rb s k false →
  Calls Try.prog 72 #[.pointer (some ⟨rb, 0, none⟩)] w (NodeEnd rb s w (parse n (s.data.toList.drop k)))

theorem l1Arity_at (c : UInt8) (a : Int) (h : Hid (ar c = a)) (w : World) :
    Calls Try.prog 99 #[.int .u8 c.toNat] w fun e w' => e = .returned (.int .i64 a) ∧ w' = w := by
  rw [← h.out]
  exact l1Arity_any c w

theorem nodeInfoS : (Try.prog.info? 59).map (fun i => (i.zero, i.size, i.bytes)) = some (some (.agg #[.int .u8 0, .slice none 0 0]), 2, 32) := by kernel_rfl

theorem RdS.setBad {w : World} {rb : Nat} {s : ByteArray} {k : Nat} {b : Bool} (h : RdS w rb s k b) (b' : Bool) : RdS (w.setCell ⟨rb, 2, none⟩ (.bool b')) rb s k b' := by
  unfold RdS at h ⊢
  simp [World.setCell, Array.getElem?_modify, h]
theorem RdS.setAt {w : World} {rb : Nat} {s : ByteArray} {k : Nat} {b : Bool} (h : RdS w rb s k b) {p : Addr} (hp : rb ≠ p.block) (u : Value) : RdS (w.setCell p u) rb s k b :=
  h.keep (Below.heap_setCell _ _ _ _ hp)
theorem RdS.alloc {w : World} {rb : Nat} {s : ByteArray} {k : Nat} {b : Bool} (h : RdS w rb s k b) (o : Obj) : RdS (w.alloc o) rb s k b := h.keep (Below.heap_alloc _ _ _ h.lt)
theorem But.setAt {B rb : Nat} {a w : World} (h : But B rb a w) {p : Addr} (hp : B ≤ p.block) (u : Value) : But B rb a (w.setCell p u) :=
  h.trans (But.of_below ((Below.refl _ _).setCell hp u))

theorem cells_res {w w1 : World} {h p : Value} (z : w.heap.size < w1.heap.size) (e : w1.heap[w.heap.size]? = some (.cells #[h, p] 59 (0, 0))) :
    (∀ o o', ((w1.alloc o).alloc o').cell? ⟨w.heap.size, 0, none⟩ = some h) ∧ (∀ o o', ((w1.alloc o).alloc o').cell? ⟨w.heap.size, 1, none⟩ = some p) ∧ (∀ o o' k, ((w1.alloc o).alloc o').frozen? ⟨w.heap.size, k, none⟩ = false) := by
  have e' : ∀ o o', ((w1.alloc o).alloc o').heap[w.heap.size]? = some (.cells #[h, p] 59 (0, 0)) := fun o o' => by
    rw [Below.heap_alloc _ _ _ (by simp only [World.size_alloc]; omega), Below.heap_alloc _ _ _ z]
    exact e
  refine ⟨fun o o' => ?_, fun o o' => ?_, fun o o' k => ?_⟩
  · unfold World.cell?; rw [show ((w1.alloc o).alloc o').heap[(⟨w.heap.size, 0, none⟩ : Addr).block]? = _ from e' o o']; rfl
  · unfold World.cell?; rw [show ((w1.alloc o).alloc o').heap[(⟨w.heap.size, 1, none⟩ : Addr).block]? = _ from e' o o']; rfl
  · unfold World.frozen?; rw [show ((w1.alloc o).alloc o').heap[(⟨w.heap.size, k, none⟩ : Addr).block]? = _ from e' o o']; simp

set_option maxHeartbeats 400000 in
set_option maxRecDepth 100000 in
theorem nodeS_leaf (s : ByteArray) (hs : s.size ≤ maxLen) (n : Nat) (rb k : Nat) (w : World) (hk : k < s.size) (hr : RdS w rb s k false) (c : UInt8) (l : List UInt8) (hl : s.data.toList.drop k = c :: l) (a : Int) (ea : Hid (ar c = a)) (ha : a = 0 ∨ a = -1) :
    Calls Try.prog 72 #[.pointer (some ⟨rb, 0, none⟩)] w (NodeEnd rb s w (parse (n + 1) (s.data.toList.drop k))) := by
  have HL := hid hl
  clear hl
  go_enter Try.func72, Try.ntmps72
  go_wp2_with fail
  refine (nextS_any rb s k false _ (hr.keep (Below.heap_alloc _ _ _ hr.lt)) hs).mono ?_
  rintro e w1 ⟨hb1, ⟨hl1, rfl, hr1⟩ | ⟨c', l', hl1, hl2, rfl, hr1⟩⟩
  · rw [HL.out] at hl1; cases hl1
  · obtain ⟨rfl, rfl⟩ : c' = c ∧ l' = l := by
      rw [HL.out] at hl1
      injection hl1 with e1 e2
      exact ⟨e1.symm, e2.symm⟩
    clear hl1
    have z1 := hb1.size
    simp only [World.size_alloc] at z1
    have zr := hr.lt
    have q2 : ∀ o o', ((w1.alloc o).alloc o').cell? ⟨rb, 2, none⟩ = some (.bool false) := fun o o' => by
      rw [World.cell?_alloc_lt _ _ _ (by simp only [World.size_alloc]; omega), World.cell?_alloc_lt _ _ _ (by show rb < _; omega)]
      exact hr1.c2
    have f2 : ∀ o o', ((w1.alloc o).alloc o').frozen? ⟨rb, 2, none⟩ = false := fun o o' => by
      rw [World.frozen?_alloc_old _ _ _ (by simp only [World.size_alloc]; omega), World.frozen?_alloc_old _ _ _ (by show rb ≠ _; omega)]
      exact hr1.f 2
    have hbel : But w.heap.size rb w w1 := (But.alloc (But.refl _ _ _) (Nat.le_refl _) _).trans (hb1.mono (by simp only [World.size_alloc]; omega))
    obtain ⟨g0, g1, gf⟩ := cells_res (by omega) ((hb1.block w.heap.size (by simp only [World.size_alloc]; omega) (by omega)).trans (heap_new1 _ _))
    have HL2 := hid hl2
    clear hl2
    have dr : rb ≠ w.heap.size := by omega
    rcases ha with rfl | rfl
    all_goals
      go_wp2_with (go_at_call 99; refine (l1Arity_at _ _ ea _).mono ?_; rintro e w' ⟨rfl, rfl⟩)
      refine wp_loop_rounds 1 ?_
      rw [rounds_succ]
      go_wp2_with fail
      refine bodyPost_ret (v := .agg #[.int .u8 c'.toNat, .slice (some ⟨w1.heap.size, 0, none⟩) 0 0]) (by simp [results, Try.results72, go_sem, g0, g1]) rfl
        ⟨((((hbel.alloc (by omega) _).alloc (by simp only [World.size_alloc]; omega) _).set _ _).setAt (Nat.le_refl _) _).setAt (Nat.le_refl _) _, c', _, 0, 0, k + 1, rfl, hk, ?_⟩
    · refine .inr ⟨.lf c', l', by rw [HL.out]; simp [parse, ea.out], HL2.out, ((((hr1.alloc _).alloc _).setBad false).setAt dr _).setAt dr _, rfl, _, _, rfl⟩
    · refine .inl ⟨by rw [HL.out]; simp [parse, ea.out], ((((hr1.alloc _).alloc _).setBad true).setAt dr _).setAt dr _⟩

end Go.Proofs.Ytpbjkblinenccaa
