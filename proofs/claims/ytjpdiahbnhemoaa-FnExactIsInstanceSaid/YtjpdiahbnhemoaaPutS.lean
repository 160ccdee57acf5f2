/- Bindings applied, in the model: the length of a type's text. Variables replaced by what they stand for, in the model: l2Put. -/
import Derived.Test.YtjpdiahbnhemoaaPartsI
import Derived.Test.YtjpdiahbnhemoaaBvI
import Derived.Deep.AppendLies
import Derived.Deep.RegionLaw
import Derived.StillTactics
import Derived.OwnWalk
namespace Go.Proofs.Ytjpdiahbnhemoaa
open Go.RowKit

set_option maxHeartbeats 1000000 in
set_option maxRecDepth 100000 in
theorem l2Length_any (t : Ty) : ∀ (S : Nat → Prop) (h p : Value) (w : World), RepN w S t h p → (∀ g, S g → g < w.heap.size) → t.text.length ≤ 100000000000 →
    Calls Try.prog 61 #[.agg #[h, p]] w fun e w' => e = .returned (.int .i64 t.text.length) ∧ Below w.heap.size w w' := by
  induction t with
  | lf c =>
    rintro S h p w ⟨rfl, A, cap, rfl⟩ hS hsz
    go_enter Try.func61, Try.ntmps61
    go_wp2_with fail
    refine wp_loop_rounds 1 ?_
    rw [rounds_succ]
    go_wp2_with fail
    go_ret
    exact ⟨rfl, (Below.refl _ _).alloc (Nat.le_refl _) _⟩
  | un c a ih =>
    rintro S h p w ⟨rfl, g, cap, x, y, rfl, hg, hx, hy, hrep⟩ hS hsz
    have hgl := hS g hg
    obtain ⟨c1, A1, m1, cap1, rfl, rfl⟩ := hrep.form
    have z : a.text.length ≤ 100000000000 := by simp [Ty.text] at hsz; omega
    obtain ⟨la, hla⟩ : ∃ n, a.text.length = n := ⟨_, rfl⟩
    rw [hla] at z
    have HLA := hid hla
    have hz : (0 : Int) ≤ (la : Int) := by omega
    have fx : ∀ o, (w.alloc o).cell? ⟨g, 0, none⟩ = some (.int .u8 c1.toNat) := fun o => cell_below hx hgl ((Below.refl _ _).alloc (Nat.le_refl _) o)
    have fy : ∀ o, (w.alloc o).cell? ⟨g, 1, none⟩ = some (.slice A1 m1 cap1) := fun o => cell_below hy hgl ((Below.refl _ _).alloc (Nat.le_refl _) o)
    have HX := hid hx
    have HY := hid hy
    rw [hla] at ih
    clear hx hy hla
    go_enter Try.func61, Try.ntmps61
    go_wp2_with fail
    refine wp_loop_rounds 2 ?_
    rw [rounds_succ]
    go_wp2_with fail
    have hb2 : ∀ o o', Below w.heap.size w ((w.alloc o).alloc o') := fun o o' => ((Below.refl _ _).alloc (Nat.le_refl _) o).alloc (by simp only [World.size_alloc]; omega) o'
    refine (ih S _ _ _ (hrep.below hS (hb2 _ _)) (fun g hg => Nat.lt_of_lt_of_le (hS g hg) (hb2 _ _).size) z).mono ?_
    rintro e w2 ⟨rfl, hb3⟩
    have n1 : w2.cell? ⟨w.heap.size, 1, none⟩ = some (.slice (some ⟨g, 0, none⟩) 1 cap) := cell_below ((World.cell?_alloc_lt _ _ _ (by simp only [World.size_alloc]; omega)).trans (two_cells (heap_new1 w (.cells #[.int .u8 c.toNat, .slice (some ⟨g, 0, none⟩) 1 cap] 58))).2.1) (by simp only [World.size_alloc]; omega) hb3
    go_wp2_with fail
    rw [rounds_succ]
    go_wp2_with fail
    go_ret
    exact ⟨ret_int (by have := HLA.out; simp [Ty.text]; omega), (hb2 _ _).trans (hb3.mono (hb2 _ _).size)⟩
  | bi c a a' iha ihb =>
    rintro S h p w ⟨rfl, g, cap, x, y, x', y', rfl, hg, hx, hy, hx', hy', hrep, hrep'⟩ hS hsz
    have hgl := hS g hg
    obtain ⟨c1, A1, m1, cap1, rfl, rfl⟩ := hrep.form
    obtain ⟨c2, A2, m2, cap2, rfl, rfl⟩ := hrep'.form
    have z : a.text.length ≤ 100000000000 := by simp [Ty.text] at hsz; omega
    have z' : a'.text.length ≤ 100000000000 := by simp [Ty.text] at hsz; omega
    obtain ⟨la, hla⟩ : ∃ n, a.text.length = n := ⟨_, rfl⟩
    rw [hla] at z
    have HLA := hid hla
    have hz : (0 : Int) ≤ (la : Int) := by omega
    obtain ⟨lb, hlb⟩ : ∃ n, a'.text.length = n := ⟨_, rfl⟩
    rw [hlb] at z'
    have HLB := hid hlb
    have hz' : (0 : Int) ≤ (lb : Int) := by omega
    have fx : ∀ o, (w.alloc o).cell? ⟨g, 0, none⟩ = some (.int .u8 c1.toNat) := fun o => cell_below hx hgl ((Below.refl _ _).alloc (Nat.le_refl _) o)
    have fy : ∀ o, (w.alloc o).cell? ⟨g, 1, none⟩ = some (.slice A1 m1 cap1) := fun o => cell_below hy hgl ((Below.refl _ _).alloc (Nat.le_refl _) o)
    have HX := hid hx
    have HY := hid hy
    have HX' := hid hx'
    have HY' := hid hy'
    rw [hla] at iha
    rw [hlb] at ihb
    clear hx hy hx' hy' hla hlb
    go_enter Try.func61, Try.ntmps61
    go_wp2_with fail
    refine wp_loop_rounds 3 ?_
    rw [rounds_succ]
    go_wp2_with fail
    have hb2 : ∀ o o', Below w.heap.size w ((w.alloc o).alloc o') := fun o o' => ((Below.refl _ _).alloc (Nat.le_refl _) o).alloc (by simp only [World.size_alloc]; omega) o'
    refine (iha S _ _ _ (hrep.below hS (hb2 _ _)) (fun g hg => Nat.lt_of_lt_of_le (hS g hg) (hb2 _ _).size) z).mono ?_
    rintro e w2 ⟨rfl, hb3⟩
    have n1 : w2.cell? ⟨w.heap.size, 1, none⟩ = some (.slice (some ⟨g, 0, none⟩) 2 cap) := cell_below ((World.cell?_alloc_lt _ _ _ (by simp only [World.size_alloc]; omega)).trans (two_cells (heap_new1 w (.cells #[.int .u8 c.toNat, .slice (some ⟨g, 0, none⟩) 2 cap] 58))).2.1) (by simp only [World.size_alloc]; omega) hb3
    have zw2 : w.heap.size < w2.heap.size := (by have := hb3.size; simp only [World.size_alloc] at this; omega)
    have hb4 := (hb2 _ _).trans (hb3.mono (hb2 _ _).size)
    have gx := cell_below HX'.out hgl hb4
    have gy := cell_below HY'.out hgl hb4
    go_wp2_with fail
    rw [rounds_succ]
    go_wp2_with fail
    have hb5 : ∀ o, Below w.heap.size w (w2.alloc o) := fun o => hb4.alloc hb4.size o
    refine (ihb S _ _ _ (hrep'.below hS (hb5 _)) (fun g hg => Nat.lt_of_lt_of_le (hS g hg) (hb5 _).size) z').mono ?_
    rintro e w3 ⟨rfl, hb6⟩
    have n2 := cell_below ((World.cell?_alloc_lt _ _ _ zw2).trans n1) (by simp only [World.size_alloc]; omega) hb6
    clear n1
    go_wp2_with fail
    rw [rounds_succ]
    go_wp2_with fail
    go_ret
    exact ⟨ret_int (by have := HLA.out; have := HLB.out; simp [Ty.text]; omega), (hb5 _).trans (hb6.mono (hb5 _).size)⟩


/-- Where a letter stands among the model's variables; -1: it is none. -/
def l2ix (c : UInt8) : Int := findI [88, 89, 90, 120, 121, 122, 49, 50, 51, 52, 53, 54] c
theorem l2ix_var (c : UInt8) : (isVarB c = true → 0 ≤ l2ix c ∧ l2ix c < 6) ∧ (ar c ≠ -1 → isVarB c = false → l2ix c = -1) ∧ -1 ≤ l2ix c ∧ l2ix c < 12 := by
  refine u8_all (p := fun c => (isVarB c = true → 0 ≤ l2ix c ∧ l2ix c < 6) ∧ (ar c ≠ -1 → isVarB c = false → l2ix c = -1) ∧ -1 ≤ l2ix c ∧ l2ix c < 12) ?_ c
  decide +kernel
set_option maxHeartbeats 400000 in
theorem l2Index_at (c : UInt8) (k : Int) (hk : Hid (l2ix c = k)) (w : World) :
    Calls Try.prog 76 #[.int .u8 c.toNat] w fun e w' => e = .returned (.int .i64 k) ∧ w = w' := by
  have hk' : Hid (findI [88, 89, 90, 120, 121, 122, 49, 50, 51, 52, 53, 54] c = k) := hk
  go_enter Try.func76, Try.ntmps76
  go_wp2_with (go_at_call 98; refine (l13Find_at _ _ _ (by decide) k hk').mono ?_; rintro e w' ⟨rfl, rfl⟩)
  go_ret
  exact ⟨rfl, rfl⟩

end Go.Proofs.Ytjpdiahbnhemoaa

namespace Go.Proofs.Ytjpdiahbnhemoaa
open Go.RowKit

/-- What variables stand for, in the model's memory: the map at block mb, the nodes in blocks of S. -/
def StndN (w : World) (mb : Nat) (S : Nat → Prop) (f : UInt8 → Option Ty) : Prop :=
  ∃ cur : Array Value, w.heap[mb]? = some (.cells cur 97 (0, 0)) ∧ cur.size = 24 ∧ ∀ (c : UInt8) (k : Nat), l2ix c = (k : Int) → match f c with
    | none => cur[k * 2]? = some (.int .u8 0) ∧ cur[k * 2 + 1]? = some (.slice none 0 0)
    | some t => ∃ (d : UInt8) (A : Option Addr) (m cap : Nat), d ≠ 0 ∧ cur[k * 2]? = some (.int .u8 d.toNat) ∧ cur[k * 2 + 1]? = some (.slice A m cap) ∧ RepN w S t (.int .u8 d.toNat) (.slice A m cap)
theorem StndN.keep {w w' : World} {mb : Nat} {S S' : Nat → Prop} {f : UInt8 → Option Ty} (h : StndN w mb S f) (hb : w'.heap[mb]? = w.heap[mb]?) (hk : ∀ k, S k → S' k ∧ w'.heap[k]? = w.heap[k]?) : StndN w' mb S' f := by
  obtain ⟨cur, h1, h2, h3⟩ := h
  refine ⟨cur, hb.trans h1, h2, fun c k hc => ?_⟩
  have := h3 c k hc
  split at this
  · exact this
  · obtain ⟨d, A, m, cap, e0, e1, e2, e3⟩ := this
    exact ⟨d, A, m, cap, e0, e1, e2, e3.keep hk⟩
/-- The letters of the model's variables, the others' too. -/
def isN (c : UInt8) : Bool := decide (0 ≤ l2ix c)
/-- A type with variables replaced by what they stand for, once. -/
def _root_.Go.Proofs.Ytjpdiahbnhemoaa.Ty.subN (f : UInt8 → Option Ty) : Ty → Ty
  | .lf c => if isN c then (f c).getD (.lf c) else .lf c
  | .un c a => .un c (a.subN f)
  | .bi c a b => .bi c (a.subN f) (b.subN f)
/-- Nothing with parts is a variable, and no letter is 0. -/
def _root_.Go.Proofs.Ytjpdiahbnhemoaa.Ty.inner : Ty → Prop
  | .lf c => c ≠ 0
  | .un c a => l2ix c = -1 ∧ c ≠ 0 ∧ a.inner
  | .bi c a b => l2ix c = -1 ∧ c ≠ 0 ∧ a.inner ∧ b.inner
theorem ar_inner (c : UInt8) : (ar c = 0 → c ≠ 0) ∧ (ar c = 1 → l2ix c = -1 ∧ c ≠ 0) ∧ (ar c = 2 → l2ix c = -1 ∧ c ≠ 0) := by
  refine u8_all (p := fun c => (ar c = 0 → c ≠ 0) ∧ (ar c = 1 → l2ix c = -1 ∧ c ≠ 0) ∧ (ar c = 2 → l2ix c = -1 ∧ c ≠ 0)) ?_ c
  decide +kernel
theorem ok_inner {t : Ty} (h : t.ok) : t.inner := by
  induction t with
  | lf c => exact (ar_inner c).1 h
  | un c a ih => exact ⟨((ar_inner c).2.1 h.1).1, ((ar_inner c).2.1 h.1).2, ih h.2⟩
  | bi c a b iha ihb => exact ⟨((ar_inner c).2.2 h.1).1, ((ar_inner c).2.2 h.1).2, iha h.2.1, ihb h.2.2⟩

/-- The parts of a node. -/
def KidsAt (w : World) (S : Nat → Prop) (A : Option Addr) (ts : List Ty) : Prop :=
  ∀ (j : Nat) a, ts[j]? = some a → ∃ (g : Nat) (c1 : UInt8) (A1 : Option Addr) (m1 cap1 : Nat), A = some ⟨g, 0, none⟩ ∧ S g ∧ w.cell? ⟨g, j * 2, none⟩ = some (.int .u8 c1.toNat) ∧ w.cell? ⟨g, j * 2 + 1, none⟩ = some (.slice A1 m1 cap1) ∧ RepN w S a (.int .u8 c1.toNat) (.slice A1 m1 cap1)
theorem KidsAt.keep {w w' : World} {S S' : Nat → Prop} {A : Option Addr} {ts : List Ty} (h : KidsAt w S A ts) (hk : ∀ k, S k → S' k ∧ w'.heap[k]? = w.heap[k]?) : KidsAt w' S' A ts := by
  intro j a hj
  obtain ⟨g, c1, A1, m1, cap1, e, h1, h2, h3, h4⟩ := h j a hj
  refine ⟨g, c1, A1, m1, cap1, e, (hk g h1).1, ?_, ?_, h4.keep hk⟩
  · rw [World.cell?_of_block (w := w) (hk g h1).2]; exact h2
  · rw [World.cell?_of_block (w := w) (hk g h1).2]; exact h3
theorem un_kids {w : World} {S : Nat → Prop} {c : UInt8} {a : Ty} {h p : Value} (hr : RepN w S (.un c a) h p) : h = .int .u8 c.toNat ∧ ∃ A cap, p = .slice A 1 cap ∧ KidsAt w S A [a] := by
  obtain ⟨rfl, g, cap, x, y, rfl, hg, hx, hy, hrep⟩ := hr
  obtain ⟨c1, A1, m1, cap1, rfl, rfl⟩ := hrep.form
  refine ⟨rfl, _, cap, rfl, fun j b hj => ?_⟩
  rcases j with _ | j
  · simp only [List.getElem?_cons_zero, Option.some.injEq] at hj
    subst hj
    exact ⟨g, c1, A1, m1, cap1, rfl, hg, hx, hy, hrep⟩
  · simp at hj
theorem bi_kids {w : World} {S : Nat → Prop} {c : UInt8} {a b : Ty} {h p : Value} (hr : RepN w S (.bi c a b) h p) : h = .int .u8 c.toNat ∧ ∃ A cap, p = .slice A 2 cap ∧ KidsAt w S A [a, b] := by
  obtain ⟨rfl, g, cap, x, y, x', y', rfl, hg, hx, hy, hx', hy', hrep, hrep'⟩ := hr
  obtain ⟨c1, A1, m1, cap1, rfl, rfl⟩ := hrep.form
  obtain ⟨c2, A2, m2, cap2, rfl, rfl⟩ := hrep'.form
  refine ⟨rfl, _, cap, rfl, fun j b hj => ?_⟩
  rcases j with _ | _ | j
  · simp only [List.getElem?_cons_zero, Option.some.injEq] at hj
    subst hj
    exact ⟨g, c1, A1, m1, cap1, rfl, hg, hx, hy, hrep⟩
  · simp only [List.getElem?_cons_succ, List.getElem?_cons_zero, Option.some.injEq] at hj
    subst hj
    exact ⟨g, c2, A2, m2, cap2, rfl, hg, hx', hy', hrep'⟩
  · simp at hj
theorem bel_undrew {B : Nat} {a w : World} (h : Below B a.drew w) : Below B a w := (Below.refl B a).drew.trans h
theorem lf_mk {w : World} {S : Nat → Prop} {c : UInt8} {A : Option Addr} {cap : Nat} : RepN w S (mkTy c []) (.int .u8 c.toNat) (.slice A 0 cap) := ⟨rfl, A, cap, rfl⟩

/-- A round of a loop that makes a node anew, part by part: the new node at block ob. -/
def NewR (c : UInt8) (S' : Nat → Prop) (us : List Ty) (w : World) (ob i : Nat) (wr : World) : Prop :=
  ∃ (g cap : Nat) (xs : List Value), wr.heap[ob]? = some (.cells #[.int .u8 c.toNat, .slice (some ⟨g, 0, none⟩) i cap] 58 (0, 0)) ∧ wr.ownsRow (w.heap.size + 2) 58 2 (.slice (some ⟨g, 0, none⟩) i cap) i xs ∧
    g ≠ ob ∧ wr.heap[w.heap.size + 1]? = some (.cells #[.int .u8 0, .slice none 0 0] 58 (0, 0)) ∧ Below w.heap.size w wr ∧
    Kids wr (fun k => S' k ∨ (w.heap.size + 1 < k ∧ k < wr.heap.size ∧ k ≠ g ∧ k ≠ ob)) (us.take i) xs
theorem heap_set_other {w : World} {b o k : Nat} {v : Value} (h : k ≠ b) : (w.setCell ⟨b, o, none⟩ v).heap[k]? = w.heap[k]? := Below.heap_setCell w ⟨b, o, none⟩ v k h

theorem newR_start (c : UInt8) (S' : Nat → Prop) (us : List Ty) (w : World) (o : Obj) :
    NewR c S' us w (w.heap.size + 1 + 1 + 1) 0 ((((w.alloc o).alloc (.cells #[.int .u8 0, .slice none 0 0] 58)).alloc (.cells #[] 58)).alloc (.cells #[.int .u8 c.toNat, .slice (some ⟨w.heap.size + 1 + 1, 0, none⟩) 0 0] 58)) := by
  refine ⟨w.heap.size + 1 + 1, 0, [], ?_, ⟨rfl, .inr ⟨w.heap.size + 1 + 1, 0, #[], rfl, Nat.le_refl _, ?_, Nat.le_refl _, Nat.zero_le _, rfl, rfl⟩⟩, by omega, ?_, ?_, rfl⟩
  · have := heap_new1 (((w.alloc o).alloc (.cells #[.int .u8 0, .slice none 0 0] 58)).alloc (.cells #[] 58)) (.cells #[.int .u8 c.toNat, .slice (some ⟨w.heap.size + 1 + 1, 0, none⟩) 0 0] 58)
    simpa only [World.size_alloc] using this
  · rw [Below.heap_alloc _ _ _ (by simp only [World.size_alloc]; omega)]
    have := heap_new1 ((w.alloc o).alloc (.cells #[.int .u8 0, .slice none 0 0] 58)) (.cells #[] 58)
    simpa only [World.size_alloc] using this
  · rw [Below.heap_alloc _ _ _ (by simp only [World.size_alloc]; omega), Below.heap_alloc _ _ _ (by simp only [World.size_alloc]; omega)]
    have := heap_new1 (w.alloc o) (.cells #[.int .u8 0, .slice none 0 0] 58)
    simpa only [World.size_alloc] using this
  · exact ((((Below.refl _ _).alloc (Nat.le_refl _) _).alloc (by simp only [World.size_alloc]; omega) _).alloc (by simp only [World.size_alloc]; omega) _).alloc (by simp only [World.size_alloc]; omega) _

end Go.Proofs.Ytjpdiahbnhemoaa
