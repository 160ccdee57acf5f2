/- Bindings applied, in the model: the length of a type's text. Variables replaced by what they stand for, in the model: l2Put. -/
import Derived.Test.YtjpdiahbnhemoaaGreatPartsI
import Derived.Test.YtjpdiahbnhemoaaGreatBvI
import Derived.Deep.AppendLies
import Derived.Deep.RegionLaw
import Derived.StillTactics
import Derived.OwnWalk
namespace Go.Proofs.YtjpdiahbnhemoaaGreat
open Go.RowKit

set_option maxHeartbeats 1000000 in
set_option maxRecDepth 100000 in
theorem l2Length_any (t : Ty) : ∀ (S : Nat → Prop) (h p : Value) (w : World), RepN w S t h p → (∀ g, S g → g < w.heap.size) → t.text.length ≤ 100000000000 →
    Calls Tryz.prog 16 #[.agg #[h, p]] w fun e w' => e = .returned (.int .i64 t.text.length) ∧ Below w.heap.size w w' := by
  induction t with
  | lf c =>
    rintro S h p w ⟨rfl, A, cap, rfl⟩ hS hsz
    go_enter Tryz.func16, Tryz.ntmps16
    go_wp2_with fail
    refine wp_loop_rounds 1 ?_
    rw [rounds_succ]
    go_wp2_with fail
    go_ret
    exact ⟨rfl, (Below.refl _ _).alloc (Nat.le_refl _) _⟩
  | un c a ih =>
    rintro S h p w ⟨rfl, g, cap, x, y, rfl, hg, hx, hy, hrep⟩ hS hsz
    have hgl := hS g hg
    obtain ⟨c1, A1, m1, cap1, rfl, rfl⟩ := hrep.form
    have z : a.text.length ≤ 100000000000 := by simp [Ty.text] at hsz; omega
    obtain ⟨la, hla⟩ : ∃ n, a.text.length = n := ⟨_, rfl⟩
    rw [hla] at z
    have HLA := hid hla
    have hz : (0 : Int) ≤ (la : Int) := by omega
    have fx : ∀ o, (w.alloc o).cell? ⟨g, 0, none⟩ = some (.int .u8 c1.toNat) := fun o => cell_below hx hgl ((Below.refl _ _).alloc (Nat.le_refl _) o)
    have fy : ∀ o, (w.alloc o).cell? ⟨g, 1, none⟩ = some (.slice A1 m1 cap1) := fun o => cell_below hy hgl ((Below.refl _ _).alloc (Nat.le_refl _) o)
    have HX := hid hx
    have HY := hid hy
    rw [hla] at ih
    clear hx hy hla
    go_enter Tryz.func16, Tryz.ntmps16
    go_wp2_with fail
    refine wp_loop_rounds 2 ?_
    rw [rounds_succ]
    go_wp2_with fail
    have hb2 : ∀ o o', Below w.heap.size w ((w.alloc o).alloc o') := fun o o' => ((Below.refl _ _).alloc (Nat.le_refl _) o).alloc (by simp only [World.size_alloc]; omega) o'
    refine (ih S _ _ _ (hrep.below hS (hb2 _ _)) (fun g hg => Nat.lt_of_lt_of_le (hS g hg) (hb2 _ _).size) z).mono ?_
    rintro e w2 ⟨rfl, hb3⟩
    have n1 : w2.cell? ⟨w.heap.size, 1, none⟩ = some (.slice (some ⟨g, 0, none⟩) 1 cap) := cell_below ((World.cell?_alloc_lt _ _ _ (by simp only [World.size_alloc]; omega)).trans (two_cells (heap_new1 w (.cells #[.int .u8 c.toNat, .slice (some ⟨g, 0, none⟩) 1 cap] 31))).2.1) (by simp only [World.size_alloc]; omega) hb3
    go_wp2_with fail
    rw [rounds_succ]
    go_wp2_with fail
    go_ret
    exact ⟨ret_int (by have := HLA.out; simp [Ty.text]; omega), (hb2 _ _).trans (hb3.mono (hb2 _ _).size)⟩
  | bi c a a' iha ihb =>
    rintro S h p w ⟨rfl, g, cap, x, y, x', y', rfl, hg, hx, hy, hx', hy', hrep, hrep'⟩ hS hsz
    have hgl := hS g hg
    obtain ⟨c1, A1, m1, cap1, rfl, rfl⟩ := hrep.form
    obtain ⟨c2, A2, m2, cap2, rfl, rfl⟩ := hrep'.form
    have z : a.text.length ≤ 100000000000 := by simp [Ty.text] at hsz; omega
    have z' : a'.text.length ≤ 100000000000 := by simp [Ty.text] at hsz; omega
    obtain ⟨la, hla⟩ : ∃ n, a.text.length = n := ⟨_, rfl⟩
    rw [hla] at z
    have HLA := hid hla
    have hz : (0 : Int) ≤ (la : Int) := by omega
    obtain ⟨lb, hlb⟩ : ∃ n, a'.text.length = n := ⟨_, rfl⟩
    rw [hlb] at z'
    have HLB := hid hlb
    have hz' : (0 : Int) ≤ (lb : Int) := by omega
    have fx : ∀ o, (w.alloc o).cell? ⟨g, 0, none⟩ = some (.int .u8 c1.toNat) := fun o => cell_below hx hgl ((Below.refl _ _).alloc (Nat.le_refl _) o)
    have fy : ∀ o, (w.alloc o).cell? ⟨g, 1, none⟩ = some (.slice A1 m1 cap1) := fun o => cell_below hy hgl ((Below.refl _ _).alloc (Nat.le_refl _) o)
    have HX := hid hx
    have HY := hid hy
    have HX' := hid hx'
    have HY' := hid hy'
    rw [hla] at iha
    rw [hlb] at ihb
    clear hx hy hx' hy' hla hlb
    go_enter Tryz.func16, Tryz.ntmps16
    go_wp2_with fail
    refine wp_loop_rounds 3 ?_
    rw [rounds_succ]
    go_wp2_with fail
    have hb2 : ∀ o o', Below w.heap.size w ((w.alloc o).alloc o') := fun o o' => ((Below.refl _ _).alloc (Nat.le_refl _) o).alloc (by simp only [World.size_alloc]; omega) o'
    refine (iha S _ _ _ (hrep.below hS (hb2 _ _)) (fun g hg => Nat.lt_of_lt_of_le (hS g hg) (hb2 _ _).size) z).mono ?_
    rintro e w2 ⟨rfl, hb3⟩
    have n1 : w2.cell? ⟨w.heap.size, 1, none⟩ = some (.slice (some ⟨g, 0, none⟩) 2 cap) := cell_below ((World.cell?_alloc_lt _ _ _ (by simp only [World.size_alloc]; omega)).trans (two_cells (heap_new1 w (.cells #[.int .u8 c.toNat, .slice (some ⟨g, 0, none⟩) 2 cap] 31))).2.1) (by simp only [World.size_alloc]; omega) hb3
    have zw2 : w.heap.size < w2.heap.size := (by have := hb3.size; simp only [World.size_alloc] at this; omega)
    have hb4 := (hb2 _ _).trans (hb3.mono (hb2 _ _).size)
    have gx := cell_below HX'.out hgl hb4
    have gy := cell_below HY'.out hgl hb4
    go_wp2_with fail
    rw [rounds_succ]
    go_wp2_with fail
    have hb5 : ∀ o, Below w.heap.size w (w2.alloc o) := fun o => hb4.alloc hb4.size o
    refine (ihb S _ _ _ (hrep'.below hS (hb5 _)) (fun g hg => Nat.lt_of_lt_of_le (hS g hg) (hb5 _).size) z').mono ?_
    rintro e w3 ⟨rfl, hb6⟩
    have n2 := cell_below ((World.cell?_alloc_lt _ _ _ zw2).trans n1) (by simp only [World.size_alloc]; omega) hb6
    clear n1
    go_wp2_with fail
    rw [rounds_succ]
    go_wp2_with fail
    go_ret
    exact ⟨ret_int (by have := HLA.out; have := HLB.out; simp [Ty.text]; omega), (hb5 _).trans (hb6.mono (hb5 _).size)⟩


/-- Where a letter stands among the model's variables; -1: it is none. -/
def l2ix (c : UInt8) : Int := findI [88, 89, 90, 120, 121, 122, 49, 50, 51, 52, 53, 54] c
theorem l2ix_var (c : UInt8) : (isVarB c = true → 0 ≤ l2ix c ∧ l2ix c < 6) ∧ (ar c ≠ -1 → isVarB c = false → l2ix c = -1) ∧ -1 ≤ l2ix c ∧ l2ix c < 12 := by
  refine u8_all (p := fun c => (isVarB c = true → 0 ≤ l2ix c ∧ l2ix c < 6) ∧ (ar c ≠ -1 → isVarB c = false → l2ix c = -1) ∧ -1 ≤ l2ix c ∧ l2ix c < 12) ?_ c
  decide +kernel
set_option maxHeartbeats 400000 in
theorem l2Index_at (c : UInt8) (k : Int) (hk : Hid (l2ix c = k)) (w : World) :
    Calls Tryz.prog 14 #[.int .u8 c.toNat] w fun e w' => e = .returned (.int .i64 k) ∧ w = w' := by
  have hk' : Hid (findI [88, 89, 90, 120, 121, 122, 49, 50, 51, 52, 53, 54] c = k) := hk
  go_enter Tryz.func14, Tryz.ntmps14
  go_wp2_with (go_at_call 31; refine (l13Find_at _ _ _ (by decide) k hk').mono ?_; rintro e w' ⟨rfl, rfl⟩)
  go_ret
  exact ⟨rfl, rfl⟩

end Go.Proofs.YtjpdiahbnhemoaaGreat

namespace Go.Proofs.YtjpdiahbnhemoaaGreat
open Go.RowKit

/-- What variables stand for, in the model's memory: the map at block mb, the nodes in blocks of S. -/
def StndN (w : World) (mb : Nat) (S : Nat → Prop) (f : UInt8 → Option Ty) : Prop :=
  ∃ cur : Array Value, w.heap[mb]? = some (.cells cur 40 (0, 0)) ∧ cur.size = 24 ∧ ∀ (c : UInt8) (k : Nat), l2ix c = (k : Int) → match f c with
    | none => cur[k * 2]? = some (.int .u8 0) ∧ cur[k * 2 + 1]? = some (.slice none 0 0)
    | some t => ∃ (d : UInt8) (A : Option Addr) (m cap : Nat), d ≠ 0 ∧ cur[k * 2]? = some (.int .u8 d.toNat) ∧ cur[k * 2 + 1]? = some (.slice A m cap) ∧ RepN w S t (.int .u8 d.toNat) (.slice A m cap)
theorem StndN.keep {w w' : World} {mb : Nat} {S S' : Nat → Prop} {f : UInt8 → Option Ty} (h : StndN w mb S f) (hb : w'.heap[mb]? = w.heap[mb]?) (hk : ∀ k, S k → S' k ∧ w'.heap[k]? = w.heap[k]?) : StndN w' mb S' f := by
  obtain ⟨cur, h1, h2, h3⟩ := h
  refine ⟨cur, hb.trans h1, h2, fun c k hc => ?_⟩
  have := h3 c k hc
  split at this
  · exact this
  · obtain ⟨d, A, m, cap, e0, e1, e2, e3⟩ := this
    exact ⟨d, A, m, cap, e0, e1, e2, e3.keep hk⟩
/-- The letters of the model's variables, the others' too. -/
def isN (c : UInt8) : Bool := decide (0 ≤ l2ix c)
/-- A type with variables replaced by what they stand for, once. -/
def _root_.Go.Proofs.YtjpdiahbnhemoaaGreat.Ty.subN (f : UInt8 → Option Ty) : Ty → Ty
  | .lf c => if isN c then (f c).getD (.lf c) else .lf c
  | .un c a => .un c (a.subN f)
  | .bi c a b => .bi c (a.subN f) (b.subN f)
/-- Nothing with parts is a variable, and no letter is 0. -/
def _root_.Go.Proofs.YtjpdiahbnhemoaaGreat.Ty.inner : Ty → Prop
  | .lf c => c ≠ 0
  | .un c a => l2ix c = -1 ∧ c ≠ 0 ∧ a.inner
  | .bi c a b => l2ix c = -1 ∧ c ≠ 0 ∧ a.inner ∧ b.inner
theorem ar_inner (c : UInt8) : (ar c = 0 → c ≠ 0) ∧ (ar c = 1 → l2ix c = -1 ∧ c ≠ 0) ∧ (ar c = 2 → l2ix c = -1 ∧ c ≠ 0) := by
  refine u8_all (p := fun c => (ar c = 0 → c ≠ 0) ∧ (ar c = 1 → l2ix c = -1 ∧ c ≠ 0) ∧ (ar c = 2 → l2ix c = -1 ∧ c ≠ 0)) ?_ c
  decide +kernel
theorem ok_inner {t : Ty} (h : t.ok) : t.inner := by
  induction t with
  | lf c => exact (ar_inner c).1 h
  | un c a ih => exact ⟨((ar_inner c).2.1 h.1).1, ((ar_inner c).2.1 h.1).2, ih h.2⟩
  | bi c a b iha ihb => exact ⟨((ar_inner c).2.2 h.1).1, ((ar_inner c).2.2 h.1).2, iha h.2.1, ihb h.2.2⟩

/-- The contract of l2Put at a type. -/
def PutAt (t : Ty) : Prop := ∀ (f : UInt8 → Option Ty) (S S' : Nat → Prop) (mb : Nat) (h p : Value) (w : World), StndN w mb S' f → RepN w S t h p → (∀ g, S g → g < w.heap.size) → (∀ g, S' g → g < w.heap.size) → mb < w.heap.size →
  Calls Tryz.prog 15 #[.pointer (some ⟨mb, 0, none⟩), .agg #[h, p]] w fun e w' => ∃ (c : UInt8) (A : Option Addr) (m cap : Nat), e = .returned (.agg #[.int .u8 c.toNat, .slice A m cap]) ∧ c ≠ 0 ∧
    RepN w' (fun g => S' g ∨ (w.heap.size ≤ g ∧ g < w'.heap.size)) (t.subN f) (.int .u8 c.toNat) (.slice A m cap) ∧ Below w.heap.size w w'

/-- The parts of a node. -/
def KidsAt (w : World) (S : Nat → Prop) (A : Option Addr) (ts : List Ty) : Prop :=
  ∀ (j : Nat) a, ts[j]? = some a → ∃ (g : Nat) (c1 : UInt8) (A1 : Option Addr) (m1 cap1 : Nat), A = some ⟨g, 0, none⟩ ∧ S g ∧ w.cell? ⟨g, j * 2, none⟩ = some (.int .u8 c1.toNat) ∧ w.cell? ⟨g, j * 2 + 1, none⟩ = some (.slice A1 m1 cap1) ∧ RepN w S a (.int .u8 c1.toNat) (.slice A1 m1 cap1)
theorem KidsAt.keep {w w' : World} {S S' : Nat → Prop} {A : Option Addr} {ts : List Ty} (h : KidsAt w S A ts) (hk : ∀ k, S k → S' k ∧ w'.heap[k]? = w.heap[k]?) : KidsAt w' S' A ts := by
  intro j a hj
  obtain ⟨g, c1, A1, m1, cap1, e, h1, h2, h3, h4⟩ := h j a hj
  refine ⟨g, c1, A1, m1, cap1, e, (hk g h1).1, ?_, ?_, h4.keep hk⟩
  · rw [World.cell?_of_block (w := w) (hk g h1).2]; exact h2
  · rw [World.cell?_of_block (w := w) (hk g h1).2]; exact h3
theorem un_kids {w : World} {S : Nat → Prop} {c : UInt8} {a : Ty} {h p : Value} (hr : RepN w S (.un c a) h p) : h = .int .u8 c.toNat ∧ ∃ A cap, p = .slice A 1 cap ∧ KidsAt w S A [a] := by
  obtain ⟨rfl, g, cap, x, y, rfl, hg, hx, hy, hrep⟩ := hr
  obtain ⟨c1, A1, m1, cap1, rfl, rfl⟩ := hrep.form
  refine ⟨rfl, _, cap, rfl, fun j b hj => ?_⟩
  rcases j with _ | j
  · simp only [List.getElem?_cons_zero, Option.some.injEq] at hj
    subst hj
    exact ⟨g, c1, A1, m1, cap1, rfl, hg, hx, hy, hrep⟩
  · simp at hj
theorem bi_kids {w : World} {S : Nat → Prop} {c : UInt8} {a b : Ty} {h p : Value} (hr : RepN w S (.bi c a b) h p) : h = .int .u8 c.toNat ∧ ∃ A cap, p = .slice A 2 cap ∧ KidsAt w S A [a, b] := by
  obtain ⟨rfl, g, cap, x, y, x', y', rfl, hg, hx, hy, hx', hy', hrep, hrep'⟩ := hr
  obtain ⟨c1, A1, m1, cap1, rfl, rfl⟩ := hrep.form
  obtain ⟨c2, A2, m2, cap2, rfl, rfl⟩ := hrep'.form
  refine ⟨rfl, _, cap, rfl, fun j b hj => ?_⟩
  rcases j with _ | _ | j
  · simp only [List.getElem?_cons_zero, Option.some.injEq] at hj
    subst hj
    exact ⟨g, c1, A1, m1, cap1, rfl, hg, hx, hy, hrep⟩
  · simp only [List.getElem?_cons_succ, List.getElem?_cons_zero, Option.some.injEq] at hj
    subst hj
    exact ⟨g, c2, A2, m2, cap2, rfl, hg, hx', hy', hrep'⟩
  · simp at hj
theorem bel_undrew {B : Nat} {a w : World} (h : Below B a.drew w) : Below B a w := (Below.refl B a).drew.trans h
theorem lf_mk {w : World} {S : Nat → Prop} {c : UInt8} {A : Option Addr} {cap : Nat} : RepN w S (mkTy c []) (.int .u8 c.toNat) (.slice A 0 cap) := ⟨rfl, A, cap, rfl⟩

/-- A round of a loop that makes a node anew, part by part: the new node at block ob. -/
def NewR (c : UInt8) (S' : Nat → Prop) (us : List Ty) (w : World) (ob i : Nat) (wr : World) : Prop :=
  ∃ (g cap : Nat) (xs : List Value), wr.heap[ob]? = some (.cells #[.int .u8 c.toNat, .slice (some ⟨g, 0, none⟩) i cap] 31 (0, 0)) ∧ wr.ownsRow (w.heap.size + 2) 31 2 (.slice (some ⟨g, 0, none⟩) i cap) i xs ∧
    g ≠ ob ∧ wr.heap[w.heap.size + 1]? = some (.cells #[.int .u8 0, .slice none 0 0] 31 (0, 0)) ∧ Below w.heap.size w wr ∧
    Kids wr (fun k => S' k ∨ (w.heap.size + 1 < k ∧ k < wr.heap.size ∧ k ≠ g ∧ k ≠ ob)) (us.take i) xs
theorem heap_set_other {w : World} {b o k : Nat} {v : Value} (h : k ≠ b) : (w.setCell ⟨b, o, none⟩ v).heap[k]? = w.heap[k]? := Below.heap_setCell w ⟨b, o, none⟩ v k h

theorem newR_start (c : UInt8) (S' : Nat → Prop) (us : List Ty) (w : World) (o : Obj) :
    NewR c S' us w (w.heap.size + 1 + 1 + 1) 0 ((((w.alloc o).alloc (.cells #[.int .u8 0, .slice none 0 0] 31)).alloc (.cells #[] 31)).alloc (.cells #[.int .u8 c.toNat, .slice (some ⟨w.heap.size + 1 + 1, 0, none⟩) 0 0] 31)) := by
  refine ⟨w.heap.size + 1 + 1, 0, [], ?_, ⟨rfl, .inr ⟨w.heap.size + 1 + 1, 0, #[], rfl, Nat.le_refl _, ?_, Nat.le_refl _, Nat.zero_le _, rfl, rfl⟩⟩, by omega, ?_, ?_, rfl⟩
  · have := heap_new1 (((w.alloc o).alloc (.cells #[.int .u8 0, .slice none 0 0] 31)).alloc (.cells #[] 31)) (.cells #[.int .u8 c.toNat, .slice (some ⟨w.heap.size + 1 + 1, 0, none⟩) 0 0] 31)
    simpa only [World.size_alloc] using this
  · rw [Below.heap_alloc _ _ _ (by simp only [World.size_alloc]; omega)]
    have := heap_new1 ((w.alloc o).alloc (.cells #[.int .u8 0, .slice none 0 0] 31)) (.cells #[] 31)
    simpa only [World.size_alloc] using this
  · rw [Below.heap_alloc _ _ _ (by simp only [World.size_alloc]; omega), Below.heap_alloc _ _ _ (by simp only [World.size_alloc]; omega)]
    have := heap_new1 (w.alloc o) (.cells #[.int .u8 0, .slice none 0 0] 31)
    simpa only [World.size_alloc] using this
  · exact ((((Below.refl _ _).alloc (Nat.le_refl _) _).alloc (by simp only [World.size_alloc]; omega) _).alloc (by simp only [World.size_alloc]; omega) _).alloc (by simp only [World.size_alloc]; omega) _

set_option maxHeartbeats 1600000 in
set_option maxRecDepth 100000 in
theorem putRowP (c : UInt8) (hc : Hid (l2ix c = -1)) (ts : List Ty) (n cap0 : Nat) (A0 : Option Addr) (hn : ts.length = n) (h2 : n ≤ 2) (f : UInt8 → Option Ty) (S S' : Nat → Prop) (mb : Nat) (w : World) (ih : ∀ t ∈ ts, PutAt t) (hst : StndN w mb S' f) (hk : KidsAt w S A0 ts)
    (hS : ∀ g, S g → g < w.heap.size) (hS' : ∀ g, S' g → g < w.heap.size) (hmb : mb < w.heap.size) :
    Calls Tryz.prog 15 #[.pointer (some ⟨mb, 0, none⟩), .agg #[.int .u8 c.toNat, .slice A0 n cap0]] w fun e w' => ∃ g cap : Nat, e = .returned (.agg #[.int .u8 c.toNat, .slice (some ⟨g, 0, none⟩) n cap]) ∧
      RepN w' (fun g => S' g ∨ (w.heap.size ≤ g ∧ g < w'.heap.size)) (mkTy c (ts.map (·.subN f))) (.int .u8 c.toNat) (.slice (some ⟨g, 0, none⟩) n cap) ∧ Below w.heap.size w w' := by
  have HST := hid hst
  have HK := hid hk
  have HN := hid hn
  have HIH0 := hid ih
  clear hst hk hn ih
  go_enter Tryz.func15, Tryz.ntmps15
  go_wp2_with fail
  refine (l2Index_at c (-1) hc _).mono ?_
  rintro e w1 ⟨rfl, rfl⟩
  go_wp2_with fail
  obtain ⟨W0, hW0⟩ : ∃ W0, (((w.alloc (.cells #[.int .u8 c.toNat, .slice A0 n cap0] 31)).alloc (.cells #[.int .u8 0, .slice none 0 0] 31)).alloc (.cells #[] 31)).alloc (.cells #[.int .u8 c.toNat, .slice (some ⟨w.heap.size + 1 + 1, 0, none⟩) 0 0] 31) = W0 := ⟨_, rfl⟩
  have hN0 : NewR c S' (ts.map (·.subN f)) w (w.heap.size + 1 + 1 + 1) 0 W0 := by
    rw [← hW0]
    exact newR_start c S' _ w _
  rw [hW0]
  clear hW0
  have HN0 := hid hN0
  clear hN0
  go_loopw [35] (fun v wr => ∃ i : Nat, i ≤ n ∧ v = .int .i64 i ∧ NewR c S' (ts.map (·.subN f)) w (w.heap.size + 1 + 1 + 1) i wr) (fun v _ => n - (intOf v).toNat)
  case atStart => exact ⟨0, Nat.zero_le _, rfl, HN0.out⟩
  case round =>
    obtain ⟨i, hi, rfl, g, cap, xs, hob, hown, hgo, hres, hbel, hkids⟩ := hrel
    have HKD := hid hkids
    have HOB := hid hob
    have HRES := hid hres
    have HOWN := hid hown
    have zr := hbel.size
    have zo : w.heap.size + 1 + 1 + 1 < wr.heap.size := (Array.getElem?_eq_some_iff.1 hob).1
    have zg : w.heap.size + 2 ≤ g ∧ g < wr.heap.size := by
      obtain ⟨g', cap', e, h1, h2⟩ := own_slice hown (by simp [Value.ownBlock])
      simp only [Value.slice.injEq, Option.some.injEq, Addr.mk.injEq] at e
      obtain ⟨⟨rfl, _⟩, _⟩ := e
      exact ⟨h1, h2⟩
    obtain ⟨n0, n1, nf⟩ := two_cells hob
    obtain ⟨r0, r1, rf⟩ := two_cells hres
    clear hkids hob hres hown
    by_cases hlt : i < n
    · have hti : ts[i]? = some (ts[i]'(by have := HN.out; omega)) := List.getElem?_eq_getElem _
      obtain ⟨a, ha⟩ : ∃ a, ts[i]'(by have := HN.out; omega) = a := ⟨_, rfl⟩
      rw [ha] at hti
      obtain ⟨gk, c1, A1, m1, cap1, rfl, hgk, hk1, hk2, hkr⟩ := HK.out i a hti
      have HTI := hid hti
      have hgl := hS gk hgk
      have k1 := cell_below hk1 hgl hbel
      have k2 := cell_below hk2 hgl hbel
      have HIH := hid (fun (W : World) (hW : Below w.heap.size w W) => HIH0.out a (List.mem_of_getElem? hti) f S S' mb _ _ W (HST.out.keep (hW.block mb hmb) fun k hk => ⟨hk, hW.block k (hS' k hk)⟩) (hkr.keep fun k hk => ⟨hk, hW.block k (hS k hk)⟩)
        (fun k hk => Nat.lt_of_lt_of_le (hS k hk) hW.size) (fun k hk => Nat.lt_of_lt_of_le (hS' k hk) hW.size) (Nat.lt_of_lt_of_le hmb hW.size))
      have i1 : (0 : Int) ≤ (i : Int) := by omega
      have i2 : (i : Int) < (n : Int) := by omega
      clear hti ha hk1 hk2 hkr
      go_wp2_with fail
      obtain ⟨W9, hW9⟩ : ∃ W9, wr.alloc (.cells #[.int .u8 c1.toNat, .slice A1 m1 cap1] 31) = W9 := ⟨_, rfl⟩
      have p0 : W9.cell? ⟨wr.heap.size, 0, none⟩ = some (.int .u8 c1.toNat) := by rw [← hW9]; exact (two_cells (heap_new1 wr _)).1
      have p1 : W9.cell? ⟨wr.heap.size, 1, none⟩ = some (.slice A1 m1 cap1) := by rw [← hW9]; exact (two_cells (heap_new1 wr _)).2.1
      have hbr9 : Below wr.heap.size wr W9 := by rw [← hW9]; exact (Below.refl _ _).alloc (Nat.le_refl _) _
      have z9 : W9.heap.size = wr.heap.size + 1 := by rw [← hW9]; simp only [World.size_alloc]
      have hb9 : Below w.heap.size w W9 := hbel.trans (hbr9.mono zr)
      have q1 : W9.cell? ⟨w.heap.size + 1 + 1 + 1, 1, none⟩ = some (.slice (some ⟨g, 0, none⟩) i cap) := cell_below n1 zo hbr9
      rw [hW9]
      clear hW9 n0 n1 nf r0 r1 rf k1 k2
      have K4 : ∀ w4, Below W9.heap.size W9 w4 → W9.heap.size ≤ w4.heap.size ∧ w4.cell? ⟨w.heap.size + 1 + 1 + 1, 1, none⟩ = some (.slice (some ⟨g, 0, none⟩) i cap) ∧
          (∀ o, (w4.alloc o).cell? ⟨w.heap.size + 1 + 1 + 1, 1, none⟩ = some (.slice (some ⟨g, 0, none⟩) i cap)) ∧
          w4.ownsRow (w.heap.size + 2) 31 2 (.slice (some ⟨g, 0, none⟩) i cap) i xs ∧ w4.heap[w.heap.size + 1 + 1 + 1]? = some (.cells #[.int .u8 c.toNat, .slice (some ⟨g, 0, none⟩) i cap] 31 (0, 0)) := fun w4 hb4 => by
        have z4 : W9.heap.size ≤ w4.heap.size := hb4.size
        have hb4r := hbr9.trans (hb4.mono (by omega))
        have e4 := (hb4r.block (w.heap.size + 1 + 1 + 1) zo).trans HOB.out
        have q4 : w4.cell? ⟨w.heap.size + 1 + 1 + 1, 1, none⟩ = some (.slice (some ⟨g, 0, none⟩) i cap) := (two_cells e4).2.1
        exact ⟨z4, q4, fun o => (World.cell?_alloc_lt _ _ _ (by show w.heap.size + 1 + 1 + 1 < _; omega)).trans q4, own_kept HOWN.out (hb4r.block g zg.2), e4⟩
      have HK4 := hid K4
      clear K4
      have G5 : ∀ (w4 w5 : World) (o : Obj), (w4.alloc o).grownBy w5 (Value.slice (some ⟨g, 0, none⟩) i cap).ownBlock → W9.heap.size ≤ w4.heap.size → w4.heap[w.heap.size + 1 + 1 + 1]? = some (.cells #[.int .u8 c.toNat, .slice (some ⟨g, 0, none⟩) i cap] 31 (0, 0)) →
          w5.heap[w.heap.size + 1 + 1 + 1]? = some (.cells #[.int .u8 c.toNat, .slice (some ⟨g, 0, none⟩) i cap] 31 (0, 0)) := fun w4 w5 o hg5 z4 e4 => by
        rw [hg5.block _ (by simp only [World.size_alloc]; omega) (fun h => hgo (by simpa [Value.ownBlock] using h.symm)), Below.heap_alloc _ _ _ (by omega)]
        exact e4
      have HG5 := hid G5
      clear G5
      obtain ⟨i0, hi0, hz0, hz1, hz2⟩ := info_parts nodeInfoS
      go_region_law
        (first
          | (refine step_append_lies _ (by rfl) _ _ _ (by rfl) (w.heap.size + 2) 31 i0 _ 2 32 Tryz.underlying29 hi0 hz0 hz1 hz2 rfl (by omega) (.slice (some ⟨g, 0, none⟩) i cap) i xs (by rfl) (hown4.alloc _)
               ⟨w4.heap.size, 0, none⟩ 1 1 [.int .u8 c4.toNat, .slice A4 m4 cap4] (by rfl) (by rfl) (World.news_of_block (cs := #[.int .u8 c4.toNat, .slice A4 m4 cap4]) (t := 31) (fr := (0, 0)) (heap_alloc_new w4 _)) (by simp [Value.oneCell'])
               (by omega) (by simp only [maxLen]; omega) (by omega) (by simp only [World.size_alloc]; omega) (w4.heap.size + 1) (by simp) ?_
             intro gg cap5 w5 hown5 hg5 hat5 hlt5
             have e5 : w5.heap[w.heap.size + 1 + 1 + 1]? = some (.cells #[.int .u8 c.toNat, .slice (some ⟨g, 0, none⟩) i cap] 31 (0, 0)) := HG5.out w4 w5 _ hg5 z4 E4.out
             obtain ⟨_, c5, ff5⟩ := two_cells e5
             have f5 := ff5 1
             have E5 := hid e5
             clear e5 ff5)
          | (go_simp
             go_at_call 15
             refine (HIH.out _ hb9.drew).mono ?_
             intro e w4 hend
             obtain ⟨c4, A4, m4, cap4, rfl, hc4, hr4, hb4'⟩ := hend
             have hb4 : Below W9.heap.size W9 w4 := bel_undrew hb4'
             obtain ⟨z4, q4, q5, hown4, e4⟩ := HK4.out w4 hb4
             have E4 := hid e4
             have HR4 := hid hr4
             clear e4 hr4))
      all_goals
        go_wp2_with fail
        go_roundw
        case rel =>
          have zb5 : w4.heap.size + 1 ≤ w5.heap.size := by have := hg5.size; simpa only [World.size_alloc] using this
          have hgg : g = gg ∨ gg = w4.heap.size + 1 := by
            rcases hat5 with h | h
            · simp only [Value.ownBlock, Option.some.injEq] at h; exact .inl h
            · exact .inr h
          have hggn : gg ≠ w.heap.size + 1 + 1 + 1 := by omega
          have hk5 : ∀ j, j < w4.heap.size → j ≠ g → j ≠ w.heap.size + 1 + 1 + 1 → (w5.setCell ⟨w.heap.size + 1 + 1 + 1, 1, none⟩ (.slice (some ⟨gg, 0, none⟩) (i + 1) cap5)).heap[j]? = w4.heap[j]? := fun j h1 h2 h3 => by
            rw [Below.heap_setCell _ _ _ _ h3, hg5.block _ (by simp only [World.size_alloc]; omega) (by simp [Value.ownBlock]; omega), Below.heap_alloc _ _ _ h1]
          have hb4r := hbr9.trans (hb4.mono (by omega))
          refine ⟨i + 1, hlt, by go_num, gg, cap5, xs ++ [.int .u8 c4.toNat, .slice A4 m4 cap4], ?_, own_kept hown5 (Below.heap_setCell _ _ _ _ hggn), hggn, ?_, ?_, ?_⟩
          · have h := E5.out
            simp [World.setCell, Array.getElem?_modify, h]
          · rw [hk5 _ (by omega) (by omega) (by omega), hb4r.block _ (by omega)]
            exact HRES.out
          · exact (((hbel.trans (hb4r.mono zr)).alloc (by omega) _).grown hg5 (by simp only [World.size_alloc]; omega) (by intro k hk; simp [Value.ownBlock] at hk; omega)).setCell (by show w.heap.size ≤ w.heap.size + 1 + 1 + 1; omega) _
          · have htk : (ts.map (·.subN f)).take (i + 1) = (ts.map (·.subN f)).take i ++ [a.subN f] := by
              rw [List.take_add_one, List.getElem?_map, HTI.out]
              rfl
            rw [htk]
            refine Kids.snoc (HR4.out.keep fun k hk => ?_) (HKD.out.keep fun k hk => ?_)
            · have h2 : k < w4.heap.size := hk.elim (fun h => by have := hS' k h; omega) fun h => h.2
              have h3 : k ≠ g ∧ k ≠ w.heap.size + 1 + 1 + 1 := hk.elim (fun h => by have := hS' k h; omega) fun h => by have h1 : W9.heap.size ≤ k := h.1; omega
              refine ⟨hk.elim .inl fun h => .inr ?_, hk5 k h2 h3.1 h3.2⟩
              have h1 : W9.heap.size ≤ k := h.1
              refine ⟨by omega, by simp [World.setCell]; omega, by omega, h3.2⟩
            · have h2 : k < wr.heap.size := hk.elim (fun h => by have := hS' k h; omega) fun h => h.2.1
              have h3 : k ≠ g ∧ k ≠ w.heap.size + 1 + 1 + 1 := hk.elim (fun h => by have := hS' k h; omega) fun h => h.2.2
              refine ⟨hk.elim .inl fun h => .inr ⟨h.1, by simp [World.setCell]; omega, by omega, h3.2⟩, ?_⟩
              rw [hk5 k (by omega) h3.1 h3.2, hb4r.block k h2]
        case measure => simp [intOf]; omega
    · obtain rfl : i = n := by omega
      go_wp2_with fail
      have htk : (ts.map (·.subN f)).take i = ts.map (·.subN f) := List.take_of_length_le (by rw [List.length_map, HN.out]; exact Nat.le_refl _)
      have hkd := HKD.out
      rw [htk] at hkd
      refine bodyPost_ret (v := .agg #[.int .u8 c.toNat, .slice (some ⟨g, 0, none⟩) i cap]) (by simp [results, Tryz.results15, go_sem, r0, r1]) rfl ⟨g, cap, rfl, ?_, (hbel.setCell (by show w.heap.size ≤ w.heap.size + 1; omega) _).setCell (by show w.heap.size ≤ w.heap.size + 1; omega) _⟩
      have hset : ∀ k, k ≠ w.heap.size + 1 → ((wr.setCell ⟨w.heap.size + 1, 0, none⟩ (.int .u8 c.toNat)).setCell ⟨w.heap.size + 1, 1, none⟩ (.slice (some ⟨g, 0, none⟩) i cap)).heap[k]? = wr.heap[k]? := fun k hk => by
        rw [Below.heap_setCell _ _ _ _ hk, Below.heap_setCell _ _ _ _ hk]
      have hkd' : Kids ((wr.setCell ⟨w.heap.size + 1, 0, none⟩ (.int .u8 c.toNat)).setCell ⟨w.heap.size + 1, 1, none⟩ (.slice (some ⟨g, 0, none⟩) i cap)) (fun k => S' k ∨ (w.heap.size ≤ k ∧ k < wr.heap.size)) (ts.map (·.subN f)) xs := hkd.keep fun k hk => by
        have h1 : k ≠ w.heap.size + 1 := hk.elim (fun h => by have := hS' k h; omega) fun h => by omega
        exact ⟨hk.elim .inl fun h => .inr ⟨by omega, h.2.1⟩, hset k h1⟩
      have hsz : ((wr.setCell ⟨w.heap.size + 1, 0, none⟩ (.int .u8 c.toNat)).setCell ⟨w.heap.size + 1, 1, none⟩ (.slice (some ⟨g, 0, none⟩) i cap)).heap.size = wr.heap.size := by simp [World.setCell]
      rw [hsz]
      by_cases hi0 : i = 0
      · subst hi0
        have hnil : ts = [] := List.eq_nil_of_length_eq_zero HN.out
        rw [hnil]
        exact lf_mk
      · exact rep_mk (by omega) hkd' (by rw [List.length_map]; exact HN.out) (own_kept HOWN.out (hset g (by omega))) (.inr ⟨by omega, zg.2⟩)

/-- A variable that stands for something. -/
theorem put_some (c : UInt8) (k : Nat) (hk : l2ix c = (k : Int)) (hk12 : k < 12) (mb : Nat) (A0 : Option Addr) (cap0 : Nat) (w : World) (d : UInt8) (A : Option Addr) (m cap : Nat) (hd : d ≠ 0) (hm : mb < w.heap.size)
    (c0 : w.cell? ⟨mb, k * 2, none⟩ = some (.int .u8 d.toNat)) (c1 : w.cell? ⟨mb, k * 2 + 1, none⟩ = some (.slice A m cap)) :
    Calls Tryz.prog 15 #[.pointer (some ⟨mb, 0, none⟩), .agg #[.int .u8 c.toNat, .slice A0 0 cap0]] w fun e w' => e = .returned (.agg #[.int .u8 d.toNat, .slice A m cap]) ∧ Below w.heap.size w w' := by
  have HK := hid hk
  have k1 : (0 : Int) ≤ (k : Int) := by omega
  have k2 : (k : Int) < 12 := by omega
  have hd0 : ((d.toNat : Int) != 0) = true := by
    simp only [bne_iff_ne, ne_eq]
    intro e
    exact hd (UInt8.toNat_inj.1 (by simp; omega))
  have q0 : ∀ o o', ((w.alloc o).alloc o').cell? ⟨mb, k * 2, none⟩ = some (.int .u8 d.toNat) := fun o o' => cell_below c0 hm (((Below.refl _ _).alloc (Nat.le_refl _) o).alloc (by simp only [World.size_alloc]; omega) o')
  have q1 : ∀ o o', ((w.alloc o).alloc o').cell? ⟨mb, k * 2 + 1, none⟩ = some (.slice A m cap) := fun o o' => cell_below c1 hm (((Below.refl _ _).alloc (Nat.le_refl _) o).alloc (by simp only [World.size_alloc]; omega) o')
  clear hk c0 c1
  go_enter Tryz.func15, Tryz.ntmps15
  go_wp2_with fail
  refine (l2Index_at c (k : Int) HK _).mono ?_
  rintro e w1 ⟨rfl, rfl⟩
  go_wp2_with fail
  refine bodyPost_ret (v := .agg #[.int .u8 d.toNat, .slice A m cap]) (by simp [results, Tryz.results15, go_sem]) rfl ⟨rfl, ?_⟩
  exact (((Below.refl _ _).alloc (Nat.le_refl _) _).alloc (by simp only [World.size_alloc]; omega) _)

/-- A variable that stands for nothing. -/
theorem put_none (c : UInt8) (k : Nat) (hk : l2ix c = (k : Int)) (hk12 : k < 12) (mb : Nat) (A0 : Option Addr) (cap0 : Nat) (w : World) (hm : mb < w.heap.size) (c0 : w.cell? ⟨mb, k * 2, none⟩ = some (.int .u8 0)) :
    Calls Tryz.prog 15 #[.pointer (some ⟨mb, 0, none⟩), .agg #[.int .u8 c.toNat, .slice A0 0 cap0]] w fun e w' => (∃ A cap, e = .returned (.agg #[.int .u8 c.toNat, .slice A 0 cap])) ∧ Below w.heap.size w w' := by
  have HK := hid hk
  have k1 : (0 : Int) ≤ (k : Int) := by omega
  have k2 : (k : Int) < 12 := by omega
  have q0 : ∀ o o', ((w.alloc o).alloc o').cell? ⟨mb, k * 2, none⟩ = some (.int .u8 0) := fun o o' => cell_below c0 hm (((Below.refl _ _).alloc (Nat.le_refl _) o).alloc (by simp only [World.size_alloc]; omega) o')
  clear hk c0
  go_enter Tryz.func15, Tryz.ntmps15
  go_wp2_with fail
  refine (l2Index_at c (k : Int) HK _).mono ?_
  rintro e w1 ⟨rfl, rfl⟩
  go_wp2_with fail
  refine wp_loop_rounds 1 ?_
  rw [rounds_succ]
  go_wp2_with fail
  refine bodyPost_ret (v := .agg #[.int .u8 c.toNat, .slice (some ⟨w.heap.size + 1 + 1, 0, none⟩) 0 0]) (by simp [results, Tryz.results15, go_sem]) rfl ⟨⟨_, _, rfl⟩, ?_⟩
  exact ((((Below.refl _ _).alloc (Nat.le_refl _) _).alloc (by simp only [World.size_alloc]; omega) _).alloc (by simp only [World.size_alloc]; omega) _).alloc (by simp only [World.size_alloc]; omega) _

theorem put_any (t : Ty) (ht : t.inner) : PutAt t := by
  induction t with
  | lf c =>
    intro f S S' mb h p w hst hr hS hS' hmb
    obtain ⟨rfl, A, cap, rfl⟩ := hr
    by_cases hk : 0 ≤ l2ix c
    · obtain ⟨k, hk'⟩ : ∃ k : Nat, l2ix c = k := ⟨(l2ix c).toNat, by omega⟩
      have h12 : k < 12 := by have := (l2ix_var c).2.2.2; omega
      obtain ⟨cur, h1, h2, h3⟩ := hst
      have h4 := h3 c k hk'
      have hN : isN c = true := by simp [isN, hk]
      rcases hf : f c with _ | u
      · rw [hf] at h4
        refine (put_none c k hk' h12 mb A cap w hmb (cell_blk h1 h4.1)).mono ?_
        rintro e w' ⟨⟨A', cap', rfl⟩, hb⟩
        refine ⟨c, A', 0, cap', rfl, ht, ?_, hb⟩
        rw [Ty.subN, if_pos hN, hf]
        exact ⟨rfl, A', cap', rfl⟩
      · rw [hf] at h4
        obtain ⟨d, A', m, cap', hd, e0, e1, hrep⟩ := h4
        refine (put_some c k hk' h12 mb A cap w d A' m cap' hd hmb (cell_blk h1 e0) (cell_blk h1 e1)).mono ?_
        rintro e w' ⟨rfl, hb⟩
        refine ⟨d, A', m, cap', rfl, hd, ?_, hb⟩
        rw [Ty.subN, if_pos hN, hf]
        exact hrep.keep fun k hk => ⟨.inl hk, hb.block k (hS' k hk)⟩
    · have h1 : l2ix c = -1 := by have := (l2ix_var c).2.2.1; omega
      refine (putRowP c (hid h1) [] 0 cap A rfl (by omega) f S S' mb w (fun t h => by cases h) hst (fun j a h => by simp at h) hS hS' hmb).mono ?_
      rintro e w' ⟨g, cap', rfl, hrep, hb⟩
      refine ⟨c, _, 0, cap', rfl, ht, ?_, hb⟩
      rw [Ty.subN, if_neg (by simp [isN]; omega)]
      exact hrep
  | un c a ih =>
    intro f S S' mb h p w hst hr hS hS' hmb
    obtain ⟨rfl, A, cap, rfl, hk⟩ := un_kids hr
    refine (putRowP c (hid ht.1) [a] 1 cap A rfl (by omega) f S S' mb w (fun t h => by simp at h; subst h; exact ih ht.2.2) hst hk hS hS' hmb).mono ?_
    rintro e w' ⟨g, cap', rfl, hrep, hb⟩
    exact ⟨c, _, 1, cap', rfl, ht.2.1, hrep, hb⟩
  | bi c a b iha ihb =>
    intro f S S' mb h p w hst hr hS hS' hmb
    obtain ⟨rfl, A, cap, rfl, hk⟩ := bi_kids hr
    refine (putRowP c (hid ht.1) [a, b] 2 cap A rfl (by omega) f S S' mb w (fun t h => by simp at h; rcases h with rfl | rfl; exact iha ht.2.2.1; exact ihb ht.2.2.2) hst hk hS hS' hmb).mono ?_
    rintro e w' ⟨g, cap', rfl, hrep, hb⟩
    exact ⟨c, _, 2, cap', rfl, ht.2.1, hrep, hb⟩

end Go.Proofs.YtjpdiahbnhemoaaGreat
