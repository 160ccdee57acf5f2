/- The model's source of drawn inputs: pick answers a number in its range, of and num an element. The model's source of drawn inputs: what a pick, an element of a list and a drawn type come to. The model's source opened over an input, and a text drawn that is mostly a type. -/
import Derived.Test.YtlpfgiegapelmaaDoorReadT
import Derived.IntWalk
import Derived.BigQuiet
import Derived.Deep.QuietTactic
import Derived.Test.YtlpfgiegapelmaaDoorMarksB
import Derived.Deep.RegionWith
namespace Go.Proofs.YtlpfgiegapelmaaDoor
open Go.RowKit

/-- The source at block rb: its bytes (len of them, at A), and how many numbers it has given. -/
def Src (w : World) (rb : Nat) (A : Option Addr) (len cap p : Nat) : Prop :=
  w.heap[rb]? = some (.cells #[.slice A len cap, .int .i64 p] 89 (0, 0)) ∧ len ≤ 2000 ∧
    (0 < len → ∃ g o, A = some ⟨g, o, none⟩ ∧ g ≠ rb ∧ ∀ i, i < len → ∃ v : Int, w.cell? ⟨g, o + i, none⟩ = some (.int .u8 v) ∧ 0 ≤ v ∧ v ≤ 255)

theorem two_cellsD {w : World} {b : Nat} {h p : Value} {T : TypeId} (e : w.heap[b]? = some (.cells #[h, p] T (0, 0))) :
    w.cell? ⟨b, 0, none⟩ = some h ∧ w.cell? ⟨b, 1, none⟩ = some p ∧ ∀ k, w.frozen? ⟨b, k, none⟩ = false := by
  refine ⟨?_, ?_, fun k => ?_⟩
  · unfold World.cell?; rw [show w.heap[(⟨b, 0, none⟩ : Addr).block]? = _ from e]; rfl
  · unfold World.cell?; rw [show w.heap[(⟨b, 1, none⟩ : Addr).block]? = _ from e]; rfl
  · unfold World.frozen?; rw [show w.heap[(⟨b, k, none⟩ : Addr).block]? = _ from e]; simp

set_option maxHeartbeats 1000000 in
set_option maxRecDepth 100000 in
theorem pick_none (rb : Nat) (A : Option Addr) (len cap p : Nat) (n : Int) (w : World) (hs : Src w rb A len cap p) (hp : p ≤ 1099511627776) (hn : n < 1) :
    Calls Tryd.prog 64 #[.pointer (some ⟨rb, 0, none⟩), .int .i64 n] w fun e w' => e = .returned (.int .i64 0) ∧ w' = w.setCell ⟨rb, 1, none⟩ (.int .i64 (p + 1)) := by
  obtain ⟨c0, c1, fz⟩ := two_cellsD hs.1
  go_enter Tryd.func64, Tryd.ntmps64
  go_wp2_with fail
  go_ret
  exact ⟨rfl, rfl⟩

set_option maxHeartbeats 1000000 in
set_option maxRecDepth 100000 in
theorem pick_empty (rb : Nat) (A : Option Addr) (cap p : Nat) (n : Int) (w : World) (hs : Src w rb A 0 cap p) (hp : p ≤ 1099511627776) (hn : 1 ≤ n) :
    Calls Tryd.prog 64 #[.pointer (some ⟨rb, 0, none⟩), .int .i64 n] w fun e w' => e = .returned (.int .i64 0) ∧ w' = w.setCell ⟨rb, 1, none⟩ (.int .i64 (p + 1)) := by
  obtain ⟨c0, c1, fz⟩ := two_cellsD hs.1
  go_enter Tryd.func64, Tryd.ntmps64
  go_wp2_with fail
  go_ret
  exact ⟨rfl, rfl⟩

set_option maxHeartbeats 1000000 in
set_option maxRecDepth 100000 in
theorem pick_byte (rb g o len cap p : Nat) (v : Int) (n : Int) (w : World) (hs : Src w rb (some ⟨g, o, none⟩) len cap p) (hg : g ≠ rb) (hv : w.cell? ⟨g, o + p, none⟩ = some (.int .u8 v)) (hv0 : 0 ≤ v) (hv1 : v ≤ 255) (hp : p < len) (hn : 1 ≤ n) :
    Calls Tryd.prog 64 #[.pointer (some ⟨rb, 0, none⟩), .int .i64 n] w fun e w' => e = .returned (.int .i64 (v % n)) ∧ w' = w.setCell ⟨rb, 1, none⟩ (.int .i64 (p + 1)) := by
  obtain ⟨c0, c1, fz⟩ := two_cellsD hs.1
  have hl := hs.2.1
  have hg' : ¬ g = rb := hg
  have h0 : ((len : Int) == 0) = false := by simp; omega
  go_enter Tryd.func64, Tryd.ntmps64
  go_wp2_with fail
  go_ret
  exact ⟨rfl, rfl⟩

theorem i64_xor_nat (a b : Nat) (ha : a < 4611686018427387904) (hb : b < 4611686018427387904) : bits .xor .i64 (a : Int) (b : Int) = ((a ^^^ b : Nat) : Int) := by
  have hx : a ^^^ b < 2 ^ 62 := Nat.xor_lt_two_pow (by omega) (by omega)
  have h1 : (BitVec.ofInt 64 (a : Int)).toNat = a := by
    rw [BitVec.ofInt_natCast, BitVec.toNat_ofNat]; exact Nat.mod_eq_of_lt (by omega)
  have h2 : (BitVec.ofInt 64 (b : Int)).toNat = b := by
    rw [BitVec.ofInt_natCast, BitVec.toNat_ofNat]; exact Nat.mod_eq_of_lt (by omega)
  show IntKind.i64.wrap ((BitVec.ofInt 64 (a : Int) ^^^ BitVec.ofInt 64 (b : Int)).toNat : Int) = _
  rw [BitVec.toNat_xor, h1, h2, IntKind.wrap_i64]
  omega
theorem wrap_in (n : Int) (h : -9223372036854775808 ≤ n ∧ n ≤ 9223372036854775807) : IntKind.i64.wrap n = n := by rw [IntKind.wrap_i64]; omega
theorem wrap_to (n : Int) (m : Int) (e : n = m) (h : -9223372036854775808 ≤ n ∧ n ≤ 9223372036854775807) : IntKind.i64.wrap n = m := (wrap_in n h).trans e

set_option maxHeartbeats 4000000 in
set_option maxRecDepth 100000 in
theorem pick_mix (rb g o len cap p : Nat) (v1 v2 : Int) (n : Int) (w : World) (hs : Src w rb (some ⟨g, o, none⟩) len cap p) (hg : g ≠ rb) (hp0 : p ≤ 1099511627776) (hlen : 0 < len)
    (hv : w.cell? ⟨g, o + p % len, none⟩ = some (.int .u8 v1)) (hv' : w.cell? ⟨g, o + (p * 7 + 3) % len, none⟩ = some (.int .u8 v2)) (a0 : 0 ≤ v1) (a1 : v1 ≤ 255) (b0 : 0 ≤ v2) (b1 : v2 ≤ 255) (hp : len ≤ p) (hn : 1 ≤ n) (hn2 : n ≤ 9223372036854775807) :
    Calls Tryd.prog 64 #[.pointer (some ⟨rb, 0, none⟩), .int .i64 n] w fun e w' => ∃ k m, e = .returned (.int .i64 k) ∧ 0 ≤ k ∧ k < n ∧ w' = (w.setCell ⟨rb, 1, none⟩ (.int .i64 (p + 1))).drewN m := by
  obtain ⟨c0, c1, fz⟩ := two_cellsD hs.1
  have hl := hs.2.1
  have hg' : ¬ g = rb := hg
  have h0 : ((len : Int) == 0) = false := by simp; omega
  obtain ⟨m1, hm1⟩ : ∃ m1, p % len = m1 := ⟨_, rfl⟩
  obtain ⟨m2, hm2⟩ : ∃ m2, (p * 7 + 3) % len = m2 := ⟨_, rfl⟩
  obtain ⟨q1, hq1⟩ : ∃ q1, p / len = q1 := ⟨_, rfl⟩
  have l1 : m1 < len := by rw [← hm1]; exact Nat.mod_lt _ hlen
  have l2 : m2 < len := by rw [← hm2]; exact Nat.mod_lt _ hlen
  have l3 : q1 ≤ p := by rw [← hq1]; exact Nat.div_le_self _ _
  rw [hm1] at hv
  rw [hm2] at hv'
  obtain ⟨N, hN⟩ : ∃ N : Nat, v1 * 131 + v2 * 1117 + (p : Int) * 29 + (q1 : Int) * 53 = (N : Int) := ⟨(v1 * 131 + v2 * 1117 + (p : Int) * 29 + (q1 : Int) * 53).toNat, by omega⟩
  have hNb : N < 4611686018427387904 := by omega
  have hN2 : N / 64 < 4611686018427387904 := by omega
  obtain ⟨M, hM⟩ : ∃ M, N ^^^ N / 64 = M := ⟨_, rfl⟩
  have hMb : M < 4611686018427387904 := by rw [← hM]; exact Nat.xor_lt_two_pow (n := 62) (by omega) (by omega)
  have hk0 : 0 ≤ (M : Int) % n := Int.emod_nonneg _ (by omega)
  have hk1 : (M : Int) % n < n := Int.emod_lt_of_pos _ (by omega)
  have HK := hid (And.intro hk0 hk1)
  have i1 : (0 : Int) ≤ (m1 : Int) := by omega
  have i2 : (m1 : Int) < (len : Int) := by omega
  have i3 : (0 : Int) ≤ (m2 : Int) := by omega
  have i4 : (m2 : Int) < (len : Int) := by omega
  have n0 : ((n : Int) == 0) = false := by simp; omega
  have x1 := wrap_in v1 (by omega)
  have x2 := wrap_in (v1 * 131) (by omega)
  have x3 := wrap_in ((p : Int) * 7) (by omega)
  have x4 := wrap_in ((p : Int) * 7 + 3) (by omega)
  have x5 := wrap_in v2 (by omega)
  have x6 := wrap_in (v2 * 1117) (by omega)
  have x7 := wrap_in (v1 * 131 + v2 * 1117) (by omega)
  have x8 := wrap_in ((p : Int) * 29) (by omega)
  have x9 := wrap_in (v1 * 131 + v2 * 1117 + (p : Int) * 29) (by omega)
  have x10 := wrap_in ((q1 : Int) * 53) (by omega)
  have x11 := wrap_to (v1 * 131 + v2 * 1117 + (p : Int) * 29 + (q1 : Int) * 53) N hN (by omega)
  have x12 := wrap_in (q1 : Int) (by omega)
  have x13 := wrap_in ((N / 64 : Nat) : Int) (by omega)
  have X := hid (And.intro x1 (And.intro x2 (And.intro x3 (And.intro x4 (And.intro x5 (And.intro x6 (And.intro x7 (And.intro x8 (And.intro x9 (And.intro x10 (And.intro x11 (And.intro x12 x13))))))))))))
  have t1 : Int.tmod (p : Int) (len : Int) = (m1 : Int) := by rw [← hm1]; rfl
  have t2 : Int.tmod ((p : Int) * 7 + 3) (len : Int) = (m2 : Int) := by rw [← hm2]; rfl
  have t3 : Int.tdiv (p : Int) (len : Int) = (q1 : Int) := by rw [← hq1]; rfl
  have t4 : Int.tdiv (N : Int) 64 = ((N / 64 : Nat) : Int) := rfl
  have t5 := i64_xor_nat N (N / 64) hNb hN2
  rw [hM] at t5
  have t6 : Int.tmod (M : Int) n = (M : Int) % n := Int.tmod_eq_emod_of_nonneg (by omega)
  have T := hid (And.intro t4 (And.intro t5 t6))
  clear x1 x2 x3 x4 x5 x6 x7 x8 x9 x10 x11 x12 x13 t4 t5 t6 hN hM hm1 hm2 hq1 hk0 hk1
  go_enter Tryd.func64, Tryd.ntmps64
  go_wp2_with fail
  obtain ⟨x1, x2, x3, x4, x5, x6, x7, x8, x9, x10, x11, x12, x13⟩ := X.out
  go_quiet (fail)
  clear x1 x2 x3 x4 x5 x6 x7 x8 x9 x10 x11 x12
  have t4 := T.out.1
  go_wp2_with fail
  go_ret
  refine ⟨_, _, rfl, ?_, ?_, rfl⟩
  · rw [show bits .xor .i64 (N : Int) ((N : Int) / 64) = (M : Int) from T.out.2.1, T.out.2.2]
    exact HK.out.1
  · rw [show bits .xor .i64 (N : Int) ((N : Int) / 64) = (M : Int) from T.out.2.1, T.out.2.2]
    exact HK.out.2

end Go.Proofs.YtlpfgiegapelmaaDoor

namespace Go.Proofs.YtlpfgiegapelmaaDoor
open Go.RowKit

/-- The source at block rb, which has given at most P numbers. -/
def Rdr (w : World) (rb : Nat) (P : Nat) : Prop := ∃ A len cap p, Src w rb A len cap p ∧ p ≤ P ∧ rb < w.heap.size ∧ (∀ g o, A = some ⟨g, o, none⟩ → 0 < len → g < rb)
theorem Rdr.le {w : World} {rb P P' : Nat} (h : Rdr w rb P) (hp : P ≤ P') : Rdr w rb P' := by
  obtain ⟨A, len, cap, p, h1, h2, h3, h4⟩ := h
  exact ⟨A, len, cap, p, h1, Nat.le_trans h2 hp, h3, h4⟩
theorem Rdr.keep' {w w' : World} {rb P : Nat} (h : Rdr w rb P) (hz : rb < w'.heap.size) (hb : ∀ k, k ≤ rb → w'.heap[k]? = w.heap[k]?) : Rdr w' rb P := by
  obtain ⟨A, len, cap, p, ⟨h1, h2, h3⟩, h4, h5, h6⟩ := h
  refine ⟨A, len, cap, p, ⟨(hb rb (Nat.le_refl _)).trans h1, h2, fun hl => ?_⟩, h4, hz, h6⟩
  obtain ⟨g, o, e, hg, hc⟩ := h3 hl
  refine ⟨g, o, e, hg, fun i hi => ?_⟩
  obtain ⟨v, hv, h⟩ := hc i hi
  refine ⟨v, ?_, h⟩
  rw [World.cell?_of_block (w := w) (hb g (Nat.le_of_lt (h6 g o e hl)))]
  exact hv
theorem Rdr.lt {w : World} {rb P : Nat} (h : Rdr w rb P) : rb < w.heap.size := by obtain ⟨_, _, _, _, _, _, h, _⟩ := h; exact h
theorem Rdr.keep {w w' : World} {rb P : Nat} (h : Rdr w rb P) (hb : Below w.heap.size w w') : Rdr w' rb P :=
  h.keep' (Nat.lt_of_lt_of_le h.lt hb.size) fun k hk => hb.block k (Nat.lt_of_le_of_lt hk h.lt)

/-- What a number drawn comes to: at most K more numbers given, nothing else of old memory written. -/
def Gave (rb P K : Nat) (w w' : World) : Prop := Rdr w' rb (P + K) ∧ But w.heap.size rb w w'
theorem Gave.trans {rb P K K' : Nat} {a b c : World} (h : Gave rb P K a b) (h' : Gave rb (P + K) K' b c) : Gave rb P (K + K') a c :=
  ⟨by rw [← Nat.add_assoc]; exact h'.1, h.2.trans (h'.2.mono h.2.size)⟩

theorem pick_any (rb P : Nat) (n : Int) (w : World) (hr : Rdr w rb P) (hP : P ≤ 1099511627776) (hn : 1 ≤ n) (hn2 : n ≤ 9223372036854775807) :
    Calls Tryd.prog 64 #[.pointer (some ⟨rb, 0, none⟩), .int .i64 n] w fun e w' => ∃ k : Int, e = .returned (.int .i64 k) ∧ 0 ≤ k ∧ k < n ∧ Gave rb P 1 w w' := by
  obtain ⟨A, len, cap, p, hs, hp, hrb, hA⟩ := hr
  have key : ∀ m, Gave rb P 1 w ((w.setCell ⟨rb, 1, none⟩ (.int .i64 (p + 1))).drewN m) := by
    intro m
    refine ⟨⟨A, len, cap, p + 1, ⟨?_, hs.2.1, fun hl => ?_⟩, by omega, by simpa [World.setCell] using hrb, hA⟩, ((But.refl _ _ _).set _ _).drewN m⟩
    · have h := hs.1
      show (w.setCell _ _).heap[rb]? = _
      simp [World.setCell, Array.getElem?_modify, h]
    · obtain ⟨g, o, e, hg, hc⟩ := hs.2.2 hl
      refine ⟨g, o, e, hg, fun i hi => ?_⟩
      obtain ⟨v, hv, h⟩ := hc i hi
      refine ⟨v, ?_, h⟩
      show (w.setCell _ _).cell? _ = _
      rw [World.cell?_of_block (w := w) (Below.heap_setCell _ _ _ _ hg)]
      exact hv
  by_cases h0 : len = 0
  · subst h0
    refine (pick_empty rb A cap p n w hs (by omega) hn).mono ?_
    rintro e w' ⟨rfl, rfl⟩
    exact ⟨0, rfl, Int.le_refl _, by omega, key 0⟩
  · obtain ⟨g, o, rfl, hg, hc⟩ := hs.2.2 (by omega)
    by_cases h1 : p < len
    · obtain ⟨v, hv, v0, v1⟩ := hc p h1
      refine (pick_byte rb g o len cap p v n w hs hg hv v0 v1 h1 hn).mono ?_
      rintro e w' ⟨rfl, rfl⟩
      exact ⟨_, rfl, Int.emod_nonneg _ (by omega), Int.emod_lt_of_pos _ (by omega), key 0⟩
    · obtain ⟨v, hv, v0, v1⟩ := hc (p % len) (Nat.mod_lt _ (by omega))
      obtain ⟨v', hv', v0', v1'⟩ := hc ((p * 7 + 3) % len) (Nat.mod_lt _ (by omega))
      refine (pick_mix rb g o len cap p v v' n w hs hg (by omega) (by omega) hv hv' v0 v1 v0' v1' (by omega) hn hn2).mono ?_
      rintro e w' ⟨k, m, rfl, hk0, hk1, rfl⟩
      exact ⟨k, rfl, hk0, hk1, key m⟩

set_option maxHeartbeats 400000 in
set_option maxRecDepth 100000 in
theorem of_any (rb P g o n cap : Nat) (xs : List ByteArray) (w : World) (hr : Rdr w rb P) (hP : P ≤ 1099511627776) (hx : Strs w (some ⟨g, o, none⟩) n xs) (hn : 0 < n) (hn2 : n ≤ 1000) (hg : g < w.heap.size) (hg2 : g ≠ rb) :
    Calls Tryd.prog 65 #[.pointer (some ⟨rb, 0, none⟩), .slice (some ⟨g, o, none⟩) n cap] w fun e w' => ∃ x, x ∈ xs ∧ e = .returned (.string x) ∧ Gave rb P 1 w w' := by
  have HX := hid hx
  clear hx
  go_enter Tryd.func65, Tryd.ntmps65
  go_wp2_with fail
  refine (pick_any rb P n w hr hP (by omega) (by omega)).mono ?_
  rintro e w1 ⟨k, rfl, hk0, hk1, hG⟩
  obtain ⟨j, rfl⟩ : ∃ j : Nat, k = (j : Int) := ⟨k.toNat, by omega⟩
  obtain ⟨g', o', hgo, _, hc⟩ := HX.out.2 hn
  simp only [Option.some.injEq, Addr.mk.injEq, and_true] at hgo
  obtain ⟨rfl, rfl⟩ := hgo
  have hjx : j < xs.length := by have := HX.out.1; omega
  have hcell : w1.cell? ⟨g, o + j, none⟩ = some (.string (xs[j]'hjx)) := by
    rw [World.cell?_of_block (w := w) (hG.2.block g hg hg2)]
    exact hc j _ (List.getElem?_eq_getElem hjx)
  have hmem := List.getElem_mem hjx
  obtain ⟨x, hx⟩ : ∃ x, xs[j]'hjx = x := ⟨_, rfl⟩
  rw [hx] at hcell hmem
  have HM := hid hmem
  have HG := hid hG
  clear hc hx hmem hG
  go_wp2_with fail
  go_ret
  exact ⟨x, HM.out, rfl, HG.out⟩

/-- Texts of types drawn are short. -/
def dLen : Nat → Nat
  | 0 => 1
  | d + 1 => 4 + 2 * dLen d
def dPick : Nat → Nat
  | 0 => 1
  | d + 1 => 2 + 2 * dPick d
theorem dPick_pos (d : Nat) : 1 ≤ dPick d := by cases d <;> simp [dPick]; omega
theorem dLen_pos (d : Nat) : 1 ≤ dLen d := by cases d <;> simp [dLen]; omega

theorem lit_strs (w : World) (cs : Array Value) (T : TypeId) (xs : List ByteArray) (hcs : cs = (xs.map Value.string).toArray) : Strs (w.alloc (.cells cs T)) (some ⟨w.heap.size, 0, none⟩) xs.length xs := by
  subst hcs
  refine ⟨rfl, fun _ => ⟨w.heap.size, 0, rfl, by simp only [World.size_alloc]; omega, fun j x hj => ?_⟩⟩
  rw [Nat.zero_add]
  unfold World.cell?
  rw [show (w.alloc (.cells _ T)).heap[(⟨w.heap.size, j, none⟩ : Addr).block]? = _ from heap_new1 _ _]
  simp [hj]

theorem one_of {xs : List ByteArray} (h : (xs.all fun x => x.size == 1) = true) {x : ByteArray} (hx : x ∈ xs) : x.size = 1 := by simpa using List.all_eq_true.1 h x hx

/-- An element of a list of strings that is written out. -/
theorem of_new (rb P n : Nat) (cs : Array Value) (T : TypeId) (xs : List ByteArray) (w : World) (hr : Rdr w rb P) (hP : P ≤ 1099511627776) (hcs : cs = (xs.map Value.string).toArray) (hn : n = xs.length) (h0 : 0 < n) (h1 : n ≤ 1000) :
    Calls Tryd.prog 65 #[.pointer (some ⟨rb, 0, none⟩), .slice (some ⟨w.heap.size, 0, none⟩) n n] (w.alloc (.cells cs T)) fun e w' => ∃ x, x ∈ xs ∧ e = .returned (.string x) ∧ Gave rb P 1 w w' := by
  have hb : Below w.heap.size w (w.alloc (.cells cs T)) := (Below.refl _ _).alloc (Nat.le_refl _) _
  have hrb : rb < w.heap.size := by obtain ⟨_, _, _, _, _, _, h, _⟩ := hr; exact h
  subst hn
  refine (of_any rb P w.heap.size 0 xs.length xs.length xs _ (hr.keep hb) hP (lit_strs w cs T xs hcs) h0 h1 (by simp only [World.size_alloc]; omega) (by omega)).mono ?_
  rintro e w' ⟨x, hx, rfl, hG⟩
  exact ⟨x, hx, rfl, hG.1, (But.of_below hb).trans (hG.2.mono hb.size)⟩

theorem z1 : ({ data := #[112, 40] } : ByteArray).size = 2 := rfl
theorem z2 : ({ data := #[109, 40] } : ByteArray).size = 2 := rfl
theorem z3 : ({ data := #[108, 40] } : ByteArray).size = 2 := rfl
theorem z4 : ({ data := #[44] } : ByteArray).size = 1 := rfl
theorem z5 : ({ data := #[41] } : ByteArray).size = 1 := rfl

end Go.Proofs.YtlpfgiegapelmaaDoor

namespace Go.Proofs.YtlpfgiegapelmaaDoor
open Go.RowKit

/-- A slice of bytes. -/
def Bts (w : World) (A : Option Addr) (len : Nat) : Prop :=
  0 < len → ∃ g o, A = some ⟨g, o, none⟩ ∧ g < w.heap.size ∧ ∀ i, i < len → ∃ v : Int, w.cell? ⟨g, o + i, none⟩ = some (.int .u8 v) ∧ 0 ≤ v ∧ v ≤ 255
theorem Bts.below {w w' : World} {A : Option Addr} {len : Nat} (h : Bts w A len) (hb : Below w.heap.size w w') : Bts w' A len := by
  intro hl
  obtain ⟨g, o, e, hg, hc⟩ := h hl
  refine ⟨g, o, e, Nat.lt_of_lt_of_le hg hb.size, fun i hi => ?_⟩
  obtain ⟨v, hv, h⟩ := hc i hi
  exact ⟨v, cell_below hv hg hb, h⟩

/-- An argument of bytes, opened. -/
theorem bts_of {w : World} {a : Addr} {len : Nat} {zs : List Int} (hl : len ≤ zs.length) (hcell : ∀ i, i < zs.length → w.cell? (a.add i) = some (.int .u8 (zs.getD i 0))) (hws : ∀ n ∈ zs, (Lit.int .u8 n).wf = true) : Bts w (some a) len := by
  intro hn
  have h0 := hcell 0 (by omega)
  have e0 : a.add 0 = a := by simp [Addr.add]
  rw [e0] at h0
  obtain ⟨b, o, sp⟩ := a
  have hsp : sp = none := by
    unfold World.cell? at h0
    split at h0
    · cases sp with
      | none => rfl
      | some k => simp at h0
    · cases h0
  subst hsp
  have hb : b < w.heap.size := by
    unfold World.cell? at h0
    split at h0
    · rename_i c _ _ hh
      exact (Array.getElem?_eq_some_iff.1 hh).1
    · cases h0
  refine ⟨b, o, rfl, hb, fun i hi => ⟨zs.getD i 0, ?_, ?_⟩⟩
  · have hc := hcell i (by omega)
    rwa [show (⟨b, o, none⟩ : Addr).add i = ⟨b, o + i, none⟩ by unfold Addr.add; split <;> simp_all] at hc
  · have hm : zs.getD i 0 ∈ zs := by
      rw [List.getD, List.getElem?_eq_getElem (by omega)]
      exact List.getElem_mem _
    have := hws _ hm
    simp [Lit.wf, IntKind.min, IntKind.max, IntKind.bits, IntKind.signed] at this ⊢
    omega

/-- An opened source. -/
def Opened (w : World) (e : Ending) (w' : World) : Prop := ∃ rb, e = .returned (.pointer (some ⟨rb, 0, none⟩)) ∧ w.heap.size ≤ rb ∧ Rdr w' rb 0 ∧ Below w.heap.size w w'

theorem rdr_new {w w' : World} {A : Option Addr} {len cap : Nat} {rb : Nat} (hb : Bts w A len) (h : Below w.heap.size w w') (hrb : w.heap.size ≤ rb) (hc : w'.heap[rb]? = some (.cells #[.slice A len cap, .int .i64 0] 89 (0, 0))) (hl : len ≤ 2000) : Rdr w' rb 0 := by
  refine ⟨A, len, cap, 0, ⟨hc, hl, fun h0 => ?_⟩, Nat.le_refl _, (Array.getElem?_eq_some_iff.1 hc).1, fun g o e h0 => ?_⟩
  · obtain ⟨g, o, e, hg, hx⟩ := (hb.below h) h0
    obtain ⟨g', o', e', hg', _⟩ := hb h0
    have : g = g' := by rw [e] at e'; simp at e'; exact e'.1
    refine ⟨g, o, e, by omega, hx⟩
  · obtain ⟨g', o', e', hg', _⟩ := hb h0
    rw [e] at e'
    simp at e'
    omega

set_option maxHeartbeats 400000 in
set_option maxRecDepth 100000 in
theorem l13Open_any (A : Option Addr) (len cap : Nat) (w : World) (hl : len ≤ cap) (hm : cap ≤ maxLen) (hb : Bts w A len) :
    Calls Tryd.prog 51 #[.slice A len cap] w (Opened w) := by
  unfold maxLen at hm
  have HB := hid hb
  clear hb
  by_cases h : 2000 < len
  · obtain ⟨g, o, rfl, hg, hc⟩ := HB.out (by omega)
    clear hc
    have h' : (2000 : Int) < (len : Int) := by omega
    go_enter Tryd.func51, Tryd.ntmps51
    go_wp2_with fail
    go_ret
    refine ⟨w.heap.size, rfl, Nat.le_refl _, rdr_new (A := some ⟨g, o, none⟩) (len := 2000) (cap := cap) (w := w) (fun _ => ?_) ((Below.refl _ _).alloc (Nat.le_refl _) _) (Nat.le_refl _) (heap_new1 _ _) (Nat.le_refl _), (Below.refl _ _).alloc (Nat.le_refl _) _⟩
    obtain ⟨g', o', e, hg', hc⟩ := HB.out (by omega)
    exact ⟨g', o', e, hg', fun i hi => hc i (by omega)⟩
  · have h' : ¬ (2000 : Int) < (len : Int) := by omega
    go_enter Tryd.func51, Tryd.ntmps51
    go_wp2_with fail
    go_ret
    exact ⟨w.heap.size, rfl, Nat.le_refl _, rdr_new HB.out ((Below.refl _ _).alloc (Nat.le_refl _) _) (Nat.le_refl _) (heap_new1 _ _) (by omega), (Below.refl _ _).alloc (Nat.le_refl _) _⟩

theorem small_of {xs : List ByteArray} (h : (xs.all fun x => decide (x.size ≤ 1)) = true) {x : ByteArray} (hx : x ∈ xs) : x.size ≤ 1 := by simpa using List.all_eq_true.1 h x hx

end Go.Proofs.YtlpfgiegapelmaaDoor
