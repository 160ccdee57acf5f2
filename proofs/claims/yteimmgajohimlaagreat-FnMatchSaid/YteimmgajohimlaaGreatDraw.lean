/- The model's source of drawn inputs: pick answers a number in its range, of and num an element. -/
import Derived.Test.YteimmgajohimlaaGreatReadT
import Derived.IntWalk
import Derived.BigQuiet
import Derived.Deep.QuietTactic
namespace Go.Proofs.YteimmgajohimlaaGreat
open Go.RowKit

/-- The source at block rb: its bytes (len of them, at A), and how many numbers it has given. -/
def Src (w : World) (rb : Nat) (A : Option Addr) (len cap p : Nat) : Prop :=
  w.heap[rb]? = some (.cells #[.slice A len cap, .int .i64 p] 86 (0, 0)) ∧ len ≤ 2000 ∧
    (0 < len → ∃ g o, A = some ⟨g, o, none⟩ ∧ g ≠ rb ∧ ∀ i, i < len → ∃ v : Int, w.cell? ⟨g, o + i, none⟩ = some (.int .u8 v) ∧ 0 ≤ v ∧ v ≤ 255)

theorem two_cellsD {w : World} {b : Nat} {h p : Value} {T : TypeId} (e : w.heap[b]? = some (.cells #[h, p] T (0, 0))) :
    w.cell? ⟨b, 0, none⟩ = some h ∧ w.cell? ⟨b, 1, none⟩ = some p ∧ ∀ k, w.frozen? ⟨b, k, none⟩ = false := by
  refine ⟨?_, ?_, fun k => ?_⟩
  · unfold World.cell?; rw [show w.heap[(⟨b, 0, none⟩ : Addr).block]? = _ from e]; rfl
  · unfold World.cell?; rw [show w.heap[(⟨b, 1, none⟩ : Addr).block]? = _ from e]; rfl
  · unfold World.frozen?; rw [show w.heap[(⟨b, k, none⟩ : Addr).block]? = _ from e]; simp

set_option maxHeartbeats 1000000 in
set_option maxRecDepth 100000 in
theorem pick_none (rb : Nat) (A : Option Addr) (len cap p : Nat) (n : Int) (w : World) (hs : Src w rb A len cap p) (hp : p ≤ 1099511627776) (hn : n < 1) :
    Calls Tryz.prog 52 #[.pointer (some ⟨rb, 0, none⟩), .int .i64 n] w fun e w' => e = .returned (.int .i64 0) ∧ w' = w.setCell ⟨rb, 1, none⟩ (.int .i64 (p + 1)) := by
  obtain ⟨c0, c1, fz⟩ := two_cellsD hs.1
  go_enter Tryz.func52, Tryz.ntmps52
  go_wp2_with fail
  go_ret
  exact ⟨rfl, rfl⟩

set_option maxHeartbeats 1000000 in
set_option maxRecDepth 100000 in
theorem pick_empty (rb : Nat) (A : Option Addr) (cap p : Nat) (n : Int) (w : World) (hs : Src w rb A 0 cap p) (hp : p ≤ 1099511627776) (hn : 1 ≤ n) :
    Calls Tryz.prog 52 #[.pointer (some ⟨rb, 0, none⟩), .int .i64 n] w fun e w' => e = .returned (.int .i64 0) ∧ w' = w.setCell ⟨rb, 1, none⟩ (.int .i64 (p + 1)) := by
  obtain ⟨c0, c1, fz⟩ := two_cellsD hs.1
  go_enter Tryz.func52, Tryz.ntmps52
  go_wp2_with fail
  go_ret
  exact ⟨rfl, rfl⟩

set_option maxHeartbeats 1000000 in
set_option maxRecDepth 100000 in
theorem pick_byte (rb g o len cap p : Nat) (v : Int) (n : Int) (w : World) (hs : Src w rb (some ⟨g, o, none⟩) len cap p) (hg : g ≠ rb) (hv : w.cell? ⟨g, o + p, none⟩ = some (.int .u8 v)) (hv0 : 0 ≤ v) (hv1 : v ≤ 255) (hp : p < len) (hn : 1 ≤ n) :
    Calls Tryz.prog 52 #[.pointer (some ⟨rb, 0, none⟩), .int .i64 n] w fun e w' => e = .returned (.int .i64 (v % n)) ∧ w' = w.setCell ⟨rb, 1, none⟩ (.int .i64 (p + 1)) := by
  obtain ⟨c0, c1, fz⟩ := two_cellsD hs.1
  have hl := hs.2.1
  have hg' : ¬ g = rb := hg
  have h0 : ((len : Int) == 0) = false := by simp; omega
  go_enter Tryz.func52, Tryz.ntmps52
  go_wp2_with fail
  go_ret
  exact ⟨rfl, rfl⟩

theorem i64_xor_nat (a b : Nat) (ha : a < 4611686018427387904) (hb : b < 4611686018427387904) : bits .xor .i64 (a : Int) (b : Int) = ((a ^^^ b : Nat) : Int) := by
  have hx : a ^^^ b < 2 ^ 62 := Nat.xor_lt_two_pow (by omega) (by omega)
  have h1 : (BitVec.ofInt 64 (a : Int)).toNat = a := by
    rw [BitVec.ofInt_natCast, BitVec.toNat_ofNat]; exact Nat.mod_eq_of_lt (by omega)
  have h2 : (BitVec.ofInt 64 (b : Int)).toNat = b := by
    rw [BitVec.ofInt_natCast, BitVec.toNat_ofNat]; exact Nat.mod_eq_of_lt (by omega)
  show IntKind.i64.wrap ((BitVec.ofInt 64 (a : Int) ^^^ BitVec.ofInt 64 (b : Int)).toNat : Int) = _
  rw [BitVec.toNat_xor, h1, h2, IntKind.wrap_i64]
  omega
theorem wrap_in (n : Int) (h : -9223372036854775808 ≤ n ∧ n ≤ 9223372036854775807) : IntKind.i64.wrap n = n := by rw [IntKind.wrap_i64]; omega
theorem wrap_to (n : Int) (m : Int) (e : n = m) (h : -9223372036854775808 ≤ n ∧ n ≤ 9223372036854775807) : IntKind.i64.wrap n = m := (wrap_in n h).trans e

set_option maxHeartbeats 4000000 in
set_option maxRecDepth 100000 in
theorem pick_mix (rb g o len cap p : Nat) (v1 v2 : Int) (n : Int) (w : World) (hs : Src w rb (some ⟨g, o, none⟩) len cap p) (hg : g ≠ rb) (hp0 : p ≤ 1099511627776) (hlen : 0 < len)
    (hv : w.cell? ⟨g, o + p % len, none⟩ = some (.int .u8 v1)) (hv' : w.cell? ⟨g, o + (p * 7 + 3) % len, none⟩ = some (.int .u8 v2)) (a0 : 0 ≤ v1) (a1 : v1 ≤ 255) (b0 : 0 ≤ v2) (b1 : v2 ≤ 255) (hp : len ≤ p) (hn : 1 ≤ n) (hn2 : n ≤ 9223372036854775807) :
    Calls Tryz.prog 52 #[.pointer (some ⟨rb, 0, none⟩), .int .i64 n] w fun e w' => ∃ k m, e = .returned (.int .i64 k) ∧ 0 ≤ k ∧ k < n ∧ w' = (w.setCell ⟨rb, 1, none⟩ (.int .i64 (p + 1))).drewN m := by
  obtain ⟨c0, c1, fz⟩ := two_cellsD hs.1
  have hl := hs.2.1
  have hg' : ¬ g = rb := hg
  have h0 : ((len : Int) == 0) = false := by simp; omega
  obtain ⟨m1, hm1⟩ : ∃ m1, p % len = m1 := ⟨_, rfl⟩
  obtain ⟨m2, hm2⟩ : ∃ m2, (p * 7 + 3) % len = m2 := ⟨_, rfl⟩
  obtain ⟨q1, hq1⟩ : ∃ q1, p / len = q1 := ⟨_, rfl⟩
  have l1 : m1 < len := by rw [← hm1]; exact Nat.mod_lt _ hlen
  have l2 : m2 < len := by rw [← hm2]; exact Nat.mod_lt _ hlen
  have l3 : q1 ≤ p := by rw [← hq1]; exact Nat.div_le_self _ _
  rw [hm1] at hv
  rw [hm2] at hv'
  obtain ⟨N, hN⟩ : ∃ N : Nat, v1 * 131 + v2 * 1117 + (p : Int) * 29 + (q1 : Int) * 53 = (N : Int) := ⟨(v1 * 131 + v2 * 1117 + (p : Int) * 29 + (q1 : Int) * 53).toNat, by omega⟩
  have hNb : N < 4611686018427387904 := by omega
  have hN2 : N / 64 < 4611686018427387904 := by omega
  obtain ⟨M, hM⟩ : ∃ M, N ^^^ N / 64 = M := ⟨_, rfl⟩
  have hMb : M < 4611686018427387904 := by rw [← hM]; exact Nat.xor_lt_two_pow (n := 62) (by omega) (by omega)
  have hk0 : 0 ≤ (M : Int) % n := Int.emod_nonneg _ (by omega)
  have hk1 : (M : Int) % n < n := Int.emod_lt_of_pos _ (by omega)
  have HK := hid (And.intro hk0 hk1)
  have i1 : (0 : Int) ≤ (m1 : Int) := by omega
  have i2 : (m1 : Int) < (len : Int) := by omega
  have i3 : (0 : Int) ≤ (m2 : Int) := by omega
  have i4 : (m2 : Int) < (len : Int) := by omega
  have n0 : ((n : Int) == 0) = false := by simp; omega
  have x1 := wrap_in v1 (by omega)
  have x2 := wrap_in (v1 * 131) (by omega)
  have x3 := wrap_in ((p : Int) * 7) (by omega)
  have x4 := wrap_in ((p : Int) * 7 + 3) (by omega)
  have x5 := wrap_in v2 (by omega)
  have x6 := wrap_in (v2 * 1117) (by omega)
  have x7 := wrap_in (v1 * 131 + v2 * 1117) (by omega)
  have x8 := wrap_in ((p : Int) * 29) (by omega)
  have x9 := wrap_in (v1 * 131 + v2 * 1117 + (p : Int) * 29) (by omega)
  have x10 := wrap_in ((q1 : Int) * 53) (by omega)
  have x11 := wrap_to (v1 * 131 + v2 * 1117 + (p : Int) * 29 + (q1 : Int) * 53) N hN (by omega)
  have x12 := wrap_in (q1 : Int) (by omega)
  have x13 := wrap_in ((N / 64 : Nat) : Int) (by omega)
  have X := hid (And.intro x1 (And.intro x2 (And.intro x3 (And.intro x4 (And.intro x5 (And.intro x6 (And.intro x7 (And.intro x8 (And.intro x9 (And.intro x10 (And.intro x11 (And.intro x12 x13))))))))))))
  have t1 : Int.tmod (p : Int) (len : Int) = (m1 : Int) := by rw [← hm1]; rfl
  have t2 : Int.tmod ((p : Int) * 7 + 3) (len : Int) = (m2 : Int) := by rw [← hm2]; rfl
  have t3 : Int.tdiv (p : Int) (len : Int) = (q1 : Int) := by rw [← hq1]; rfl
  have t4 : Int.tdiv (N : Int) 64 = ((N / 64 : Nat) : Int) := rfl
  have t5 := i64_xor_nat N (N / 64) hNb hN2
  rw [hM] at t5
  have t6 : Int.tmod (M : Int) n = (M : Int) % n := Int.tmod_eq_emod_of_nonneg (by omega)
  have T := hid (And.intro t4 (And.intro t5 t6))
  clear x1 x2 x3 x4 x5 x6 x7 x8 x9 x10 x11 x12 x13 t4 t5 t6 hN hM hm1 hm2 hq1 hk0 hk1
  go_enter Tryz.func52, Tryz.ntmps52
  go_wp2_with fail
  obtain ⟨x1, x2, x3, x4, x5, x6, x7, x8, x9, x10, x11, x12, x13⟩ := X.out
  go_quiet (fail)
  clear x1 x2 x3 x4 x5 x6 x7 x8 x9 x10 x11 x12
  have t4 := T.out.1
  go_wp2_with fail
  go_ret
  refine ⟨_, _, rfl, ?_, ?_, rfl⟩
  · rw [show bits .xor .i64 (N : Int) ((N : Int) / 64) = (M : Int) from T.out.2.1, T.out.2.2]
    exact HK.out.1
  · rw [show bits .xor .i64 (N : Int) ((N : Int) / 64) = (M : Int) from T.out.2.1, T.out.2.2]
    exact HK.out.2

end Go.Proofs.YteimmgajohimlaaGreat
