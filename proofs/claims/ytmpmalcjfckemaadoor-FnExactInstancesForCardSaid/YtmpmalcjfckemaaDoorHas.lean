/- Whether a class stands in a list, in the program. -/
import Derived.Test.YtmpmalcjfckemaaDoorErr
namespace Go.Proofs.YtmpmalcjfckemaaDoor
open Go.RowKit

theorem cf_has1 (args : Array Value) (w : World) : (callFunc 57 args).run Tryd.prog w = .ok (.enter 57 args) w := by kernel_rfl

set_option maxHeartbeats 400000 in
theorem has1_any (x y s : ByteArray) (g : Nat) (w : World) (hg : g < w.heap.size) (hc : w.cell? ⟨g, 0, none⟩ = some (.string s)) :
    Calls Tryd.prog 57 #[.agg #[.string x, .string y], .pointer (some ⟨g, 0, none⟩)] w fun e w' => e = .returned (.bool (x.toList == s.toList)) ∧ Below w.heap.size w w' := by
  have hc2 := fun o => cell_below hc hg ((Below.refl _ w).alloc (Nat.le_refl _) o)
  go_enter Tryd.func57, Tryd.ntmps57
  go_wp2_with fail
  go_ret
  exact ⟨rfl, (Below.refl _ _).alloc (Nat.le_refl _) _⟩

set_option maxHeartbeats 1000000 in
set_option maxRecDepth 100000 in
theorem indexC_any (fn : Nat) (k1 : Value) (hcf : ∀ args w, (callFunc fn args).run Tryd.prog w = .ok (.enter fn args) w) (A : Option Addr) (n cap : Nat) (zs : List (ByteArray × ByteArray)) (r : ByteArray × ByteArray → Bool) (w : World) (hn : n ≤ maxLen) (ha : Prs w A n zs)
    (HC : ∀ W x y, Below w.heap.size w W → Calls Tryd.prog fn #[.agg #[.string x, .string y], k1] W fun e w' => e = .returned (.bool (r (x, y))) ∧ Below W.heap.size W w') :
    Calls Tryd.prog 68 #[.slice A n cap, .func (.func fn) #[] #[k1]] w fun e w' => ∃ q : Int, e = .returned (.int .i64 q) ∧ decide (0 ≤ q) = zs.any r ∧ Below w.heap.size w w' := by
  have HA := hid ha
  have HCC := hid HC
  clear ha HC
  unfold maxLen at hn
  go_enter Tryd.func68, Tryd.ntmps68
  go_wp2_with fail
  go_loopw [8] (fun i wr => ∃ k : Nat, k ≤ n ∧ i = .int .i64 k ∧ (∀ j z, j < k → zs[j]? = some z → r z = false) ∧ Below w.heap.size w wr) (fun i _ => n - (intOf i).toNat)
  case atStart => exact ⟨0, Nat.zero_le _, rfl, (fun j z h => absurd h (Nat.not_lt_zero _)), Below.refl _ _⟩
  case round =>
    obtain ⟨k, hk, rfl, hno, hbel⟩ := hrel
    have HNO := hid hno
    clear hno
    by_cases hlt : k < n
    · obtain ⟨g, o, rfl, hg, hca⟩ := HA.out.2 (by omega)
      have hx : zs[k]? = some (zs[k]'(by have := HA.out.1; omega)) := List.getElem?_eq_getElem _
      obtain ⟨ca, cb⟩ := hca k _ hx
      obtain ⟨⟨x, y⟩, ex⟩ : ∃ z, zs[k]'(by have := HA.out.1; omega) = z := ⟨_, rfl⟩
      rw [ex] at ca cb hx
      have HX := hid hx
      have ca' := cell_below ca hg hbel
      have cb' := cell_below cb hg hbel
      have HI := hid (HCC.out wr x y hbel)
      clear hca hx ex ca cb
      have i1 : (0 : Int) ≤ (k : Int) := by omega
      have i2 : (k : Int) < (n : Int) := by omega
      obtain ⟨b, hb⟩ : ∃ b, r (x, y) = b := ⟨_, rfl⟩
      rw [hb] at HI
      have HB := hid hb
      clear hb
      go_wp2_with fail
      refine HI.out.mono ?_
      rintro e w1 ⟨rfl, d1⟩
      cases b
      · go_wp2_with fail
        go_roundw
        case rel =>
          refine ⟨k + 1, hlt, by go_num, fun j z hj hz => ?_, hbel.trans (d1.mono hbel.size)⟩
          by_cases e : j = k
          · subst e
            rw [HX.out] at hz
            injection hz with hz
            rw [← hz]
            exact HB.out
          · exact HNO.out j z (by omega) hz
        case measure => simp [intOf]; omega
      · go_wp2_with fail
        go_ret
        refine ⟨(k : Int), rfl, ?_, hbel.trans (d1.mono hbel.size)⟩
        rw [decide_eq_true i1]
        exact (List.any_eq_true.2 ⟨(x, y), List.mem_of_getElem? HX.out, HB.out⟩).symm
    · go_wp2_with fail
      go_ret
      refine ⟨-1, rfl, ?_, hbel⟩
      rw [show decide ((0 : Int) ≤ -1) = false from rfl]
      refine (Bool.eq_false_iff.2 fun h => ?_).symm
      obtain ⟨z, hz, e⟩ := List.any_eq_true.1 h
      obtain ⟨j, hj, rfl⟩ := List.getElem_of_mem hz
      rw [HNO.out j _ (by have := HA.out.1; omega) (List.getElem?_eq_getElem hj)] at e
      cases e

set_option maxHeartbeats 400000 in
set_option maxRecDepth 100000 in
theorem containsC_any (fn : Nat) (k1 : Value) (hcf : ∀ args w, (callFunc fn args).run Tryd.prog w = .ok (.enter fn args) w) (A : Option Addr) (n cap : Nat) (zs : List (ByteArray × ByteArray)) (r : ByteArray × ByteArray → Bool) (w : World) (hn : n ≤ maxLen) (ha : Prs w A n zs)
    (HC : ∀ W x y, Below w.heap.size w W → Calls Tryd.prog fn #[.agg #[.string x, .string y], k1] W fun e w' => e = .returned (.bool (r (x, y))) ∧ Below W.heap.size W w') :
    Calls Tryd.prog 56 #[.slice A n cap, .func (.func fn) #[] #[k1]] w fun e w' => e = .returned (.bool (zs.any r)) ∧ Below w.heap.size w w' := by
  have HI := hid (indexC_any fn k1 hcf A n cap zs r w hn ha HC)
  clear HC ha
  go_enter Tryd.func56, Tryd.ntmps56
  go_wp2_with fail
  refine HI.out.mono ?_
  rintro e w1 ⟨q, rfl, hq, hb⟩
  have HQ := hid hq
  clear hq
  go_wp2_with fail
  go_ret
  exact ⟨by rw [← HQ.out]; simp, hb⟩

set_option maxHeartbeats 400000 in
set_option maxRecDepth 100000 in
theorem hasName_any (A : Option Addr) (n cap : Nat) (zs : List (ByteArray × ByteArray)) (s : ByteArray) (w : World) (hn : n ≤ maxLen) (ha : Prs w A n zs) :
    Calls Tryd.prog 41 #[.slice A n cap, .string s] w fun e w' => e = .returned (.bool (hasNm zs s)) ∧ Below w.heap.size w w' := by
  have hb0 : ∀ o, Below w.heap.size w (w.alloc o) := fun o => (Below.refl _ _).alloc (Nat.le_refl _) o
  have HI := hid (fun (W : World) (hW : Below w.heap.size w W) (hg : w.heap.size < W.heap.size) (hc : W.cell? ⟨w.heap.size, 0, none⟩ = some (.string s)) => containsC_any 57 (.pointer (some ⟨w.heap.size, 0, none⟩)) cf_has1 A n cap zs (fun z => z.1.toList == s.toList) W hn (ha.below hW) fun W' x y hW' => has1_any x y s w.heap.size W' (Nat.lt_of_lt_of_le hg hW'.size) (cell_below hc hg hW'))
  clear ha
  go_enter Tryd.func41, Tryd.ntmps41
  go_wp2_with fail
  refine (HI.out _ (hb0 _) (by simp only [World.size_alloc]; omega) (cell_of1 (heap_new1 w _))).mono ?_
  rintro e w1 ⟨rfl, hb⟩
  go_wp2_with fail
  go_ret
  exact ⟨rfl, (hb0 _).trans (hb.mono (hb0 _).size)⟩

end Go.Proofs.YtmpmalcjfckemaaDoor
