/- errors.Join, at a few errors. -/
import Derived.Test.YtmpmalcjfckemaaDoorErr
namespace Go.Proofs.YtmpmalcjfckemaaDoor
open Go.RowKit

/-- How many are errors. -/
def cntE (vs : List (Value × Bool)) : Nat := (vs.filter fun p => p.2).length
theorem cntE_snoc {vs : List (Value × Bool)} {k : Nat} {p : Value × Bool} (h : vs[k]? = some p) : cntE (vs.take (k + 1)) = cntE (vs.take k) + (if p.2 = true then 1 else 0) := by
  unfold cntE
  rw [List.take_add_one, h, List.filter_append, List.length_append]
  rcases hb : p.2 with _ | _ <;> simp [hb]
theorem cntE_le (vs : List (Value × Bool)) : cntE vs ≤ vs.length := List.length_filter_le _ _
theorem cntE_any (vs : List (Value × Bool)) : (vs.any fun p => p.2) = decide (0 < cntE vs) := by
  unfold cntE
  induction vs with
  | nil => rfl
  | cons p vs ih =>
    rw [List.any_cons, ih]
    rcases hb : p.2 with _ | _
    · rw [List.filter_cons_of_neg (by simp [hb]), Bool.false_or]
    · rw [List.filter_cons_of_pos (by simp [hb]), Bool.true_or, decide_eq_true (by simp)]

theorem errorInfo : (Tryd.prog.info? 97).map (fun i => (i.zero, i.size, i.bytes)) = some (some .nilIface, 1, 16) := by kernel_rfl
theorem run_makeErr (n : Nat) (hn : n ≤ 1048576) (w : World) :
    (Instr.makeSlice 133 (.int .i64 0) (.int .i64 (n : Int))).run Tryd.prog w = .ok (.slice (some ⟨w.heap.size, 0, none⟩) 0 n) (w.alloc (.cells (madeCells #[.nilIface] n) 97)) := by
  obtain ⟨i, hi, hz, hs, hb⟩ := info_parts errorInfo
  have := run_make (P := Tryd.prog) w 133 97 i _ Tryd.underlying133 hi hz .i64 .i64 0 n (by omega) (by omega) (by rw [hb]; omega) (by omega)
  rw [this, hs, Nat.mul_one]
  rfl

set_option maxHeartbeats 2000000 in
set_option maxRecDepth 100000 in
theorem join_any (g o N cap : Nat) (vs : List (Value × Bool)) (w : World) (hN : vs.length = N) (h3 : N ≤ 3) (hv : ∀ p ∈ vs, IsErr p.1 p.2) (hc : ∀ (j : Nat) p, vs[j]? = some p → w.cell? ⟨g, o + j, none⟩ = some p.1) (hg : g < w.heap.size) :
    Calls Tryd.prog 66 #[.slice (some ⟨g, o, none⟩) N cap] w fun e w' => (∃ v, e = .returned v ∧ IsErr v (vs.any fun p => p.2)) ∧ Below w.heap.size w w' := by
  have HN := hid hN
  have HV := hid hv
  have HC := hid hc
  clear hN hv hc
  go_enter Tryd.func66, Tryd.ntmps66
  go_wp2_with fail
  go_loopw [3, 11] (fun n i wr => ∃ k : Nat, k ≤ N ∧ i = .int .i64 k ∧ n = .int .i64 (cntE (vs.take k) : Nat) ∧ w = wr) (fun _ i _ => N - (intOf i).toNat)
  case atStart => exact ⟨0, Nat.zero_le _, rfl, rfl, rfl⟩
  case round =>
    obtain ⟨k, hk, rfl, rfl, rfl⟩ := hrel
    have hle : cntE (vs.take k) ≤ 3 := Nat.le_trans (cntE_le _) (by rw [List.length_take]; omega)
    obtain ⟨c, hcn⟩ : ∃ c, cntE (vs.take k) = c := ⟨_, rfl⟩
    have HCN := hid hcn
    rw [hcn] at hle ⊢
    clear hcn
    by_cases hlt : k < N
    · have hx : vs[k]? = some (vs[k]'(by have := HN.out; omega)) := List.getElem?_eq_getElem _
      obtain ⟨⟨v, b⟩, ex⟩ : ∃ z, vs[k]'(by have := HN.out; omega) = z := ⟨_, rfl⟩
      rw [ex] at hx
      have cv := HC.out k _ hx
      have hv := HV.out _ (List.mem_of_getElem? hx)
      have HX := hid (cntE_snoc hx)
      have i1 : (0 : Int) ≤ (k : Int) := by omega
      have i2 : (k : Int) < (N : Int) := by omega
      clear hx ex
      rcases hv with ⟨hb, hv⟩ | ⟨hb, t, a, hv⟩
      · simp only at hb hv
        subst hb
        subst hv
        have HX2 := hid (show cntE (vs.take (k + 1)) = c by rw [HX.out, HCN.out]; rfl)
        go_wp2_with fail
        go_roundw
        case rel => exact ⟨k + 1, hlt, by go_num, by rw [HX2.out], by trivial⟩
        case measure => simp [intOf]; omega
      · simp only at hb hv
        subst hb
        subst hv
        have HX2 := hid (show cntE (vs.take (k + 1)) = c + 1 by rw [HX.out, HCN.out]; rfl)
        go_wp2_with fail
        go_roundw
        case rel => exact ⟨k + 1, hlt, by go_num, by rw [HX2.out]; go_num, by trivial⟩
        case measure => simp [intOf]; omega
    · have hc2 : cntE vs = c := by rw [← HCN.out, List.take_of_length_le (by have := HN.out; omega)]
      have HC2 := hid hc2
      clear hc2
      by_cases hc0 : c = 0
      · have HAN := hid (show (vs.any fun p => p.2) = false by rw [cntE_any, HC2.out, hc0]; rfl)
        subst hc0
        go_wp2_with fail
        go_ret
        rw [HAN.out]
        exact ⟨⟨_, rfl, IsErr.nil⟩, Below.refl _ _⟩
      · have HAN := hid (show (vs.any fun p => p.2) = true by rw [cntE_any, HC2.out]; exact decide_eq_true (by omega))
        have hc1 : ((c : Int) == 0) = false := by simp; omega
        have hmk := run_makeErr c (by omega)
        obtain ⟨i0, hi0, hz0, hz1, hz2⟩ := info_parts errorInfo
        have hc3 : c ≤ 3 := hle
        go_wp2_with fail
        clear hmk
        have hh0 : ((w.alloc (.cells (madeCells #[.nilIface] c) 97)).alloc (.cells #[.slice (some ⟨w.heap.size, 0, none⟩) 0 c] 136)).heap[w.heap.size]? = some (.cells (madeCells #[.nilIface] c) 97 (0, 0)) := by
          rw [Below.heap_alloc _ _ _ (by simp only [World.size_alloc]; omega)]
          exact heap_new1 _ _
        have hh1 : ((w.alloc (.cells (madeCells #[.nilIface] c) 97)).alloc (.cells #[.slice (some ⟨w.heap.size, 0, none⟩) 0 c] 136)).heap[w.heap.size + 1]? = some (.cells #[.slice (some ⟨w.heap.size, 0, none⟩) 0 c] 136 (0, 0)) := by
          have := heap_new1 (w.alloc (.cells (madeCells #[.nilIface] c) 97)) (.cells #[.slice (some ⟨w.heap.size, 0, none⟩) 0 c] 136)
          rw [World.size_alloc] at this
          exact this
        have HH0 := hid hh0
        have HH1 := hid hh1
        clear hh0 hh1
        go_loopw [28] (fun i wr => ∃ k : Nat, k ≤ N ∧ i = .int .i64 k ∧ ∃ (gs m cap' : Nat) (xs : List Value), wr.heap[w.heap.size + 1]? = some (.cells #[.slice (some ⟨gs, 0, none⟩) m cap'] 136 (0, 0)) ∧ wr.ownsRow w.heap.size 97 1 (.slice (some ⟨gs, 0, none⟩) m cap') m xs ∧ gs ≠ w.heap.size + 1 ∧ m ≤ k ∧ Below w.heap.size w wr ∧ w.heap.size + 1 < wr.heap.size) (fun i _ => N - (intOf i).toNat)
        case atStart =>
          exact ⟨0, Nat.zero_le _, rfl, w.heap.size, 0, c, [], HH1.out, ⟨rfl, .inr ⟨w.heap.size, c, _, rfl, Nat.le_refl _, HH0.out, Nat.zero_le _, by unfold maxLen; omega, by simp [madeCells], rfl⟩⟩, by omega, Nat.le_refl _, ((Below.refl _ _).alloc (Nat.le_refl _) _).alloc (by simp only [World.size_alloc]; omega) _, by simp only [World.size_alloc]; omega⟩
        case round =>
          obtain ⟨k2, hk2, rfl, gs, m, cap', xs, heb, hown, hne, hm, hbel, hsz⟩ := hrel
          have HOWN := hid hown
          have HEB := hid heb
          have hgs := hown.lt gs rfl
          clear hown heb
          by_cases hlt2 : k2 < N
          · have hx : vs[k2]? = some (vs[k2]'(by have := HN.out; omega)) := List.getElem?_eq_getElem _
            obtain ⟨⟨v, b⟩, ex⟩ : ∃ z, vs[k2]'(by have := HN.out; omega) = z := ⟨_, rfl⟩
            rw [ex] at hx
            have cv := cell_below (HC.out k2 _ hx) hg hbel
            have hv := HV.out _ (List.mem_of_getElem? hx)
            have i1 : (0 : Int) ≤ (k2 : Int) := by omega
            have i2 : (k2 : Int) < (N : Int) := by omega
            clear hx ex
            rcases hv with ⟨hb, hv⟩ | ⟨hb, t, a, hv⟩
            · simp only at hb hv
              subst hb
              subst hv
              go_wp2_with fail
              go_roundw
              case rel => exact ⟨k2 + 1, hlt2, by go_num, gs, m, cap', xs, HEB.out, HOWN.out, hne, by omega, hbel, hsz⟩
              case measure => simp [intOf]; omega
            · simp only at hb hv
              subst hb
              subst hv
              have e0 := cell_of1 HEB.out
              go_wp2_with (first
                | (at_builtin; refine wpList_append_lies _ rfl _ _ 133 rfl w.heap.size 97 i0 _ 1 16 Tryd.underlying133 hi0 hz0 hz1 hz2 rfl (by decide) _ _ _ rfl (HOWN.out.alloc _) ⟨wr.heap.size, 0, none⟩ 1 1 [.iface t (.pointer (some a))] rfl rfl ?c1 ?c2 (by decide) ?c3 ?c4 ?c5 (wr.heap.size + 1) (World.size_alloc _ _) ?_)
                | fail)
              case c2 => simp [Value.oneCell']
              case c3 => unfold maxLen; omega
              case c4 => omega
              case c5 => omega
              intro g5 cap5 w5 hown5 hg5 hat5 q5
              have HO5 := hid hown5
              have z5 := hg5.size
              simp only [World.size_alloc] at z5
              have heb5 : w5.heap[w.heap.size + 1]? = some (.cells #[.slice (some ⟨gs, 0, none⟩) m cap'] 136 (0, 0)) := by
                rw [hg5.block _ (by simp only [World.size_alloc]; omega) (by simp [Value.ownBlock]; omega), Below.heap_alloc _ _ _ (by omega)]
                exact HEB.out
              have hb5 : Below w.heap.size w w5 := (hbel.alloc (by omega) _).grown hg5 (by simp only [World.size_alloc]; omega) (fun j hj => by simp [Value.ownBlock] at hj; omega)
              have hne5 : g5 ≠ w.heap.size + 1 := by
                rcases hat5 with h | h
                · simp only [Value.ownBlock, Option.some.injEq] at h
                  omega
                · omega
              have e5 := cell_of1 heb5
              have f5 := frz_blk heb5 0
              have HE5 := hid heb5
              clear hown5 heb5
              go_wp2_with fail
              go_roundw
              case rel =>
                have hset : (w5.setCell ⟨w.heap.size + 1, 0, none⟩ (.slice (some ⟨g5, 0, none⟩) (m + 1) cap5)).heap[w.heap.size + 1]? = some (.cells #[.slice (some ⟨g5, 0, none⟩) (m + 1) cap5] 136 (0, 0)) := by
                  simp [World.setCell, Array.getElem?_modify, HE5.out]
                refine ⟨k2 + 1, hlt2, by go_num, g5, m + 1, cap5, _, hset, own_kept HO5.out (Below.heap_setCell _ _ _ _ hne5), hne5, by omega, ?_, by simp [World.setCell]; omega⟩
                exact hb5.trans ⟨rfl, rfl, rfl, by simp [World.setCell], fun j hj => Below.heap_setCell _ _ _ _ (by show j ≠ w.heap.size + 1; omega)⟩
              case measure => simp [intOf]; omega
          · go_wp2_with fail
            go_ret
            rw [HAN.out]
            exact ⟨⟨_, rfl, .inr ⟨rfl, _, _, rfl⟩⟩, hbel⟩

end Go.Proofs.YtmpmalcjfckemaaDoor
