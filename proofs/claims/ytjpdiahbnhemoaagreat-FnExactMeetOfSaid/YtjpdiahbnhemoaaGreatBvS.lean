/- Whether bindings are valid, in the model. -/
import Derived.Test.YtjpdiahbnhemoaaGreatBvI
import Derived.Test.YtjpdiahbnhemoaaGreatRen
import Derived.Deep.RegionWith
import Derived.Deep.RegionHeld3
import Derived.BigQuiet
import Derived.Laws.Cover1
namespace Go.Proofs.YtjpdiahbnhemoaaGreat
open Go.RowKit

theorem blk_cells2 {w : World} {b : Nat} {h p : Value} {T : TypeId} (e : w.heap[b]? = some (.cells #[h, p] T (0, 0))) : w.cell? ⟨b, 0, none⟩ = some h ∧ w.cell? ⟨b, 1, none⟩ = some p := by
  constructor
  · unfold World.cell?; rw [show w.heap[(⟨b, 0, none⟩ : Addr).block]? = _ from e]; rfl
  · unfold World.cell?; rw [show w.heap[(⟨b, 1, none⟩ : Addr).block]? = _ from e]; rfl
/-- A quiet walk behind a letter: Lean must not unfold what is left of the region. -/
theorem quiet_by {P : Program} {ops : Array Oper} {C : World → Prop} {Q : Act → Prop} {l : List Oper} {a : Act}
    (h : ∀ W : List Oper → Act → Prop, (∀ a, Q a → W [] a) →
      (∀ o rest a, Region.wanted o (yielded ops a.tmps) = true → (∃ v, (∀ w, C w → o.quietAt P a C w v) ∧ W rest (a.put o.dst v)) → W (o :: rest) a) →
      (∀ o rest a, Region.wanted o (yielded ops a.tmps) = false → W rest (a.put o.dst undef) → W (o :: rest) a) → W l a) : wpQuiet P ops C Q l a :=
  h (wpQuiet P ops C Q) (fun _ h => wpQuiet_nil h) (fun _ _ _ hw ⟨v, h1, h2⟩ => BigFrame.wpQuiet_want hw fun _ hK => ⟨v, h1, hK _ h2⟩) (fun _ _ _ hw h => BigFrame.wpQuiet_skip hw h)
theorem less_one (a b : UInt8) : Op.bytesLess [a] [b] = decide (a < b) := by
  simp [Op.bytesLess]
theorem var_pos (d : UInt8) (h : isVarB d = true) : (0 : UInt8) < d := by
  revert h
  refine u8_all (p := fun d => isVarB d = true → (0 : UInt8) < d) ?_ d
  decide +kernel
theorem one_list {x : ByteArray} (h : x.size = 1) : ∃ d, x.data.toList = [d] ∧ ∀ (hz : 0 < x.size), x[0] = d := by
  have hl : x.data.toList.length = 1 := by simpa using h
  match hx : x.data.toList, hl with
  | [d], _ =>
    refine ⟨d, rfl, fun hz => ?_⟩
    have e : x.data.toList[0]? = some d := by rw [hx]; rfl
    have e2 : x.data.toList[0]? = some x[0] := by
      rw [List.getElem?_eq_getElem (by simpa using hz)]
      rfl
    rw [e2] at e
    injection e

set_option maxHeartbeats 4000000 in
set_option maxRecDepth 100000 in
theorem bvS_any (A : Option Addr) (n c : Nat) (zs : List (ByteArray × ByteArray)) (w : World) (ha : Prs w A n zs) (hz : ∀ z ∈ zs, z.1.size ≤ maxLen ∧ z.2.size ≤ maxLen) (hn : n ≤ 1048576) :
    Calls Tryz.prog 13 #[.slice A n c] w fun e w' => e = .returned (.bool (bvOf zs)) ∧ Below w.heap.size w w' := by
  have HA := hid ha
  have HZ := hid hz
  clear ha hz
  go_enter Tryz.func13, Tryz.ntmps13
  go_wp2_with fail
  go_loopw [7] (fun i wr => ∃ (k : Nat) (last : UInt8), k ≤ n ∧ i = .int .i64 k ∧ bvOf zs = bvGo last (zs.drop k) ∧ ((k = 0 ∧ last = 0) ∨ ∃ z, 0 < k ∧ zs[k - 1]? = some z ∧ z.1.data.toList = [last]) ∧ Below w.heap.size w wr) (fun i _ => n - (intOf i).toNat)
  case atStart => exact ⟨0, 0, Nat.zero_le _, rfl, rfl, .inl ⟨rfl, rfl⟩, Below.refl _ _⟩
  case round =>
    obtain ⟨k, last, hk, rfl, hbv, hlast, hbel⟩ := hrel
    have hzw := hbel.size
    have HBV := hid hbv
    have HLAST := hid hlast
    clear hbv hlast
    by_cases hlt : k < n
    · obtain ⟨g, o, rfl, hg, hca⟩ := HA.out.2 (by omega)
      have HCA := hid hca
      have hx : zs[k]? = some (zs[k]'(by have := HA.out.1; omega)) := List.getElem?_eq_getElem _
      obtain ⟨ca, cb⟩ := hca k _ hx
      have hsz := HZ.out _ (List.mem_of_getElem? hx)
      obtain ⟨⟨x, y⟩, ex⟩ : ∃ z, zs[k]'(by have := HA.out.1; omega) = z := ⟨_, rfl⟩
      rw [ex] at ca cb hx hsz
      have HX := hid hx
      have HDR := hid (show zs.drop k = (x, y) :: zs.drop (k + 1) by
        obtain ⟨h1, h2⟩ := List.getElem?_eq_some_iff.1 hx
        rw [List.drop_eq_getElem_cons h1, h2])
      have ca' := cell_below ca hg hbel
      have cb' := cell_below cb hg hbel
      clear hca hx ex ca cb
      have i1 : (0 : Int) ≤ (k : Int) := by omega
      have i2 : (k : Int) < (n : Int) := by omega
      obtain ⟨hsx, hsy⟩ := hsz
      have hsx' := hsx
      unfold maxLen at hsx'
      by_cases h1 : x.size = 1
      · obtain ⟨d, hd, hd0⟩ := one_list h1
        have hz0 : 0 < x.size := by omega
        have hd1 := hd0 hz0
        have hs1 : ((x.size : Int) != 1) = false := by simp [h1]
        have HD := hid hd
        clear hd hd0 h1
        rcases hvr : isVarB d with _ | _
        · have HV := hid hvr
          have HNO := hid (show bvOf zs = false by
            rw [HBV.out, HDR.out]
            refine bvGo_bad fun c e1 e2 _ _ => ?_
            rw [show (x, y).1.data.toList = [d] from HD.out] at e1
            injection e1 with e1
            subst e1
            rw [hvr] at e2
            cases e2)
          clear hvr
          go_wp2_with fail
          go_quiet ((go_at_call 29; exact Calls.quiet_of_same ((l1Variable_at d false HV _).mono fun _ _ h => ⟨h.1, h.2.symm⟩)))
          go_wp2_with fail
          go_ret
          exact ⟨ret_bool HNO.out.symm, below_drewN' (hbel.alloc hzw _) _⟩
        · have HV := hid hvr
          have hvr' := hvr
          have hgr : ¬ (0 : Int) < (k : Int) ∨ (0 : Int) < (k : Int) := by omega
          rcases hty : (tyOf y.data.toList).isSome with _ | _
          · have HT := hid hty
            clear hty hvr
            go_wp2_with fail
            have HBB := hid (show (wr.alloc (.cells #[.string x, .string y] 42)).cell? ⟨wr.heap.size, 0, none⟩ = some (.string x) ∧ (wr.alloc (.cells #[.string x, .string y] 42)).cell? ⟨wr.heap.size, 1, none⟩ = some (.string y) ∧ Below w.heap.size w (wr.alloc (.cells #[.string x, .string y] 42)).drew ∧ wr.heap.size < (wr.alloc (.cells #[.string x, .string y] 42)).heap.size from ⟨(blk_cells2 (heap_new1 wr _)).1, (blk_cells2 (heap_new1 wr _)).2, (hbel.alloc hzw _).drew, by simp only [World.size_alloc]; omega⟩)
            have HNO := hid (show bvOf zs = false by
              rw [HBV.out, HDR.out]
              refine bvGo_bad fun c e1 _ e3 _ => ?_
              rw [show (tyOf (x, y).2.data.toList).isSome = false from HT.out] at e3
              cases e3)
            obtain ⟨C, HC⟩ : ∃ C : World → Prop, Hid (∀ w', C w' ↔ (w'.cell? ⟨wr.heap.size, 0, none⟩ = some (.string x) ∧ w'.cell? ⟨wr.heap.size, 1, none⟩ = some (.string y) ∧ Below w.heap.size w w' ∧ wr.heap.size < w'.heap.size)) := ⟨_, hid fun _ => Iff.rfl⟩
            go_wp2_with fail
            refine wp_region_quiet (C := C) (by kernel_rfl) (by kernel_rfl) ((HC.out _).2 HBB.out) ?_
            rw [List.toList_toArray]
            refine quiet_by fun W hnil hwant hskip => ?_
            refine hwant _ _ _ (by rfl) ⟨?va0, fun w' hC => ?ya0, ?na0⟩
            case ya0 =>
              obtain ⟨q0, q1, q2, q3⟩ := (HC.out w').1 hC
              first | (go_simp; done) | (go_simp; rfl) | (go_simp; omega) | (go_simp; exact ⟨rfl, rfl⟩)
            simp only [Act.put, List.setIfInBounds_toArray, List.set_cons_zero, List.set_cons_succ]
            refine hwant _ _ _ (by rfl) ⟨?va1, fun w' hC => ?ya1, ?na1⟩
            case ya1 =>
              obtain ⟨q0, q1, q2, q3⟩ := (HC.out w').1 hC
              first | (go_simp; done) | (go_simp; rfl) | (go_simp; omega) | (go_simp; exact ⟨rfl, rfl⟩)
            simp only [Act.put, List.setIfInBounds_toArray, List.set_cons_zero, List.set_cons_succ]
            refine hwant _ _ _ (by rfl) ⟨?va2, fun w' hC => ?ya2, ?na2⟩
            case ya2 =>
              obtain ⟨q0, q1, q2, q3⟩ := (HC.out w').1 hC
              first | (go_simp; done) | (go_simp; rfl) | (go_simp; omega) | (go_simp; exact ⟨rfl, rfl⟩)
            simp only [Act.put, List.setIfInBounds_toArray, List.set_cons_zero, List.set_cons_succ]
            refine hwant _ _ _ (by rfl) ⟨?va3, fun w' hC => ?ya3, ?na3⟩
            case ya3 =>
              obtain ⟨q0, q1, q2, q3⟩ := (HC.out w').1 hC
              first | (go_simp; done) | (go_simp; rfl) | (go_simp; omega) | (go_simp; exact ⟨rfl, rfl⟩)
            simp only [Act.put, List.setIfInBounds_toArray, List.set_cons_zero, List.set_cons_succ]
            refine hwant _ _ _ (by rfl) ⟨?va4, fun w' hC => ?ya4, ?na4⟩
            case ya4 =>
              obtain ⟨q0, q1, q2, q3⟩ := (HC.out w').1 hC
              first | (go_simp; done) | (go_simp; rfl) | (go_simp; omega) | (go_simp; exact ⟨rfl, rfl⟩)
            simp only [Act.put, List.setIfInBounds_toArray, List.set_cons_zero, List.set_cons_succ]
            refine hwant _ _ _ (by rfl) ⟨?va5, fun w' hC => ?ya5, ?na5⟩
            case ya5 =>
              obtain ⟨q0, q1, q2, q3⟩ := (HC.out w').1 hC
              first | (go_simp; done) | (go_simp; rfl) | (go_simp; omega) | (go_simp; exact ⟨rfl, rfl⟩)
            simp only [Act.put, List.setIfInBounds_toArray, List.set_cons_zero, List.set_cons_succ]
            refine hwant _ _ _ (by rfl) ⟨?va6, fun w' hC => ?ya6, ?na6⟩
            case ya6 =>
              obtain ⟨q0, q1, q2, q3⟩ := (HC.out w').1 hC
              first | (go_simp; done) | (go_simp; rfl) | (go_simp; omega) | (go_simp; exact ⟨rfl, rfl⟩)
            simp only [Act.put, List.setIfInBounds_toArray, List.set_cons_zero, List.set_cons_succ]
            refine hwant _ _ _ (by rfl) ⟨?va7, fun w' hC => ?ya7, ?na7⟩
            case ya7 =>
              obtain ⟨q0, q1, q2, q3⟩ := (HC.out w').1 hC
              first | (go_simp; done) | (go_simp; rfl) | (go_simp; omega) | (go_simp; exact ⟨rfl, rfl⟩)
            simp only [Act.put, List.setIfInBounds_toArray, List.set_cons_zero, List.set_cons_succ]
            refine hwant _ _ _ (by rfl) ⟨.bool true, fun w' hC => ?ya8, ?na8⟩
            case ya8 =>
              obtain ⟨q0, q1, q2, q3⟩ := (HC.out w').1 hC
              go_simp
              refine (l1Variable_at d true HV w').mono ?_
              rintro e w'' ⟨rfl, hw⟩
              subst hw
              exact ⟨rfl, hC⟩
            simp only [Act.put, List.setIfInBounds_toArray, List.set_cons_zero, List.set_cons_succ]
            refine hwant _ _ _ (by rfl) ⟨?va9, fun w' hC => ?ya9, ?na9⟩
            case ya9 =>
              obtain ⟨q0, q1, q2, q3⟩ := (HC.out w').1 hC
              first | (go_simp; done) | (go_simp; rfl) | (go_simp; omega) | (go_simp; exact ⟨rfl, rfl⟩)
            simp only [Act.put, List.setIfInBounds_toArray, List.set_cons_zero, List.set_cons_succ]
            refine hwant _ _ _ (by rfl) ⟨?va10, fun w' hC => ?ya10, ?na10⟩
            case ya10 =>
              obtain ⟨q0, q1, q2, q3⟩ := (HC.out w').1 hC
              first | (go_simp; done) | (go_simp; rfl) | (go_simp; omega) | (go_simp; exact ⟨rfl, rfl⟩)
            simp only [Act.put, List.setIfInBounds_toArray, List.set_cons_zero, List.set_cons_succ]
            refine hwant _ _ _ (by rfl) ⟨?va11, fun w' hC => ?ya11, ?na11⟩
            case ya11 =>
              obtain ⟨q0, q1, q2, q3⟩ := (HC.out w').1 hC
              first | (go_simp; done) | (go_simp; rfl) | (go_simp; omega) | (go_simp; exact ⟨rfl, rfl⟩)
            simp only [Act.put, List.setIfInBounds_toArray, List.set_cons_zero, List.set_cons_succ]
            refine hwant _ _ _ (by rfl) ⟨?va12, fun w' hC => ?ya12, ?na12⟩
            case ya12 =>
              obtain ⟨q0, q1, q2, q3⟩ := (HC.out w').1 hC
              first | (go_simp; done) | (go_simp; rfl) | (go_simp; omega) | (go_simp; exact ⟨rfl, rfl⟩)
            simp only [Act.put, List.setIfInBounds_toArray, List.set_cons_zero, List.set_cons_succ]
            refine hwant _ _ _ (by rfl) ⟨?va13, fun w' hC => ?ya13, ?na13⟩
            case ya13 =>
              obtain ⟨q0, q1, q2, q3⟩ := (HC.out w').1 hC
              first | (go_simp; done) | (go_simp; rfl) | (go_simp; omega) | (go_simp; exact ⟨rfl, rfl⟩)
            simp only [Act.put, List.setIfInBounds_toArray, List.set_cons_zero, List.set_cons_succ]
            refine hwant _ _ _ (by rfl) ⟨.bool false, fun w' hC => ?ya14, ?na14⟩
            case ya14 =>
              obtain ⟨q0, q1, q2, q3⟩ := (HC.out w').1 hC
              go_simp
              refine (typeValidS_at y w' hsy false HT).mono ?_
              rintro e w'' ⟨rfl, hbq⟩
              exact ⟨rfl, (HC.out w'').2 ⟨cell_below q0 q3 hbq, cell_below q1 q3 hbq, q2.trans (hbq.mono q2.size), Nat.lt_of_lt_of_le q3 hbq.size⟩⟩
            simp only [Act.put, List.setIfInBounds_toArray, List.set_cons_zero, List.set_cons_succ]
            refine hwant _ _ _ (by rfl) ⟨?va15, fun w' hC => ?ya15, ?na15⟩
            case ya15 =>
              obtain ⟨q0, q1, q2, q3⟩ := (HC.out w').1 hC
              first | (go_simp; done) | (go_simp; rfl) | (go_simp; omega) | (go_simp; exact ⟨rfl, rfl⟩)
            simp only [Act.put, List.setIfInBounds_toArray, List.set_cons_zero, List.set_cons_succ]
            refine hwant _ _ _ (by rfl) ⟨?va16, fun w' hC => ?ya16, ?na16⟩
            case ya16 =>
              obtain ⟨q0, q1, q2, q3⟩ := (HC.out w').1 hC
              first | (go_simp; done) | (go_simp; rfl) | (go_simp; omega) | (go_simp; exact ⟨rfl, rfl⟩)
            simp only [Act.put, List.setIfInBounds_toArray, List.set_cons_zero, List.set_cons_succ]
            refine hwant _ _ _ (by rfl) ⟨?va17, fun w' hC => ?ya17, ?na17⟩
            case ya17 =>
              obtain ⟨q0, q1, q2, q3⟩ := (HC.out w').1 hC
              first | (go_simp; done) | (go_simp; rfl) | (go_simp; omega) | (go_simp; exact ⟨rfl, rfl⟩)
            simp only [Act.put, List.setIfInBounds_toArray, List.set_cons_zero, List.set_cons_succ]
            refine hskip _ _ _ (by rfl) ?_
            simp only [Act.put, List.setIfInBounds_toArray, List.set_cons_zero, List.set_cons_succ]
            refine hskip _ _ _ (by rfl) ?_
            simp only [Act.put, List.setIfInBounds_toArray, List.set_cons_zero, List.set_cons_succ]
            refine hskip _ _ _ (by rfl) ?_
            simp only [Act.put, List.setIfInBounds_toArray, List.set_cons_zero, List.set_cons_succ]
            refine hskip _ _ _ (by rfl) ?_
            simp only [Act.put, List.setIfInBounds_toArray, List.set_cons_zero, List.set_cons_succ]
            refine hskip _ _ _ (by rfl) ?_
            simp only [Act.put, List.setIfInBounds_toArray, List.set_cons_zero, List.set_cons_succ]
            refine hskip _ _ _ (by rfl) ?_
            simp only [Act.put, List.setIfInBounds_toArray, List.set_cons_zero, List.set_cons_succ]
            refine hskip _ _ _ (by rfl) ?_
            simp only [Act.put, List.setIfInBounds_toArray, List.set_cons_zero, List.set_cons_succ]
            refine hskip _ _ _ (by rfl) ?_
            simp only [Act.put, List.setIfInBounds_toArray, List.set_cons_zero, List.set_cons_succ]
            refine hskip _ _ _ (by rfl) ?_
            simp only [Act.put, List.setIfInBounds_toArray, List.set_cons_zero, List.set_cons_succ]
            refine hskip _ _ _ (by rfl) ?_
            simp only [Act.put, List.setIfInBounds_toArray, List.set_cons_zero, List.set_cons_succ]
            refine hskip _ _ _ (by rfl) ?_
            simp only [Act.put, List.setIfInBounds_toArray, List.set_cons_zero, List.set_cons_succ]
            refine hskip _ _ _ (by rfl) ?_
            simp only [Act.put, List.setIfInBounds_toArray, List.set_cons_zero, List.set_cons_succ]
            refine hskip _ _ _ (by rfl) ?_
            simp only [Act.put, List.setIfInBounds_toArray, List.set_cons_zero, List.set_cons_succ]
            refine hwant _ _ _ (by rfl) ⟨?va31, fun w' hC => ?ya31, ?na31⟩
            case ya31 =>
              obtain ⟨q0, q1, q2, q3⟩ := (HC.out w').1 hC
              first | (go_simp; done) | (go_simp; rfl) | (go_simp; omega) | (go_simp; exact ⟨rfl, rfl⟩)
            simp only [Act.put, List.setIfInBounds_toArray, List.set_cons_zero, List.set_cons_succ]
            refine hnil _ ?_
            intro w' hC
            obtain ⟨q0, q1, q2, q3⟩ := (HC.out w').1 hC
            go_wp2_with fail
            go_ret
            exact ⟨ret_bool HNO.out.symm, q2⟩
          · have HT := hid hty
            clear hty hvr
            have HBB := hid (show (wr.alloc (.cells #[.string x, .string y] 42)).cell? ⟨wr.heap.size, 0, none⟩ = some (.string x) ∧ (wr.alloc (.cells #[.string x, .string y] 42)).cell? ⟨wr.heap.size, 1, none⟩ = some (.string y) ∧ Below w.heap.size w (wr.alloc (.cells #[.string x, .string y] 42)).drew ∧ wr.heap.size < (wr.alloc (.cells #[.string x, .string y] 42)).heap.size from ⟨(blk_cells2 (heap_new1 wr _)).1, (blk_cells2 (heap_new1 wr _)).2, (hbel.alloc hzw _).drew, by simp only [World.size_alloc]; omega⟩)
            by_cases hk0 : k = 0
            · have hg0 : ¬ (0 : Int) < (k : Int) := by omega
              have HOK := hid (show bvOf zs = bvGo d (zs.drop (k + 1)) by
                rw [HBV.out, HDR.out]
                refine bvGo_good HD.out hvr' ?_ ?_
                · exact HT.out
                · rcases HLAST.out with ⟨_, h⟩ | ⟨_, h, _⟩
                  · rw [h]; exact var_pos d hvr'
                  · omega)
              clear hk0
              obtain ⟨C, HC⟩ : ∃ C : World → Prop, Hid (∀ w', C w' ↔ (w'.cell? ⟨wr.heap.size, 0, none⟩ = some (.string x) ∧ w'.cell? ⟨wr.heap.size, 1, none⟩ = some (.string y) ∧ Below w.heap.size w w' ∧ wr.heap.size < w'.heap.size)) := ⟨_, hid fun _ => Iff.rfl⟩
              go_wp2_with fail
              refine wp_region_quiet (C := C) (by kernel_rfl) (by kernel_rfl) ((HC.out _).2 HBB.out) ?_
              rw [List.toList_toArray]
              refine quiet_by fun W hnil hwant hskip => ?_
              refine hwant _ _ _ (by rfl) ⟨?vb0, fun w' hC => ?yb0, ?nb0⟩
              case yb0 =>
                obtain ⟨q0, q1, q2, q3⟩ := (HC.out w').1 hC
                first | (go_simp; done) | (go_simp; rfl) | (go_simp; omega) | (go_simp; exact ⟨rfl, rfl⟩)
              simp only [Act.put, List.setIfInBounds_toArray, List.set_cons_zero, List.set_cons_succ]
              refine hwant _ _ _ (by rfl) ⟨?vb1, fun w' hC => ?yb1, ?nb1⟩
              case yb1 =>
                obtain ⟨q0, q1, q2, q3⟩ := (HC.out w').1 hC
                first | (go_simp; done) | (go_simp; rfl) | (go_simp; omega) | (go_simp; exact ⟨rfl, rfl⟩)
              simp only [Act.put, List.setIfInBounds_toArray, List.set_cons_zero, List.set_cons_succ]
              refine hwant _ _ _ (by rfl) ⟨?vb2, fun w' hC => ?yb2, ?nb2⟩
              case yb2 =>
                obtain ⟨q0, q1, q2, q3⟩ := (HC.out w').1 hC
                first | (go_simp; done) | (go_simp; rfl) | (go_simp; omega) | (go_simp; exact ⟨rfl, rfl⟩)
              simp only [Act.put, List.setIfInBounds_toArray, List.set_cons_zero, List.set_cons_succ]
              refine hwant _ _ _ (by rfl) ⟨?vb3, fun w' hC => ?yb3, ?nb3⟩
              case yb3 =>
                obtain ⟨q0, q1, q2, q3⟩ := (HC.out w').1 hC
                first | (go_simp; done) | (go_simp; rfl) | (go_simp; omega) | (go_simp; exact ⟨rfl, rfl⟩)
              simp only [Act.put, List.setIfInBounds_toArray, List.set_cons_zero, List.set_cons_succ]
              refine hwant _ _ _ (by rfl) ⟨?vb4, fun w' hC => ?yb4, ?nb4⟩
              case yb4 =>
                obtain ⟨q0, q1, q2, q3⟩ := (HC.out w').1 hC
                first | (go_simp; done) | (go_simp; rfl) | (go_simp; omega) | (go_simp; exact ⟨rfl, rfl⟩)
              simp only [Act.put, List.setIfInBounds_toArray, List.set_cons_zero, List.set_cons_succ]
              refine hwant _ _ _ (by rfl) ⟨?vb5, fun w' hC => ?yb5, ?nb5⟩
              case yb5 =>
                obtain ⟨q0, q1, q2, q3⟩ := (HC.out w').1 hC
                first | (go_simp; done) | (go_simp; rfl) | (go_simp; omega) | (go_simp; exact ⟨rfl, rfl⟩)
              simp only [Act.put, List.setIfInBounds_toArray, List.set_cons_zero, List.set_cons_succ]
              refine hwant _ _ _ (by rfl) ⟨?vb6, fun w' hC => ?yb6, ?nb6⟩
              case yb6 =>
                obtain ⟨q0, q1, q2, q3⟩ := (HC.out w').1 hC
                first | (go_simp; done) | (go_simp; rfl) | (go_simp; omega) | (go_simp; exact ⟨rfl, rfl⟩)
              simp only [Act.put, List.setIfInBounds_toArray, List.set_cons_zero, List.set_cons_succ]
              refine hwant _ _ _ (by rfl) ⟨?vb7, fun w' hC => ?yb7, ?nb7⟩
              case yb7 =>
                obtain ⟨q0, q1, q2, q3⟩ := (HC.out w').1 hC
                first | (go_simp; done) | (go_simp; rfl) | (go_simp; omega) | (go_simp; exact ⟨rfl, rfl⟩)
              simp only [Act.put, List.setIfInBounds_toArray, List.set_cons_zero, List.set_cons_succ]
              refine hwant _ _ _ (by rfl) ⟨.bool true, fun w' hC => ?yb8, ?nb8⟩
              case yb8 =>
                obtain ⟨q0, q1, q2, q3⟩ := (HC.out w').1 hC
                go_simp
                refine (l1Variable_at d true HV w').mono ?_
                rintro e w'' ⟨rfl, hw⟩
                subst hw
                exact ⟨rfl, hC⟩
              simp only [Act.put, List.setIfInBounds_toArray, List.set_cons_zero, List.set_cons_succ]
              refine hwant _ _ _ (by rfl) ⟨?vb9, fun w' hC => ?yb9, ?nb9⟩
              case yb9 =>
                obtain ⟨q0, q1, q2, q3⟩ := (HC.out w').1 hC
                first | (go_simp; done) | (go_simp; rfl) | (go_simp; omega) | (go_simp; exact ⟨rfl, rfl⟩)
              simp only [Act.put, List.setIfInBounds_toArray, List.set_cons_zero, List.set_cons_succ]
              refine hwant _ _ _ (by rfl) ⟨?vb10, fun w' hC => ?yb10, ?nb10⟩
              case yb10 =>
                obtain ⟨q0, q1, q2, q3⟩ := (HC.out w').1 hC
                first | (go_simp; done) | (go_simp; rfl) | (go_simp; omega) | (go_simp; exact ⟨rfl, rfl⟩)
              simp only [Act.put, List.setIfInBounds_toArray, List.set_cons_zero, List.set_cons_succ]
              refine hwant _ _ _ (by rfl) ⟨?vb11, fun w' hC => ?yb11, ?nb11⟩
              case yb11 =>
                obtain ⟨q0, q1, q2, q3⟩ := (HC.out w').1 hC
                first | (go_simp; done) | (go_simp; rfl) | (go_simp; omega) | (go_simp; exact ⟨rfl, rfl⟩)
              simp only [Act.put, List.setIfInBounds_toArray, List.set_cons_zero, List.set_cons_succ]
              refine hwant _ _ _ (by rfl) ⟨?vb12, fun w' hC => ?yb12, ?nb12⟩
              case yb12 =>
                obtain ⟨q0, q1, q2, q3⟩ := (HC.out w').1 hC
                first | (go_simp; done) | (go_simp; rfl) | (go_simp; omega) | (go_simp; exact ⟨rfl, rfl⟩)
              simp only [Act.put, List.setIfInBounds_toArray, List.set_cons_zero, List.set_cons_succ]
              refine hwant _ _ _ (by rfl) ⟨?vb13, fun w' hC => ?yb13, ?nb13⟩
              case yb13 =>
                obtain ⟨q0, q1, q2, q3⟩ := (HC.out w').1 hC
                first | (go_simp; done) | (go_simp; rfl) | (go_simp; omega) | (go_simp; exact ⟨rfl, rfl⟩)
              simp only [Act.put, List.setIfInBounds_toArray, List.set_cons_zero, List.set_cons_succ]
              refine hwant _ _ _ (by rfl) ⟨.bool true, fun w' hC => ?yb14, ?nb14⟩
              case yb14 =>
                obtain ⟨q0, q1, q2, q3⟩ := (HC.out w').1 hC
                go_simp
                refine (typeValidS_at y w' hsy true HT).mono ?_
                rintro e w'' ⟨rfl, hbq⟩
                exact ⟨rfl, (HC.out w'').2 ⟨cell_below q0 q3 hbq, cell_below q1 q3 hbq, q2.trans (hbq.mono q2.size), Nat.lt_of_lt_of_le q3 hbq.size⟩⟩
              simp only [Act.put, List.setIfInBounds_toArray, List.set_cons_zero, List.set_cons_succ]
              refine hwant _ _ _ (by rfl) ⟨?vb15, fun w' hC => ?yb15, ?nb15⟩
              case yb15 =>
                obtain ⟨q0, q1, q2, q3⟩ := (HC.out w').1 hC
                first | (go_simp; done) | (go_simp; rfl) | (go_simp; omega) | (go_simp; exact ⟨rfl, rfl⟩)
              simp only [Act.put, List.setIfInBounds_toArray, List.set_cons_zero, List.set_cons_succ]
              refine hwant _ _ _ (by rfl) ⟨?vb16, fun w' hC => ?yb16, ?nb16⟩
              case yb16 =>
                obtain ⟨q0, q1, q2, q3⟩ := (HC.out w').1 hC
                first | (go_simp; done) | (go_simp; rfl) | (go_simp; omega) | (go_simp; exact ⟨rfl, rfl⟩)
              simp only [Act.put, List.setIfInBounds_toArray, List.set_cons_zero, List.set_cons_succ]
              refine hwant _ _ _ (by rfl) ⟨?vb17, fun w' hC => ?yb17, ?nb17⟩
              case yb17 =>
                obtain ⟨q0, q1, q2, q3⟩ := (HC.out w').1 hC
                first | (go_simp; done) | (go_simp; rfl) | (go_simp; omega) | (go_simp; exact ⟨rfl, rfl⟩)
              simp only [Act.put, List.setIfInBounds_toArray, List.set_cons_zero, List.set_cons_succ]
              refine hwant _ _ _ (by rfl) ⟨?vb18, fun w' hC => ?yb18, ?nb18⟩
              case yb18 =>
                obtain ⟨q0, q1, q2, q3⟩ := (HC.out w').1 hC
                first | (go_simp; done) | (go_simp; rfl) | (go_simp; omega) | (go_simp; exact ⟨rfl, rfl⟩)
              simp only [Act.put, List.setIfInBounds_toArray, List.set_cons_zero, List.set_cons_succ]
              refine hwant _ _ _ (by rfl) ⟨.bool false, fun w' hC => ?yb19, ?nb19⟩
              case yb19 =>
                obtain ⟨q0, q1, q2, q3⟩ := (HC.out w').1 hC
                first | (go_simp; done) | (go_simp; rfl) | (go_simp; omega) | (go_simp; exact ⟨rfl, rfl⟩)
              simp only [Act.put, List.setIfInBounds_toArray, List.set_cons_zero, List.set_cons_succ]
              refine hwant _ _ _ (by rfl) ⟨?vb20, fun w' hC => ?yb20, ?nb20⟩
              case yb20 =>
                obtain ⟨q0, q1, q2, q3⟩ := (HC.out w').1 hC
                first | (go_simp; done) | (go_simp; rfl) | (go_simp; omega) | (go_simp; exact ⟨rfl, rfl⟩)
              simp only [Act.put, List.setIfInBounds_toArray, List.set_cons_zero, List.set_cons_succ]
              refine hskip _ _ _ (by rfl) ?_
              simp only [Act.put, List.setIfInBounds_toArray, List.set_cons_zero, List.set_cons_succ]
              refine hskip _ _ _ (by rfl) ?_
              simp only [Act.put, List.setIfInBounds_toArray, List.set_cons_zero, List.set_cons_succ]
              refine hskip _ _ _ (by rfl) ?_
              simp only [Act.put, List.setIfInBounds_toArray, List.set_cons_zero, List.set_cons_succ]
              refine hskip _ _ _ (by rfl) ?_
              simp only [Act.put, List.setIfInBounds_toArray, List.set_cons_zero, List.set_cons_succ]
              refine hskip _ _ _ (by rfl) ?_
              simp only [Act.put, List.setIfInBounds_toArray, List.set_cons_zero, List.set_cons_succ]
              refine hskip _ _ _ (by rfl) ?_
              simp only [Act.put, List.setIfInBounds_toArray, List.set_cons_zero, List.set_cons_succ]
              refine hskip _ _ _ (by rfl) ?_
              simp only [Act.put, List.setIfInBounds_toArray, List.set_cons_zero, List.set_cons_succ]
              refine hskip _ _ _ (by rfl) ?_
              simp only [Act.put, List.setIfInBounds_toArray, List.set_cons_zero, List.set_cons_succ]
              refine hskip _ _ _ (by rfl) ?_
              simp only [Act.put, List.setIfInBounds_toArray, List.set_cons_zero, List.set_cons_succ]
              refine hwant _ _ _ (by rfl) ⟨?vb30, fun w' hC => ?yb30, ?nb30⟩
              case yb30 =>
                obtain ⟨q0, q1, q2, q3⟩ := (HC.out w').1 hC
                first | (go_simp; done) | (go_simp; rfl) | (go_simp; omega) | (go_simp; exact ⟨rfl, rfl⟩)
              simp only [Act.put, List.setIfInBounds_toArray, List.set_cons_zero, List.set_cons_succ]
              refine hwant _ _ _ (by rfl) ⟨?vb31, fun w' hC => ?yb31, ?nb31⟩
              case yb31 =>
                obtain ⟨q0, q1, q2, q3⟩ := (HC.out w').1 hC
                first | (go_simp; done) | (go_simp; rfl) | (go_simp; omega) | (go_simp; exact ⟨rfl, rfl⟩)
              simp only [Act.put, List.setIfInBounds_toArray, List.set_cons_zero, List.set_cons_succ]
              refine hnil _ ?_
              intro w' hC
              obtain ⟨q0, q1, q2, q3⟩ := (HC.out w').1 hC
              go_wp2_with fail
              go_roundw
              case rel => exact ⟨k + 1, d, hlt, by go_num, HOK.out, .inr ⟨(x, y), Nat.succ_pos k, HX.out, HD.out⟩, q2⟩
              case measure => simp [intOf]; omega
            · obtain ⟨j, hj⟩ : ∃ j, k = j + 1 := ⟨k - 1, by omega⟩
              obtain ⟨z, hz1, hz2⟩ : ∃ z, zs[j]? = some z ∧ z.1.data.toList = [last] := by
                rcases HLAST.out with ⟨h, _⟩ | ⟨z, _, h1, h2⟩
                · exact absurd h hk0
                · exact ⟨z, by rw [hj] at h1; exact h1, h2⟩
              have hg0 : (0 : Int) < (k : Int) := by omega
              have cz := cell_below (HCA.out j z hz1).1 hg hbel
              have czl : g < wr.heap.size := Nat.lt_of_lt_of_le hg hzw
              have HBC := hid (show (wr.alloc (.cells #[.string x, .string y] 42)).cell? ⟨g, o + j * 2, none⟩ = some (.string z.1) by rw [World.cell?_alloc_lt _ _ _ (by omega)]; exact cz)
              obtain ⟨q, hq⟩ : ∃ q, z.1 = q := ⟨_, rfl⟩
              rw [hq] at HBC hz2
              have hsub : IntKind.i64.wrap ((k : Int) - 1) = (j : Int) := by rw [IntKind.wrap_i64]; omega
              have j1 : (0 : Int) ≤ (j : Int) := by omega
              have j2 : (j : Int) < (n : Int) := by omega
              have hless : Op.bytesLess q.toList x.toList = decide (last < d) := by rw [ByteArray.toList_eq, ByteArray.toList_eq, hz2, HD.out, less_one]
              clear cz hk0 hz1 hz2 hq
              rcases hld : decide (last < d) with _ | _
              · have HNO := hid (show bvOf zs = false by
                  rw [HBV.out, HDR.out]
                  refine bvGo_bad fun c e1 _ _ e4 => ?_
                  rw [show (x, y).1.data.toList = [d] from HD.out] at e1
                  injection e1 with e1
                  subst e1
                  simp [e4] at hld)
                rw [hld] at hless
                clear hld hj
                obtain ⟨C, HC⟩ : ∃ C : World → Prop, Hid (∀ w', C w' ↔ (w'.cell? ⟨wr.heap.size, 0, none⟩ = some (.string x) ∧ w'.cell? ⟨wr.heap.size, 1, none⟩ = some (.string y) ∧ Below w.heap.size w w' ∧ wr.heap.size < w'.heap.size ∧ w'.cell? ⟨g, o + j * 2, none⟩ = some (.string q))) := ⟨_, hid fun _ => Iff.rfl⟩
                go_wp2_with fail
                refine wp_region_quiet (C := C) (by kernel_rfl) (by kernel_rfl) ((HC.out _).2 ⟨HBB.out.1, HBB.out.2.1, HBB.out.2.2.1, HBB.out.2.2.2, HBC.out⟩) ?_
                rw [List.toList_toArray]
                refine quiet_by fun W hnil hwant hskip => ?_
                refine hwant _ _ _ (by rfl) ⟨?vc0, fun w' hC => ?yc0, ?nc0⟩
                case yc0 =>
                  obtain ⟨q0, q1, q2, q3, q4⟩ := (HC.out w').1 hC
                  first | (go_simp; done) | (go_simp; rfl) | (go_simp; omega) | (go_simp; exact ⟨rfl, rfl⟩)
                simp only [Act.put, List.setIfInBounds_toArray, List.set_cons_zero, List.set_cons_succ]
                refine hwant _ _ _ (by rfl) ⟨?vc1, fun w' hC => ?yc1, ?nc1⟩
                case yc1 =>
                  obtain ⟨q0, q1, q2, q3, q4⟩ := (HC.out w').1 hC
                  first | (go_simp; done) | (go_simp; rfl) | (go_simp; omega) | (go_simp; exact ⟨rfl, rfl⟩)
                simp only [Act.put, List.setIfInBounds_toArray, List.set_cons_zero, List.set_cons_succ]
                refine hwant _ _ _ (by rfl) ⟨?vc2, fun w' hC => ?yc2, ?nc2⟩
                case yc2 =>
                  obtain ⟨q0, q1, q2, q3, q4⟩ := (HC.out w').1 hC
                  first | (go_simp; done) | (go_simp; rfl) | (go_simp; omega) | (go_simp; exact ⟨rfl, rfl⟩)
                simp only [Act.put, List.setIfInBounds_toArray, List.set_cons_zero, List.set_cons_succ]
                refine hwant _ _ _ (by rfl) ⟨?vc3, fun w' hC => ?yc3, ?nc3⟩
                case yc3 =>
                  obtain ⟨q0, q1, q2, q3, q4⟩ := (HC.out w').1 hC
                  first | (go_simp; done) | (go_simp; rfl) | (go_simp; omega) | (go_simp; exact ⟨rfl, rfl⟩)
                simp only [Act.put, List.setIfInBounds_toArray, List.set_cons_zero, List.set_cons_succ]
                refine hwant _ _ _ (by rfl) ⟨?vc4, fun w' hC => ?yc4, ?nc4⟩
                case yc4 =>
                  obtain ⟨q0, q1, q2, q3, q4⟩ := (HC.out w').1 hC
                  first | (go_simp; done) | (go_simp; rfl) | (go_simp; omega) | (go_simp; exact ⟨rfl, rfl⟩)
                simp only [Act.put, List.setIfInBounds_toArray, List.set_cons_zero, List.set_cons_succ]
                refine hwant _ _ _ (by rfl) ⟨?vc5, fun w' hC => ?yc5, ?nc5⟩
                case yc5 =>
                  obtain ⟨q0, q1, q2, q3, q4⟩ := (HC.out w').1 hC
                  first | (go_simp; done) | (go_simp; rfl) | (go_simp; omega) | (go_simp; exact ⟨rfl, rfl⟩)
                simp only [Act.put, List.setIfInBounds_toArray, List.set_cons_zero, List.set_cons_succ]
                refine hwant _ _ _ (by rfl) ⟨?vc6, fun w' hC => ?yc6, ?nc6⟩
                case yc6 =>
                  obtain ⟨q0, q1, q2, q3, q4⟩ := (HC.out w').1 hC
                  first | (go_simp; done) | (go_simp; rfl) | (go_simp; omega) | (go_simp; exact ⟨rfl, rfl⟩)
                simp only [Act.put, List.setIfInBounds_toArray, List.set_cons_zero, List.set_cons_succ]
                refine hwant _ _ _ (by rfl) ⟨?vc7, fun w' hC => ?yc7, ?nc7⟩
                case yc7 =>
                  obtain ⟨q0, q1, q2, q3, q4⟩ := (HC.out w').1 hC
                  first | (go_simp; done) | (go_simp; rfl) | (go_simp; omega) | (go_simp; exact ⟨rfl, rfl⟩)
                simp only [Act.put, List.setIfInBounds_toArray, List.set_cons_zero, List.set_cons_succ]
                refine hwant _ _ _ (by rfl) ⟨.bool true, fun w' hC => ?yc8, ?nc8⟩
                case yc8 =>
                  obtain ⟨q0, q1, q2, q3, q4⟩ := (HC.out w').1 hC
                  go_simp
                  refine (l1Variable_at d true HV w').mono ?_
                  rintro e w'' ⟨rfl, hw⟩
                  subst hw
                  exact ⟨rfl, hC⟩
                simp only [Act.put, List.setIfInBounds_toArray, List.set_cons_zero, List.set_cons_succ]
                refine hwant _ _ _ (by rfl) ⟨?vc9, fun w' hC => ?yc9, ?nc9⟩
                case yc9 =>
                  obtain ⟨q0, q1, q2, q3, q4⟩ := (HC.out w').1 hC
                  first | (go_simp; done) | (go_simp; rfl) | (go_simp; omega) | (go_simp; exact ⟨rfl, rfl⟩)
                simp only [Act.put, List.setIfInBounds_toArray, List.set_cons_zero, List.set_cons_succ]
                refine hwant _ _ _ (by rfl) ⟨?vc10, fun w' hC => ?yc10, ?nc10⟩
                case yc10 =>
                  obtain ⟨q0, q1, q2, q3, q4⟩ := (HC.out w').1 hC
                  first | (go_simp; done) | (go_simp; rfl) | (go_simp; omega) | (go_simp; exact ⟨rfl, rfl⟩)
                simp only [Act.put, List.setIfInBounds_toArray, List.set_cons_zero, List.set_cons_succ]
                refine hwant _ _ _ (by rfl) ⟨?vc11, fun w' hC => ?yc11, ?nc11⟩
                case yc11 =>
                  obtain ⟨q0, q1, q2, q3, q4⟩ := (HC.out w').1 hC
                  first | (go_simp; done) | (go_simp; rfl) | (go_simp; omega) | (go_simp; exact ⟨rfl, rfl⟩)
                simp only [Act.put, List.setIfInBounds_toArray, List.set_cons_zero, List.set_cons_succ]
                refine hwant _ _ _ (by rfl) ⟨?vc12, fun w' hC => ?yc12, ?nc12⟩
                case yc12 =>
                  obtain ⟨q0, q1, q2, q3, q4⟩ := (HC.out w').1 hC
                  first | (go_simp; done) | (go_simp; rfl) | (go_simp; omega) | (go_simp; exact ⟨rfl, rfl⟩)
                simp only [Act.put, List.setIfInBounds_toArray, List.set_cons_zero, List.set_cons_succ]
                refine hwant _ _ _ (by rfl) ⟨?vc13, fun w' hC => ?yc13, ?nc13⟩
                case yc13 =>
                  obtain ⟨q0, q1, q2, q3, q4⟩ := (HC.out w').1 hC
                  first | (go_simp; done) | (go_simp; rfl) | (go_simp; omega) | (go_simp; exact ⟨rfl, rfl⟩)
                simp only [Act.put, List.setIfInBounds_toArray, List.set_cons_zero, List.set_cons_succ]
                refine hwant _ _ _ (by rfl) ⟨.bool true, fun w' hC => ?yc14, ?nc14⟩
                case yc14 =>
                  obtain ⟨q0, q1, q2, q3, q4⟩ := (HC.out w').1 hC
                  go_simp
                  refine (typeValidS_at y w' hsy true HT).mono ?_
                  rintro e w'' ⟨rfl, hbq⟩
                  exact ⟨rfl, (HC.out w'').2 ⟨cell_below q0 q3 hbq, cell_below q1 q3 hbq, q2.trans (hbq.mono q2.size), Nat.lt_of_lt_of_le q3 hbq.size, cell_below q4 (by omega) hbq⟩⟩
                simp only [Act.put, List.setIfInBounds_toArray, List.set_cons_zero, List.set_cons_succ]
                refine hwant _ _ _ (by rfl) ⟨?vc15, fun w' hC => ?yc15, ?nc15⟩
                case yc15 =>
                  obtain ⟨q0, q1, q2, q3, q4⟩ := (HC.out w').1 hC
                  first | (go_simp; done) | (go_simp; rfl) | (go_simp; omega) | (go_simp; exact ⟨rfl, rfl⟩)
                simp only [Act.put, List.setIfInBounds_toArray, List.set_cons_zero, List.set_cons_succ]
                refine hwant _ _ _ (by rfl) ⟨?vc16, fun w' hC => ?yc16, ?nc16⟩
                case yc16 =>
                  obtain ⟨q0, q1, q2, q3, q4⟩ := (HC.out w').1 hC
                  first | (go_simp; done) | (go_simp; rfl) | (go_simp; omega) | (go_simp; exact ⟨rfl, rfl⟩)
                simp only [Act.put, List.setIfInBounds_toArray, List.set_cons_zero, List.set_cons_succ]
                refine hwant _ _ _ (by rfl) ⟨?vc17, fun w' hC => ?yc17, ?nc17⟩
                case yc17 =>
                  obtain ⟨q0, q1, q2, q3, q4⟩ := (HC.out w').1 hC
                  first | (go_simp; done) | (go_simp; rfl) | (go_simp; omega) | (go_simp; exact ⟨rfl, rfl⟩)
                simp only [Act.put, List.setIfInBounds_toArray, List.set_cons_zero, List.set_cons_succ]
                refine hwant _ _ _ (by rfl) ⟨?vc18, fun w' hC => ?yc18, ?nc18⟩
                case yc18 =>
                  obtain ⟨q0, q1, q2, q3, q4⟩ := (HC.out w').1 hC
                  first | (go_simp; done) | (go_simp; rfl) | (go_simp; omega) | (go_simp; exact ⟨rfl, rfl⟩)
                simp only [Act.put, List.setIfInBounds_toArray, List.set_cons_zero, List.set_cons_succ]
                refine hwant _ _ _ (by rfl) ⟨.bool true, fun w' hC => ?yc19, ?nc19⟩
                case yc19 =>
                  obtain ⟨q0, q1, q2, q3, q4⟩ := (HC.out w').1 hC
                  first | (go_simp; done) | (go_simp; rfl) | (go_simp; omega) | (go_simp; exact ⟨rfl, rfl⟩)
                simp only [Act.put, List.setIfInBounds_toArray, List.set_cons_zero, List.set_cons_succ]
                refine hwant _ _ _ (by rfl) ⟨?vc20, fun w' hC => ?yc20, ?nc20⟩
                case yc20 =>
                  obtain ⟨q0, q1, q2, q3, q4⟩ := (HC.out w').1 hC
                  first | (go_simp; done) | (go_simp; rfl) | (go_simp; omega) | (go_simp; exact ⟨rfl, rfl⟩)
                simp only [Act.put, List.setIfInBounds_toArray, List.set_cons_zero, List.set_cons_succ]
                refine hwant _ _ _ (by rfl) ⟨?vc21, fun w' hC => ?yc21, ?nc21⟩
                case yc21 =>
                  obtain ⟨q0, q1, q2, q3, q4⟩ := (HC.out w').1 hC
                  first | (go_simp; done) | (go_simp; rfl) | (go_simp; omega) | (go_simp; exact ⟨rfl, rfl⟩)
                simp only [Act.put, List.setIfInBounds_toArray, List.set_cons_zero, List.set_cons_succ]
                refine hwant _ _ _ (by rfl) ⟨?vc22, fun w' hC => ?yc22, ?nc22⟩
                case yc22 =>
                  obtain ⟨q0, q1, q2, q3, q4⟩ := (HC.out w').1 hC
                  first | (go_simp; done) | (go_simp; rfl) | (go_simp; omega) | (go_simp; exact ⟨rfl, rfl⟩)
                simp only [Act.put, List.setIfInBounds_toArray, List.set_cons_zero, List.set_cons_succ]
                refine hwant _ _ _ (by rfl) ⟨?vc23, fun w' hC => ?yc23, ?nc23⟩
                case yc23 =>
                  obtain ⟨q0, q1, q2, q3, q4⟩ := (HC.out w').1 hC
                  first | (go_simp; done) | (go_simp; rfl) | (go_simp; omega) | (go_simp; exact ⟨rfl, rfl⟩)
                simp only [Act.put, List.setIfInBounds_toArray, List.set_cons_zero, List.set_cons_succ]
                refine hwant _ _ _ (by rfl) ⟨?vc24, fun w' hC => ?yc24, ?nc24⟩
                case yc24 =>
                  obtain ⟨q0, q1, q2, q3, q4⟩ := (HC.out w').1 hC
                  first | (go_simp; done) | (go_simp; rfl) | (go_simp; omega) | (go_simp; exact ⟨rfl, rfl⟩)
                simp only [Act.put, List.setIfInBounds_toArray, List.set_cons_zero, List.set_cons_succ]
                refine hwant _ _ _ (by rfl) ⟨?vc25, fun w' hC => ?yc25, ?nc25⟩
                case yc25 =>
                  obtain ⟨q0, q1, q2, q3, q4⟩ := (HC.out w').1 hC
                  first | (go_simp; done) | (go_simp; rfl) | (go_simp; omega) | (go_simp; exact ⟨rfl, rfl⟩)
                simp only [Act.put, List.setIfInBounds_toArray, List.set_cons_zero, List.set_cons_succ]
                refine hwant _ _ _ (by rfl) ⟨?vc26, fun w' hC => ?yc26, ?nc26⟩
                case yc26 =>
                  obtain ⟨q0, q1, q2, q3, q4⟩ := (HC.out w').1 hC
                  first | (go_simp; done) | (go_simp; rfl) | (go_simp; omega) | (go_simp; exact ⟨rfl, rfl⟩)
                simp only [Act.put, List.setIfInBounds_toArray, List.set_cons_zero, List.set_cons_succ]
                refine hwant _ _ _ (by rfl) ⟨?vc27, fun w' hC => ?yc27, ?nc27⟩
                case yc27 =>
                  obtain ⟨q0, q1, q2, q3, q4⟩ := (HC.out w').1 hC
                  first | (go_simp; done) | (go_simp; rfl) | (go_simp; omega) | (go_simp; exact ⟨rfl, rfl⟩)
                simp only [Act.put, List.setIfInBounds_toArray, List.set_cons_zero, List.set_cons_succ]
                refine hwant _ _ _ (by rfl) ⟨?vc28, fun w' hC => ?yc28, ?nc28⟩
                case yc28 =>
                  obtain ⟨q0, q1, q2, q3, q4⟩ := (HC.out w').1 hC
                  first | (go_simp; done) | (go_simp; rfl) | (go_simp; omega) | (go_simp; exact ⟨rfl, rfl⟩)
                simp only [Act.put, List.setIfInBounds_toArray, List.set_cons_zero, List.set_cons_succ]
                refine hwant _ _ _ (by rfl) ⟨?vc29, fun w' hC => ?yc29, ?nc29⟩
                case yc29 =>
                  obtain ⟨q0, q1, q2, q3, q4⟩ := (HC.out w').1 hC
                  first | (go_simp; done) | (go_simp; rfl) | (go_simp; omega) | (go_simp; exact ⟨rfl, rfl⟩)
                simp only [Act.put, List.setIfInBounds_toArray, List.set_cons_zero, List.set_cons_succ]
                refine hwant _ _ _ (by rfl) ⟨?vc30, fun w' hC => ?yc30, ?nc30⟩
                case yc30 =>
                  obtain ⟨q0, q1, q2, q3, q4⟩ := (HC.out w').1 hC
                  first | (go_simp; done) | (go_simp; rfl) | (go_simp; omega) | (go_simp; exact ⟨rfl, rfl⟩)
                simp only [Act.put, List.setIfInBounds_toArray, List.set_cons_zero, List.set_cons_succ]
                refine hwant _ _ _ (by rfl) ⟨?vc31, fun w' hC => ?yc31, ?nc31⟩
                case yc31 =>
                  obtain ⟨q0, q1, q2, q3, q4⟩ := (HC.out w').1 hC
                  first | (go_simp; done) | (go_simp; rfl) | (go_simp; omega) | (go_simp; exact ⟨rfl, rfl⟩)
                simp only [Act.put, List.setIfInBounds_toArray, List.set_cons_zero, List.set_cons_succ]
                refine hnil _ ?_
                intro w' hC
                obtain ⟨q0, q1, q2, q3, q4⟩ := (HC.out w').1 hC
                go_wp2_with fail
                go_ret
                exact ⟨ret_bool HNO.out.symm, q2⟩
              · have HOK := hid (show bvOf zs = bvGo d (zs.drop (k + 1)) by
                  rw [HBV.out, HDR.out]
                  exact bvGo_good HD.out hvr' HT.out (by simpa using hld))
                rw [hld] at hless
                clear hld hj
                obtain ⟨C, HC⟩ : ∃ C : World → Prop, Hid (∀ w', C w' ↔ (w'.cell? ⟨wr.heap.size, 0, none⟩ = some (.string x) ∧ w'.cell? ⟨wr.heap.size, 1, none⟩ = some (.string y) ∧ Below w.heap.size w w' ∧ wr.heap.size < w'.heap.size ∧ w'.cell? ⟨g, o + j * 2, none⟩ = some (.string q))) := ⟨_, hid fun _ => Iff.rfl⟩
                go_wp2_with fail
                refine wp_region_quiet (C := C) (by kernel_rfl) (by kernel_rfl) ((HC.out _).2 ⟨HBB.out.1, HBB.out.2.1, HBB.out.2.2.1, HBB.out.2.2.2, HBC.out⟩) ?_
                rw [List.toList_toArray]
                refine quiet_by fun W hnil hwant hskip => ?_
                refine hwant _ _ _ (by rfl) ⟨?vd0, fun w' hC => ?yd0, ?nd0⟩
                case yd0 =>
                  obtain ⟨q0, q1, q2, q3, q4⟩ := (HC.out w').1 hC
                  first | (go_simp; done) | (go_simp; rfl) | (go_simp; omega) | (go_simp; exact ⟨rfl, rfl⟩)
                simp only [Act.put, List.setIfInBounds_toArray, List.set_cons_zero, List.set_cons_succ]
                refine hwant _ _ _ (by rfl) ⟨?vd1, fun w' hC => ?yd1, ?nd1⟩
                case yd1 =>
                  obtain ⟨q0, q1, q2, q3, q4⟩ := (HC.out w').1 hC
                  first | (go_simp; done) | (go_simp; rfl) | (go_simp; omega) | (go_simp; exact ⟨rfl, rfl⟩)
                simp only [Act.put, List.setIfInBounds_toArray, List.set_cons_zero, List.set_cons_succ]
                refine hwant _ _ _ (by rfl) ⟨?vd2, fun w' hC => ?yd2, ?nd2⟩
                case yd2 =>
                  obtain ⟨q0, q1, q2, q3, q4⟩ := (HC.out w').1 hC
                  first | (go_simp; done) | (go_simp; rfl) | (go_simp; omega) | (go_simp; exact ⟨rfl, rfl⟩)
                simp only [Act.put, List.setIfInBounds_toArray, List.set_cons_zero, List.set_cons_succ]
                refine hwant _ _ _ (by rfl) ⟨?vd3, fun w' hC => ?yd3, ?nd3⟩
                case yd3 =>
                  obtain ⟨q0, q1, q2, q3, q4⟩ := (HC.out w').1 hC
                  first | (go_simp; done) | (go_simp; rfl) | (go_simp; omega) | (go_simp; exact ⟨rfl, rfl⟩)
                simp only [Act.put, List.setIfInBounds_toArray, List.set_cons_zero, List.set_cons_succ]
                refine hwant _ _ _ (by rfl) ⟨?vd4, fun w' hC => ?yd4, ?nd4⟩
                case yd4 =>
                  obtain ⟨q0, q1, q2, q3, q4⟩ := (HC.out w').1 hC
                  first | (go_simp; done) | (go_simp; rfl) | (go_simp; omega) | (go_simp; exact ⟨rfl, rfl⟩)
                simp only [Act.put, List.setIfInBounds_toArray, List.set_cons_zero, List.set_cons_succ]
                refine hwant _ _ _ (by rfl) ⟨?vd5, fun w' hC => ?yd5, ?nd5⟩
                case yd5 =>
                  obtain ⟨q0, q1, q2, q3, q4⟩ := (HC.out w').1 hC
                  first | (go_simp; done) | (go_simp; rfl) | (go_simp; omega) | (go_simp; exact ⟨rfl, rfl⟩)
                simp only [Act.put, List.setIfInBounds_toArray, List.set_cons_zero, List.set_cons_succ]
                refine hwant _ _ _ (by rfl) ⟨?vd6, fun w' hC => ?yd6, ?nd6⟩
                case yd6 =>
                  obtain ⟨q0, q1, q2, q3, q4⟩ := (HC.out w').1 hC
                  first | (go_simp; done) | (go_simp; rfl) | (go_simp; omega) | (go_simp; exact ⟨rfl, rfl⟩)
                simp only [Act.put, List.setIfInBounds_toArray, List.set_cons_zero, List.set_cons_succ]
                refine hwant _ _ _ (by rfl) ⟨?vd7, fun w' hC => ?yd7, ?nd7⟩
                case yd7 =>
                  obtain ⟨q0, q1, q2, q3, q4⟩ := (HC.out w').1 hC
                  first | (go_simp; done) | (go_simp; rfl) | (go_simp; omega) | (go_simp; exact ⟨rfl, rfl⟩)
                simp only [Act.put, List.setIfInBounds_toArray, List.set_cons_zero, List.set_cons_succ]
                refine hwant _ _ _ (by rfl) ⟨.bool true, fun w' hC => ?yd8, ?nd8⟩
                case yd8 =>
                  obtain ⟨q0, q1, q2, q3, q4⟩ := (HC.out w').1 hC
                  go_simp
                  refine (l1Variable_at d true HV w').mono ?_
                  rintro e w'' ⟨rfl, hw⟩
                  subst hw
                  exact ⟨rfl, hC⟩
                simp only [Act.put, List.setIfInBounds_toArray, List.set_cons_zero, List.set_cons_succ]
                refine hwant _ _ _ (by rfl) ⟨?vd9, fun w' hC => ?yd9, ?nd9⟩
                case yd9 =>
                  obtain ⟨q0, q1, q2, q3, q4⟩ := (HC.out w').1 hC
                  first | (go_simp; done) | (go_simp; rfl) | (go_simp; omega) | (go_simp; exact ⟨rfl, rfl⟩)
                simp only [Act.put, List.setIfInBounds_toArray, List.set_cons_zero, List.set_cons_succ]
                refine hwant _ _ _ (by rfl) ⟨?vd10, fun w' hC => ?yd10, ?nd10⟩
                case yd10 =>
                  obtain ⟨q0, q1, q2, q3, q4⟩ := (HC.out w').1 hC
                  first | (go_simp; done) | (go_simp; rfl) | (go_simp; omega) | (go_simp; exact ⟨rfl, rfl⟩)
                simp only [Act.put, List.setIfInBounds_toArray, List.set_cons_zero, List.set_cons_succ]
                refine hwant _ _ _ (by rfl) ⟨?vd11, fun w' hC => ?yd11, ?nd11⟩
                case yd11 =>
                  obtain ⟨q0, q1, q2, q3, q4⟩ := (HC.out w').1 hC
                  first | (go_simp; done) | (go_simp; rfl) | (go_simp; omega) | (go_simp; exact ⟨rfl, rfl⟩)
                simp only [Act.put, List.setIfInBounds_toArray, List.set_cons_zero, List.set_cons_succ]
                refine hwant _ _ _ (by rfl) ⟨?vd12, fun w' hC => ?yd12, ?nd12⟩
                case yd12 =>
                  obtain ⟨q0, q1, q2, q3, q4⟩ := (HC.out w').1 hC
                  first | (go_simp; done) | (go_simp; rfl) | (go_simp; omega) | (go_simp; exact ⟨rfl, rfl⟩)
                simp only [Act.put, List.setIfInBounds_toArray, List.set_cons_zero, List.set_cons_succ]
                refine hwant _ _ _ (by rfl) ⟨?vd13, fun w' hC => ?yd13, ?nd13⟩
                case yd13 =>
                  obtain ⟨q0, q1, q2, q3, q4⟩ := (HC.out w').1 hC
                  first | (go_simp; done) | (go_simp; rfl) | (go_simp; omega) | (go_simp; exact ⟨rfl, rfl⟩)
                simp only [Act.put, List.setIfInBounds_toArray, List.set_cons_zero, List.set_cons_succ]
                refine hwant _ _ _ (by rfl) ⟨.bool true, fun w' hC => ?yd14, ?nd14⟩
                case yd14 =>
                  obtain ⟨q0, q1, q2, q3, q4⟩ := (HC.out w').1 hC
                  go_simp
                  refine (typeValidS_at y w' hsy true HT).mono ?_
                  rintro e w'' ⟨rfl, hbq⟩
                  exact ⟨rfl, (HC.out w'').2 ⟨cell_below q0 q3 hbq, cell_below q1 q3 hbq, q2.trans (hbq.mono q2.size), Nat.lt_of_lt_of_le q3 hbq.size, cell_below q4 (by omega) hbq⟩⟩
                simp only [Act.put, List.setIfInBounds_toArray, List.set_cons_zero, List.set_cons_succ]
                refine hwant _ _ _ (by rfl) ⟨?vd15, fun w' hC => ?yd15, ?nd15⟩
                case yd15 =>
                  obtain ⟨q0, q1, q2, q3, q4⟩ := (HC.out w').1 hC
                  first | (go_simp; done) | (go_simp; rfl) | (go_simp; omega) | (go_simp; exact ⟨rfl, rfl⟩)
                simp only [Act.put, List.setIfInBounds_toArray, List.set_cons_zero, List.set_cons_succ]
                refine hwant _ _ _ (by rfl) ⟨?vd16, fun w' hC => ?yd16, ?nd16⟩
                case yd16 =>
                  obtain ⟨q0, q1, q2, q3, q4⟩ := (HC.out w').1 hC
                  first | (go_simp; done) | (go_simp; rfl) | (go_simp; omega) | (go_simp; exact ⟨rfl, rfl⟩)
                simp only [Act.put, List.setIfInBounds_toArray, List.set_cons_zero, List.set_cons_succ]
                refine hwant _ _ _ (by rfl) ⟨?vd17, fun w' hC => ?yd17, ?nd17⟩
                case yd17 =>
                  obtain ⟨q0, q1, q2, q3, q4⟩ := (HC.out w').1 hC
                  first | (go_simp; done) | (go_simp; rfl) | (go_simp; omega) | (go_simp; exact ⟨rfl, rfl⟩)
                simp only [Act.put, List.setIfInBounds_toArray, List.set_cons_zero, List.set_cons_succ]
                refine hwant _ _ _ (by rfl) ⟨?vd18, fun w' hC => ?yd18, ?nd18⟩
                case yd18 =>
                  obtain ⟨q0, q1, q2, q3, q4⟩ := (HC.out w').1 hC
                  first | (go_simp; done) | (go_simp; rfl) | (go_simp; omega) | (go_simp; exact ⟨rfl, rfl⟩)
                simp only [Act.put, List.setIfInBounds_toArray, List.set_cons_zero, List.set_cons_succ]
                refine hwant _ _ _ (by rfl) ⟨.bool true, fun w' hC => ?yd19, ?nd19⟩
                case yd19 =>
                  obtain ⟨q0, q1, q2, q3, q4⟩ := (HC.out w').1 hC
                  first | (go_simp; done) | (go_simp; rfl) | (go_simp; omega) | (go_simp; exact ⟨rfl, rfl⟩)
                simp only [Act.put, List.setIfInBounds_toArray, List.set_cons_zero, List.set_cons_succ]
                refine hwant _ _ _ (by rfl) ⟨?vd20, fun w' hC => ?yd20, ?nd20⟩
                case yd20 =>
                  obtain ⟨q0, q1, q2, q3, q4⟩ := (HC.out w').1 hC
                  first | (go_simp; done) | (go_simp; rfl) | (go_simp; omega) | (go_simp; exact ⟨rfl, rfl⟩)
                simp only [Act.put, List.setIfInBounds_toArray, List.set_cons_zero, List.set_cons_succ]
                refine hwant _ _ _ (by rfl) ⟨?vd21, fun w' hC => ?yd21, ?nd21⟩
                case yd21 =>
                  obtain ⟨q0, q1, q2, q3, q4⟩ := (HC.out w').1 hC
                  first | (go_simp; done) | (go_simp; rfl) | (go_simp; omega) | (go_simp; exact ⟨rfl, rfl⟩)
                simp only [Act.put, List.setIfInBounds_toArray, List.set_cons_zero, List.set_cons_succ]
                refine hwant _ _ _ (by rfl) ⟨?vd22, fun w' hC => ?yd22, ?nd22⟩
                case yd22 =>
                  obtain ⟨q0, q1, q2, q3, q4⟩ := (HC.out w').1 hC
                  first | (go_simp; done) | (go_simp; rfl) | (go_simp; omega) | (go_simp; exact ⟨rfl, rfl⟩)
                simp only [Act.put, List.setIfInBounds_toArray, List.set_cons_zero, List.set_cons_succ]
                refine hwant _ _ _ (by rfl) ⟨?vd23, fun w' hC => ?yd23, ?nd23⟩
                case yd23 =>
                  obtain ⟨q0, q1, q2, q3, q4⟩ := (HC.out w').1 hC
                  first | (go_simp; done) | (go_simp; rfl) | (go_simp; omega) | (go_simp; exact ⟨rfl, rfl⟩)
                simp only [Act.put, List.setIfInBounds_toArray, List.set_cons_zero, List.set_cons_succ]
                refine hwant _ _ _ (by rfl) ⟨?vd24, fun w' hC => ?yd24, ?nd24⟩
                case yd24 =>
                  obtain ⟨q0, q1, q2, q3, q4⟩ := (HC.out w').1 hC
                  first | (go_simp; done) | (go_simp; rfl) | (go_simp; omega) | (go_simp; exact ⟨rfl, rfl⟩)
                simp only [Act.put, List.setIfInBounds_toArray, List.set_cons_zero, List.set_cons_succ]
                refine hwant _ _ _ (by rfl) ⟨?vd25, fun w' hC => ?yd25, ?nd25⟩
                case yd25 =>
                  obtain ⟨q0, q1, q2, q3, q4⟩ := (HC.out w').1 hC
                  first | (go_simp; done) | (go_simp; rfl) | (go_simp; omega) | (go_simp; exact ⟨rfl, rfl⟩)
                simp only [Act.put, List.setIfInBounds_toArray, List.set_cons_zero, List.set_cons_succ]
                refine hwant _ _ _ (by rfl) ⟨?vd26, fun w' hC => ?yd26, ?nd26⟩
                case yd26 =>
                  obtain ⟨q0, q1, q2, q3, q4⟩ := (HC.out w').1 hC
                  first | (go_simp; done) | (go_simp; rfl) | (go_simp; omega) | (go_simp; exact ⟨rfl, rfl⟩)
                simp only [Act.put, List.setIfInBounds_toArray, List.set_cons_zero, List.set_cons_succ]
                refine hwant _ _ _ (by rfl) ⟨?vd27, fun w' hC => ?yd27, ?nd27⟩
                case yd27 =>
                  obtain ⟨q0, q1, q2, q3, q4⟩ := (HC.out w').1 hC
                  first | (go_simp; done) | (go_simp; rfl) | (go_simp; omega) | (go_simp; exact ⟨rfl, rfl⟩)
                simp only [Act.put, List.setIfInBounds_toArray, List.set_cons_zero, List.set_cons_succ]
                refine hwant _ _ _ (by rfl) ⟨?vd28, fun w' hC => ?yd28, ?nd28⟩
                case yd28 =>
                  obtain ⟨q0, q1, q2, q3, q4⟩ := (HC.out w').1 hC
                  first | (go_simp; done) | (go_simp; rfl) | (go_simp; omega) | (go_simp; exact ⟨rfl, rfl⟩)
                simp only [Act.put, List.setIfInBounds_toArray, List.set_cons_zero, List.set_cons_succ]
                refine hwant _ _ _ (by rfl) ⟨?vd29, fun w' hC => ?yd29, ?nd29⟩
                case yd29 =>
                  obtain ⟨q0, q1, q2, q3, q4⟩ := (HC.out w').1 hC
                  first | (go_simp; done) | (go_simp; rfl) | (go_simp; omega) | (go_simp; exact ⟨rfl, rfl⟩)
                simp only [Act.put, List.setIfInBounds_toArray, List.set_cons_zero, List.set_cons_succ]
                refine hwant _ _ _ (by rfl) ⟨?vd30, fun w' hC => ?yd30, ?nd30⟩
                case yd30 =>
                  obtain ⟨q0, q1, q2, q3, q4⟩ := (HC.out w').1 hC
                  first | (go_simp; done) | (go_simp; rfl) | (go_simp; omega) | (go_simp; exact ⟨rfl, rfl⟩)
                simp only [Act.put, List.setIfInBounds_toArray, List.set_cons_zero, List.set_cons_succ]
                refine hwant _ _ _ (by rfl) ⟨?vd31, fun w' hC => ?yd31, ?nd31⟩
                case yd31 =>
                  obtain ⟨q0, q1, q2, q3, q4⟩ := (HC.out w').1 hC
                  first | (go_simp; done) | (go_simp; rfl) | (go_simp; omega) | (go_simp; exact ⟨rfl, rfl⟩)
                simp only [Act.put, List.setIfInBounds_toArray, List.set_cons_zero, List.set_cons_succ]
                refine hnil _ ?_
                intro w' hC
                obtain ⟨q0, q1, q2, q3, q4⟩ := (HC.out w').1 hC
                go_wp2_with fail
                go_roundw
                case rel => exact ⟨k + 1, d, hlt, by go_num, HOK.out, .inr ⟨(x, y), Nat.succ_pos k, HX.out, HD.out⟩, q2⟩
                case measure => simp [intOf]; omega
      · have hs1 : ((x.size : Int) != 1) = true := by simp; omega
        have HNO := hid (show bvOf zs = false by
          rw [HBV.out, HDR.out]
          refine bvGo_bad fun c e1 _ _ _ => h1 ?_
          have e : x.size = x.data.toList.length := by simp
          rw [e, show x.data.toList = [c] from e1]
          rfl)
        clear h1
        go_wp2_with fail
        go_quiet (fail)
        go_wp2_with fail
        go_ret
        exact ⟨ret_bool HNO.out.symm, below_drewN' (hbel.alloc hzw _) _⟩
    · obtain rfl : k = n := by omega
      have HEND := hid (show bvOf zs = true by
        rw [HBV.out, List.drop_of_length_le (by have := HA.out.1; omega)]
        rfl)
      go_wp2_with fail
      go_ret
      exact ⟨ret_bool HEND.out.symm, hbel⟩

end Go.Proofs.YtjpdiahbnhemoaaGreat
