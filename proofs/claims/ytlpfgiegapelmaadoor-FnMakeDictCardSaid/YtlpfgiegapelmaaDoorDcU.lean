/- The model's MakeDict. -/
import Derived.Test.YtlpfgiegapelmaaDoorDcT
namespace Go.Proofs.YtlpfgiegapelmaaDoor
open Go.RowKit
set_option linter.unusedVariables false

theorem partsT_bound {ps : List Dt} {m : Nat} (h : ∀ p ∈ ps, p.text.length ≤ m) : ∀ i, (partsT i ps).length ≤ ps.length * (m + 1) := by
  induction ps with
  | nil => intro i; exact Nat.zero_le _
  | cons a ps ih =>
    intro i
    have h1 := h a (List.mem_cons_self ..)
    have h2 := ih (fun p hp => h p (List.mem_cons_of_mem _ hp)) (i + 1)
    rw [partsT_cons, List.length_cons, List.length_append, List.length_cons, Nat.add_mul]
    omega
theorem dtsOf_len (xs : List ByteArray) : ∀ d ∈ dtsOf xs, d.text.length ≤ 1200 := by
  intro d hd
  unfold dtsOf at hd
  obtain ⟨x, _, hx⟩ := List.mem_filterMap.1 hd
  obtain ⟨ht, _, hl⟩ := dtOf_text hx
  rw [← ht]
  exact hl
theorem dtsOf_snoc {xs : List ByteArray} {k : Nat} {x : ByteArray} {d : Dt} (hx : xs[k]? = some x) (hd : dtOf x.data.toList = some d) : dtsOf (xs.take (k + 1)) = dtsOf (xs.take k) ++ [d] := by
  rw [List.take_add_one, hx]
  unfold dtsOf
  rw [List.filterMap_append]
  congr 1
  simp [hd]

def MdR (w : World) (i : Int) (n : Nat) (xs : List ByteArray) (iv : Value) (wr : World) : Prop :=
  ∃ (k g cap : Nat) (ys : List Value), k ≤ n ∧ iv = .int .i64 k ∧ (∀ x ∈ xs.take k, (dtOf x.data.toList).isSome = true) ∧ (w.heap.size ≤ g ∧ g ≠ w.heap.size + 1) ∧
    wr.heap[w.heap.size + 1]? = some (.cells #[.int .i64 i, .slice (some ⟨g, 0, none⟩) k cap] 64 (0, 0)) ∧ wr.ownsRow w.heap.size 64 2 (.slice (some ⟨g, 0, none⟩) k cap) k ys ∧
    KidsM wr (fun x => w.heap.size + 2 ≤ x ∧ x < wr.heap.size ∧ x ≠ g) (dtsOf (xs.take k)) ys ∧ Below w.heap.size w wr

set_option maxHeartbeats 4000000 in
set_option maxRecDepth 100000 in
theorem makeDictS_any (i : Int) (hi : -9223372036854775808 ≤ i ∧ i ≤ 9223372036854775807) (A : Option Addr) (n cap : Nat) (xs : List ByteArray) (w : World) (hn : n ≤ 1048576) (hc : n ≤ cap) (ha : Strs w A n xs) (hz : ∀ x ∈ xs, x.size ≤ maxLen) (r : ByteArray) (b : Bool) (hr : Hid (stO (mkD i xs) = r)) (hb : Hid ((mkD i xs).isSome = b)) :
    Calls Tryd.prog 26 #[.int .i64 i, .slice A n cap] w fun e w' => e = .returned (.tuple #[.string r, .bool b]) ∧ Below w.heap.size w w' := by
  obtain ⟨i0, hi0, hz0, hz1, hz2⟩ := info_parts node6Info
  obtain ⟨hi1, hi2⟩ := hi
  obtain ⟨v, hv⟩ : ∃ v, (decide (0 ≤ i) && decide (i ≤ 9)) = v := ⟨_, rfl⟩
  have HV := hid hv
  have HIN := hid (fun (W : World) => show Calls Tryd.prog 61 #[.int .i64 i, .int .i64 0, .int .i64 9] W fun e w' => e = .returned (.bool v) ∧ W = w' from (l1InD_at i 0 9 W v HV).mono fun e w' h => ⟨h.1, h.2.symm⟩)
  clear hv
  cases v
  · obtain ⟨rfl, rfl⟩ := ret_none hr hb (mkD_none (.inl (by
      have := HV.out
      rw [Bool.and_eq_false_iff, decide_eq_false_iff_not, decide_eq_false_iff_not] at this
      omega)))
    clear hr hb ha hz HV
    go_enter Tryd.func26, Tryd.ntmps26
    go_wp2_with fail
    refine (HIN.out _).mono ?_
    rintro e w1 ⟨rfl, rfl⟩
    go_wp2_with fail
    exact bodyPost_ret (v := .tuple #[.string { data := #[] }, .bool false]) (by simp [results, Tryd.results26, go_sem]) rfl ⟨rfl, Below.refl _ _⟩
  · have hq := HV.out
    rw [Bool.and_eq_true, decide_eq_true_iff, decide_eq_true_iff] at hq
    obtain ⟨hq0, hq9⟩ := hq
    obtain ⟨q, rfl⟩ : ∃ q : Nat, i = (q : Int) := ⟨i.toNat, by omega⟩
    by_cases h3 : 3 < n
    · obtain ⟨rfl, rfl⟩ := ret_none hr hb (mkD_none (.inr (.inl (by have := ha.1; omega))))
      clear hr hb ha hz HV
      go_enter Tryd.func26, Tryd.ntmps26
      go_wp2_with fail
      refine (HIN.out _).mono ?_
      rintro e w1 ⟨rfl, rfl⟩
      go_wp2_with fail
      exact bodyPost_ret (v := .tuple #[.string { data := #[] }, .bool false]) (by simp [results, Tryd.results26, go_sem]) rfl ⟨rfl, Below.refl _ _⟩
    · have HA := hid ha
      have HZ := hid hz
      have hl := ha.1
      have HL := hid hl
      obtain ⟨W, hW⟩ : ∃ W, (w.alloc (.cells #[] 64)).alloc (.cells #[.int .i64 (q : Int), .slice (some ⟨w.heap.size, 0, none⟩) 0 0] 64) = W := ⟨_, rfl⟩
      have zW : W.heap.size = w.heap.size + 2 := by rw [← hW]; simp only [World.size_alloc]
      have BW := hid (show Below w.heap.size w W by rw [← hW]; exact ((Below.refl _ _).alloc (Nat.le_refl _) _).alloc (by simp only [World.size_alloc]; omega) _)
      have NW := hid (show W.heap[w.heap.size + 1]? = some (.cells #[.int .i64 (q : Int), .slice (some ⟨w.heap.size, 0, none⟩) 0 0] 64 (0, 0)) by
        rw [← hW]
        have := heap_new1 (w.alloc (.cells #[] 64)) (.cells #[.int .i64 (q : Int), .slice (some ⟨w.heap.size, 0, none⟩) 0 0] 64)
        rwa [World.size_alloc] at this)
      have OW := hid (show W.ownsRow w.heap.size 64 2 (.slice (some ⟨w.heap.size, 0, none⟩) 0 0) 0 [] by
        have e : W.heap[w.heap.size]? = some (.cells #[] 64 (0, 0)) := by
          rw [← hW, Below.heap_alloc _ _ _ (by simp only [World.size_alloc]; omega)]
          exact heap_new1 w _
        exact ⟨rfl, .inr ⟨w.heap.size, 0, #[], rfl, Nat.le_refl _, e, Nat.le_refl _, Nat.zero_le _, rfl, rfl⟩⟩)
      have HWW := hid hW
      have ZW := hid zW
      clear ha hz hl hW
      go_enter Tryd.func26, Tryd.ntmps26
      go_wp2_with fail
      refine (HIN.out _).mono ?_
      rintro e w1 ⟨rfl, rfl⟩
      go_wp2_with fail
      go_loopw [25] (fun iv wr => MdR w (q : Int) n xs iv wr) (fun iv _ => n - (intOf iv).toNat)
      case atStart =>
        rw [HWW.out]
        exact ⟨0, w.heap.size, 0, [], Nat.zero_le _, rfl, (fun x hx => by simp at hx), ⟨Nat.le_refl _, by omega⟩, NW.out, OW.out, ⟨rfl, fun j p hj => by cases hj⟩, BW.out⟩
      case round =>
        obtain ⟨k, g, cp, ys, hk, rfl, hall, hg, hN, hO, hK, hbel⟩ := hrel
        have HALL := hid hall
        have HG := hid hg
        have HN := hid hN
        have HO := hid hO
        have HK := hid hK
        have HB := hid hbel
        have zr := hbel.size
        have hgl := (hO.lt g rfl).2
        have hn1 : w.heap.size + 1 < wr.heap.size := (Array.getElem?_eq_some_iff.1 hN).1
        clear hall hg hN hO hK
        by_cases hlt : k < n
        · obtain ⟨gx, o, rfl, hgx, hca⟩ := HA.out.2 (by omega)
          have hx : xs[k]? = some (xs[k]'(by have := HL.out; omega)) := List.getElem?_eq_getElem _
          have ca := cell_below (hca k _ hx) hgx hbel
          have hsz := HZ.out _ (List.mem_of_getElem? hx)
          obtain ⟨x, ex⟩ : ∃ x, xs[k]'(by have := HL.out; omega) = x := ⟨_, rfl⟩
          rw [ex] at ca hsz hx
          have HX := hid hx
          have HRD := hid (l6Read_any x wr hsz)
          have i1 : (0 : Int) ≤ (k : Int) := by omega
          have i2 : (k : Int) < (n : Int) := by omega
          clear hca hx ex hbel
          go_wp2_with fail
          refine HRD.out.mono ?_
          rintro e w2 ⟨hb2, ⟨hnn, rfl⟩ | ⟨d, q', A', m', cap', hd, rfl, hrep⟩⟩
          · obtain ⟨hr1, hb1⟩ := ret_none hr hb (mkD_none (.inr (.inr ⟨x, List.mem_of_getElem? HX.out, hnn⟩)))
            have B2 := hid (HB.out.trans (hb2.mono zr))
            clear hr hb HX hnn hb2
            subst hr1
            subst hb1
            go_wp2_with fail
            exact bodyPost_ret (v := .tuple #[.string { data := #[] }, .bool false]) (by simp [results, Tryd.results26, go_sem]) rfl ⟨rfl, B2.out.alloc B2.out.size _⟩
          · have B2 := hid (HB.out.trans (hb2.mono zr))
            have HD := hid hd
            have HREP := hid hrep
            have z2 := hb2.size
            obtain ⟨w3, hw3⟩ : ∃ w3, w2.alloc (.cells #[.int .i64 q', .slice A' m' cap'] 64) = w3 := ⟨_, rfl⟩
            have zw3 : w3.heap.size = w2.heap.size + 1 := by rw [← hw3]; simp only [World.size_alloc]
            have B23 := hid (show Below w2.heap.size w2 w3 by rw [← hw3]; exact (Below.refl _ _).alloc (Nat.le_refl _) _)
            have M3 := hid (show w3.heap[w2.heap.size]? = some (.cells #[.int .i64 q', .slice A' m' cap'] 64 (0, 0)) by rw [← hw3]; exact heap_new1 w2 _)
            have hb3 := hb2.trans (B23.out.mono z2)
            have N3 := hid ((hb3.block _ hn1).trans HN.out)
            have O3 := hid (own_kept HO.out (hb3.block g hgl))
            have K3 := hid (HK.out.keep (S' := fun x => w.heap.size + 2 ≤ x ∧ x < w3.heap.size ∧ x ≠ g) (w' := w3) fun x hx => ⟨⟨hx.1, by have := hx.2.1; omega, hx.2.2⟩, hb3.block x hx.2.1⟩)
            have R3 := hid (RepM.keep (w' := w3) (S' := fun x => w.heap.size + 2 ≤ x ∧ x < w3.heap.size ∧ x ≠ g) (fun x hx => ⟨⟨by have := hx.1; omega, by have := hx.2; omega, by have := hx.1; omega⟩, B23.out.block x hx.2⟩) d _ _ hrep)
            have B3 := hid (B2.out.trans (B23.out.mono B2.out.size))
            have HW3 := hid hw3
            have m0 := cell_blk M3.out (j := 0) rfl
            have m1 := cell_blk M3.out (j := 1) rfl
            have t1 := cell_blk N3.out (j := 1) rfl
            have HG5 := hid (fun (w9 : World) (o : Obj) (hg9 : (w3.alloc o).grownBy w9 (Value.slice (some ⟨g, 0, none⟩) k cp).ownBlock) => show w9.heap[w.heap.size + 1]? = some (.cells #[.int .i64 (q : Int), .slice (some ⟨g, 0, none⟩) k cp] 64 (0, 0)) from by
              rw [hg9.block _ (by simp only [World.size_alloc]; omega) (by simp [Value.ownBlock]; have := HG.out; omega), Below.heap_alloc _ _ _ (by omega)]
              exact N3.out)
            clear hb2 hd hrep hb3
            go_wp2_with (first
              | (at_builtin; refine wpList_append_lies _ rfl _ _ 62 rfl w.heap.size 64 i0 _ 2 32 Tryd.underlying62 hi0 hz0 hz1 hz2 rfl (by decide) _ _ _ rfl (World.ownsRow.alloc O3.out _) ⟨w2.heap.size + 1, 0, none⟩ 1 1 [.int .i64 q', .slice A' m' cap'] rfl rfl ?c1 ?c2 (by decide) ?c3 ?c4 ?c5 (w3.heap.size + 1) (World.size_alloc _ _) ?_)
              | fail)
            case c1 =>
              have h := heap_alloc_new w3 (.cells #[.int .i64 q', .slice A' m' cap'] 64)
              rw [zw3] at h
              exact World.news_of_block h
            case c2 => simp [Value.oneCell']
            case c3 => unfold maxLen; omega
            case c4 => omega
            case c5 => simp only [World.size_alloc]; omega
            intro g5 cap5 w5 hown5 hg5 hat5 q5
            have z5 := hg5.size
            simp only [World.size_alloc] at z5
            have hat : g5 = g ∨ g5 = w3.heap.size + 1 := by
              rcases hat5 with h | h
              · simp only [Value.ownBlock, Option.some.injEq] at h
                exact .inl h.symm
              · exact .inr (by omega)
            have N5 := hid (HG5.out w5 _ hg5)
            have K5 := hid (fun j (hj : j < w3.heap.size) (hn : j ≠ g) => show w5.heap[j]? = w3.heap[j]? from (hg5.block j (by simp only [World.size_alloc]; omega) (by simp [Value.ownBlock]; omega)).trans (Below.heap_alloc _ _ _ hj))
            have B5 := hid ((B3.out.alloc B3.out.size (.cells #[.int .i64 q', .slice A' m' cap'] 64)).grown hg5 (by simp only [World.size_alloc]; have := B3.out.size; omega) (by intro j hj; simp only [Value.ownBlock, Option.some.injEq] at hj; have := HG.out; omega))
            have HO5 := hid hown5
            have hg5n : g5 ≠ w.heap.size + 1 := by have := HG.out; rcases hat with h | h <;> omega
            have hg5l : w.heap.size ≤ g5 := by have := HG.out; rcases hat with h | h <;> omega
            clear hown5 hg5 hat5 q5 m0 m1 t1 hw3
            have t1 := cell_blk N5.out (j := 1) rfl
            have tf := frz6 (o := 1) N5.out
            go_wp2_with fail
            go_roundw
            case rel =>
              refine ⟨k + 1, g5, cap5, _, hlt, by go_num, fun y hy => ?_, ⟨hg5l, hg5n⟩, ?_, own_kept HO5.out (Below.heap_setCell _ _ _ _ hg5n), ?_, B5.out.setCell (show w.heap.size ≤ w.heap.size + 1 by omega) _⟩
              · rw [List.take_add_one, HX.out] at hy
                rcases List.mem_append.1 hy with hy | hy
                · exact HALL.out y hy
                · simp at hy
                  rw [hy, HD.out]
                  rfl
              · have h := N5.out
                simp [World.setCell, Array.getElem?_modify, h]
              · rw [dtsOf_snoc HX.out HD.out]
                refine (K3.out.keep fun x hx => ?_).snoc (RepM.keep (fun x hx => ?_) d _ _ R3.out)
                all_goals
                  obtain ⟨h1, h2, h3⟩ := hx
                  refine ⟨⟨h1, ?_, ?_⟩, ?_⟩
                  · simp only [World.setCell, Array.size_modify]
                    omega
                  · rcases hat with h | h <;> omega
                  · rw [Below.heap_setCell _ _ _ _ (by show x ≠ w.heap.size + 1; omega)]
                    exact K5.out x h2 h3
            case measure => simp [intOf]; omega
        · have hkn : k = n := by omega
          subst hkn
          have hall := HALL.out
          rw [List.take_of_length_le (by have := HL.out; omega)] at hall
          obtain ⟨_, hdl, hdo⟩ := dtsOf_all hall
          have hmk := mkD_all (i := q) (by omega) (by have := HL.out; omega) hall
          have hkk := HK.out
          rw [List.take_of_length_le (by have := HL.out; omega)] at hkk
          have hkk2 := hkk.keep (S' := fun x => x < wr.heap.size) (w' := wr) fun x hx => ⟨hx.2.1, rfl⟩
          have hrepm := RepM.of (c := dgOf q) hkk2 HO.out hgl (by rw [hdl]; exact HL.out.symm)
          have hdn := dgOf_nat (i := q) (by omega)
          rw [← hdn, Nat.add_sub_cancel_left] at hrepm
          have htl : (Dt.nd (dgOf q) (dtsOf xs)).text.length ≤ 10000 := by
            have h1 := partsT_bound (dtsOf_len xs) 0
            have h2 := HL.out
            rw [Dt.text_nd, List.length_cons, List.length_append]
            have h3 : (if (dtsOf xs).isEmpty = true then ([] : List UInt8) else [41]).length ≤ 1 := by split <;> simp
            rw [hdl] at h1
            omega
          have HT := hid (textM_any (.nd (dgOf q) (dtsOf xs)) _ _ _ wr hrepm (fun x hx => hx) ((Dt.ok_nd _ _).2 ⟨dgOf_dg (by omega), by rw [hdl]; have := HL.out; omega, hdo⟩) (by omega))
          obtain ⟨t, ht⟩ : ∃ t, strOf (Dt.nd (dgOf q) (dtsOf xs)).text = t := ⟨_, rfl⟩
          have hts : t.size = (Dt.nd (dgOf q) (dtsOf xs)).text.length := by rw [← ht, strOf_size]
          rw [ht] at HT
          have HTS := hid hts
          have HTT := hid ht
          have HMK := hid hmk
          have htz : t.size ≤ 10000 := by omega
          have n0 := cell_blk HN.out (j := 0) rfl
          have n1 := cell_blk HN.out (j := 1) rfl
          clear hall hmk hkk hkk2 hrepm hdn htl ht hts hdo hdl
          by_cases hbig : 1200 < t.size
          · obtain ⟨hr1, hb1⟩ := ret_none hr hb (by rw [HMK.out, if_neg (by have := HTS.out; omega)])
            clear hr hb
            subst hr1
            subst hb1
            go_wp2_with fail
            refine HT.out.mono ?_
            rintro e w2 ⟨rfl, hb2⟩
            go_wp2_with fail
            exact bodyPost_ret (v := .tuple #[.string { data := #[] }, .bool false]) (by simp [results, Tryd.results26, go_sem]) rfl ⟨rfl, HB.out.trans (hb2.mono HB.out.size)⟩
          · have hms : mkD (q : Int) xs = some (Dt.nd (dgOf q) (dtsOf xs)).text := by rw [HMK.out, if_pos (by have := HTS.out; omega)]
            rw [hms] at hr hb
            have hr1 : t = r := by rw [← hr.out, ← HTT.out]; rfl
            have hb1 : true = b := hb.out
            clear hr hb hms
            subst hr1
            subst hb1
            go_wp2_with fail
            refine HT.out.mono ?_
            rintro e w2 ⟨rfl, hb2⟩
            go_wp2_with fail
            exact bodyPost_ret (v := .tuple #[.string t, .bool true]) (by simp [results, Tryd.results26, go_sem]) rfl ⟨rfl, HB.out.trans (hb2.mono HB.out.size)⟩

end Go.Proofs.YtlpfgiegapelmaaDoor
