/- The model's PartsOfDict and InstancesIn; the program's parts as the law's walk takes them. -/
import Derived.Test.YtlpfgiegapelmaaDoorDcS
namespace Go.Proofs.YtlpfgiegapelmaaDoor
open Go.RowKit
set_option linter.unusedVariables false

theorem l6Read_parts {w : World} {l : List UInt8} {e : Ending} {w1 : World} (h : MEnd w (dtOf l) e w1) : ∃ (ps : List Dt) (q : Int) (A : Option Addr) (n cap : Nat) (b : Bool), e = .returned (.tuple #[.agg #[.int .i64 q, .slice A n cap], .bool b]) ∧ Below w.heap.size w w1 ∧
    Hid (n ≤ 3 ∧ ps.length = n ∧ dpsOf l = (ps.map fun p => strOf p.text) ∧ (∀ p ∈ ps, p.ok ∧ p.text.length ≤ 1200) ∧ (0 < n → ∃ g, A = some ⟨g, 0, none⟩ ∧ (w.heap.size ≤ g ∧ g < w1.heap.size) ∧ ∀ (j : Nat) p, ps[j]? = some p → ∃ x y, w1.cell? ⟨g, j * 2, none⟩ = some x ∧ w1.cell? ⟨g, j * 2 + 1, none⟩ = some y ∧ RepM w1 (fun x => w.heap.size ≤ x ∧ x < w1.heap.size) p x y)) := by
  obtain ⟨hb, ⟨hn, rfl⟩ | ⟨d, q, A, m, cap, hd, rfl, hrep⟩⟩ := h
  · exact ⟨[], 0, none, 0, 0, false, rfl, hb, Nat.zero_le _, rfl, by unfold dpsOf; rw [hn]; rfl, (fun p hp => by cases hp), fun h => absurd h (Nat.lt_irrefl 0)⟩
  · obtain ⟨c, ps⟩ := d
    obtain ⟨htx, hok, hl⟩ := dtOf_text hd
    obtain ⟨_, hp3, hps⟩ := (Dt.ok_nd c ps).1 hok
    obtain ⟨hh, A', cap', e, hcap, hrow⟩ := hrep.row
    injection e with e1 e2 e3
    subst e1
    subst e2
    subst e3
    refine ⟨ps, q, A, ps.length, cap, true, rfl, hb, hp3, rfl, by unfold dpsOf; rw [hd], fun p hp => ⟨hps p hp, ?_⟩, hrow⟩
    have h1 := mem_len (i := 0) hp
    rw [htx, Dt.text_nd] at hl
    simp only [List.length_cons, List.length_append] at hl
    omega

def PsRel (w w1 : World) (ps : List Dt) (n : Nat) (v i : Value) (wr : World) : Prop :=
  ∃ k gv cv : Nat, k ≤ n ∧ i = .int .i64 k ∧ v = .slice (some ⟨gv, 0, none⟩) k cv ∧ (gv = w.heap.size ∨ w1.heap.size ≤ gv) ∧ wr.ownsRow w.heap.size 9 1 v k ((ps.take k).map fun p => Value.string (strOf p.text)) ∧ Below w.heap.size w wr ∧ w1.heap.size ≤ wr.heap.size ∧ (∀ j, w.heap.size < j → j < w1.heap.size → wr.heap[j]? = w1.heap[j]?)

set_option maxHeartbeats 2000000 in
set_option maxRecDepth 100000 in
theorem partsOfDictS_any (s : ByteArray) (w : World) (hs : s.size ≤ maxLen) :
    Calls Tryd.prog 17 #[.string s] w fun e w' => (∃ v, e = .returned v ∧ w'.ownsRow w.heap.size 9 1 v (dpsOf s.data.toList).length ((dpsOf s.data.toList).map Value.string)) ∧ Below w.heap.size w w' := by
  obtain ⟨i0, hi0, hz0, hz1, hz2⟩ := info_parts stringInfo
  obtain ⟨V, hV⟩ : ∃ V, w.alloc (.cells #[] 9) = V := ⟨_, rfl⟩
  have hVc := heap_new1 w (.cells #[] 9)
  rw [hV] at hVc
  have BV := hid (show Below w.heap.size w V by rw [← hV]; exact (Below.refl _ _).alloc (Nat.le_refl _) _)
  have zV : V.heap.size = w.heap.size + 1 := by rw [← hV]; simp only [World.size_alloc]
  have HRD := hid (l6Read_any s V hs)
  have HVV := hid hV
  have HVC := hid hVc
  have ZV := hid zV
  clear hV hVc zV
  go_enter Tryd.func17, Tryd.ntmps17
  go_wp2_with fail
  rw [HVV.out]
  refine HRD.out.mono ?_
  intro e w1 hend
  obtain ⟨ps, q, A, n, cap, b, rfl, hb1, hh⟩ := l6Read_parts hend
  clear hend
  have z1 := hb1.size
  have B1 := hid (BV.out.trans (hb1.mono BV.out.size))
  have hg1 := (hb1.block w.heap.size (by have := ZV.out; omega)).trans HVC.out
  have HG1 := hid hg1
  have hlw : w.heap.size < w1.heap.size := by have := ZV.out; omega
  have hnb : n ≤ 3 := hh.out.1
  clear hb1 hg1 z1
  go_wp2_with fail
  go_loopw [3, 17] (fun v i wr => PsRel w w1 ps n v i wr) (fun _ i _ => n - (intOf i).toNat)
  case atStart =>
    exact ⟨0, w.heap.size, 0, Nat.zero_le _, rfl, rfl, .inl rfl, own_empty ((Below.heap_alloc _ _ _ hlw).trans HG1.out) _ (Nat.le_refl _), B1.out.alloc B1.out.size _, by simp only [World.size_alloc]; omega, fun j h1 h2 => Below.heap_alloc _ _ _ h2⟩
  case round =>
    obtain ⟨k, gv, cv, hk, rfl, rfl, hgv, hown, hbel, zr1, hkeep⟩ := hrel
    have HW := hid hown
    have CR := hid hbel
    have HKP := hid hkeep
    have hgl : gv < wr.heap.size := (hown.lt gv rfl).2
    have zr := hbel.size
    clear hown hbel hkeep
    by_cases hlt : k < n
    · obtain ⟨_, hn, _, hok, hrow⟩ := hh.out
      obtain ⟨g, rfl, hg, hcells⟩ := hrow (by omega)
      have hpk : k < ps.length := by omega
      obtain ⟨p, hp⟩ : ∃ p, ps[k]? = some p := ⟨_, List.getElem?_eq_getElem hpk⟩
      obtain ⟨x, y, hca, hcb, hrep⟩ := hcells k p hp
      obtain ⟨hpo, hpl⟩ := hok p (List.mem_of_getElem? hp)
      obtain ⟨q', A', m', cap', rfl, rfl⟩ := hrep.form
      have zv := ZV.out
      have hgb := HKP.out g (by omega) hg.2
      have ca : wr.cell? ⟨g, k * 2, none⟩ = _ := (World.cell?_of_block hgb).trans hca
      have cb : wr.cell? ⟨g, k * 2 + 1, none⟩ = _ := (World.cell?_of_block hgb).trans hcb
      have HZ := hid (textM_any p _ _ _ (wr.alloc (.cells #[.int .i64 q', .slice A' m' cap'] 64)) (RepM.keep (S' := fun x => x < wr.heap.size) (fun x hx => ⟨by have := hx.2; omega, by rw [Below.heap_alloc _ _ _ (by have := hx.2; omega)]; exact HKP.out x (by have := hx.1; omega) hx.2⟩) p _ _ hrep) (fun x hx => by simp only [World.size_alloc]; omega) hpo (by omega))
      obtain ⟨t, ht⟩ : ∃ t, strOf p.text = t := ⟨_, rfl⟩
      rw [ht] at HZ
      have HTK := hid (show (ps.take (k + 1)).map (fun p => Value.string (strOf p.text)) = (ps.take k).map (fun p => Value.string (strOf p.text)) ++ [.string t] by rw [List.take_add_one, hp, ← ht]; simp)
      have i1 : (0 : Int) ≤ (k : Int) := by omega
      have i2 : (k : Int) < (n : Int) := by omega
      clear hcells hrep hp hca hcb hgb hrow hok hn ht hpo hpl zv
      go_wp2_with fail
      refine HZ.out.mono ?_
      rintro e w2 ⟨rfl, hb2⟩
      have z2 := hb2.size
      simp only [World.size_alloc] at z2
      have R2 := hid (((Below.refl wr.heap.size wr).alloc (Nat.le_refl _) _).trans (hb2.mono (by simp only [World.size_alloc]; omega)))
      have B2 := hid (CR.out.trans (R2.out.mono zr))
      have HO2 := hid (own_heap' HW.out R2.out)
      clear hb2
      go_wp2_with (at_builtin; refine wpList_append_lies _ rfl _ _ 24 rfl w.heap.size 9 i0 (.string ⟨#[]⟩) 1 16 Tryd.underlying24 hi0 hz0 hz1 hz2 rfl (by decide) _ _ _ rfl (World.ownsRow.alloc HO2.out _) ⟨w2.heap.size, 0, none⟩ 1 1 [.string t] rfl rfl ?c1 ?c2 (by decide) ?c3 ?c4 ?c5 (w2.heap.size + 1) (World.size_alloc _ _) ?_)
      case c1 => exact news1 _ _ _
      case c2 =>
        intro u hu
        simp only [List.mem_singleton] at hu
        subst hu
        rfl
      case c3 => unfold maxLen; omega
      case c4 => omega
      case c5 => simp only [World.size_alloc]; have := B2.out.size; omega
      intro g5 cap5 w5 hown5 hg5 hat5 q5
      have HO5 := hid hown5
      have z5 := hg5.size
      simp only [World.size_alloc] at z5
      have hat : g5 = gv ∨ g5 = w2.heap.size + 1 := by
        rcases hat5 with h | h
        · simp only [Value.ownBlock, Option.some.injEq] at h
          exact .inl h.symm
        · exact .inr h
      have HG5 := hid hg5
      clear hown5 hg5 hat5 q5
      go_wp2_with fail
      go_roundw
      case rel =>
        have hblk : ∀ j, j < w2.heap.size → j ≠ gv → w5.heap[j]? = w2.heap[j]? := fun j hj hn => by
          rw [HG5.out.block j (by simp only [World.size_alloc]; omega) (by simp [Value.ownBlock]; omega)]
          exact Below.heap_alloc _ _ _ hj
        refine ⟨k + 1, g5, cap5, hlt, by go_num, rfl, ?_, ?_, ?_, by omega, fun j h1 h2 => ?_⟩
        · rcases hat with h | h
          · rw [h]; exact hgv
          · exact .inr (by omega)
        · rw [HTK.out]
          have h := HO5.out
          rw [← List.map_take] at h
          exact h
        · refine (B2.out.alloc B2.out.size _).grown HG5.out (by simp only [World.size_alloc]; have := B2.out.size; omega) (fun j hj => ?_)
          simp only [Value.ownBlock, Option.some.injEq] at hj
          omega
        · rw [hblk j (by omega) (by omega), R2.out.block j (by omega)]
          exact HKP.out j h1 h2
      case measure => simp [intOf]; omega
    · have hkn : k = n := by omega
      subst hkn
      obtain ⟨_, hn, hd, _⟩ := hh.out
      go_wp2_with fail
      go_ret
      have h := HW.out
      rw [List.take_of_length_le (by omega)] at h
      rw [hd, List.length_map, hn, List.map_map]
      exact ⟨⟨_, rfl, h⟩, CR.out⟩

theorem findI_ge (l : List UInt8) (c : UInt8) : 0 ≤ findI l c ↔ c ∈ l := by
  unfold findI
  rcases h : l.findIdx? (· == c) with _ | k
  · rw [List.findIdx?_eq_none_iff] at h
    constructor
    · intro h1; exact absurd h1 (by decide)
    · intro hc
      have := h c hc
      simp at this
  · constructor
    · intro _
      obtain ⟨hk, h1, _⟩ := List.findIdx?_eq_some_iff_getElem.1 h
      have : l[k] = c := by simpa using h1
      rw [← this]
      exact List.getElem_mem hk
    · intro _
      exact Int.natCast_nonneg k
def insB (l : List UInt8) (i : Nat) : Bool := (dtOf l).isSome && decide (0 ≤ findI l (dgOf i))
theorem insIn_insB (l : List UInt8) : insIn l = (List.range 10).filter (insB l) := by
  unfold insIn
  rcases hd : dtOf l with _ | d
  · symm
    rw [List.filter_eq_nil_iff]
    intro i _
    unfold insB
    rw [hd]
    simp
  · refine List.filter_congr fun i hi => ?_
    have hi' : i ≤ 9 := by have := List.mem_range.1 hi; omega
    have h := Dt.has_text (dgOf_dg hi') d
    rw [← (dtOf_text hd).1] at h
    unfold insB
    rw [hd, Option.isSome_some, Bool.true_and]
    rw [Bool.eq_iff_iff, decide_eq_true_iff, findI_ge]
    exact h.symm

set_option maxHeartbeats 2000000 in
set_option maxRecDepth 100000 in
theorem instancesInS_any (s : ByteArray) (w : World) (hs : s.size ≤ maxLen) :
    Calls Tryd.prog 23 #[.string s] w fun e w' => (∃ v, e = .returned v ∧ OwnK w' w.heap.size v (insIn s.data.toList)) ∧ Below w.heap.size w w' := by
  obtain ⟨i0, hi0, hz0, hz1, hz2⟩ := info_parts infoIntK
  rw [insIn_insB]
  obtain ⟨b1, hb1⟩ : ∃ b1, (dtOf s.data.toList).isSome = b1 := ⟨_, rfl⟩
  have HV1 := hid hb1
  have HDV := hid (fun (W : World) => dictValidS_at s W hs b1 HV1)
  obtain ⟨f, hf⟩ : ∃ f, insB s.data.toList = f := ⟨_, rfl⟩
  have HF := hid hf
  rw [hf]
  clear hb1 hf
  go_enter Tryd.func23, Tryd.ntmps23
  go_wp2_with fail
  go_loopw [3, 6] (fun v i wr => ∃ k : Nat, k ≤ 10 ∧ i = .int .i64 k ∧ OwnK wr w.heap.size v (((List.range 10).take k).filter f) ∧ Below w.heap.size w wr) (fun _ i _ => 10 - (intOf i).toNat)
  case atStart => exact ⟨0, Nat.zero_le _, rfl, own_empty (heap_new1 w _) _ (Nat.le_refl _), (Below.refl _ _).alloc (Nat.le_refl _) _⟩
  case round =>
    obtain ⟨k, hk, rfl, hown, hbel⟩ := hrel
    have HW := hid hown
    have hfl := filter_le (List.range 10) f k
    have HBR := hid hbel
    have zr := hbel.size
    clear hown hbel
    by_cases hlt : k < 10
    · have HTK := hid (filter_snoc (f := f) (List.getElem?_range hlt))
      have i1 : (0 : Int) ≤ (k : Int) := by omega
      have i2 : (k : Int) < 10 := by omega
      have hw1 : IntKind.i64.wrap (48 + (k : Int)) = 48 + (k : Int) := by rw [IntKind.wrap_i64]; omega
      have hw2 : IntKind.u8.wrap (48 + (k : Int)) = 48 + (k : Int) := by rw [IntKind.wrap_u8]; omega
      obtain ⟨q, hq⟩ : ∃ q, findI s.data.toList (dgOf k) = q := ⟨_, rfl⟩
      have HFI := hid (fun (W : World) => show Calls Tryd.prog 57 #[.string s, .int .u8 (48 + (k : Int))] W fun e w' => e = .returned (.int .i64 q) ∧ W = w' from by
        have h := l13Find_at s (dgOf k) W hs q (hid hq)
        rw [← dgOf_nat (by omega)] at h
        exact h.mono fun e w' h => ⟨h.1, h.2.symm⟩)
      have HFK := hid (show f k = (b1 && decide (0 ≤ q)) by rw [← HF.out, ← HV1.out, ← hq]; rfl)
      clear hq
      go_wp2_with fail
      refine (HDV.out _).mono ?_
      rintro e w2 ⟨rfl, d1⟩
      have HW1 := hid (HW.out.keep d1)
      have B1 := hid (HBR.out.trans (d1.mono HBR.out.size))
      clear d1
      cases b1
      · go_wp2_with fail
        go_roundw
        case rel => exact ⟨k + 1, hlt, by go_num, by rw [HTK.out, HFK.out, Bool.false_and, if_neg (by decide), List.append_nil]; exact HW1.out, B1.out⟩
        case measure => simp [intOf]; omega
      · by_cases h0 : 0 ≤ q
        · have HFT := hid (show f k = true by rw [HFK.out, decide_eq_true h0]; rfl)
          obtain ⟨L, hL⟩ : ∃ L, ((List.range 10).take k).filter f = L := ⟨_, rfl⟩
          rw [hL] at HW1 HTK hfl
          have HLL := hid hL
          clear hL
          go_wp2_with (first
            | (go_at_call 57; refine (HFI.out _).mono ?_; rintro e w' ⟨rfl, rfl⟩)
            | (at_builtin; refine wpList_append_own _ rfl _ _ 30 rfl w.heap.size 3 i0 (.int .i64 0) 1 8 Tryd.underlying30 hi0 hz0 hz1 hz2 rfl (by decide) _ L.length _ rfl (World.ownsRow.alloc HW1.out _) ⟨w2.heap.size, 0, none⟩ 1 1 [.int .i64 (k : Int)] rfl rfl (cell_one_new _ _ _) ?c2 ?c3 ?c4 ?c5 ?_))
          case c2 => simp [Value.oneCell']
          case c3 => unfold maxLen; omega
          case c4 => omega
          case c5 => simp only [World.size_alloc]; have := B1.out.size; omega
          intro v2 w7 hown7 hg7 hv7
          clear hv7
          have HO7 := hid hown7
          have HG7 := hid hg7
          clear hown7 hg7
          go_wp2_with fail
          go_roundw
          case rel =>
            refine ⟨k + 1, hlt, by go_num, ?_, ?_⟩
            · rw [HTK.out, HFT.out, if_pos rfl]
              unfold OwnK
              rw [zOf_append, List.map_append, List.length_append]
              exact HO7.out
            · exact (B1.out.alloc B1.out.size _).grown HG7.out (by simp only [World.size_alloc]; have := B1.out.size; omega) (fun k' hk' => (HW1.out.lt k' hk').1)
          case measure => simp [intOf]; omega
        · have HFT := hid (show f k = false by rw [HFK.out, decide_eq_false h0]; rfl)
          go_wp2_with (first
            | (go_at_call 57; refine (HFI.out _).mono ?_; rintro e w' ⟨rfl, rfl⟩)
            | fail)
          go_roundw
          case rel => exact ⟨k + 1, hlt, by go_num, by rw [HTK.out, HFT.out, if_neg (by decide), List.append_nil]; exact HW1.out, B1.out⟩
          case measure => simp [intOf]; omega
    · have hkn : k = 10 := by omega
      subst hkn
      go_wp2_with fail
      go_ret
      have h := HW.out
      rw [List.take_of_length_le (by simp)] at h
      exact ⟨⟨_, rfl, h⟩, HBR.out⟩

theorem dpsOf_len (l : List UInt8) : (dpsOf l).length ≤ 3 := by
  unfold dpsOf
  rcases hd : dtOf l with _ | ⟨c, ps⟩
  · exact Nat.zero_le _
  · rw [List.length_map]
    exact ((Dt.ok_nd c ps).1 (dtOf_text hd).2.1).2.1
theorem insIn_len (l : List UInt8) : (insIn l).length ≤ 10 := by
  unfold insIn
  rcases dtOf l with _ | d
  · exact Nat.zero_le _
  · exact Nat.le_trans (List.length_filter_le _ _) (by simp)
theorem partsEnd_own {w w' : World} {xs : List ByteArray} {e : Ending} (h : (∃ v, e = .returned v ∧ w'.ownsRow w.heap.size 9 1 v xs.length (xs.map Value.string)) ∧ Below w.heap.size w w') : PartsEnd w xs e w' := by
  obtain ⟨⟨v, rfl, hown⟩, hb⟩ := h
  have hown' := hown
  obtain ⟨h1, ⟨rfl, h0⟩ | ⟨g, cap, cur, rfl, hgb, _⟩⟩ := hown
  · have : xs = [] := List.length_eq_zero_iff.1 h0
    subst this
    exact ⟨none, 0, rfl, .inl ⟨rfl, rfl, rfl⟩, hb⟩
  · exact ⟨_, cap, rfl, .inr ⟨g, rfl, hgb, own_strs hown'⟩, hb⟩
theorem partsOfDictS_end (s : ByteArray) (hs : s.size ≤ maxLen) (w : World) : Calls Tryd.prog 17 #[.string s] w (PartsEnd w (dpsOf s.data.toList)) :=
  (partsOfDictS_any s w hs).mono fun _ _ h => partsEnd_own h
theorem partsOfDictI_end (s : ByteArray) (hs : s.size ≤ maxLen) (w : World) : Calls Tryd.prog 14 #[.string s] w (PartsEnd w (dpsOf s.data.toList)) :=
  (partsOfDictI_any s w hs).mono fun _ _ h => partsEnd_own h

end Go.Proofs.YtlpfgiegapelmaaDoor
