/- The texts of what variables come to, in the program. -/
import Derived.Test.YteimmgajohimlaaGreatTxI
import Derived.Test.YteimmgajohimlaaGreatAllI
namespace Go.Proofs.YteimmgajohimlaaGreat
open Go.RowKit Go.Maps

set_option maxHeartbeats 800000 in
set_option maxRecDepth 100000 in
theorem texts_all (sb : Nat) (w : World) (S : Nat → Prop) (f h : UInt8 → Option Ty) (hst : Stnd w sb S f) (hSl : ∀ k, S k → k < w.heap.size) (hK : Known isVarX f h) :
    Calls Tryz.prog 33 #[.pointer (some ⟨sb, 0, none⟩), .func (.func 44) #[.pointer (some ⟨sb, 0, none⟩)] #[]] w fun e w' => ∃ D, e = .returned (.map (some w.heap.size)) ∧ w'.ownsMap Tryz.prog 9 (plainElem Tryz.prog 9) w.heap.size 12 D ∧ Reads D (upto h 12) ∧ Below w.heap.size w w' := by
  obtain ⟨σ, ρ, M, hI, hh⟩ := hK.inv
  have HALL := hid (fun t => applyAll_any sb hI t)
  have HH := hid hh
  have HLIM := hid hK.lim
  have HST := hid hst
  have HSL := hid hSl
  have hs : sb < w.heap.size := by obtain ⟨cur, h1, _⟩ := hst; exact (Array.getElem?_eq_some_iff.1 h1).1
  obtain ⟨cur, g1, g2, g3⟩ := hst
  have hmm := @run_makeMap Tryz.prog
  obtain ⟨x0, x1, x2, x3, x4, x5, x6, x7, x8, x9, x10, x11, rfl⟩ : ∃ x0 x1 x2 x3 x4 x5 x6 x7 x8 x9 x10 x11, cur = #[x0, x1, x2, x3, x4, x5, x6, x7, x8, x9, x10, x11] := by
    obtain ⟨l⟩ := cur
    match l, g2 with
    | [x0, x1, x2, x3, x4, x5, x6, x7, x8, x9, x10, x11], _ => exact ⟨x0, x1, x2, x3, x4, x5, x6, x7, x8, x9, x10, x11, rfl⟩
  have q0 : w.cell? ⟨sb, 0, none⟩ = some x0 := cell_blk g1 rfl
  have q1 : w.cell? ⟨sb, 1, none⟩ = some x1 := cell_blk g1 rfl
  have q2 : w.cell? ⟨sb, 2, none⟩ = some x2 := cell_blk g1 rfl
  have q3 : w.cell? ⟨sb, 3, none⟩ = some x3 := cell_blk g1 rfl
  have q4 : w.cell? ⟨sb, 4, none⟩ = some x4 := cell_blk g1 rfl
  have q5 : w.cell? ⟨sb, 5, none⟩ = some x5 := cell_blk g1 rfl
  have q6 : w.cell? ⟨sb, 6, none⟩ = some x6 := cell_blk g1 rfl
  have q7 : w.cell? ⟨sb, 7, none⟩ = some x7 := cell_blk g1 rfl
  have q8 : w.cell? ⟨sb, 8, none⟩ = some x8 := cell_blk g1 rfl
  have q9 : w.cell? ⟨sb, 9, none⟩ = some x9 := cell_blk g1 rfl
  have q10 : w.cell? ⟨sb, 10, none⟩ = some x10 := cell_blk g1 rfl
  have q11 : w.cell? ⟨sb, 11, none⟩ = some x11 := cell_blk g1 rfl
  have G3 := hid g3
  clear hSl g3 g2 g1 hI hh hK
  go_enter Tryz.func33, Tryz.ntmps33
  go_wp2_with fail
  clear q0 q1 q2 q3 q4 q5 q6 q7 q8 q9 q10 q11
  have HM0 := hid (World.ownsMap_made w Tryz.prog 9 (plainElem (H := Unit) Tryz.prog 9))
  go_loopw [13] (fun i wr => ∃ (k : Nat) (D : DataW Unit), k ≤ 12 ∧ i = .int .i64 k ∧ wr.ownsMap Tryz.prog 9 (plainElem Tryz.prog 9) w.heap.size k D ∧ Reads D (upto h k) ∧ Below w.heap.size w wr) (fun i _ => 12 - (intOf i).toNat)
  case atStart =>
    refine ⟨0, _, Nat.zero_le _, rfl, HM0.out, reads_skip reads_start (upto_zero h), (Below.refl _ _).alloc (Nat.le_refl _) _⟩
  case round =>
    obtain ⟨k, D, hk, rfl, hown, hrd, hbel⟩ := hrel
    have HRD := hid hrd
    clear hrd
    by_cases hlt : k < 12
    · have i1 : (0 : Int) ≤ (k : Int) := by omega
      have i2 : (k : Int) < 12 := by omega
      obtain ⟨x, hx, hix⟩ := index12 x0 x1 x2 x3 x4 x5 x6 x7 x8 x9 x10 x11 k hlt
      have his := indexS k hlt
      obtain ⟨hv, hi, ha⟩ := letX_var k hlt
      obtain ⟨c, hc⟩ : ∃ c, letX k = c := ⟨_, rfl⟩
      rw [hc] at hv hi ha his
      have g4 := G3.out c hv
      rw [hi, hx] at g4
      obtain ⟨hu1, hu2⟩ := upto_step (h := h) hv hi
      have HU1 := hid hu1
      have HU2 := hid hu2
      clear hx hc hu1 hu2 hi
      rcases hfc : f c with _ | t
      · rw [hfc] at g4
        obtain rfl : x = .nilIface := by injection g4
        have HFC := hid (show h c = none by rw [HH.out c, hfc]; rfl)
        clear g4 hfc his
        go_wp2_with fail
        go_roundw
        case rel =>
          refine ⟨k + 1, D, hlt, by go_num, hown.mono (by omega), reads_skip HRD.out fun d => ?_, hbel⟩
          by_cases e : d = c
          · subst e
            rw [HU1.out, HFC.out]
            unfold upto
            rw [HFC.out]
            split <;> rfl
          · exact HU2.out d e
        case measure => simp [intOf]; omega
      · rw [hfc] at g4
        obtain ⟨v, e4, g6⟩ := g4
        obtain rfl : x = v := by injection e4
        obtain ⟨T, b, rfl, _⟩ := g6.form
        have hfu : h c = some (t.subV isVarX σ) := by rw [HH.out c, hfc]; rfl
        obtain ⟨u, hu⟩ : ∃ u, t.subV isVarX σ = u := ⟨_, rfl⟩
        have hall := HALL.out t
        rw [hu] at hfu hall
        obtain ⟨_, hok, hlen⟩ := HLIM.out c u hfu
        have HFC := hid hfu
        have HOK := hid hok
        have zr := hbel.size
        have HCA := hid (hall S _ wr (HST.out.keep (hbel.block sb hs) fun j hj => ⟨hj, hbel.block j (HSL.out j hj)⟩) (g6.keep (S' := S) (w' := wr) fun j hj => ⟨hj, hbel.block j (HSL.out j hj)⟩) (fun j hj => Nat.lt_of_lt_of_le (HSL.out j hj) zr))
        clear e4 g6 hfc hok hu hall hfu
        obtain ⟨q, hq⟩ : ∃ q, strOf u.text = q := ⟨_, rfl⟩
        have hqs : q.size ≤ 46656000000 := by rw [← hq, strOf_size]; exact hlen
        have hql : q.data.toList = u.text := by rw [← hq, strOf_list]
        have HQ := hid hq
        have HQL := hid hql
        have HLEN := hid hlen
        have cs := cf_all
        have kc : keyOf Tryz.prog 9 (.string (strOf [c])) = some (.string [c]) := by
          rw [WideMaps.keyOf_string_mk Tryz.underlying9 (by rw [strOf_size]; unfold maxLen; simp), strOf_list]
        have pe : plainElem (H := Unit) Tryz.prog 9 (.string q) = some (.lit (.string q.data.toList), []) := plainElem_string Tryz.underlying9 (by unfold maxLen; omega)
        rw [hql] at pe
        obtain ⟨lc, hlc⟩ : ∃ lc, strOf [c] = lc := ⟨_, rfl⟩
        have HLC := hid (fun W => letterText_any c ha W)
        simp only [hlc] at HLC kc
        clear hq hql hlc hlen
        go_wp2_with fail
        refine (HLC.out _).mono ?_
        rintro e w1 ⟨rfl, rfl⟩
        go_wp2_with fail
        refine HCA.out.mono ?_
        rintro e w2 ⟨T2, b2, rfl, hr2, hb2⟩
        obtain ⟨fn, hm, hcf, hcall⟩ := textBy_any u 0 w2.heap.size T2 b2 w2 (hr2.rep (fun j hj => ⟨Nat.zero_le _, by
          rcases hj with hj | hj
          · have := HSL.out j hj
            have := hb2.size
            omega
          · exact hj.2⟩) HOK.out) (Nat.le_refl _) HOK.out (by have := HLEN.out; omega)
        rw [HQ.out] at hcall
        have HCALL := hid hcall
        clear hcall hr2 cs
        go_wp2_with fail
        refine HCALL.out.mono ?_
        rintro e w3 ⟨rfl, hb3⟩
        have hb23 := hb2.trans (hb3.mono hb2.size)
        have hown2 := hown.kept (w' := w3) (row := none) ⟨hb23.os, hb23.tape, hb23.output, hb23.size, fun i hi _ => hb23.block i hi⟩ (by simp)
        clear hm hcf
        go_wp2_with (first
          | (at_mapUpdate; refine wpList_mapUpdate_own _ rfl _ _ _ 56 rfl 9 9 keyS Tryz.underlying56 _ w.heap.size k _ rfl hown2 (by unfold maxLen; omega) _ _ _ rfl rfl kc _ [] pe ?_; intro w4 hown3 hgrow3)
          | fail)
        go_roundw
        case rel =>
          refine ⟨k + 1, _, hlt, by go_num, hown3, reads_put HRD.out (by rw [HU1.out, HFC.out]; rfl) HU2.out, ?_⟩
          exact (hbel.trans (hb23.mono zr)).grown hgrow3 (by have := hb23.size; omega) (by intro j hj; simp at hj; omega)
        case measure => simp [intOf]; omega
    · obtain rfl : k = 12 := by omega
      go_wp2_with fail
      go_ret
      exact ⟨D, rfl, hown, HRD.out, hbel⟩

end Go.Proofs.YteimmgajohimlaaGreat
