/- What a map of texts reads as, in plain words. The texts of what variables stand for, in the program: a map. -/
import Derived.Test.YtmpmalcjfckemaaGreatDoorMtW
import Derived.Maps.RangeWalk
import Derived.Maps.OwnSet
import Derived.Test.YtmpmalcjfckemaaGreatDoorMtJ
import Derived.Maps.OwnOps
namespace Go.Proofs.YtmpmalcjfckemaaGreatDoor
open Go.RowKit Go.Maps

/-- A map from letters to texts reads as g. -/
def Reads (D : DataW Unit) (g : UInt8 → Option (List UInt8)) : Prop :=
  IsMap D ∧ (∀ l : List UInt8, has D (.string l) = true → ∃ c b, l = [c] ∧ g c = some b) ∧ ∀ c b, g c = some b → has D (.string [c]) = true ∧ ∀ z, D.atKey (.string [c]) z = .lit (.string b)
theorem reads_start : Reads (.map []) (fun _ => none) :=
  ⟨isMap_empty, fun l h => by simp [has] at h, fun c b h => by cases h⟩
theorem keyLit (l : List UInt8) : WideAt.IsKeyLit (.string l) := trivial
theorem reads_put {D : DataW Unit} {g g' : UInt8 → Option (List UInt8)} (h : Reads D g) {c : UInt8} {b : List UInt8} (hc : g' c = some b) (hg : ∀ d, d ≠ c → g' d = g d) : Reads (D.put (.string [c]) (.lit (.string b))) g' := by
  obtain ⟨h1, h2, h3⟩ := h
  refine ⟨h1.put _ _, fun l hl => ?_, fun d b' hd => ?_⟩
  · by_cases e : l = [c]
    · exact ⟨c, b, e, hc⟩
    · rw [has_put_other (by simpa using e)] at hl
      obtain ⟨d, b', e1, e2⟩ := h2 l hl
      refine ⟨d, b', e1, ?_⟩
      rw [hg d (by rintro rfl; exact e e1)]
      exact e2
  · by_cases e : d = c
    · subst e
      rw [hc] at hd
      injection hd with hd
      subst hd
      exact ⟨has_put_same h1 (keyLit _) _, fun z => atKey_put_same h1 (keyLit _) _ z⟩
    · have hne : (Lit.string [d]) ≠ .string [c] := by simpa using e
      rw [hg d e] at hd
      obtain ⟨q1, q2⟩ := h3 d b' hd
      exact ⟨by rw [has_put_other hne]; exact q1, fun z => by rw [atKey_put_other hne]; exact q2 z⟩
theorem reads_skip {D : DataW Unit} {g g' : UInt8 → Option (List UInt8)} (h : Reads D g) (hg : ∀ d, g' d = g d) : Reads D g' := by
  have : g' = g := funext hg
  subst this
  exact h

/-- The letters gone through in the first k rounds. -/
def upto (h : UInt8 → Option Ty) (k : Nat) (c : UInt8) : Option (List UInt8) := if isVarX c = true ∧ idxX c < k then (h c).map Ty.text else none
theorem upto_zero (h : UInt8 → Option Ty) (c : UInt8) : upto h 0 c = none := by simp [upto]
theorem upto_step {h : UInt8 → Option Ty} {k : Nat} {c : UInt8} (hc : isVarX c = true) (hk : idxX c = k) : upto h (k + 1) c = (h c).map Ty.text ∧ ∀ d, d ≠ c → upto h (k + 1) d = upto h k d := by
  refine ⟨if_pos ⟨hc, by omega⟩, fun d hd => ?_⟩
  unfold upto
  by_cases hv : isVarX d = true
  · have hne : idxX d ≠ k := fun e => hd (idxX_inj hv hc (e.trans hk.symm))
    by_cases hlt : idxX d < k
    · rw [if_pos ⟨hv, by omega⟩, if_pos ⟨hv, hlt⟩]
    · rw [if_neg (by rintro ⟨_, h⟩; omega), if_neg (by rintro ⟨_, h⟩; omega)]
  · rw [if_neg (fun h => hv h.1), if_neg (fun h => hv h.1)]
theorem upto_all {h : UInt8 → Option Ty} (c : UInt8) : upto h 12 c = if isVarX c = true then (h c).map Ty.text else none := by
  unfold upto
  by_cases hv : isVarX c = true
  · rw [if_pos ⟨hv, (idxX_int c hv).2⟩, if_pos hv]
  · rw [if_neg (fun h => hv h.1), if_neg hv]
/-- The letter in place k. -/
def letX (k : Nat) : UInt8 := ([88, 89, 90, 120, 121, 122, 82, 83, 84, 114, 115, 116] : List UInt8).getD k 0
theorem letX_var : ∀ k, k < 12 → isVarX (letX k) = true ∧ idxX (letX k) = k ∧ (letX k).toNat < 128 := by decide +kernel

end Go.Proofs.YtmpmalcjfckemaaGreatDoor

namespace Go.Proofs.YtmpmalcjfckemaaGreatDoor
open Go.RowKit Go.Maps

theorem keyS : Keyed Tryz.prog 9 := string_keyed Tryz.underlying9

theorem index12 (x0 x1 x2 x3 x4 x5 x6 x7 x8 x9 x10 x11 : Value) : ∀ k : Nat, k < 12 → ∃ x, #[x0, x1, x2, x3, x4, x5, x6, x7, x8, x9, x10, x11][k]? = some x ∧
    ∀ W : World, (Instr.index 124 (.agg #[x0, x1, x2, x3, x4, x5, x6, x7, x8, x9, x10, x11]) (.int .i64 k)).run Tryz.prog W = .ok x W := by
  intro k hk
  match k, hk with
  | 0, _ => exact ⟨x0, rfl, fun W => by kernel_rfl⟩
  | 1, _ => exact ⟨x1, rfl, fun W => by kernel_rfl⟩
  | 2, _ => exact ⟨x2, rfl, fun W => by kernel_rfl⟩
  | 3, _ => exact ⟨x3, rfl, fun W => by kernel_rfl⟩
  | 4, _ => exact ⟨x4, rfl, fun W => by kernel_rfl⟩
  | 5, _ => exact ⟨x5, rfl, fun W => by kernel_rfl⟩
  | 6, _ => exact ⟨x6, rfl, fun W => by kernel_rfl⟩
  | 7, _ => exact ⟨x7, rfl, fun W => by kernel_rfl⟩
  | 8, _ => exact ⟨x8, rfl, fun W => by kernel_rfl⟩
  | 9, _ => exact ⟨x9, rfl, fun W => by kernel_rfl⟩
  | 10, _ => exact ⟨x10, rfl, fun W => by kernel_rfl⟩
  | 11, _ => exact ⟨x11, rfl, fun W => by kernel_rfl⟩
set_option maxRecDepth 100000 in
theorem indexS : ∀ k : Nat, k < 12 → ∀ W : World, (Instr.index 9 (.string ⟨#[88, 89, 90, 120, 121, 122, 82, 83, 84, 114, 115, 116]⟩) (.int .i64 k)).run Tryz.prog W = .ok (.int .u8 (letX k).toNat) W := by
  intro k hk
  match k, hk with
  | 0, _ => exact fun W => by kernel_rfl
  | 1, _ => exact fun W => by kernel_rfl
  | 2, _ => exact fun W => by kernel_rfl
  | 3, _ => exact fun W => by kernel_rfl
  | 4, _ => exact fun W => by kernel_rfl
  | 5, _ => exact fun W => by kernel_rfl
  | 6, _ => exact fun W => by kernel_rfl
  | 7, _ => exact fun W => by kernel_rfl
  | 8, _ => exact fun W => by kernel_rfl
  | 9, _ => exact fun W => by kernel_rfl
  | 10, _ => exact fun W => by kernel_rfl
  | 11, _ => exact fun W => by kernel_rfl

set_option maxHeartbeats 800000 in
set_option maxRecDepth 100000 in
theorem texts_same (sb : Nat) (w : World) (S : Nat → Prop) (f : UInt8 → Option Ty) (hst : Stnd w sb S f) (hSl : ∀ k, S k → k < w.heap.size) (hf : Fine f) :
    Calls Tryz.prog 145 #[.pointer (some ⟨sb, 0, none⟩), .func (.func 146) #[] #[]] w fun e w' => ∃ D, e = .returned (.map (some w.heap.size)) ∧ w'.ownsMap Tryz.prog 9 (plainElem Tryz.prog 9) w.heap.size 12 D ∧ Reads D (upto f 12) ∧ Below w.heap.size w w' := by
  have HST := hid hst
  have HSL := hid hSl
  have hs : sb < w.heap.size := by obtain ⟨cur, h1, _⟩ := hst; exact (Array.getElem?_eq_some_iff.1 h1).1
  obtain ⟨cur, g1, g2, g3⟩ := hst
  have hmm := @run_makeMap Tryz.prog
  obtain ⟨x0, x1, x2, x3, x4, x5, x6, x7, x8, x9, x10, x11, rfl⟩ : ∃ x0 x1 x2 x3 x4 x5 x6 x7 x8 x9 x10 x11, cur = #[x0, x1, x2, x3, x4, x5, x6, x7, x8, x9, x10, x11] := by
    obtain ⟨l⟩ := cur
    match l, g2 with
    | [x0, x1, x2, x3, x4, x5, x6, x7, x8, x9, x10, x11], _ => exact ⟨x0, x1, x2, x3, x4, x5, x6, x7, x8, x9, x10, x11, rfl⟩
  have q0 : w.cell? ⟨sb, 0, none⟩ = some x0 := cell_blk g1 rfl
  have q1 : w.cell? ⟨sb, 1, none⟩ = some x1 := cell_blk g1 rfl
  have q2 : w.cell? ⟨sb, 2, none⟩ = some x2 := cell_blk g1 rfl
  have q3 : w.cell? ⟨sb, 3, none⟩ = some x3 := cell_blk g1 rfl
  have q4 : w.cell? ⟨sb, 4, none⟩ = some x4 := cell_blk g1 rfl
  have q5 : w.cell? ⟨sb, 5, none⟩ = some x5 := cell_blk g1 rfl
  have q6 : w.cell? ⟨sb, 6, none⟩ = some x6 := cell_blk g1 rfl
  have q7 : w.cell? ⟨sb, 7, none⟩ = some x7 := cell_blk g1 rfl
  have q8 : w.cell? ⟨sb, 8, none⟩ = some x8 := cell_blk g1 rfl
  have q9 : w.cell? ⟨sb, 9, none⟩ = some x9 := cell_blk g1 rfl
  have q10 : w.cell? ⟨sb, 10, none⟩ = some x10 := cell_blk g1 rfl
  have q11 : w.cell? ⟨sb, 11, none⟩ = some x11 := cell_blk g1 rfl
  have G3 := hid g3
  clear hSl g3 g2 g1
  go_enter Tryz.func145, Tryz.ntmps145
  go_wp2_with fail
  clear q0 q1 q2 q3 q4 q5 q6 q7 q8 q9 q10 q11
  have HM0 := hid (World.ownsMap_made w Tryz.prog 9 (plainElem (H := Unit) Tryz.prog 9))
  go_loopw [13] (fun i wr => ∃ (k : Nat) (D : DataW Unit), k ≤ 12 ∧ i = .int .i64 k ∧ wr.ownsMap Tryz.prog 9 (plainElem Tryz.prog 9) w.heap.size k D ∧ Reads D (upto f k) ∧ Below w.heap.size w wr) (fun i _ => 12 - (intOf i).toNat)
  case atStart =>
    refine ⟨0, _, Nat.zero_le _, rfl, HM0.out, reads_skip reads_start (upto_zero f), (Below.refl _ _).alloc (Nat.le_refl _) _⟩
  case round =>
    obtain ⟨k, D, hk, rfl, hown, hrd, hbel⟩ := hrel
    have HRD := hid hrd
    clear hrd
    by_cases hlt : k < 12
    · have i1 : (0 : Int) ≤ (k : Int) := by omega
      have i2 : (k : Int) < 12 := by omega
      obtain ⟨x, hx, hix⟩ := index12 x0 x1 x2 x3 x4 x5 x6 x7 x8 x9 x10 x11 k hlt
      have his := indexS k hlt
      obtain ⟨hv, hi, ha⟩ := letX_var k hlt
      obtain ⟨c, hc⟩ : ∃ c, letX k = c := ⟨_, rfl⟩
      rw [hc] at hv hi ha his
      have g4 := G3.out c hv
      rw [hi, hx] at g4
      obtain ⟨hu1, hu2⟩ := upto_step (h := f) hv hi
      have HU1 := hid hu1
      have HU2 := hid hu2
      clear hx hc hu1 hu2 hi
      rcases hfc : f c with _ | t
      · rw [hfc] at g4
        obtain rfl : x = .nilIface := by injection g4
        have HFC := hid hfc
        clear g4 hfc his
        go_wp2_with fail
        go_roundw
        case rel =>
          refine ⟨k + 1, D, hlt, by go_num, hown.mono (by omega), reads_skip HRD.out fun d => ?_, hbel⟩
          by_cases e : d = c
          · subst e
            rw [HU1.out, HFC.out]
            unfold upto
            rw [HFC.out]
            split <;> rfl
          · exact HU2.out d e
        case measure => simp [intOf]; omega
      · rw [hfc] at g4
        obtain ⟨v, e4, g6⟩ := g4
        obtain rfl : x = v := by injection e4
        obtain ⟨T, b, rfl, _⟩ := g6.form
        obtain ⟨hok, hlen⟩ := hf c t hfc
        have HFC := hid hfc
        have HOK := hid hok
        have G6 := hid (g6.keep (S' := S) (w' := wr) fun j hj => ⟨hj, hbel.block j (HSL.out j hj)⟩)
        have zr := hbel.size
        clear e4 g6 hfc hok
        obtain ⟨fn, hm, hcf, hcall⟩ := textBy_any t 0 w.heap.size T b wr (G6.out.rep (fun j hj => ⟨Nat.zero_le _, HSL.out j hj⟩) HOK.out) zr HOK.out (by omega)
        obtain ⟨q, hq⟩ : ∃ q, strOf t.text = q := ⟨_, rfl⟩
        have hqs : q.size ≤ 60 := by rw [← hq, strOf_size]; exact hlen
        have hql : q.data.toList = t.text := by rw [← hq, strOf_list]
        rw [hq] at hcall
        have HCALL := hid hcall
        have HQL := hid hql
        have cs := cf_same
        have kc : keyOf Tryz.prog 9 (.string (strOf [c])) = some (.string [c]) := by
          rw [WideMaps.keyOf_string_mk Tryz.underlying9 (by rw [strOf_size]; unfold maxLen; simp), strOf_list]
        have pe : plainElem (H := Unit) Tryz.prog 9 (.string q) = some (.lit (.string q.data.toList), []) := plainElem_string Tryz.underlying9 (by unfold maxLen; omega)
        rw [hql] at pe
        obtain ⟨lc, hlc⟩ : ∃ lc, strOf [c] = lc := ⟨_, rfl⟩
        have HLC := hid (fun W => letterText_any c ha W)
        simp only [hlc] at HLC kc
        clear hcall hq hql hlc
        go_wp2_with fail
        refine (HLC.out _).mono ?_
        rintro e w1 ⟨rfl, rfl⟩
        go_wp2_with fail
        refine (sameNode_any _ _).mono ?_
        rintro e w1 ⟨rfl, hw1⟩
        obtain rfl := hw1.symm
        go_wp2_with fail
        refine HCALL.out.mono ?_
        rintro e w2 ⟨rfl, hb2⟩
        have hown2 := hown.kept (w' := w2) (row := none) ⟨hb2.os, hb2.tape, hb2.output, hb2.size, fun i hi _ => hb2.block i hi⟩ (by simp)
        clear hm hcf
        go_wp2_with (first
          | (at_mapUpdate; refine wpList_mapUpdate_own _ rfl _ _ _ 194 rfl 9 9 keyS Tryz.underlying194 _ w.heap.size k _ rfl hown2 (by unfold maxLen; omega) _ _ _ rfl rfl kc _ [] pe ?_; intro w3 hown3 hgrow3)
          | fail)
        go_roundw
        case rel =>
          refine ⟨k + 1, _, hlt, by go_num, hown3, reads_put HRD.out (by rw [HU1.out, HFC.out]; rfl) HU2.out, ?_⟩
          exact (hbel.trans (hb2.mono zr)).grown hgrow3 (by have := hb2.size; omega) (by intro j hj; simp at hj; omega)
        case measure => simp [intOf]; omega
    · obtain rfl : k = 12 := by omega
      go_wp2_with fail
      go_ret
      exact ⟨D, rfl, hown, HRD.out, hbel⟩

end Go.Proofs.YtmpmalcjfckemaaGreatDoor
