/- Two types drawn, of which one is often of the form of the other one: l2Form, l2Two, and the draws over them. -/
import Derived.Test.YtechacocfpobgaaGreatDrawB
import Derived.Test.YtechacocfpobgaaGreatMtV
namespace Go.Proofs.YtechacocfpobgaaGreat
open Go.RowKit

/-- A variable let go, in the model's memory. -/
theorem StndN.clear {w : World} {mb : Nat} {S : Nat → Prop} {f : UInt8 → Option Ty} (h : StndN w mb S f) (hs : ¬ S mb) {c : UInt8} {k : Nat} (hc : l2ix c = (k : Int)) :
    StndN ((w.setCell ⟨mb, k * 2, none⟩ (.int .u8 0)).setCell ⟨mb, k * 2 + 1, none⟩ (.slice none 0 0)) mb S (fun e => if e = c then none else f e) := by
  obtain ⟨cur, h1, h2, h3⟩ := h
  have hk12 : k < 12 := by have := (l2ix_var c).2.2.2; omega
  have hk : ∀ g, S g → S g ∧ ((w.setCell ⟨mb, k * 2, none⟩ (.int .u8 0)).setCell ⟨mb, k * 2 + 1, none⟩ (.slice none 0 0)).heap[g]? = w.heap[g]? := fun g hg => by
    have hne : g ≠ mb := by rintro rfl; exact hs hg
    exact ⟨hg, by rw [Below.heap_setCell _ _ _ _ hne, Below.heap_setCell _ _ _ _ hne]⟩
  refine ⟨(cur.setIfInBounds (k * 2) (.int .u8 0)).setIfInBounds (k * 2 + 1) (.slice none 0 0), ?_, by simpa using h2, fun e j he => ?_⟩
  · simp [World.setCell, Array.getElem?_modify, h1]
  · have hj12 : j < 12 := by have := (l2ix_var e).2.2.2; omega
    by_cases ec : e = c
    · subst ec
      obtain rfl : k = j := by omega
      simp only [if_true]
      refine ⟨?_, ?_⟩
      · rw [Array.getElem?_setIfInBounds, if_neg (by omega), Array.getElem?_setIfInBounds, if_pos rfl, if_pos (by omega)]
      · rw [Array.getElem?_setIfInBounds, if_pos rfl, if_pos (by simp; omega)]
    · have hne : j ≠ k := fun h => ec (l2ix_inj (h ▸ he) hc)
      have h4 := h3 e j he
      have e0 : ∀ x y, ((cur.setIfInBounds (k * 2) x).setIfInBounds (k * 2 + 1) y)[j * 2]? = cur[j * 2]? := fun x y => by
        rw [Array.getElem?_setIfInBounds, if_neg (by omega), Array.getElem?_setIfInBounds, if_neg (by omega)]
      have e1 : ∀ x y, ((cur.setIfInBounds (k * 2) x).setIfInBounds (k * 2 + 1) y)[j * 2 + 1]? = cur[j * 2 + 1]? := fun x y => by
        rw [Array.getElem?_setIfInBounds, if_neg (by omega), Array.getElem?_setIfInBounds, if_neg (by omega)]
      simp only [if_neg ec, e0, e1]
      split at h4
      · exact h4
      · obtain ⟨d', A', m', cap', g0, g1, g2, g3⟩ := h4
        exact ⟨d', A', m', cap', g0, g1, g2, g3.keep hk⟩
theorem subN_len {f : UInt8 → Option Ty} (hf : Fine f) (T : Ty) : (T.subN f).text.length ≤ 60 * T.text.length := by
  induction T with
  | lf c =>
    simp only [Ty.subN]
    split
    · rcases hc : f c with _ | t
      · simp [Ty.text]
      · have := (hf c t hc).2
        simpa [Ty.text] using this
    · simp [Ty.text]
  | un c a ih => simp only [Ty.subN, Ty.text, List.length_cons, List.length_append, List.length_nil]; omega
  | bi c a b iha ihb => simp only [Ty.subN, Ty.text, List.length_cons, List.length_append, List.length_nil]; omega
/-- What l1Read leaves of a text, written into the map. -/
def Left (w4 w5 : World) (h p : Value) : Prop := (h = .int .u8 0 ∧ p = .slice none 0 0) ∨ ∃ (t : Ty) (c : UInt8) (A : Option Addr) (m cap : Nat), t.ok ∧ t.text.length ≤ 60 ∧ h = .int .u8 c.toNat ∧ p = .slice A m cap ∧ RepN w5 (fun g => w4.heap.size ≤ g ∧ g < w5.heap.size) t (.int .u8 c.toNat) (.slice A m cap)
/-- The loop that fills the map. -/
def FormR (w2 : World) (rb P : Nat) (k : Nat) (wr : World) : Prop :=
  ∃ f : UInt8 → Option Ty, StndN wr w2.heap.size (fun g => w2.heap.size < g ∧ g < wr.heap.size) f ∧ Fine f ∧ Rdr wr rb (P + 6 * k) ∧ But w2.heap.size rb w2 wr
theorem form_step {w2 wr w4 w5 : World} {rb P k : Nat} (hk : k < 12) (hr : FormR w2 rb P k wr) (hrb : rb < w2.heap.size) (hg : Rdr w4 rb (P + 6 * k + 6) ∧ But wr.heap.size rb wr w4) (hb : Below w4.heap.size w4 w5) {h p : Value} (hl : Left w4 w5 h p) :
    FormR w2 rb P (k + 1) ((w5.setCell ⟨w2.heap.size, k * 2, none⟩ h).setCell ⟨w2.heap.size, k * 2 + 1, none⟩ p) := by
  obtain ⟨f, hst, hf, _, hbut⟩ := hr
  have zm := hst.lt
  have z0 := hbut.size
  have z4 := hg.2.size
  have z5 := hb.size
  have hbut5 : But wr.heap.size rb wr w5 := hg.2.trans ((But.of_below hb).mono z4)
  have h5 : StndN w5 w2.heap.size (fun g => w2.heap.size < g ∧ g < w5.heap.size) f := hst.keep (hbut5.block _ zm (by omega)) fun g hg => ⟨⟨hg.1, by omega⟩, hbut5.block g hg.2 (by omega)⟩
  have hix := (letN_ix k hk).1
  have hbk : But w2.heap.size rb w2 ((w5.setCell ⟨w2.heap.size, k * 2, none⟩ h).setCell ⟨w2.heap.size, k * 2 + 1, none⟩ p) := by
    have h1 := hbut.trans (hbut5.mono z0)
    refine ⟨h1.os, h1.tape, h1.output, by simpa [World.setCell] using h1.size, fun j hj hn => ?_⟩
    rw [Below.heap_setCell _ _ _ _ (by show j ≠ w2.heap.size; omega), Below.heap_setCell _ _ _ _ (by show j ≠ w2.heap.size; omega)]
    exact h1.block j hj hn
  have hrd : Rdr ((w5.setCell ⟨w2.heap.size, k * 2, none⟩ h).setCell ⟨w2.heap.size, k * 2 + 1, none⟩ p) rb (P + 6 * (k + 1)) := by
    have e : P + 6 * k + 6 = P + 6 * (k + 1) := by omega
    rw [← e]
    refine (hg.1.keep hb).keep' (by simp [World.setCell]; omega) fun j hj => ?_
    rw [Below.heap_setCell _ _ _ _ (by show j ≠ w2.heap.size; omega), Below.heap_setCell _ _ _ _ (by show j ≠ w2.heap.size; omega)]
  rcases hl with ⟨rfl, rfl⟩ | ⟨t, c, A, m, cap, ho, hlt, rfl, rfl, hrep⟩
  · refine ⟨_, (h5.clear (fun h => absurd h.1 (Nat.lt_irrefl _)) hix).keep rfl fun g hg => ⟨⟨hg.1, by simp [World.setCell]; exact hg.2⟩, rfl⟩, fun c t hc => ?_, hrd, hbk⟩
    dsimp only at hc
    split at hc
    · cases hc
    · exact hf c t hc
  · have hne := text_ne0 (ok_inner ho) hrep
    refine ⟨_, (h5.set (fun h => absurd h.1 (Nat.lt_irrefl _)) hix hne (hrep.keep (S' := fun g => w2.heap.size < g ∧ g < w5.heap.size) fun g hg => ⟨⟨by omega, hg.2⟩, rfl⟩)).keep rfl fun g hg => ⟨⟨hg.1, by simp [World.setCell]; exact hg.2⟩, rfl⟩, fun c t hc => ?_, hrd, hbk⟩
    dsimp only at hc
    split at hc
    · injection hc with hc
      rw [← hc]
      exact ⟨ho, hlt⟩
    · exact hf c t hc
theorem l1Read_left (s : ByteArray) (w : World) (hs : s.size ≤ maxLen) : Calls Tryz.prog 34 #[.string s] w fun e w' => ∃ (hd : UInt8) (A : Option Addr) (m cap : Nat) (b : Bool), e = .returned (.tuple #[.agg #[.int .u8 hd.toNat, .slice A m cap], .bool b]) ∧ Left w w' (.int .u8 hd.toNat) (.slice A m cap) ∧ Below w.heap.size w w' := by
  refine (l1Read_any s w hs).mono ?_
  rintro e w1 ⟨hb1, ⟨ht, rfl⟩ | ⟨T, c0, A0, m0, cap0, ht, rfl, hrep⟩⟩
  · exact ⟨0, none, 0, 0, false, rfl, .inl ⟨rfl, rfl⟩, hb1⟩
  · obtain ⟨e, o, l⟩ := tyOf_text ht
    exact ⟨c0, A0, m0, cap0, true, rfl, .inr ⟨T, c0, A0, m0, cap0, o, by rw [← e]; exact l, rfl, rfl, hrep⟩, hb1⟩

theorem but_four {rb P K : Nat} {a b c d e : World} (h1 : Gave rb P 1 a.drew b) (h2 : Gave rb (P + 1) 1 b c) (h3 : Gave rb (P + 1 + 1) K c d) (h4 : Below d.heap.size d e) : But a.heap.size rb a e :=
  But.trans (a := a) (b := b) ⟨h1.2.os, h1.2.tape, h1.2.output, h1.2.size, h1.2.block⟩ ((h2.2.trans ((h3.2.trans ((But.of_below h4).mono h3.2.size)).mono h2.2.size)).mono h1.2.size)

set_option maxHeartbeats 2000000 in
set_option maxRecDepth 100000 in
theorem l2Form_any (rb P : Nat) (s : ByteArray) (w : World) (hr : Rdr w rb P) (hP : P ≤ 1000000) (hs : s.size ≤ maxLen) :
    Calls Tryz.prog 52 #[.pointer (some ⟨rb, 0, none⟩), .string s] w fun e w' => ∃ x : ByteArray, e = .returned (.string x) ∧ x.size ≤ 100 ∧ Gave rb P 72 w w' := by
  have hrb := hr.lt
  have HR := hid hr
  clear hr
  go_enter Tryz.func52, Tryz.ntmps52
  go_wp2_with fail
  refine (l1Read_any s _ hs).mono ?_
  rintro e w1 ⟨hb1, ⟨ht, rfl⟩ | ⟨T, c0, A0, m0, cap0, ht, rfl, hrep⟩⟩
  · clear ht
    go_wp2_with fail
    go_ret
    exact ⟨_, rfl, by decide, ((HR.out.keep hb1).keep ((Below.refl _ _).alloc (Nat.le_refl _) _)).le (by omega), But.of_below (hb1.alloc hb1.size _)⟩
  · have HT := hid ht
    have z1 := hb1.size
    have HREP := hid hrep
    have hr1 := HR.out.keep hb1
    have HR1 := hid hr1
    clear ht hrep hr1
    go_wp2_with fail
    obtain ⟨w2, hw2⟩ : ∃ w2, w1.alloc (.cells #[.int .u8 c0.toNat, .slice A0 m0 cap0] 61) = w2 := ⟨_, rfl⟩
    have z2 : w2.heap.size = w1.heap.size + 1 := by rw [← hw2]; simp only [World.size_alloc]
    have hb12 : Below w1.heap.size w1 w2 := by rw [← hw2]; exact (Below.refl _ _).alloc (Nat.le_refl _) _
    have n0 : w2.cell? ⟨w1.heap.size, 0, none⟩ = some (.int .u8 c0.toNat) := by rw [← hw2]; exact (blk_cells2 (heap_new1 w1 _)).1
    have n1 : w2.cell? ⟨w1.heap.size, 1, none⟩ = some (.slice A0 m0 cap0) := by rw [← hw2]; exact (blk_cells2 (heap_new1 w1 _)).2
    rw [hw2, ← z2]
    have HZ2 := hid z2
    have hrb2 : rb < w2.heap.size := by omega
    have HF0 := hid (show FormR w2 rb P 0 (w2.alloc (.cells emptyN 66)) from ⟨fun _ => none, StndN.new w2 _, (fun c t h => by cases h), (HR1.out.keep hb12).keep ((Below.refl _ _).alloc (Nat.le_refl _) _), But.of_below ((Below.refl _ _).alloc (Nat.le_refl _) _)⟩)
    have N0 := hid n0
    have N1 := hid n1
    clear hw2 n0 n1 z2
    go_loopw [19] (fun i wr => ∃ k : Nat, k ≤ 12 ∧ i = .int .i64 k ∧ FormR w2 rb P k wr) (fun i _ => 12 - (intOf i).toNat)
    case atStart => exact ⟨0, Nat.zero_le _, rfl, HF0.out⟩
    case round =>
      obtain ⟨k, hk, rfl, hfr⟩ := hrel
      have HFR := hid hfr
      obtain ⟨f, hst, hf, hrd, hbut⟩ := hfr
      have zr := hbut.size
      have zm := hst.lt
      have HST := hid hst
      clear hst
      by_cases hlt : k < 12
      · have k0 : (0 : Int) ≤ (k : Int) := by omega
        have k1 : (k : Int) < 12 := by omega
        have hrd' : Rdr wr.drew rb (P + 6 * k) := hrd
        have HPK1 := hid (pick_any rb (P + 6 * k) 2 wr.drew hrd' (by omega) (by omega) (by omega))
        have HPK2 := hid (fun (W : World) (hr : Rdr W rb (P + 6 * k + 1)) => pick_any rb (P + 6 * k + 1) 2 W hr (by omega) (by omega) (by omega))
        have HDR := hid (fun (W : World) (dd : Nat) (hd : dd ≤ 1) (gr : Bool) (hr : Rdr W rb (P + 6 * k + 1 + 1)) => l1Draw_any dd (by omega) rb (P + 6 * k + 1 + 1) gr W hr (by
          have : dd = 0 ∨ dd = 1 := by omega
          have : dPick dd ≤ 4 := by rcases this with rfl | rfl <;> decide
          omega))
        have HRD := hid (fun (W : World) (x : ByteArray) (hx : x.size ≤ maxLen) => l1Read_left x W hx)
        have HC := hid (fun (W : World) (hW : But wr.heap.size rb wr W) => StndN.cells (HST.out.keep (S' := fun g => w2.heap.size < g ∧ g < wr.heap.size) (hW.block _ zm (by omega)) fun g hg => ⟨hg, hW.block g hg.2 (by omega)⟩) k hlt)
        go_wp2_with fail
        go_region_law
          (first
            | (go_simp
               go_at_call 51
               refine (HPK2.out _ hrA).mono ?_
               intro e u2 hend
               obtain ⟨m2, rfl, hm0, hm1, hGB⟩ := hend
               have hrB := hGB.1)
            | (go_simp
               go_at_call 51
               refine HPK1.out.mono ?_
               intro e u1 hend
               obtain ⟨m, rfl, hm0, hm1, hGA⟩ := hend
               obtain ⟨dd, rfl⟩ : ∃ dd : Nat, m = (dd : Int) := ⟨m.toNat, by omega⟩
               have hdd : dd ≤ 1 := (by omega)
               have hrA := hGA.1)
            | (go_simp
               go_at_call 81
               refine (HDR.out _ dd hdd _ hrB).mono ?_
               intro e u3 hend
               obtain ⟨x, rfl, hx0, hx1, hGC⟩ := hend)
            | (go_simp
               go_at_call 34
               refine (HRD.out _ x (by unfold maxLen; have h6 : dLen dd ≤ 6 := (by have : dd = 0 ∨ dd = 1 := (by omega); rcases this with rfl | rfl <;> decide); omega)).mono ?_
               intro e u4 hend
               obtain ⟨hd, A4, m4, cap4, b4, rfl, hleft, hb4⟩ := hend
               have hB4 := but_four hGA hGB hGC hb4
               obtain ⟨⟨v0, e0⟩, ⟨v1, e1⟩, ff⟩ := HC.out u4 hB4))
        all_goals
          have hd1 : dPick dd ≤ 4 := by
            have : dd = 0 ∨ dd = 1 := by omega
            rcases this with rfl | rfl <;> decide
          have hGl := hGC.1.le (P' := P + 6 * k + 6) (by omega)
          have hB3 := but_four hGA hGB hGC (Below.refl _ _)
          go_wp2_with fail
          go_roundw
          case rel => exact ⟨k + 1, hlt, by go_num, form_step hlt HFR.out hrb2 ⟨hGl, hB3⟩ hb4 hleft⟩
          case measure => simp [intOf]; omega
      · have hk12 : k = 12 := by omega
        subst hk12
        obtain ⟨et, ot, lt⟩ := tyOf_text HT.out
        rw [et] at lt
        have n0 : wr.cell? ⟨w1.heap.size, 0, none⟩ = some (.int .u8 c0.toNat) := by
          rw [World.cell?_of_block (w := w2) (w' := wr) (a := ⟨w1.heap.size, 0, none⟩) (hbut.block w1.heap.size (by have := HZ2.out; omega) (by omega))]
          exact N0.out
        have n1 : wr.cell? ⟨w1.heap.size, 1, none⟩ = some (.slice A0 m0 cap0) := by
          rw [World.cell?_of_block (w := w2) (w' := wr) (a := ⟨w1.heap.size, 1, none⟩) (hbut.block w1.heap.size (by have := HZ2.out; omega) (by omega))]
          exact N1.out
        have hr1 : RepN wr (fun g => w.heap.size ≤ g ∧ g < w1.heap.size) T (.int .u8 c0.toNat) (.slice A0 m0 cap0) := HREP.out.keep fun g hg => ⟨hg, (hbut.block g (by have := HZ2.out; omega) (by omega)).trans (hb12.block g hg.2)⟩
        have HPUT := hid (put_any T (ok_inner ot) f (fun g => w.heap.size ≤ g ∧ g < w1.heap.size) (fun g => w2.heap.size < g ∧ g < wr.heap.size) w2.heap.size _ _ wr HST.out hr1 (fun g hg => by have := HZ2.out; omega) (fun g hg => hg.2) zm)
        have hlen := subN_len hf T
        obtain ⟨U, hU⟩ : ∃ U, T.subN f = U := ⟨_, rfl⟩
        rw [hU] at hlen
        obtain ⟨ul, hul⟩ : ∃ n, U.text.length = n := ⟨_, rfl⟩
        rw [hul] at hlen
        have HUL := hid hul
        have HU := hid hU
        have HBUT := hid hbut
        clear hr1 hU hul et ot
        go_wp2_with fail
        refine HPUT.out.mono ?_
        rintro e w5 ⟨c5, A5, m5, cap5, rfl, hne5, hr5, hb5⟩
        rw [HU.out] at hr5
        have z5 := hb5.size
        have HR5 := hid hr5
        clear hr5
        go_wp2_with fail
        have hbo : ∀ o, Below w5.heap.size w5 (w5.alloc o) := fun o => (Below.refl _ _).alloc (Nat.le_refl _) o
        refine (l2Length_any U (fun g => (w2.heap.size < g ∧ g < wr.heap.size) ∨ (wr.heap.size ≤ g ∧ g < w5.heap.size)) _ _ _ (HR5.out.keep fun g hg => ⟨hg, (hbo _).block g (by omega)⟩) (fun g hg => by simp only [World.size_alloc]; omega) (by rw [HUL.out]; omega)).mono ?_
        rintro e w6 ⟨he, hb6⟩
        rw [HUL.out] at he
        subst he
        have z6 := hb6.size
        simp only [World.size_alloc] at z6
        have hbz : Below wr.heap.size wr w6 := hb5.trans ((hbo _).trans (hb6.mono (hbo _).size) |>.mono z5)
        have hend : ∀ W, Below w6.heap.size w6 W → Gave rb P 72 w W := fun W hW => by
          have hbW := hbz.trans (hW.mono (by omega))
          have hq : But w2.heap.size rb w2 W := HBUT.out.trans ((But.of_below hbW).mono zr)
          exact ⟨(hrd.keep hbW).le (by omega), (But.of_below (hb1.trans (hb12.mono z1))).trans (hq.mono (by have := HZ2.out; omega))⟩
        by_cases hlong : (60 : Int) < (ul : Int)
        · go_wp2_with fail
          go_ret
          exact ⟨_, rfl, by decide, hend _ (Below.refl _ _)⟩
        · have o0 : w6.cell? ⟨w5.heap.size, 0, none⟩ = some (.int .u8 c5.toNat) := cell_below (blk_cells2 (heap_new1 w5 (.cells #[.int .u8 c5.toNat, .slice A5 m5 cap5] 61))).1 (by simp only [World.size_alloc]; omega) hb6
          have o1 : w6.cell? ⟨w5.heap.size, 1, none⟩ = some (.slice A5 m5 cap5) := cell_below (blk_cells2 (heap_new1 w5 (.cells #[.int .u8 c5.toNat, .slice A5 m5 cap5] 61))).2 (by simp only [World.size_alloc]; omega) hb6
          have hr6 : RepN w6 (fun g => g < w5.heap.size) U (.int .u8 c5.toNat) (.slice A5 m5 cap5) := HR5.out.keep fun g hg => ⟨by omega, (hb6.block g (by simp only [World.size_alloc]; omega)).trans ((hbo _).block g (by omega))⟩
          have HR6 := hid hr6
          clear hr6
          go_wp2_with fail
          refine (textS_any U _ _ _ _ HR6.out (fun g hg => by omega) (by rw [HUL.out]; omega)).mono ?_
          rintro e w7 ⟨rfl, hb7⟩
          obtain ⟨q, hq⟩ : ∃ q, strOf U.text = q := ⟨_, rfl⟩
          rw [hq]
          have hqs : q.size ≤ 100 := by rw [← hq, strOf_size, HUL.out]; omega
          clear hq
          go_wp2_with fail
          go_ret
          exact ⟨q, rfl, hqs, hend _ hb7⟩

set_option maxHeartbeats 1000000 in
theorem l2Two_any (rb P : Nat) (w : World) (hr : Rdr w rb P) (hP : P ≤ 100000) :
    Calls Tryz.prog 27 #[.pointer (some ⟨rb, 0, none⟩)] w fun e w' => ∃ x y : ByteArray, e = .returned (.tuple #[.string x, .string y]) ∧ x.size ≤ 100 ∧ y.size ≤ 100 ∧ Gave rb P 300 w w' := by
  have HR := hid hr
  clear hr
  go_enter Tryz.func27, Tryz.ntmps27
  go_wp2_with fail
  refine (l1Any_any rb P w HR.out (by omega)).mono ?_
  rintro e w1 ⟨a, rfl, ha, hG1⟩
  have ham : a.size ≤ maxLen := by unfold maxLen; omega
  go_wp2_with fail
  refine (pick_any rb (P + 100) 3 w1 hG1.1 (by omega) (by omega) (by omega)).mono ?_
  rintro e w2 ⟨j, rfl, hj0, hj1, hG2⟩
  have h3 : j = 0 ∨ j = 1 ∨ j = 2 := by omega
  rcases h3 with rfl | rfl | rfl
  · go_wp2_with fail
    refine (l2Form_any rb (P + 100 + 1) a w2 hG2.1 (by omega) ham).mono ?_
    rintro e w3 ⟨y, rfl, hy, hG3⟩
    go_wp2_with fail
    have hG := hG1.trans (hG2.trans hG3)
    exact bodyPost_ret (v := .tuple #[.string a, .string y]) (by simp [results, Tryz.results27, go_sem]) rfl ⟨a, y, rfl, ha, hy, hG.1.le (by omega), hG.2⟩
  · go_wp2_with fail
    refine (l2Form_any rb (P + 100 + 1) a w2 hG2.1 (by omega) ham).mono ?_
    rintro e w3 ⟨y, rfl, hy, hG3⟩
    go_wp2_with fail
    have hG := hG1.trans (hG2.trans hG3)
    exact bodyPost_ret (v := .tuple #[.string y, .string a]) (by simp [results, Tryz.results27, go_sem]) rfl ⟨y, a, rfl, hy, ha, hG.1.le (by omega), hG.2⟩
  · go_wp2_with fail
    refine (l1Any_any rb (P + 100 + 1) w2 hG2.1 (by omega)).mono ?_
    rintro e w3 ⟨y, rfl, hy, hG3⟩
    go_wp2_with fail
    have hG := hG1.trans (hG2.trans hG3)
    exact bodyPost_ret (v := .tuple #[.string a, .string y]) (by simp [results, Tryz.results27, go_sem]) rfl ⟨a, y, rfl, ha, hy, hG.1.le (by omega), hG.2⟩

set_option maxHeartbeats 400000 in
theorem drawMatchType_any (A : Option Addr) (len cap : Nat) (w : World) (hl : len ≤ cap) (hm : cap ≤ maxLen) (hb : Bts w A len) :
    Calls Tryz.prog 6 #[.slice A len cap] w fun e w' => ∃ x y : ByteArray, e = .returned (.tuple #[.string x, .string y]) ∧ x.size ≤ 100 ∧ y.size ≤ 100 ∧ Below w.heap.size w w' := by
  have HB := hid hb
  clear hb
  go_enter Tryz.func6, Tryz.ntmps6
  go_wp2_with fail
  refine (l13Open_any A len cap w hl hm HB.out).mono ?_
  rintro e u1 ⟨rb, rfl, hrb, hr1, hb1⟩
  go_wp2_with fail
  refine (l2Two_any rb 0 u1 hr1 (by omega)).mono ?_
  rintro e u2 ⟨x, y, rfl, hx, hy, hG⟩
  go_wp2_with fail
  exact bodyPost_ret (v := .tuple #[.string x, .string y]) (by simp [results, Tryz.results6, go_sem]) rfl ⟨x, y, rfl, hx, hy, hb1.trans (hG.2.below' hb1.size hrb)⟩

set_option maxHeartbeats 400000 in
theorem drawUnifyTypes_any (A : Option Addr) (len cap : Nat) (w : World) (hl : len ≤ cap) (hm : cap ≤ maxLen) (hb : Bts w A len) :
    Calls Tryz.prog 15 #[.slice A len cap] w fun e w' => ∃ x y : ByteArray, e = .returned (.tuple #[.string x, .string y]) ∧ x.size ≤ 100 ∧ y.size ≤ 100 ∧ Below w.heap.size w w' := by
  have HB := hid hb
  clear hb
  go_enter Tryz.func15, Tryz.ntmps15
  go_wp2_with fail
  refine (l13Open_any A len cap w hl hm HB.out).mono ?_
  rintro e u1 ⟨rb, rfl, hrb, hr1, hb1⟩
  go_wp2_with fail
  refine (l2Two_any rb 0 u1 hr1 (by omega)).mono ?_
  rintro e u2 ⟨x, y, rfl, hx, hy, hG⟩
  go_wp2_with fail
  exact bodyPost_ret (v := .tuple #[.string x, .string y]) (by simp [results, Tryz.results15, go_sem]) rfl ⟨x, y, rfl, hx, hy, hb1.trans (hG.2.below' hb1.size hrb)⟩

set_option maxHeartbeats 400000 in
theorem drawAreApart_any (A : Option Addr) (len cap : Nat) (w : World) (hl : len ≤ cap) (hm : cap ≤ maxLen) (hb : Bts w A len) :
    Calls Tryz.prog 21 #[.slice A len cap] w fun e w' => ∃ x y : ByteArray, e = .returned (.tuple #[.string x, .string y]) ∧ x.size ≤ 100 ∧ y.size ≤ 100 ∧ Below w.heap.size w w' := by
  have HB := hid hb
  clear hb
  go_enter Tryz.func21, Tryz.ntmps21
  go_wp2_with fail
  refine (l13Open_any A len cap w hl hm HB.out).mono ?_
  rintro e u1 ⟨rb, rfl, hrb, hr1, hb1⟩
  go_wp2_with fail
  refine (l2Two_any rb 0 u1 hr1 (by omega)).mono ?_
  rintro e u2 ⟨x, y, rfl, hx, hy, hG⟩
  go_wp2_with fail
  exact bodyPost_ret (v := .tuple #[.string x, .string y]) (by simp [results, Tryz.results21, go_sem]) rfl ⟨x, y, rfl, hx, hy, hb1.trans (hG.2.below' hb1.size hrb)⟩

set_option maxHeartbeats 400000 in
theorem drawIsGround_any (A : Option Addr) (len cap : Nat) (w : World) (hl : len ≤ cap) (hm : cap ≤ maxLen) (hb : Bts w A len) :
    Calls Tryz.prog 25 #[.slice A len cap] w fun e w' => ∃ x : ByteArray, e = .returned (.string x) ∧ x.size ≤ 100 ∧ Below w.heap.size w w' := by
  have HB := hid hb
  clear hb
  go_enter Tryz.func25, Tryz.ntmps25
  go_wp2_with fail
  refine (l13Open_any A len cap w hl hm HB.out).mono ?_
  rintro e u1 ⟨rb, rfl, hrb, hr1, hb1⟩
  go_wp2_with fail
  refine (l1Any_any rb 0 u1 hr1 (by omega)).mono ?_
  rintro e u2 ⟨x, rfl, hx, hG⟩
  go_wp2_with fail
  go_ret
  exact ⟨x, rfl, hx, hb1.trans (hG.2.below' hb1.size hrb)⟩

end Go.Proofs.YtechacocfpobgaaGreat
