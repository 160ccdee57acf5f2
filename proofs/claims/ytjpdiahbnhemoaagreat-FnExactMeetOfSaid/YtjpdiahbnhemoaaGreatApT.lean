/- ApplyBindings in the model. -/
import Derived.Test.YtjpdiahbnhemoaaGreatPutS
import Derived.Test.YtjpdiahbnhemoaaGreatApW
import Derived.Test.YtjpdiahbnhemoaaGreatBvS
import Derived.Test.YtjpdiahbnhemoaaGreatTextS
namespace Go.Proofs.YtjpdiahbnhemoaaGreat
open Go.RowKit

theorem l2ix_let (c : UInt8) (h : 0 ≤ l2ix c) : ([88, 89, 90, 120, 121, 122, 49, 50, 51, 52, 53, 54] : List UInt8)[(l2ix c).toNat]? = some c := by
  revert h
  refine u8_all (p := fun c => 0 ≤ l2ix c → ([88, 89, 90, 120, 121, 122, 49, 50, 51, 52, 53, 54] : List UInt8)[(l2ix c).toNat]? = some c) ?_ c
  decide +kernel
theorem l2ix_inj {c d : UInt8} {k : Nat} (h1 : l2ix c = (k : Int)) (h2 : l2ix d = (k : Int)) : c = d := by
  have e1 := l2ix_let c (by omega)
  have e2 := l2ix_let d (by omega)
  rw [h1] at e1
  rw [h2] at e2
  rw [e1] at e2
  injection e2
/-- A variable bound, in the model's memory. -/
theorem StndN.set {w : World} {mb : Nat} {S : Nat → Prop} {f : UInt8 → Option Ty} (h : StndN w mb S f) (hs : ¬ S mb) {c : UInt8} {k : Nat} (hc : l2ix c = (k : Int)) {t : Ty} {d : UInt8} {A : Option Addr} {m cap : Nat} (hd : d ≠ 0) (hv : RepN w S t (.int .u8 d.toNat) (.slice A m cap)) :
    StndN ((w.setCell ⟨mb, k * 2, none⟩ (.int .u8 d.toNat)).setCell ⟨mb, k * 2 + 1, none⟩ (.slice A m cap)) mb S (fun e => if e = c then some t else f e) := by
  obtain ⟨cur, h1, h2, h3⟩ := h
  have hk12 : k < 12 := by have := (l2ix_var c).2.2.2; omega
  have hk : ∀ g, S g → S g ∧ ((w.setCell ⟨mb, k * 2, none⟩ (.int .u8 d.toNat)).setCell ⟨mb, k * 2 + 1, none⟩ (.slice A m cap)).heap[g]? = w.heap[g]? := fun g hg => by
    have hne : g ≠ mb := by rintro rfl; exact hs hg
    exact ⟨hg, by rw [Below.heap_setCell _ _ _ _ hne, Below.heap_setCell _ _ _ _ hne]⟩
  refine ⟨(cur.setIfInBounds (k * 2) (.int .u8 d.toNat)).setIfInBounds (k * 2 + 1) (.slice A m cap), ?_, by simpa using h2, fun e j he => ?_⟩
  · simp [World.setCell, Array.getElem?_modify, h1]
  · have hj12 : j < 12 := by have := (l2ix_var e).2.2.2; omega
    by_cases ec : e = c
    · subst ec
      obtain rfl : k = j := by omega
      simp only [if_true]
      refine ⟨d, A, m, cap, hd, ?_, ?_, hv.keep hk⟩
      · rw [Array.getElem?_setIfInBounds, if_neg (by omega), Array.getElem?_setIfInBounds, if_pos rfl, if_pos (by omega)]
      · rw [Array.getElem?_setIfInBounds, if_pos rfl, if_pos (by simp; omega)]
    · have hne : j ≠ k := fun h => ec (l2ix_inj (h ▸ he) hc)
      have h4 := h3 e j he
      have e0 : ∀ x y, ((cur.setIfInBounds (k * 2) x).setIfInBounds (k * 2 + 1) y)[j * 2]? = cur[j * 2]? := fun x y => by
        rw [Array.getElem?_setIfInBounds, if_neg (by omega), Array.getElem?_setIfInBounds, if_neg (by omega)]
      have e1 : ∀ x y, ((cur.setIfInBounds (k * 2) x).setIfInBounds (k * 2 + 1) y)[j * 2 + 1]? = cur[j * 2 + 1]? := fun x y => by
        rw [Array.getElem?_setIfInBounds, if_neg (by omega), Array.getElem?_setIfInBounds, if_neg (by omega)]
      simp only [if_neg ec, e0, e1]
      split at h4
      · exact h4
      · obtain ⟨d', A', m', cap', g0, g1, g2, g3⟩ := h4
        exact ⟨d', A', m', cap', g0, g1, g2, g3.keep hk⟩
theorem StndN.cells {w : World} {mb : Nat} {S : Nat → Prop} {f : UInt8 → Option Ty} (h : StndN w mb S f) (k : Nat) (hk : k < 12) : (∃ x, w.cell? ⟨mb, k * 2, none⟩ = some x) ∧ (∃ x, w.cell? ⟨mb, k * 2 + 1, none⟩ = some x) ∧ ∀ j, w.frozen? ⟨mb, j, none⟩ = false := by
  obtain ⟨cur, h1, h2, _⟩ := h
  exact ⟨⟨_, cell_blk h1 (Array.getElem?_eq_getElem (by omega))⟩, ⟨_, cell_blk h1 (Array.getElem?_eq_getElem (by omega))⟩, frz_blk h1⟩
theorem StndN.lt {w : World} {mb : Nat} {S : Nat → Prop} {f : UInt8 → Option Ty} (h : StndN w mb S f) : mb < w.heap.size := by
  obtain ⟨cur, h1, _⟩ := h
  exact (Array.getElem?_eq_some_iff.1 h1).1

def emptyN : Array Value := #[.int .u8 0, .slice none 0 0, .int .u8 0, .slice none 0 0, .int .u8 0, .slice none 0 0, .int .u8 0, .slice none 0 0, .int .u8 0, .slice none 0 0, .int .u8 0, .slice none 0 0,
  .int .u8 0, .slice none 0 0, .int .u8 0, .slice none 0 0, .int .u8 0, .slice none 0 0, .int .u8 0, .slice none 0 0, .int .u8 0, .slice none 0 0, .int .u8 0, .slice none 0 0]
theorem emptyN_at (k : Nat) (h : k < 12) : emptyN[k * 2]? = some (.int .u8 0) ∧ emptyN[k * 2 + 1]? = some (.slice none 0 0) := by
  have h' : k = 0 ∨ k = 1 ∨ k = 2 ∨ k = 3 ∨ k = 4 ∨ k = 5 ∨ k = 6 ∨ k = 7 ∨ k = 8 ∨ k = 9 ∨ k = 10 ∨ k = 11 := by omega
  rcases h' with h | h | h | h | h | h | h | h | h | h | h | h <;> (subst h; exact ⟨rfl, rfl⟩)
theorem StndN.new (w : World) (S : Nat → Prop) : StndN (w.alloc (.cells emptyN 40)) w.heap.size S (fun _ => none) :=
  ⟨emptyN, heap_new1 _ _, rfl, fun c k hc => emptyN_at k (by have := (l2ix_var c).2.2.2; omega)⟩

theorem bv_all {zs : List (ByteArray × ByteArray)} (h : bvOf zs = true) : ∀ z ∈ zs, ∃ d t, z.1.data.toList = [d] ∧ isVarB d = true ∧ tyOf z.2.data.toList = some t := by
  have key : ∀ (zs : List (ByteArray × ByteArray)) (last : UInt8), bvGo last zs = true → ∀ z ∈ zs, ∃ d t, z.1.data.toList = [d] ∧ isVarB d = true ∧ tyOf z.2.data.toList = some t := by
    intro zs
    induction zs with
    | nil => intro _ _ z hz; cases hz
    | cons y ys ih =>
      intro last h z hz
      unfold bvGo at h
      split at h
      · rename_i c e
        simp only [Bool.and_eq_true] at h
        rcases List.mem_cons.1 hz with rfl | hz
        · obtain ⟨t, ht⟩ := Option.isSome_iff_exists.1 h.1.1.2
          exact ⟨c, t, e, h.1.1.1, ht⟩
        · exact ih c h.2 z hz
      · cases h
  exact key zs 0 h
theorem isN_ok {c : UInt8} (h : ar c = 0) : isN c = isVarX c := by
  revert h
  refine u8_all (p := fun c => ar c = 0 → isN c = isVarX c) ?_ c
  decide +kernel
theorem subN_sub (f : UInt8 → Option Ty) {t : Ty} (h : t.ok) : t.subN f = t.sub (once f) := by
  induction t with
  | lf c => rw [Ty.subN, Ty.sub, isN_ok h]; rfl
  | un c a ih => rw [Ty.subN, Ty.sub, ih h.2]
  | bi c a b iha ihb => rw [Ty.subN, Ty.sub, iha h.2.1, ihb h.2.2]
theorem text_ne0 {t : Ty} (h : t.inner) {w : World} {S : Nat → Prop} {c : UInt8} {A : Option Addr} {m cap : Nat} (hr : RepN w S t (.int .u8 c.toNat) (.slice A m cap)) : c ≠ 0 := by
  have key : ∀ d : UInt8, d ≠ 0 → (Value.int .u8 (c.toNat : Int) = .int .u8 d.toNat) → c ≠ 0 := by
    intro d hd e
    simp only [Value.int.injEq, true_and] at e
    have : c = d := UInt8.toNat_inj.1 (by omega)
    rw [this]
    exact hd
  cases t with
  | lf d => exact key d h hr.1
  | un d a => exact key d h.2.1 hr.1
  | bi d a b => exact key d h.2.1 hr.1

/-- The loop that fills the map. -/
def FillR (w2 : World) (zs : List (ByteArray × ByteArray)) (k : Nat) (wr : World) : Prop :=
  StndN wr w2.heap.size (fun g => w2.heap.size < g ∧ g < wr.heap.size) (bmap (zs.take k)) ∧ Below w2.heap.size w2 wr
theorem fill_step {w2 wr w4 : World} {zs : List (ByteArray × ByteArray)} {k : Nat} {x y : ByteArray} {d : UInt8} {t : Ty} {q : Nat} (hst : StndN wr w2.heap.size (fun g => w2.heap.size < g ∧ g < wr.heap.size) (bmap (zs.take k))) (hbel2 : Below w2.heap.size w2 wr) (hb : Below wr.heap.size wr w4)
    (htk : zs.take (k + 1) = zs.take k ++ [(x, y)]) (hd : x.data.toList = [d]) (hty : tyOf y.data.toList = some t) (hq : l2ix d = (q : Int)) {c4 : UInt8} {A4 : Option Addr} {m4 cap4 : Nat} (lo : Nat) (hlo : wr.heap.size ≤ lo) (hr4 : RepN w4 (fun g => lo ≤ g ∧ g < w4.heap.size) t (.int .u8 c4.toNat) (.slice A4 m4 cap4)) :
    FillR w2 zs (k + 1) ((w4.setCell ⟨w2.heap.size, q * 2, none⟩ (.int .u8 c4.toNat)).setCell ⟨w2.heap.size, q * 2 + 1, none⟩ (.slice A4 m4 cap4)) := by
  have zm := hst.lt
  have z4 := hb.size
  have h4 : StndN w4 w2.heap.size (fun g => w2.heap.size < g ∧ g < w4.heap.size) (bmap (zs.take k)) := hst.keep (hb.block _ zm) fun g hg => ⟨⟨hg.1, by omega⟩, hb.block g hg.2⟩
  have hne := text_ne0 (ok_inner (tyOf_text hty).2.1) hr4
  have h5 := h4.set (fun h => absurd h.1 (Nat.lt_irrefl _)) hq hne (hr4.keep (S' := fun g => w2.heap.size < g ∧ g < w4.heap.size) fun g hg => ⟨⟨by omega, hg.2⟩, rfl⟩)
  have e : bmap (zs.take (k + 1)) = fun e => if e = d then some t else bmap (zs.take k) e := by rw [htk, bmap_snoc, bstep_at hd hty]
  refine ⟨?_, ((hbel2.trans (hb.mono hbel2.size)).setCell (Nat.le_refl _) _).setCell (Nat.le_refl _) _⟩
  rw [e]
  exact h5.keep rfl fun g hg => ⟨⟨hg.1, by simp [World.setCell]; exact hg.2⟩, rfl⟩
theorem l1Read_at (s : ByteArray) (w : World) (hs : s.size ≤ maxLen) (T : Ty) (h : Hid (tyOf s.data.toList = some T)) :
    Calls Tryz.prog 10 #[.string s] w fun e w' => ∃ (c : UInt8) (A : Option Addr) (m cap : Nat), e = .returned (.tuple #[.agg #[.int .u8 c.toNat, .slice A m cap], .bool true]) ∧ RepN w' (fun g => w.heap.size ≤ g ∧ g < w'.heap.size) T (.int .u8 c.toNat) (.slice A m cap) ∧ Below w.heap.size w w' := by
  refine (l1Read_any s w hs).mono ?_
  rintro e w1 ⟨hb1, ⟨ht, rfl⟩ | ⟨T', c0, A0, m0, cap0, ht, rfl, hrep⟩⟩
  · rw [h.out] at ht; cases ht
  · rw [h.out] at ht
    injection ht with ht
    subst ht
    exact ⟨c0, A0, m0, cap0, rfl, hrep, hb1⟩

set_option maxHeartbeats 1600000 in
set_option maxRecDepth 100000 in
theorem apS_any (A : Option Addr) (n c : Nat) (zs : List (ByteArray × ByteArray)) (s : ByteArray) (w : World) (ha : Prs w A n zs) (hz : ∀ z ∈ zs, z.1.size ≤ maxLen ∧ z.2.size ≤ maxLen) (hn : n ≤ 1048576) (hs : s.size ≤ maxLen) :
    Calls Tryz.prog 7 #[.slice A n c, .string s] w fun e w' => e = .returned (.tuple #[.string (apS (apOf zs s.data.toList)), .bool (apOf zs s.data.toList).isSome]) ∧ Below w.heap.size w w' := by
  have HA := hid ha
  have HZ := hid hz
  clear ha hz
  go_enter Tryz.func7, Tryz.ntmps7
  go_wp2_with fail
  refine (l1Read_any s _ hs).mono ?_
  rintro e w1 ⟨hb1, ⟨ht, rfl⟩ | ⟨T, c0, A0, m0, cap0, ht, rfl, hrep⟩⟩
  · have HO := hid (show apOf zs s.data.toList = none by unfold apOf; rw [ht]; cases bvOf zs <;> rfl)
    clear ht
    go_wp2_with fail
    rw [HO.out]
    exact bodyPost_ret (v := .tuple #[.string ⟨#[]⟩, .bool false]) (by simp [results, Tryz.results7, go_sem]) rfl ⟨rfl, hb1.alloc hb1.size _⟩
  · have HT := hid ht
    have z1 := hb1.size
    have HREP := hid hrep
    clear ht hrep
    go_wp2_with fail
    have hbA : ∀ o, Below w.heap.size w (w1.alloc o) := fun o => hb1.alloc z1 o
    refine (bvS_any A n c zs _ (HA.out.below (hbA _)) HZ.out hn).mono ?_
    rintro e w2 ⟨rfl, hb2⟩
    rcases hbv : bvOf zs with _ | _
    · have HO := hid (show apOf zs s.data.toList = none by unfold apOf; rw [hbv])
      clear hbv
      go_wp2_with fail
      rw [HO.out]
      exact bodyPost_ret (v := .tuple #[.string ⟨#[]⟩, .bool false]) (by simp [results, Tryz.results7, go_sem]) rfl ⟨rfl, (hbA _).trans (hb2.mono (hbA _).size)⟩
    · have HBV := hid hbv
      clear hbv
      go_wp2_with fail
      have HS0 := hid (StndN.new w2 (fun g => w2.heap.size < g ∧ g < (w2.alloc (.cells emptyN 40)).heap.size))
      go_loopw [28] (fun v wr => ∃ k : Nat, k ≤ n ∧ v = .int .i64 k ∧ FillR w2 zs k wr) (fun v _ => n - (intOf v).toNat)
      case atStart => exact ⟨0, Nat.zero_le _, rfl, HS0.out, (Below.refl _ _).alloc (Nat.le_refl _) _⟩
      case round =>
        obtain ⟨k, hk, rfl, hst, hbel2⟩ := hrel
        have HST := hid hst
        have z2 := hb2.size
        simp only [World.size_alloc] at z2
        have zr := hbel2.size
        have zm := hst.lt
        have hbel : Below w.heap.size w wr := (hbA _).trans ((hb2.trans (hbel2.mono (by simp only [World.size_alloc]; omega))).mono (hbA _).size)
        clear hst
        by_cases hlt : k < n
        · obtain ⟨g, o, rfl, hg, hca⟩ := HA.out.2 (by omega)
          have hx : zs[k]? = some (zs[k]'(by have := HA.out.1; omega)) := List.getElem?_eq_getElem _
          obtain ⟨ca, cb⟩ := hca k _ hx
          have hmem := List.mem_of_getElem? hx
          have hsz := HZ.out _ hmem
          obtain ⟨d, t, hd, hdv, hty⟩ := bv_all HBV.out _ hmem
          obtain ⟨⟨x, y⟩, ex⟩ : ∃ z, zs[k]'(by have := HA.out.1; omega) = z := ⟨_, rfl⟩
          rw [ex] at ca cb hx hsz hd hty
          have hx1 : x.size = 1 := by
            have : x.data.toList.length = 1 := by rw [hd]; rfl
            simpa using this
          obtain ⟨d', hd1, hd2⟩ := one_list hx1
          have hdd : d = d' := by
            have h1 : x.data.toList = [d] := hd
            rw [hd1] at h1
            injection h1 with h1
            exact h1.symm
          subst hdd
          have hz0 : 0 < x.size := by omega
          have hx0 := hd2 hz0
          have HTK := hid (show zs.take (k + 1) = zs.take k ++ [(x, y)] by rw [List.take_add_one, hx]; rfl)
          have HTY := hid hty
          have HD := hid hd
          obtain ⟨q, hq⟩ : ∃ q : Nat, l2ix d = (q : Int) := ⟨(l2ix d).toNat, by have := (l2ix_var d).1 hdv; omega⟩
          have hq12 : q < 12 := by have := (l2ix_var d).1 hdv; omega
          have HQ := hid hq
          have ca' := cell_below ca hg hbel
          have cb' := cell_below cb hg hbel
          obtain ⟨hsx, hsy⟩ := hsz
          have HX1 := hid hx1
          have HD1 := hid hd1
          clear hca hx ex ca cb hd hty hq hx1 hd1 hd2
          have i1 : (0 : Int) ≤ (k : Int) := by omega
          have i2 : (k : Int) < (n : Int) := by omega
          have j1 : (0 : Int) ≤ (q : Int) := by omega
          have j2 : (q : Int) < 12 := by omega
          go_wp2_with fail
          obtain ⟨W9, hW9⟩ : ∃ W9, wr.alloc (.cells #[.string x, .string y] 42) = W9 := ⟨_, rfl⟩
          have p0 : W9.cell? ⟨wr.heap.size, 0, none⟩ = some (.string x) := by rw [← hW9]; exact (blk_cells2 (heap_new1 wr _)).1
          have p1 : W9.cell? ⟨wr.heap.size, 1, none⟩ = some (.string y) := by rw [← hW9]; exact (blk_cells2 (heap_new1 wr _)).2
          have hbr9 : Below wr.heap.size wr W9 := by rw [← hW9]; exact (Below.refl _ _).alloc (Nat.le_refl _) _
          have z9 : W9.heap.size = wr.heap.size + 1 := by rw [← hW9]; simp only [World.size_alloc]
          rw [hW9]
          clear hW9 ca' cb'
          have HC9 := hid (fun w4 (hb4 : Below W9.heap.size W9 w4) => StndN.cells (HST.out.keep (S' := fun g => w2.heap.size < g ∧ g < wr.heap.size) ((hbr9.trans (hb4.mono (by omega))).block _ zm) fun g hg => ⟨hg, (hbr9.trans (hb4.mono (by omega))).block g hg.2⟩) q hq12)
          have HRD := hid (fun W => l1Read_at y W hsy t HTY)
          obtain ⟨⟨u0, e0⟩, ⟨u1, e1⟩, ff⟩ := HC9.out W9 (Below.refl _ _)
          go_region_with (first | (go_at_call 14; refine (l2Index_at d (q : Int) HQ _).mono ?_; rintro e w3 ⟨rfl, rfl⟩) | (go_at_call 10; refine (HRD.out _).mono ?_; rintro e w4 ⟨c4, A4, m4, cap4, rfl, hr4, hb4'⟩; have hb4 : Below W9.heap.size W9 w4 := (by first | exact hb4' | exact bel_undrew hb4' | exact bel_undrew (bel_undrew hb4')); have HR4 := hid hr4; clear hr4; have g0 := cell_below p0 (by omega) hb4; have g1 := cell_below p1 (by omega) hb4; obtain ⟨⟨v0, e4⟩, ⟨v1, e5⟩, ff4⟩ := HC9.out w4 hb4))
          all_goals
            go_wp2_with fail
            go_roundw
            case rel => exact ⟨k + 1, hlt, by go_num, fill_step HST.out hbel2 (hbr9.trans (hb4.mono (by omega))) HTK.out HD.out HTY.out HQ.out W9.heap.size (by omega) HR4.out⟩
            case measure => simp [intOf]; omega
        · have HKN := hid (show k = n by omega)
          obtain ⟨et, ot, lt⟩ := tyOf_text HT.out
          rw [et] at lt
          have hst' : StndN wr w2.heap.size (fun g => w2.heap.size < g ∧ g < wr.heap.size) (bmap zs) := by
            have h := HST.out
            rwa [show zs.take k = zs from List.take_of_length_le (by have := HA.out.1; have := HKN.out; omega)] at h
          have n0 : wr.cell? ⟨w1.heap.size, 0, none⟩ = some (.int .u8 c0.toNat) := cell_below (cell_below (blk_cells2 (heap_new1 w1 (.cells #[.int .u8 c0.toNat, .slice A0 m0 cap0] 31))).1 (by simp only [World.size_alloc]; omega) hb2) (by show w1.heap.size < _; omega) hbel2
          have n1 : wr.cell? ⟨w1.heap.size, 1, none⟩ = some (.slice A0 m0 cap0) := cell_below (cell_below (blk_cells2 (heap_new1 w1 (.cells #[.int .u8 c0.toNat, .slice A0 m0 cap0] 31))).2 (by simp only [World.size_alloc]; omega) hb2) (by show w1.heap.size < _; omega) hbel2
          have hr1 : RepN wr (fun g => w.heap.size ≤ g ∧ g < w1.heap.size) T (.int .u8 c0.toNat) (.slice A0 m0 cap0) := HREP.out.keep fun g hg => ⟨hg, (hbel2.block g (by omega)).trans ((hb2.block g (by simp only [World.size_alloc]; omega)).trans (Below.heap_alloc _ _ _ hg.2))⟩
          have HPUT := hid (put_any T (ok_inner ot) (bmap zs) (fun g => w.heap.size ≤ g ∧ g < w1.heap.size) (fun g => w2.heap.size < g ∧ g < wr.heap.size) w2.heap.size _ _ wr hst' hr1 (fun g hg => by omega) (fun g hg => hg.2) zm)
          obtain ⟨ho, hl⟩ := sub_ok (bmap_fine zs) ot
          have hsub := subN_sub (bmap zs) ot
          obtain ⟨U, hU⟩ : ∃ U, T.sub (once (bmap zs)) = U := ⟨_, rfl⟩
          rw [hU] at ho hl hsub
          obtain ⟨ul, hul⟩ : ∃ n, U.text.length = n := ⟨_, rfl⟩
          rw [hul] at hl
          have HUL := hid hul
          have HU := hid hU
          have HOK := hid ho
          have HSUB := hid hsub
          have HET := hid et
          clear hst' hr1 hU hul ho hsub et ot
          go_wp2_with fail
          refine HPUT.out.mono ?_
          rintro e w5 ⟨c5, A5, m5, cap5, rfl, hne5, hr5, hb5⟩
          rw [HSUB.out] at hr5
          have z5 := hb5.size
          have HR5 := hid hr5
          clear hr5
          go_wp2_with fail
          have hbo : ∀ o, Below w5.heap.size w5 (w5.alloc o) := fun o => (Below.refl _ _).alloc (Nat.le_refl _) o
          refine (l2Length_any U (fun g => (w2.heap.size < g ∧ g < wr.heap.size) ∨ (wr.heap.size ≤ g ∧ g < w5.heap.size)) _ _ _ (HR5.out.keep fun g hg => ⟨hg, (hbo _).block g (by omega)⟩) (fun g hg => by simp only [World.size_alloc]; omega) (by rw [HUL.out]; omega)).mono ?_
          rintro e w6 ⟨he, hb6⟩
          rw [HUL.out] at he
          subst he
          have z6 := hb6.size
          simp only [World.size_alloc] at z6
          have hbz : Below w.heap.size w w6 := hbel.trans ((hb5.trans ((hbo _).trans (hb6.mono (hbo _).size) |>.mono z5)).mono hbel.size)
          by_cases hlong : (60 : Int) < (ul : Int)
          · have HO := hid (show apOf zs s.data.toList = none by unfold apOf; rw [HBV.out, HT.out]; exact if_neg (by rw [HU.out, HUL.out]; omega))
            go_wp2_with fail
            rw [HO.out]
            exact bodyPost_ret (v := .tuple #[.string ⟨#[]⟩, .bool false]) (by simp [results, Tryz.results7, go_sem]) rfl ⟨rfl, hbz⟩
          · have HO := hid (show apOf zs s.data.toList = some U.text by unfold apOf; rw [HBV.out, HT.out]; rw [← HU.out]; exact if_pos (by rw [HU.out, HUL.out]; omega))
            have o0 : w6.cell? ⟨w5.heap.size, 0, none⟩ = some (.int .u8 c5.toNat) := cell_below (blk_cells2 (heap_new1 w5 (.cells #[.int .u8 c5.toNat, .slice A5 m5 cap5] 31))).1 (by simp only [World.size_alloc]; omega) hb6
            have o1 : w6.cell? ⟨w5.heap.size, 1, none⟩ = some (.slice A5 m5 cap5) := cell_below (blk_cells2 (heap_new1 w5 (.cells #[.int .u8 c5.toNat, .slice A5 m5 cap5] 31))).2 (by simp only [World.size_alloc]; omega) hb6
            have hr6 : RepN w6 (fun g => g < w5.heap.size) U (.int .u8 c5.toNat) (.slice A5 m5 cap5) := HR5.out.keep fun g hg => ⟨by omega, (hb6.block g (by simp only [World.size_alloc]; omega)).trans ((hbo _).block g (by omega))⟩
            have HR6 := hid hr6
            clear hr6
            go_wp2_with fail
            refine (textS_any U _ _ _ _ HR6.out (fun g hg => by omega) (by rw [HUL.out]; omega)).mono ?_
            rintro e w7 ⟨rfl, hb7⟩
            obtain ⟨q, hq⟩ : ∃ q, strOf U.text = q := ⟨_, rfl⟩
            rw [hq]
            have HQ := hid hq
            clear hq
            go_wp2_with fail
            rw [HO.out]
            refine bodyPost_ret (v := .tuple #[.string q, .bool true]) (by simp [results, Tryz.results7, go_sem]) rfl ⟨?_, hbz.trans (hb7.mono hbz.size)⟩
            show Ending.returned (.tuple #[.string q, .bool true]) = .returned (.tuple #[.string (strOf _), .bool true])
            rw [HQ.out]

end Go.Proofs.YtjpdiahbnhemoaaGreat
