/- Types made anew in the model: l2Others, l2Full. l2Others whole, and l2Full, in the model. -/
import Derived.Test.YteimmgajohimlaaGreatUuW
import Derived.Deep.RegionLaw
import Derived.StillTactics
import Derived.Deep.AppendLies
import Derived.Test.YteimmgajohimlaaGreatTdS
import Derived.Test.YteimmgajohimlaaGreatUnF
namespace Go.Proofs.YteimmgajohimlaaGreat
open Go.RowKit

theorem frz_below {B w' : World} {rc : Nat} (h : ∀ k, B.frozen? ⟨rc, k, none⟩ = false) (hrc : rc < B.heap.size) (hb : Below B.heap.size B w') (k : Nat) : w'.frozen? ⟨rc, k, none⟩ = false := by
  have e := hb.block rc hrc
  have := h k
  unfold World.frozen? at this ⊢
  rw [show w'.heap[(⟨rc, k, none⟩ : Addr).block]? = _ from e]
  exact this
/-- A round of a loop that makes a node anew, part by part, in memory from world B on: the new node at block ob. -/
def NewF (c : UInt8) (us : List Ty) (B : World) (ob i : Nat) (wr : World) : Prop :=
  ∃ (g cap : Nat) (xs : List Value), wr.heap[ob]? = some (.cells #[.int .u8 c.toNat, .slice (some ⟨g, 0, none⟩) i cap] 61 (0, 0)) ∧ wr.ownsRow B.heap.size 61 2 (.slice (some ⟨g, 0, none⟩) i cap) i xs ∧
    g ≠ ob ∧ Below B.heap.size B wr ∧ Kids wr (fun k => B.heap.size ≤ k ∧ k < wr.heap.size ∧ k ≠ g ∧ k ≠ ob) (us.take i) xs
theorem newF_start (c : UInt8) (us : List Ty) (B : World) : NewF c us B (B.heap.size + 1) 0 ((B.alloc (.cells #[] 61)).alloc (.cells #[.int .u8 c.toNat, .slice (some ⟨B.heap.size, 0, none⟩) 0 0] 61)) := by
  refine ⟨B.heap.size, 0, [], ?_, ⟨rfl, .inr ⟨B.heap.size, 0, #[], rfl, Nat.le_refl _, ?_, Nat.le_refl _, Nat.zero_le _, rfl, rfl⟩⟩, by omega, ?_, rfl⟩
  · have := heap_new1 (B.alloc (.cells #[] 61)) (.cells #[.int .u8 c.toNat, .slice (some ⟨B.heap.size, 0, none⟩) 0 0] 61)
    simpa only [World.size_alloc] using this
  · rw [Below.heap_alloc _ _ _ (by simp only [World.size_alloc]; omega)]
    exact heap_new1 B _
  · exact ((Below.refl _ _).alloc (Nat.le_refl _) _).alloc (by simp only [World.size_alloc]; omega) _

/-- A type made anew by l2Others. -/
def OtherAt (a u : Ty) : Prop := ∀ (S : Nat → Prop) (c : UInt8) (A : Option Addr) (m cap : Nat) (w : World), RepN w S a (.int .u8 c.toNat) (.slice A m cap) → (∀ g, S g → g < w.heap.size) →
  Calls Tryz.prog 50 #[.agg #[.int .u8 c.toNat, .slice A m cap]] w fun e w' => ∃ (c' : UInt8) (A' : Option Addr) (m' cap' : Nat), e = .returned (.agg #[.int .u8 c'.toNat, .slice A' m' cap']) ∧ RepN w' (fun g => w.heap.size ≤ g ∧ g < w'.heap.size) u (.int .u8 c'.toNat) (.slice A' m' cap') ∧ Below w.heap.size w w'

set_option maxHeartbeats 1600000 in
set_option maxRecDepth 100000 in
theorem othersRow (c' : UInt8) (hc : Hid (l2ix c' = -1)) (ts us : List Ty) (n cap0 : Nat) (A0 : Option Addr) (hn : ts.length = n) (hu : us.length = n) (h2 : n ≤ 2) (S : Nat → Prop) (w : World) (ih : ∀ (i : Nat) (a u : Ty), ts[i]? = some a → us[i]? = some u → OtherAt a u) (hk : KidsAt w S A0 ts) (hS : ∀ g, S g → g < w.heap.size) :
    Calls Tryz.prog 50 #[.agg #[.int .u8 c'.toNat, .slice A0 n cap0]] w fun e w' => ∃ (c1 : UInt8) (A1 : Option Addr) (m1 cap1 : Nat), e = .returned (.agg #[.int .u8 c1.toNat, .slice A1 m1 cap1]) ∧ RepN w' (fun g => w.heap.size ≤ g ∧ g < w'.heap.size) (mkTy c' us) (.int .u8 c1.toNat) (.slice A1 m1 cap1) ∧ Below w.heap.size w w' := by
  have HN := hid hn
  have HU := hid hu
  have hmk : True := trivial
  clear hn hu hmk
  obtain ⟨B, hB⟩ : ∃ B, (w.alloc (.cells #[.int .u8 c'.toNat, .slice A0 n cap0] 61)).alloc (.cells #[.int .u8 0, .slice none 0 0] 61) = B := ⟨_, rfl⟩
  have hbB : Below w.heap.size w B := by rw [← hB]; exact ((Below.refl _ _).alloc (Nat.le_refl _) _).alloc (by simp only [World.size_alloc]; omega) _
  have hzB : w.heap.size + 1 + 1 = B.heap.size := by rw [← hB]; simp only [World.size_alloc]
  have h9 := heap_new1 (w.alloc (.cells #[.int .u8 c'.toNat, .slice A0 n cap0] 61)) (.cells #[.int .u8 0, .slice none 0 0] 61)
  simp only [World.size_alloc] at h9
  rw [hB] at h9
  obtain ⟨e0, e1, ef⟩ := two_cells h9
  obtain ⟨rc, hrc0⟩ : ∃ rc, w.heap.size + 1 = rc := ⟨_, rfl⟩
  rw [hrc0] at e0 e1 ef
  have RC := hid (And.intro e0 (And.intro e1 ef))
  have hrc : rc < B.heap.size := by omega
  have hwrc : w.heap.size ≤ rc := by omega
  have HK := hid (hk.keep (S' := S) fun k hk => ⟨hk, hbB.block k (hS k hk)⟩)
  have hSB : ∀ k, S k → k < B.heap.size := fun k hk => by have := hS k hk; omega
  have HIH0 := hid (fun (i : Nat) (a u : Ty) (h1 : ts[i]? = some a) (h2 : us[i]? = some u) (c1 : UInt8) (A1 : Option Addr) (m1 cap1 : Nat) (hr : RepN B S a (.int .u8 c1.toNat) (.slice A1 m1 cap1)) (W : World) (hW : Below B.heap.size B W) => (ih i a u h1 h2 S c1 A1 m1 cap1 W (hr.keep fun k hk => ⟨hk, hW.block k (hSB k hk)⟩) (fun k hk => Nat.lt_of_lt_of_le (hSB k hk) hW.size)))
  have HN0 := hid (newF_start c' us B)
  have HB := hid hB
  have HZB := hid hzB
  have HRC := hid hrc0
  clear e0 e1 ef h9 ih hk hB hzB hrc0
  go_enter Tryz.func50, Tryz.ntmps50
  go_wp2_with fail
  refine (l2Index_at c' (-1) hc _).mono ?_
  rintro e w1 ⟨rfl, rfl⟩
  go_wp2_with fail
  rw [HB.out, HZB.out, HRC.out]
  go_loopw [23] (fun v wr => ∃ i : Nat, i ≤ n ∧ v = .int .i64 i ∧ NewF c' us B (B.heap.size + 1) i wr) (fun v _ => n - (intOf v).toNat)
  case atStart => exact ⟨0, Nat.zero_le _, rfl, HN0.out⟩
  case round =>
    obtain ⟨i, hi, rfl, g, cap2, xs, hob, hown, hgo, hbel, hkids⟩ := hrel
    have HKD := hid hkids
    have HOB := hid hob
    have HOWN := hid hown
    have zr := hbel.size
    have zo : B.heap.size + 1 < wr.heap.size := (Array.getElem?_eq_some_iff.1 hob).1
    have zg : B.heap.size ≤ g ∧ g < wr.heap.size := by
      obtain ⟨g', cap', e, h1, h2⟩ := own_slice hown (by simp [Value.ownBlock])
      simp only [Value.slice.injEq, Option.some.injEq, Addr.mk.injEq] at e
      obtain ⟨⟨rfl, _⟩, _⟩ := e
      exact ⟨h1, h2⟩
    obtain ⟨n0, n1, nf⟩ := two_cells hob
    have r0 := cell_below RC.out.1 hrc hbel
    have r1 := cell_below RC.out.2.1 hrc hbel
    have rf0 : wr.frozen? ⟨rc, 0, none⟩ = false := frz_below RC.out.2.2 hrc hbel 0
    have rf1 : wr.frozen? ⟨rc, 1, none⟩ = false := frz_below RC.out.2.2 hrc hbel 1
    clear hkids hob hown
    by_cases hlt : i < n
    · have hti : ts[i]? = some (ts[i]'(by have := HN.out; omega)) := List.getElem?_eq_getElem _
      have hui : us[i]? = some (us[i]'(by have := HU.out; omega)) := List.getElem?_eq_getElem _
      obtain ⟨a, ha⟩ : ∃ a, ts[i]'(by have := HN.out; omega) = a := ⟨_, rfl⟩
      obtain ⟨u, hu⟩ : ∃ u, us[i]'(by have := HU.out; omega) = u := ⟨_, rfl⟩
      rw [ha] at hti
      rw [hu] at hui
      obtain ⟨gk, c1, A1, m1, cap1, rfl, hgk, hk1, hk2, hkr⟩ := HK.out i a hti
      have HUI := hid hui
      have hgl := hSB gk hgk
      have k1 := cell_below hk1 hgl hbel
      have k2 := cell_below hk2 hgl hbel
      have HIH := hid (fun (W : World) (hW : Below B.heap.size B W) => HIH0.out i a u hti hui c1 A1 m1 cap1 hkr W hW)
      have i1 : (0 : Int) ≤ (i : Int) := by omega
      have i2 : (i : Int) < (n : Int) := by omega
      clear hti hui ha hu hk1 hk2 hkr
      go_wp2_with fail
      obtain ⟨W9, hW9⟩ : ∃ W9, wr.alloc (.cells #[.int .u8 c1.toNat, .slice A1 m1 cap1] 61) = W9 := ⟨_, rfl⟩
      have p0 : W9.cell? ⟨wr.heap.size, 0, none⟩ = some (.int .u8 c1.toNat) := by rw [← hW9]; exact (two_cells (heap_new1 wr _)).1
      have p1 : W9.cell? ⟨wr.heap.size, 1, none⟩ = some (.slice A1 m1 cap1) := by rw [← hW9]; exact (two_cells (heap_new1 wr _)).2.1
      have hbr9 : Below wr.heap.size wr W9 := by rw [← hW9]; exact (Below.refl _ _).alloc (Nat.le_refl _) _
      have z9 : W9.heap.size = wr.heap.size + 1 := by rw [← hW9]; simp only [World.size_alloc]
      have hb9 : Below B.heap.size B W9 := hbel.trans (hbr9.mono zr)
      have q1 : W9.cell? ⟨B.heap.size + 1, 1, none⟩ = some (.slice (some ⟨g, 0, none⟩) i cap2) := cell_below n1 zo hbr9
      rw [hW9]
      clear hW9 n0 n1 nf r0 r1 rf0 rf1 k1 k2
      have K4 : ∀ w4, Below W9.heap.size W9 w4 → W9.heap.size ≤ w4.heap.size ∧ w4.cell? ⟨B.heap.size + 1, 1, none⟩ = some (.slice (some ⟨g, 0, none⟩) i cap2) ∧
          (∀ o, (w4.alloc o).cell? ⟨B.heap.size + 1, 1, none⟩ = some (.slice (some ⟨g, 0, none⟩) i cap2)) ∧
          w4.ownsRow B.heap.size 61 2 (.slice (some ⟨g, 0, none⟩) i cap2) i xs ∧ w4.heap[B.heap.size + 1]? = some (.cells #[.int .u8 c'.toNat, .slice (some ⟨g, 0, none⟩) i cap2] 61 (0, 0)) := fun w4 hb4 => by
        have z4 : W9.heap.size ≤ w4.heap.size := hb4.size
        have hb4r := hbr9.trans (hb4.mono (by omega))
        have e4 := (hb4r.block (B.heap.size + 1) zo).trans HOB.out
        have q4 : w4.cell? ⟨B.heap.size + 1, 1, none⟩ = some (.slice (some ⟨g, 0, none⟩) i cap2) := (two_cells e4).2.1
        exact ⟨z4, q4, fun o => (World.cell?_alloc_lt _ _ _ (by show B.heap.size + 1 < _; omega)).trans q4, own_kept HOWN.out (hb4r.block g zg.2), e4⟩
      have HK4 := hid K4
      clear K4
      have G5 : ∀ (w4 w5 : World) (o : Obj), (w4.alloc o).grownBy w5 (Value.slice (some ⟨g, 0, none⟩) i cap2).ownBlock → W9.heap.size ≤ w4.heap.size → w4.heap[B.heap.size + 1]? = some (.cells #[.int .u8 c'.toNat, .slice (some ⟨g, 0, none⟩) i cap2] 61 (0, 0)) →
          w5.heap[B.heap.size + 1]? = some (.cells #[.int .u8 c'.toNat, .slice (some ⟨g, 0, none⟩) i cap2] 61 (0, 0)) := fun w4 w5 o hg5 z4 e4 => by
        rw [hg5.block _ (by simp only [World.size_alloc]; omega) (fun h => hgo (by simpa [Value.ownBlock] using h.symm)), Below.heap_alloc _ _ _ (by omega)]
        exact e4
      have HG5 := hid G5
      clear G5
      obtain ⟨i0, hi0, hz0, hz1, hz2⟩ := info_parts nodeInfoS
      go_region_law
        (first
          | (refine step_append_lies _ (by rfl) _ _ _ (by rfl) B.heap.size 61 i0 _ 2 32 Tryz.underlying59 hi0 hz0 hz1 hz2 rfl (by omega) (.slice (some ⟨g, 0, none⟩) i cap2) i xs (by rfl) (hown4.alloc _)
               ⟨w4.heap.size, 0, none⟩ 1 1 [.int .u8 c4.toNat, .slice A4 m4 cap4] (by rfl) (by rfl) (World.news_of_block (cs := #[.int .u8 c4.toNat, .slice A4 m4 cap4]) (t := 61) (fr := (0, 0)) (heap_alloc_new w4 _)) (by simp [Value.oneCell'])
               (by omega) (by simp only [maxLen]; omega) (by omega) (by simp only [World.size_alloc]; omega) (w4.heap.size + 1) (by simp) ?_
             intro gg cap5 w5 hown5 hg5 hat5 hlt5
             have e5 : w5.heap[B.heap.size + 1]? = some (.cells #[.int .u8 c'.toNat, .slice (some ⟨g, 0, none⟩) i cap2] 61 (0, 0)) := HG5.out w4 w5 _ hg5 z4 E4.out
             obtain ⟨_, c5, ff5⟩ := two_cells e5
             have f5 := ff5 1
             have E5 := hid e5
             clear e5 ff5)
          | (go_simp
             go_at_call 50
             refine (HIH.out _ hb9.drew).mono ?_
             intro e w4 hend
             obtain ⟨c4, A4, m4, cap4, rfl, hr4, hb4'⟩ := hend
             have hb4 : Below W9.heap.size W9 w4 := bel_undrew hb4'
             obtain ⟨z4, q4, q5, hown4, e4⟩ := HK4.out w4 hb4
             have E4 := hid e4
             have HR4 := hid hr4
             clear e4 hr4))
      all_goals
        go_wp2_with fail
        go_roundw
        case rel =>
          have zb5 : w4.heap.size + 1 ≤ w5.heap.size := by have := hg5.size; simpa only [World.size_alloc] using this
          have hgg : g = gg ∨ gg = w4.heap.size + 1 := by
            rcases hat5 with h | h
            · simp only [Value.ownBlock, Option.some.injEq] at h; exact .inl h
            · exact .inr h
          have hggn : gg ≠ B.heap.size + 1 := by omega
          have hk5 : ∀ j, j < w4.heap.size → j ≠ g → j ≠ B.heap.size + 1 → (w5.setCell ⟨B.heap.size + 1, 1, none⟩ (.slice (some ⟨gg, 0, none⟩) (i + 1) cap5)).heap[j]? = w4.heap[j]? := fun j h1 h2 h3 => by
            rw [Below.heap_setCell _ _ _ _ h3, hg5.block _ (by simp only [World.size_alloc]; omega) (by simp [Value.ownBlock]; omega), Below.heap_alloc _ _ _ h1]
          have hb4r := hbr9.trans (hb4.mono (by omega))
          refine ⟨i + 1, hlt, by go_num, gg, cap5, xs ++ [.int .u8 c4.toNat, .slice A4 m4 cap4], ?_, own_kept hown5 (Below.heap_setCell _ _ _ _ hggn), hggn, ?_, ?_⟩
          · have h := E5.out
            simp [World.setCell, Array.getElem?_modify, h]
          · exact (((hbel.trans (hb4r.mono zr)).alloc (by omega) _).grown hg5 (by simp only [World.size_alloc]; omega) (by intro k hk; simp [Value.ownBlock] at hk; omega)).setCell (by show B.heap.size ≤ B.heap.size + 1; omega) _
          · have htk : us.take (i + 1) = us.take i ++ [u] := by
              rw [List.take_add_one, HUI.out]
              rfl
            rw [htk]
            refine Kids.snoc (HR4.out.keep fun k hk => ?_) (HKD.out.keep fun k hk => ?_)
            · have h1 : W9.heap.size ≤ k := hk.1
              refine ⟨⟨by omega, by simp [World.setCell]; omega, by omega, by omega⟩, hk5 k hk.2 (by omega) (by omega)⟩
            · have h2 : k < wr.heap.size := hk.2.1
              refine ⟨⟨hk.1, by simp [World.setCell]; omega, by omega, hk.2.2.2⟩, ?_⟩
              rw [hk5 k (by omega) hk.2.2.1 hk.2.2.2, hb4r.block k h2]
        case measure => simp [intOf]; omega
    · obtain rfl : i = n := by omega
      go_wp2_with fail
      have htk : us.take i = us := List.take_of_length_le (by rw [HU.out]; exact Nat.le_refl _)
      have hkd := HKD.out
      rw [htk] at hkd
      refine bodyPost_ret (v := .agg #[.int .u8 c'.toNat, .slice (some ⟨g, 0, none⟩) i cap2]) (by simp [results, Tryz.results50, go_sem, r0, r1]) rfl ⟨c', _, i, cap2, rfl, ?_, ?_⟩
      · have hset : ∀ k, k ≠ rc → ((wr.setCell ⟨rc, 0, none⟩ (.int .u8 c'.toNat)).setCell ⟨rc, 1, none⟩ (.slice (some ⟨g, 0, none⟩) i cap2)).heap[k]? = wr.heap[k]? := fun k hk => by
          rw [Below.heap_setCell _ _ _ _ hk, Below.heap_setCell _ _ _ _ hk]
        have hkd' : Kids ((wr.setCell ⟨rc, 0, none⟩ (.int .u8 c'.toNat)).setCell ⟨rc, 1, none⟩ (.slice (some ⟨g, 0, none⟩) i cap2)) (fun k => w.heap.size ≤ k ∧ k < wr.heap.size) us xs := hkd.keep fun k hk => ⟨⟨by omega, hk.2.1⟩, hset k (by omega)⟩
        have hsz : ((wr.setCell ⟨rc, 0, none⟩ (.int .u8 c'.toNat)).setCell ⟨rc, 1, none⟩ (.slice (some ⟨g, 0, none⟩) i cap2)).heap.size = wr.heap.size := by simp [World.setCell]
        rw [hsz]
        by_cases hi0 : i = 0
        · subst hi0
          have hnil : us = [] := List.eq_nil_of_length_eq_zero HU.out
          rw [hnil]
          exact lf_mk
        · exact rep_mk (by omega) hkd' HU.out (own_kept HOWN.out (hset g (by omega))) ⟨by omega, zg.2⟩
      · exact ((hbB.trans (hbel.mono hbB.size)).setCell (by show w.heap.size ≤ rc; omega) _).setCell (by show w.heap.size ≤ rc; omega) _

end Go.Proofs.YteimmgajohimlaaGreat

namespace Go.Proofs.YteimmgajohimlaaGreat
open Go.RowKit

/-- The model's other letters. -/
def otherN (c : UInt8) : UInt8 := letN ((l2ix c).toNat + 6)
set_option maxRecDepth 100000 in
theorem indexN : ∀ k : Nat, k < 6 → ∀ W : World, (Instr.index 9 (.string ⟨#[88, 89, 90, 120, 121, 122, 49, 50, 51, 52, 53, 54]⟩) (.int .i64 ((k : Int) + 6))).run Tryz.prog W = .ok (.int .u8 (letN (k + 6)).toNat) W := by
  intro k hk
  match k, hk with
  | 0, _ => exact fun W => by kernel_rfl
  | 1, _ => exact fun W => by kernel_rfl
  | 2, _ => exact fun W => by kernel_rfl
  | 3, _ => exact fun W => by kernel_rfl
  | 4, _ => exact fun W => by kernel_rfl
  | 5, _ => exact fun W => by kernel_rfl
set_option maxHeartbeats 800000 in
set_option maxRecDepth 100000 in
theorem others_var (c : UInt8) (k : Nat) (hk : Hid (l2ix c = (k : Int))) (hk6 : k < 6) (A : Option Addr) (cap : Nat) (w : World) :
    Calls Tryz.prog 50 #[.agg #[.int .u8 c.toNat, .slice A 0 cap]] w fun e w' => ∃ (A' : Option Addr) (cap' : Nat), e = .returned (.agg #[.int .u8 (letN (k + 6)).toNat, .slice A' 0 cap']) ∧ Below w.heap.size w w' := by
  have j1 : (0 : Int) ≤ (k : Int) := by omega
  have jw : IntKind.i64.wrap ((k : Int) + 6) = (k : Int) + 6 := wrapN (by omega)
  have hix := indexN k hk6
  obtain ⟨d, hd⟩ : ∃ d, letN (k + 6) = d := ⟨_, rfl⟩
  rw [hd] at hix ⊢
  clear hd
  go_enter Tryz.func50, Tryz.ntmps50
  go_wp2_with fail
  refine (l2Index_at c k hk _).mono ?_
  rintro e w1 ⟨rfl, rfl⟩
  go_wp2_with fail
  refine wp_loop_rounds 1 ?_
  rw [rounds_succ]
  go_wp2_with fail
  refine bodyPost_ret (v := .agg #[.int .u8 d.toNat, .slice (some ⟨w.heap.size + 1 + 1, 0, none⟩) 0 0]) (by simp [results, Tryz.results50, go_sem]) rfl ⟨_, _, rfl, ?_⟩
  exact ((((Below.refl _ _).alloc (Nat.le_refl _) _).alloc (by simp only [World.size_alloc]; omega) _).alloc (by simp only [World.size_alloc]; omega) _).alloc (by simp only [World.size_alloc]; omega) _

theorem varB_ix (c : UInt8) : (ar c = 0 → isN c = true → isVarB c = true) ∧ (isVarB c = true → 0 ≤ l2ix c ∧ l2ix c < 6) := by
  refine u8_all (p := fun c => (ar c = 0 → isN c = true → isVarB c = true) ∧ (isVarB c = true → 0 ≤ l2ix c ∧ l2ix c < 6)) ?_ c
  decide +kernel
theorem othersN_any (t : Ty) (ho : t.ok) : OtherAt t (t.subV isN fun c => .lf (otherN c)) := by
  induction t with
  | lf c0 =>
    intro S c A m cap w hr hS
    obtain rfl : c = c0 := repN_head hr
    obtain ⟨_, A', cap', hA⟩ := hr
    simp only [Value.slice.injEq] at hA
    obtain ⟨rfl, rfl, rfl⟩ := hA
    rcases hn : isN c with _ | _
    · refine (othersRow c (hid (isN_neg hn)) [] [] 0 cap A rfl rfl (by omega) S w (fun i a u h => by simp at h) (fun j a h => by simp at h) hS).mono ?_
      intro e w' h
      simp only [Ty.subV, hn]
      exact h
    · obtain ⟨h0, h6⟩ := (varB_ix c).2 ((varB_ix c).1 ho hn)
      refine (others_var c (l2ix c).toNat (hid (by omega)) (by omega) A cap w).mono ?_
      rintro e w' ⟨A', cap', rfl, hb⟩
      simp only [Ty.subV, hn, if_true]
      exact ⟨otherN c, A', 0, cap', rfl, ⟨rfl, A', cap', rfl⟩, hb⟩
  | un c0 a ih =>
    intro S c A m cap w hr hS
    obtain rfl : c = c0 := repN_head hr
    obtain ⟨_, A', cap', hA, ka⟩ := un_kids hr
    simp only [Value.slice.injEq] at hA
    obtain ⟨rfl, rfl, rfl⟩ := hA
    refine (othersRow c (hid ((ar_inner c).2.1 ho.1).1) [a] [_] 1 cap A rfl rfl (by omega) S w (fun i b u h h' => ?_) ka hS)
    match i with
    | 0 =>
      simp only [List.getElem?_cons_zero, Option.some.injEq] at h h'
      subst h
      subst h'
      exact ih ho.2
    | i + 1 => simp at h
  | bi c0 a b iha ihb =>
    intro S c A m cap w hr hS
    obtain rfl : c = c0 := repN_head hr
    obtain ⟨_, A', cap', hA, ka⟩ := bi_kids hr
    simp only [Value.slice.injEq] at hA
    obtain ⟨rfl, rfl, rfl⟩ := hA
    refine (othersRow c (hid ((ar_inner c).2.2 ho.1).1) [a, b] [_, _] 2 cap A rfl rfl (by omega) S w (fun i x u h h' => ?_) ka hS)
    match i with
    | 0 =>
      simp only [List.getElem?_cons_zero, Option.some.injEq] at h h'
      subst h
      subst h'
      exact iha ho.2.1
    | 1 =>
      simp only [List.getElem?_cons_succ, List.getElem?_cons_zero, Option.some.injEq] at h h'
      subst h
      subst h'
      exact ihb ho.2.2
    | i + 2 => simp at h

/-- A type made whole by l2Full. -/
def FullAt (f : UInt8 → Option Ty) (a u : Ty) : Prop := ∀ (mb : Nat) (S : Nat → Prop) (c : UInt8) (A : Option Addr) (m cap : Nat) (w : World), StndN w mb S f → RepN w S a (.int .u8 c.toNat) (.slice A m cap) → (∀ g, S g → g < w.heap.size) → a.inner →
  Calls Tryz.prog 78 #[.pointer (some ⟨mb, 0, none⟩), .agg #[.int .u8 c.toNat, .slice A m cap]] w fun e w' => ∃ (c' : UInt8) (A' : Option Addr) (m' cap' : Nat), e = .returned (.agg #[.int .u8 c'.toNat, .slice A' m' cap']) ∧ RepN w' (fun g => w.heap.size ≤ g ∧ g < w'.heap.size) u (.int .u8 c'.toNat) (.slice A' m' cap') ∧ Below w.heap.size w w'

set_option maxHeartbeats 1600000 in
set_option maxRecDepth 100000 in
theorem fullRow (mb nn : Nat) (c c' : UInt8) (A : Option Addr) (m cap : Nat) (ts us : List Ty) (n cap0 : Nat) (A0 : Option Addr) (w : World) (hwk : WkN w mb nn c (.slice A m cap) c' (.slice A0 n cap0)) (hmb : mb < w.heap.size) (hn : ts.length = n) (hu : us.length = n) (h2 : n ≤ 2) (f : UInt8 → Option Ty) (S : Nat → Prop) (hst : StndN w mb S f) (ih : ∀ (i : Nat) (a u : Ty), ts[i]? = some a → us[i]? = some u → FullAt f a u ∧ a.inner) (hk : KidsAt w S A0 ts) (hS : ∀ g, S g → g < w.heap.size) :
    Calls Tryz.prog 78 #[.pointer (some ⟨mb, 0, none⟩), .agg #[.int .u8 c.toNat, .slice A m cap]] w fun e w' => ∃ (c1 : UInt8) (A1 : Option Addr) (m1 cap1 : Nat), e = .returned (.agg #[.int .u8 c1.toNat, .slice A1 m1 cap1]) ∧ RepN w' (fun g => w.heap.size ≤ g ∧ g < w'.heap.size) (mkTy c' us) (.int .u8 c1.toNat) (.slice A1 m1 cap1) ∧ Below w.heap.size w w' := by
  have HN := hid hn
  have HU := hid hu
  have HWK := hid (fun W' (h : Below w.heap.size w W') => walkN_by mb w nn c c' A m cap _ hwk hmb W' h)
  have HST := hid hst
  have HKK := hid hk
  have HSS := hid hS
  have IH := hid ih
  clear hn hu hwk hst hk hS ih
  go_enter Tryz.func78, Tryz.ntmps78
  go_wp2_with fail
  obtain ⟨W0, hW0⟩ : ∃ W0, (w.alloc (.cells #[.int .u8 c.toNat, .slice A m cap] 61)).alloc (.cells #[.int .u8 0, .slice none 0 0] 61) = W0 := ⟨_, rfl⟩
  have hb0 : Below w.heap.size w W0 := by rw [← hW0]; exact ((Below.refl _ _).alloc (Nat.le_refl _) _).alloc (by simp only [World.size_alloc]; omega) _
  have h9 := heap_new1 (w.alloc (.cells #[.int .u8 c.toNat, .slice A m cap] 61)) (.cells #[.int .u8 0, .slice none 0 0] 61)
  have h8 : W0.heap[w.heap.size]? = some (.cells #[.int .u8 c.toNat, .slice A m cap] 61 (0, 0)) := by
    rw [← hW0, Below.heap_alloc _ _ _ (by simp only [World.size_alloc]; omega)]
    exact heap_new1 _ _
  simp only [World.size_alloc] at h9
  rw [hW0] at h9 ⊢
  have z0 : W0.heap.size = w.heap.size + 2 := by rw [← hW0]; simp only [World.size_alloc]
  clear hW0
  refine (HWK.out W0 hb0).mono ?_
  rintro e w1 ⟨rfl, hb1⟩
  have z1 := hb1.size
  have q8 := (hb1.block w.heap.size (by omega)).trans h8
  have q9 := (hb1.block (w.heap.size + 1) (by omega)).trans h9
  obtain ⟨n0, n1, nf⟩ := two_cells q8
  have nf0 := nf 0
  have nf1 := nf 1
  obtain ⟨B, hB⟩ : ∃ B, (w1.setCell ⟨w.heap.size, 0, none⟩ (.int .u8 c'.toNat)).setCell ⟨w.heap.size, 1, none⟩ (.slice A0 n cap0) = B := ⟨_, rfl⟩
  have hbB : Below w.heap.size w B := by rw [← hB]; exact ((hb0.trans (hb1.mono (by omega))).setCell (Nat.le_refl _) _).setCell (Nat.le_refl _) _
  have hzB : w1.heap.size = B.heap.size := by rw [← hB]; simp [World.setCell]
  have q9B : B.heap[w.heap.size + 1]? = some (.cells #[.int .u8 0, .slice none 0 0] 61 (0, 0)) := by
    rw [← hB, Below.heap_setCell _ _ _ _ (by show w.heap.size + 1 ≠ w.heap.size; omega), Below.heap_setCell _ _ _ _ (by show w.heap.size + 1 ≠ w.heap.size; omega)]
    exact q9
  obtain ⟨e0, e1, ef⟩ := two_cells q9B
  obtain ⟨rc, hrc0⟩ : ∃ rc, w.heap.size + 1 = rc := ⟨_, rfl⟩
  rw [hrc0] at e0 e1 ef
  have RC := hid (And.intro e0 (And.intro e1 ef))
  have hrc : rc < B.heap.size := by omega
  have hwrc : w.heap.size ≤ rc := by omega
  have HK := hid (HKK.out.keep (S' := S) fun k hk => ⟨hk, hbB.block k (HSS.out k hk)⟩)
  have hSB : ∀ k, S k → k < B.heap.size := fun k hk => by have := HSS.out k hk; omega
  have HIH0 := hid (fun (i : Nat) (a u : Ty) (h1 : ts[i]? = some a) (h2 : us[i]? = some u) (c1 : UInt8) (A1 : Option Addr) (m1 cap1 : Nat) (hr : RepN B S a (.int .u8 c1.toNat) (.slice A1 m1 cap1)) (W : World) (hW : Below B.heap.size B W) =>
    ((IH.out i a u h1 h2).1 mb S c1 A1 m1 cap1 W (HST.out.keep ((hW.block mb (by omega)).trans (hbB.block mb hmb)) fun k hk => ⟨hk, (hW.block k (hSB k hk)).trans (hbB.block k (HSS.out k hk))⟩) (hr.keep fun k hk => ⟨hk, hW.block k (hSB k hk)⟩) (fun k hk => Nat.lt_of_lt_of_le (hSB k hk) hW.size) (IH.out i a u h1 h2).2))
  have HN0 := hid (newF_start c' us B)
  have q8B : B.heap[w.heap.size]? = some (.cells #[.int .u8 c'.toNat, .slice A0 n cap0] 61 (0, 0)) := by
    rw [← hB]
    simp [World.setCell, Array.getElem?_modify, q8]
  have a1 : ∀ o1 o2, ((B.alloc o1).alloc o2).cell? ⟨w.heap.size, 1, none⟩ = some (.slice A0 n cap0) := fun o1 o2 => by
    rw [World.cell?_alloc_lt _ _ _ (by simp only [World.size_alloc]; omega), World.cell?_alloc_lt _ _ _ (by show w.heap.size < _; omega)]
    exact (two_cells q8B).2.1
  rw [← hB] at a1
  have HB := hid hB
  have HZB := hid hzB
  have HRC := hid hrc0
  clear e0 e1 ef h8 h9 q8 q9 q9B q8B nf hB hzB hrc0 hb0 hb1 z0 z1
  go_wp2_with fail
  rw [HB.out, HZB.out, HRC.out]
  go_loopw [18] (fun v wr => ∃ i : Nat, i ≤ n ∧ v = .int .i64 i ∧ NewF c' us B (B.heap.size + 1) i wr) (fun v _ => n - (intOf v).toNat)
  case atStart => exact ⟨0, Nat.zero_le _, rfl, HN0.out⟩
  case round =>
    obtain ⟨i, hi, rfl, g, cap2, xs, hob, hown, hgo, hbel, hkids⟩ := hrel
    have HKD := hid hkids
    have HOB := hid hob
    have HOWN := hid hown
    have zr := hbel.size
    have zo : B.heap.size + 1 < wr.heap.size := (Array.getElem?_eq_some_iff.1 hob).1
    have zg : B.heap.size ≤ g ∧ g < wr.heap.size := by
      obtain ⟨g', cap', e, h1, h2⟩ := own_slice hown (by simp [Value.ownBlock])
      simp only [Value.slice.injEq, Option.some.injEq, Addr.mk.injEq] at e
      obtain ⟨⟨rfl, _⟩, _⟩ := e
      exact ⟨h1, h2⟩
    obtain ⟨n0, n1, nf⟩ := two_cells hob
    have r0 := cell_below RC.out.1 hrc hbel
    have r1 := cell_below RC.out.2.1 hrc hbel
    have rf0 : wr.frozen? ⟨rc, 0, none⟩ = false := frz_below RC.out.2.2 hrc hbel 0
    have rf1 : wr.frozen? ⟨rc, 1, none⟩ = false := frz_below RC.out.2.2 hrc hbel 1
    clear hkids hob hown
    by_cases hlt : i < n
    · have hti : ts[i]? = some (ts[i]'(by have := HN.out; omega)) := List.getElem?_eq_getElem _
      have hui : us[i]? = some (us[i]'(by have := HU.out; omega)) := List.getElem?_eq_getElem _
      obtain ⟨a, ha⟩ : ∃ a, ts[i]'(by have := HN.out; omega) = a := ⟨_, rfl⟩
      obtain ⟨u, hu⟩ : ∃ u, us[i]'(by have := HU.out; omega) = u := ⟨_, rfl⟩
      rw [ha] at hti
      rw [hu] at hui
      obtain ⟨gk, c1, A1, m1, cap1, rfl, hgk, hk1, hk2, hkr⟩ := HK.out i a hti
      have HUI := hid hui
      have hgl := hSB gk hgk
      have k1 := cell_below hk1 hgl hbel
      have k2 := cell_below hk2 hgl hbel
      have HIH := hid (fun (W : World) (hW : Below B.heap.size B W) => HIH0.out i a u hti hui c1 A1 m1 cap1 hkr W hW)
      have i1 : (0 : Int) ≤ (i : Int) := by omega
      have i2 : (i : Int) < (n : Int) := by omega
      clear hti hui ha hu hk1 hk2 hkr
      go_wp2_with fail
      obtain ⟨W9, hW9⟩ : ∃ W9, wr.alloc (.cells #[.int .u8 c1.toNat, .slice A1 m1 cap1] 61) = W9 := ⟨_, rfl⟩
      have p0 : W9.cell? ⟨wr.heap.size, 0, none⟩ = some (.int .u8 c1.toNat) := by rw [← hW9]; exact (two_cells (heap_new1 wr _)).1
      have p1 : W9.cell? ⟨wr.heap.size, 1, none⟩ = some (.slice A1 m1 cap1) := by rw [← hW9]; exact (two_cells (heap_new1 wr _)).2.1
      have hbr9 : Below wr.heap.size wr W9 := by rw [← hW9]; exact (Below.refl _ _).alloc (Nat.le_refl _) _
      have z9 : W9.heap.size = wr.heap.size + 1 := by rw [← hW9]; simp only [World.size_alloc]
      have hb9 : Below B.heap.size B W9 := hbel.trans (hbr9.mono zr)
      have q1 : W9.cell? ⟨B.heap.size + 1, 1, none⟩ = some (.slice (some ⟨g, 0, none⟩) i cap2) := cell_below n1 zo hbr9
      rw [hW9]
      clear hW9 n0 n1 nf r0 r1 rf0 rf1 k1 k2
      have K4 : ∀ w4, Below W9.heap.size W9 w4 → W9.heap.size ≤ w4.heap.size ∧ w4.cell? ⟨B.heap.size + 1, 1, none⟩ = some (.slice (some ⟨g, 0, none⟩) i cap2) ∧
          (∀ o, (w4.alloc o).cell? ⟨B.heap.size + 1, 1, none⟩ = some (.slice (some ⟨g, 0, none⟩) i cap2)) ∧
          w4.ownsRow B.heap.size 61 2 (.slice (some ⟨g, 0, none⟩) i cap2) i xs ∧ w4.heap[B.heap.size + 1]? = some (.cells #[.int .u8 c'.toNat, .slice (some ⟨g, 0, none⟩) i cap2] 61 (0, 0)) := fun w4 hb4 => by
        have z4 : W9.heap.size ≤ w4.heap.size := hb4.size
        have hb4r := hbr9.trans (hb4.mono (by omega))
        have e4 := (hb4r.block (B.heap.size + 1) zo).trans HOB.out
        have q4 : w4.cell? ⟨B.heap.size + 1, 1, none⟩ = some (.slice (some ⟨g, 0, none⟩) i cap2) := (two_cells e4).2.1
        exact ⟨z4, q4, fun o => (World.cell?_alloc_lt _ _ _ (by show B.heap.size + 1 < _; omega)).trans q4, own_kept HOWN.out (hb4r.block g zg.2), e4⟩
      have HK4 := hid K4
      clear K4
      have G5 : ∀ (w4 w5 : World) (o : Obj), (w4.alloc o).grownBy w5 (Value.slice (some ⟨g, 0, none⟩) i cap2).ownBlock → W9.heap.size ≤ w4.heap.size → w4.heap[B.heap.size + 1]? = some (.cells #[.int .u8 c'.toNat, .slice (some ⟨g, 0, none⟩) i cap2] 61 (0, 0)) →
          w5.heap[B.heap.size + 1]? = some (.cells #[.int .u8 c'.toNat, .slice (some ⟨g, 0, none⟩) i cap2] 61 (0, 0)) := fun w4 w5 o hg5 z4 e4 => by
        rw [hg5.block _ (by simp only [World.size_alloc]; omega) (fun h => hgo (by simpa [Value.ownBlock] using h.symm)), Below.heap_alloc _ _ _ (by omega)]
        exact e4
      have HG5 := hid G5
      clear G5
      obtain ⟨i0, hi0, hz0, hz1, hz2⟩ := info_parts nodeInfoS
      go_region_law
        (first
          | (refine step_append_lies _ (by rfl) _ _ _ (by rfl) B.heap.size 61 i0 _ 2 32 Tryz.underlying59 hi0 hz0 hz1 hz2 rfl (by omega) (.slice (some ⟨g, 0, none⟩) i cap2) i xs (by rfl) (hown4.alloc _)
               ⟨w4.heap.size, 0, none⟩ 1 1 [.int .u8 c4.toNat, .slice A4 m4 cap4] (by rfl) (by rfl) (World.news_of_block (cs := #[.int .u8 c4.toNat, .slice A4 m4 cap4]) (t := 61) (fr := (0, 0)) (heap_alloc_new w4 _)) (by simp [Value.oneCell'])
               (by omega) (by simp only [maxLen]; omega) (by omega) (by simp only [World.size_alloc]; omega) (w4.heap.size + 1) (by simp) ?_
             intro gg cap5 w5 hown5 hg5 hat5 hlt5
             have e5 : w5.heap[B.heap.size + 1]? = some (.cells #[.int .u8 c'.toNat, .slice (some ⟨g, 0, none⟩) i cap2] 61 (0, 0)) := HG5.out w4 w5 _ hg5 z4 E4.out
             obtain ⟨_, c5, ff5⟩ := two_cells e5
             have f5 := ff5 1
             have E5 := hid e5
             clear e5 ff5)
          | (go_simp
             go_at_call 78
             refine (HIH.out _ hb9.drew).mono ?_
             intro e w4 hend
             obtain ⟨c4, A4, m4, cap4, rfl, hr4, hb4'⟩ := hend
             have hb4 : Below W9.heap.size W9 w4 := bel_undrew hb4'
             obtain ⟨z4, q4, q5, hown4, e4⟩ := HK4.out w4 hb4
             have E4 := hid e4
             have HR4 := hid hr4
             clear e4 hr4))
      all_goals
        go_wp2_with fail
        go_roundw
        case rel =>
          have zb5 : w4.heap.size + 1 ≤ w5.heap.size := by have := hg5.size; simpa only [World.size_alloc] using this
          have hgg : g = gg ∨ gg = w4.heap.size + 1 := by
            rcases hat5 with h | h
            · simp only [Value.ownBlock, Option.some.injEq] at h; exact .inl h
            · exact .inr h
          have hggn : gg ≠ B.heap.size + 1 := by omega
          have hk5 : ∀ j, j < w4.heap.size → j ≠ g → j ≠ B.heap.size + 1 → (w5.setCell ⟨B.heap.size + 1, 1, none⟩ (.slice (some ⟨gg, 0, none⟩) (i + 1) cap5)).heap[j]? = w4.heap[j]? := fun j h1 h2 h3 => by
            rw [Below.heap_setCell _ _ _ _ h3, hg5.block _ (by simp only [World.size_alloc]; omega) (by simp [Value.ownBlock]; omega), Below.heap_alloc _ _ _ h1]
          have hb4r := hbr9.trans (hb4.mono (by omega))
          refine ⟨i + 1, hlt, by go_num, gg, cap5, xs ++ [.int .u8 c4.toNat, .slice A4 m4 cap4], ?_, own_kept hown5 (Below.heap_setCell _ _ _ _ hggn), hggn, ?_, ?_⟩
          · have h := E5.out
            simp [World.setCell, Array.getElem?_modify, h]
          · exact (((hbel.trans (hb4r.mono zr)).alloc (by omega) _).grown hg5 (by simp only [World.size_alloc]; omega) (by intro k hk; simp [Value.ownBlock] at hk; omega)).setCell (by show B.heap.size ≤ B.heap.size + 1; omega) _
          · have htk : us.take (i + 1) = us.take i ++ [u] := by
              rw [List.take_add_one, HUI.out]
              rfl
            rw [htk]
            refine Kids.snoc (HR4.out.keep fun k hk => ?_) (HKD.out.keep fun k hk => ?_)
            · have h1 : W9.heap.size ≤ k := hk.1
              refine ⟨⟨by omega, by simp [World.setCell]; omega, by omega, by omega⟩, hk5 k hk.2 (by omega) (by omega)⟩
            · have h2 : k < wr.heap.size := hk.2.1
              refine ⟨⟨hk.1, by simp [World.setCell]; omega, by omega, hk.2.2.2⟩, ?_⟩
              rw [hk5 k (by omega) hk.2.2.1 hk.2.2.2, hb4r.block k h2]
        case measure => simp [intOf]; omega
    · obtain rfl : i = n := by omega
      go_wp2_with fail
      have htk : us.take i = us := List.take_of_length_le (by rw [HU.out]; exact Nat.le_refl _)
      have hkd := HKD.out
      rw [htk] at hkd
      refine bodyPost_ret (v := .agg #[.int .u8 c'.toNat, .slice (some ⟨g, 0, none⟩) i cap2]) (by simp [results, Tryz.results78, go_sem, r0, r1]) rfl ⟨c', _, i, cap2, rfl, ?_, ?_⟩
      · have hset : ∀ k, k ≠ rc → ((wr.setCell ⟨rc, 0, none⟩ (.int .u8 c'.toNat)).setCell ⟨rc, 1, none⟩ (.slice (some ⟨g, 0, none⟩) i cap2)).heap[k]? = wr.heap[k]? := fun k hk => by
          rw [Below.heap_setCell _ _ _ _ hk, Below.heap_setCell _ _ _ _ hk]
        have hkd' : Kids ((wr.setCell ⟨rc, 0, none⟩ (.int .u8 c'.toNat)).setCell ⟨rc, 1, none⟩ (.slice (some ⟨g, 0, none⟩) i cap2)) (fun k => w.heap.size ≤ k ∧ k < wr.heap.size) us xs := hkd.keep fun k hk => ⟨⟨by omega, hk.2.1⟩, hset k (by omega)⟩
        have hsz : ((wr.setCell ⟨rc, 0, none⟩ (.int .u8 c'.toNat)).setCell ⟨rc, 1, none⟩ (.slice (some ⟨g, 0, none⟩) i cap2)).heap.size = wr.heap.size := by simp [World.setCell]
        rw [hsz]
        by_cases hi0 : i = 0
        · subst hi0
          have hnil : us = [] := List.eq_nil_of_length_eq_zero HU.out
          rw [hnil]
          exact lf_mk
        · exact rep_mk (by omega) hkd' HU.out (own_kept HOWN.out (hset g (by omega))) ⟨by omega, zg.2⟩
      · exact ((hbB.trans (hbel.mono hbB.size)).setCell (by show w.heap.size ≤ rc; omega) _).setCell (by show w.heap.size ≤ rc; omega) _

end Go.Proofs.YteimmgajohimlaaGreat
