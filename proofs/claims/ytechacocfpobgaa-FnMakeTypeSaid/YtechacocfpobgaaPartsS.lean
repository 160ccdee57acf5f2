/- PartsOf in the model. -/
import Derived.Test.YtechacocfpobgaaTextS
import Derived.Test.YtechacocfpobgaaParts
namespace Go.Proofs.Ytechacocfpobgaa
open Go.RowKit

theorem own_empty {w : World} {g : Nat} {T : TypeId} (h : w.heap[g]? = some (.cells #[] T (0, 0))) (base : Nat) (hb : base ≤ g) : w.ownsRow base T 1 (.slice (some ⟨g, 0, none⟩) 0 0) 0 [] :=
  ⟨rfl, .inr ⟨g, 0, #[], rfl, hb, h, Nat.le_refl _, Nat.zero_le _, rfl, rfl⟩⟩

set_option maxHeartbeats 1000000 in
set_option maxRecDepth 100000 in
theorem partsS_any (s : ByteArray) (hs : s.size ≤ maxLen) (w : World) :
    Calls Try.prog 13 #[.string s] w (PartsEnd w (partsL s.data.toList)) := by
  obtain ⟨i0, hi0, hz0, hz1, hz2⟩ := info_parts stringInfo
  go_enter Try.func13, Try.ntmps13
  go_wp2_with fail
  refine (l1Read_any s _ hs).mono ?_
  rintro e w1 ⟨hb, ⟨hn, rfl⟩ | ⟨t, c, A, m, cap, hs1, rfl, hrep⟩⟩
  · have HN := hid hn
    have zb := hb.size
    simp only [World.size_alloc] at zb
    have hg : w1.heap[w.heap.size]? = some (.cells #[] 9 (0, 0)) := (hb.block _ (by simp only [World.size_alloc]; omega)).trans (heap_new1 _ _)
    have hbw : Below w.heap.size w w1 := ((Below.refl _ _).alloc (Nat.le_refl _) _).trans (hb.mono (by simp only [World.size_alloc]; omega))
    have HG := hid hg
    clear hn hg
    go_wp2_with fail
    refine wp_loop_rounds 1 ?_
    rw [rounds_succ]
    go_wp2_with fail
    go_ret
    have e : partsL s.data.toList = [] := by rw [partsL, HN.out]
    rw [e]
    exact ⟨_, 0, rfl, .inr ⟨w.heap.size, rfl, Nat.le_refl _, own_strs (base := w.heap.size) (own_empty ((Below.heap_alloc _ _ _ (by omega)).trans HG.out) _ (Nat.le_refl _))⟩, hbw.alloc hbw.size _⟩
  · have HS := hid hs1
    clear hs1
    obtain ⟨htx, hok, hlen⟩ := tyOf_text HS.out
    have hl : t.text.length ≤ 60 := by rw [← htx]; exact hlen
    have HTX := hid htx
    clear htx
    have HE := hid (show partsL s.data.toList = t.kids.map fun a => strOf a.text by rw [partsL, HS.out])
    have zb := hb.size
    simp only [World.size_alloc] at zb
    have hg : w1.heap[w.heap.size]? = some (.cells #[] 9 (0, 0)) := (hb.block _ (by simp only [World.size_alloc]; omega)).trans (heap_new1 _ _)
    have hbw : Below w.heap.size w w1 := ((Below.refl _ _).alloc (Nat.le_refl _) _).trans (hb.mono (by simp only [World.size_alloc]; omega))
    have HG := hid hg
    clear hg
    cases t with
    | lf c' =>
      obtain ⟨hc, A', cap', hA⟩ := hrep
      simp only [Value.slice.injEq] at hA
      obtain ⟨rfl, rfl, rfl⟩ := hA
      go_wp2_with fail
      refine wp_loop_rounds 1 ?_
      rw [rounds_succ]
      go_wp2_with fail
      go_ret
      rw [HE.out]
      exact ⟨_, 0, rfl, .inr ⟨w.heap.size, rfl, Nat.le_refl _, own_strs (base := w.heap.size) (own_empty ((Below.heap_alloc _ _ _ (by omega)).trans HG.out) _ (Nat.le_refl _))⟩, hbw.alloc hbw.size _⟩
    | un c' a =>
      obtain ⟨hc, g, cap', x, y, hA, hSg, hx, hy, hrep1⟩ := hrep
      simp only [Value.slice.injEq] at hA
      obtain ⟨rfl, rfl, rfl⟩ := hA
      obtain ⟨c1, A1, m1, cap1, rfl, rfl⟩ := hrep1.form
      have z : a.text.length ≤ 200 := by simp [Ty.text] at hl; omega
      have hgl : g < w1.heap.size := hSg.2
      have hbd : ∀ o, Below w1.heap.size w1 (w1.alloc o) := fun o => (Below.refl _ _).alloc (Nat.le_refl _) o
      have fx : ∀ o, (w1.alloc o).cell? ⟨g, 0, none⟩ = some (.int .u8 c1.toNat) := fun o => cell_below hx hgl (hbd o)
      have fy : ∀ o, (w1.alloc o).cell? ⟨g, 1, none⟩ = some (.slice A1 m1 cap1) := fun o => cell_below hy hgl (hbd o)
      have HX := hid hx
      have HY := hid hy
      clear hx hy
      go_wp2_with fail
      refine wp_loop_rounds 2 ?_
      rw [rounds_succ]
      go_wp2_with fail
      have hb2 : ∀ o o', Below w1.heap.size w1 ((w1.alloc o).alloc o') := fun o o' => (hbd o).alloc (hbd o).size o'
      refine (textS_any a _ _ _ _ (hrep1.below (fun g hg => hg.2) (hb2 _ _)) (fun g hg => Nat.lt_of_lt_of_le hg.2 (hb2 _ _).size) z).mono ?_
      rintro e w2 ⟨rfl, hb3⟩
      have hb4 : Below w1.heap.size w1 w2 := (hb2 _ _).trans (hb3.mono (hb2 _ _).size)
      have hown : w2.ownsRow w.heap.size 9 1 (.slice (some ⟨w.heap.size, 0, none⟩) 0 0) 0 [] := own_empty ((hb4.block _ (by omega)).trans HG.out) _ (Nat.le_refl _)
      have hbw2 : Below w.heap.size w w2 := hbw.trans (hb4.mono hbw.size)
      have zb4 := hb4.size
      go_wp2_with (at_builtin; refine wpList_append_lies _ rfl _ _ 24 rfl w.heap.size 9 i0 (.string ⟨#[]⟩) 1 16 Try.underlying24 hi0 hz0 hz1 hz2 rfl (by decide) _ _ _ rfl (hown.alloc _) ⟨w2.heap.size, 0, none⟩ 1 1 [.string (strOf a.text)] rfl rfl ?c1 ?c2 (by decide) ?c3 ?c4 ?c5 (w2.heap.size + 1) (World.size_alloc _ _) ?_)
      case c1 => exact news1 _ _ _
      case c2 =>
        intro u hu
        simp only [List.mem_singleton] at hu
        subst hu
        rfl
      case c3 => decide
      case c4 => decide
      case c5 => simp only [World.size_alloc]; omega
      intro g3 cap3 w3 hown3 hg3 hat3 q3
      clear hown
      have hbw3 : Below w.heap.size w w3 := (hbw2.alloc hbw2.size _).grown hg3 (by simp only [World.size_alloc]; omega) (by intro k hk; simp [Value.ownBlock] at hk; omega)
      have q1 : w.heap.size ≤ g3 := by
        rcases hat3 with h | h
        · simp only [Value.ownBlock, Option.some.injEq] at h; omega
        · omega
      have HO := hid hown3
      clear hown3 hat3
      go_wp2_with fail
      rw [rounds_succ]
      go_wp2_with fail
      go_ret
      rw [HE.out]
      exact ⟨_, cap3, rfl, .inr ⟨g3, rfl, q1, own_strs (xs := [strOf a.text]) HO.out⟩, hbw3⟩
    | bi c' a a' =>
      obtain ⟨hc, g, cap', x, y, x', y', hA, hSg, hx, hy, hx', hy', hrep1, hrep2⟩ := hrep
      simp only [Value.slice.injEq] at hA
      obtain ⟨rfl, rfl, rfl⟩ := hA
      obtain ⟨c1, A1, m1, cap1, rfl, rfl⟩ := hrep1.form
      obtain ⟨c2, A2, m2, cap2, rfl, rfl⟩ := hrep2.form
      have z : a.text.length ≤ 200 := by simp [Ty.text] at hl; omega
      have z' : a'.text.length ≤ 200 := by simp [Ty.text] at hl; omega
      have hgl : g < w1.heap.size := hSg.2
      have hbd : ∀ o, Below w1.heap.size w1 (w1.alloc o) := fun o => (Below.refl _ _).alloc (Nat.le_refl _) o
      have fx : ∀ o, (w1.alloc o).cell? ⟨g, 0, none⟩ = some (.int .u8 c1.toNat) := fun o => cell_below hx hgl (hbd o)
      have fy : ∀ o, (w1.alloc o).cell? ⟨g, 1, none⟩ = some (.slice A1 m1 cap1) := fun o => cell_below hy hgl (hbd o)
      have HX := hid hx'
      have HY := hid hy'
      clear hx hy hx' hy'
      go_wp2_with fail
      refine wp_loop_rounds 3 ?_
      rw [rounds_succ]
      go_wp2_with fail
      have hb2 : ∀ o o', Below w1.heap.size w1 ((w1.alloc o).alloc o') := fun o o' => (hbd o).alloc (hbd o).size o'
      refine (textS_any a _ _ _ _ (hrep1.below (fun g hg => hg.2) (hb2 _ _)) (fun g hg => Nat.lt_of_lt_of_le hg.2 (hb2 _ _).size) z).mono ?_
      rintro e w2 ⟨rfl, hb3⟩
      have hb4 : Below w1.heap.size w1 w2 := (hb2 _ _).trans (hb3.mono (hb2 _ _).size)
      have hown : w2.ownsRow w.heap.size 9 1 (.slice (some ⟨w.heap.size, 0, none⟩) 0 0) 0 [] := own_empty ((hb4.block _ (by omega)).trans HG.out) _ (Nat.le_refl _)
      have hbw2 : Below w.heap.size w w2 := hbw.trans (hb4.mono hbw.size)
      have zb4 := hb4.size
      go_wp2_with (at_builtin; refine wpList_append_lies _ rfl _ _ 24 rfl w.heap.size 9 i0 (.string ⟨#[]⟩) 1 16 Try.underlying24 hi0 hz0 hz1 hz2 rfl (by decide) _ _ _ rfl (hown.alloc _) ⟨w2.heap.size, 0, none⟩ 1 1 [.string (strOf a.text)] rfl rfl ?c1 ?c2 (by decide) ?c3 ?c4 ?c5 (w2.heap.size + 1) (World.size_alloc _ _) ?_)
      case c1 => exact news1 _ _ _
      case c2 =>
        intro u hu
        simp only [List.mem_singleton] at hu
        subst hu
        rfl
      case c3 => decide
      case c4 => decide
      case c5 => simp only [World.size_alloc]; omega
      intro g3 cap3 w3 hown3 hg3 hat3 q3
      clear hown
      have hbw3 : Below w.heap.size w w3 := (hbw2.alloc hbw2.size _).grown hg3 (by simp only [World.size_alloc]; omega) (by intro k hk; simp [Value.ownBlock] at hk; omega)
      have hne : ∀ k, w.heap.size < k → k < w2.heap.size → w3.heap[k]? = w2.heap[k]? := fun k hk1 hk2 => (hg3.block k (by simp only [World.size_alloc]; omega) (by simp [Value.ownBlock]; omega)).trans (Below.heap_alloc _ _ _ hk2)
      have q1 : w.heap.size ≤ g3 := by
        rcases hat3 with h | h
        · simp only [Value.ownBlock, Option.some.injEq] at h; omega
        · omega
      have hgs : w.heap.size < g := by have := hSg.1; simp only [World.size_alloc] at this; omega
      have fx' : w3.cell? ⟨g, 2, none⟩ = some (.int .u8 c2.toNat) := (World.cell?_of_block (w := w2) (hne g hgs (by omega))).trans (cell_below HX.out hgl hb4)
      have fy' : w3.cell? ⟨g, 3, none⟩ = some (.slice A2 m2 cap2) := (World.cell?_of_block (w := w2) (hne g hgs (by omega))).trans (cell_below HY.out hgl hb4)
      have z3 := hg3.size
      simp only [World.size_alloc] at z3
      have hrep3 : RepN w3 (fun k => w.heap.size < k ∧ k < w1.heap.size) a' (.int .u8 c2.toNat) (.slice A2 m2 cap2) := hrep2.keep fun k hk => by
        have hk1 : w.heap.size < k := by have := hk.1; simp only [World.size_alloc] at this; omega
        exact ⟨⟨hk1, hk.2⟩, (hne k hk1 (by have := hk.2; omega)).trans (hb4.block k hk.2)⟩
      have HO := hid hown3
      have HNE := hid hne
      clear hown3 hat3 hne
      go_wp2_with fail
      rw [rounds_succ]
      go_wp2_with fail
      have hbd3 : ∀ o, Below w3.heap.size w3 (w3.alloc o) := fun o => (Below.refl _ _).alloc (Nat.le_refl _) o
      refine (textS_any a' _ _ _ _ (hrep3.below (fun k hk => by omega) (hbd3 _)) (fun k hk => by simp only [World.size_alloc]; omega) z').mono ?_
      rintro e w4 ⟨rfl, hb5⟩
      have hb6 : Below w3.heap.size w3 w4 := (hbd3 _).trans (hb5.mono (hbd3 _).size)
      have hown4 := own_kept HO.out (hb6.block g3 q3)
      have hbw4 : Below w.heap.size w w4 := hbw3.trans (hb6.mono hbw3.size)
      have zb6 := hb6.size
      go_wp2_with (at_builtin; refine wpList_append_lies _ rfl _ _ 24 rfl w.heap.size 9 i0 (.string ⟨#[]⟩) 1 16 Try.underlying24 hi0 hz0 hz1 hz2 rfl (by decide) _ _ _ rfl (hown4.alloc _) ⟨w4.heap.size, 0, none⟩ 1 1 [.string (strOf a'.text)] rfl rfl ?d1 ?d2 (by decide) ?d3 ?d4 ?d5 (w4.heap.size + 1) (World.size_alloc _ _) ?_)
      case d1 => exact news1 _ _ _
      case d2 =>
        intro u hu
        simp only [List.mem_singleton] at hu
        subst hu
        rfl
      case d3 => decide
      case d4 => decide
      case d5 => simp only [World.size_alloc]; omega
      intro g5 cap5 w5 hown5 hg5 hat5 q5
      clear hown4
      have hbw5 : Below w.heap.size w w5 := (hbw4.alloc hbw4.size _).grown hg5 (by simp only [World.size_alloc]; omega) (by intro k hk; simp [Value.ownBlock] at hk; omega)
      have q6 : w.heap.size ≤ g5 := by
        rcases hat5 with h | h
        · simp only [Value.ownBlock, Option.some.injEq] at h; omega
        · omega
      have HO5 := hid hown5
      clear hown5 hat5
      go_wp2_with fail
      rw [rounds_succ]
      go_wp2_with fail
      go_ret
      rw [HE.out]
      exact ⟨_, cap5, rfl, .inr ⟨g5, rfl, q6, own_strs (xs := [strOf a.text, strOf a'.text]) HO5.out⟩, hbw5⟩

theorem Strs.keep {w w' : World} {A : Option Addr} {n : Nat} {xs : List ByteArray} (h : Strs w A n xs) (hz : w.heap.size ≤ w'.heap.size) (hk : ∀ k, k < w.heap.size → w'.heap[k]? = w.heap[k]?) : Strs w' A n xs := by
  refine ⟨h.1, fun hn => ?_⟩
  obtain ⟨g, o, e, hg, hc⟩ := h.2 hn
  exact ⟨g, o, e, by omega, fun j x hj => (World.cell?_of_block (w := w) (a := ⟨g, o + j, none⟩) (hk g hg)).trans (hc j x hj)⟩
theorem Strs.drewN {w : World} {A : Option Addr} {n : Nat} {xs : List ByteArray} (h : Strs w A n xs) (m : Nat) : Strs (w.drewN m) A n xs := h

end Go.Proofs.Ytechacocfpobgaa
