/- MatchType and IsInstance, in the model and in the program. -/
import Derived.Test.YtmpmalcjfckemaaGreatDoorTdS
import Derived.Test.YtmpmalcjfckemaaGreatDoorMtK
namespace Go.Proofs.YtmpmalcjfckemaaGreatDoor
open Go.RowKit

/-- How the model's MatchType ends. -/
def MatchEndS (w : World) (l l' : List UInt8) (e : Ending) (w' : World) : Prop :=
  Below w.heap.size w w' ∧ match mtOf l l' with
    | none => ∃ v, e = .returned (.tuple #[v, .bool false]) ∧ w'.ownsRow w.heap.size 176 2 v 0 []
    | some g => ∃ v, e = .returned (.tuple #[v, .bool true]) ∧ w'.ownsRow w.heap.size 176 2 v (told g).length (cells2 (told g))
theorem own_nil2 {w : World} {B : Nat} (hB : B ≤ w.heap.size) (T : TypeId) : (w.alloc (.cells #[] T)).ownsRow B T 2 (.slice (some ⟨w.heap.size, 0, none⟩) 0 0) 0 [] :=
  ⟨rfl, .inr ⟨w.heap.size, 0, #[], rfl, hB, heap_new1 _ _, Nat.le_refl _, Nat.zero_le _, rfl, rfl⟩⟩

theorem end_nil2 {w w2 : World} (hb : Below w.heap.size w w2) (o1 o2 : Obj) (T : TypeId) : Below w.heap.size w (((w2.alloc o1).alloc o2).alloc (.cells #[] T)) ∧ (((w2.alloc o1).alloc o2).alloc (.cells #[] T)).ownsRow w.heap.size T 2 (.slice (some ⟨w2.heap.size + 1 + 1, 0, none⟩) 0 0) 0 [] := by
  have z := hb.size
  refine ⟨((hb.alloc z _).alloc (by simp only [World.size_alloc]; omega) _).alloc (by simp only [World.size_alloc]; omega) _, ?_⟩
  have h := own_nil2 (w := (w2.alloc o1).alloc o2) (B := w.heap.size) (by simp only [World.size_alloc]; omega) T
  simp only [World.size_alloc] at h
  exact h

set_option maxHeartbeats 1600000 in
set_option maxRecDepth 100000 in
theorem matchTypeS_any (a b : ByteArray) (w : World) (ha : a.size ≤ maxLen) (hb : b.size ≤ maxLen) : Calls Tryz.prog 91 #[.string a, .string b] w (MatchEndS w a.data.toList b.data.toList) := by
  go_enter Tryz.func91, Tryz.ntmps91
  go_wp2_with fail
  refine (l1Read_any a _ ha).mono ?_
  rintro e w1 ⟨hb1, ⟨hn1, rfl⟩ | ⟨P, c0, A0, m0, cap0, hP, rfl, hr1⟩⟩
  · have hm : mtOf a.data.toList b.data.toList = none := by unfold mtOf; rw [hn1]
    have HM := hid hm
    have z1 := hb1.size
    clear hm hn1
    have hbA : ∀ o, Below w.heap.size w (w1.alloc o) := fun o => hb1.alloc z1 o
    go_wp2_with fail
    refine (l1Read_any b _ hb).mono ?_
    rintro e w2 ⟨hb2, ⟨hn2, rfl⟩ | ⟨T, c1, A1, m1, cap1, hT, rfl, hr2⟩⟩
    · clear hn2
      have hbW := (hbA _).trans (hb2.mono (hbA _).size)
      go_wp2_with fail
      refine bodyPost_ret (v := .tuple #[.slice (some ⟨w2.heap.size + 1 + 1, 0, none⟩) 0 0, .bool false]) (by simp [results, Tryz.results91, go_sem]) rfl ⟨(end_nil2 hbW _ _ _).1, ?_⟩
      rw [HM.out]
      exact ⟨_, rfl, (end_nil2 hbW _ _ _).2⟩
    · clear hT hr2
      have hbW := (hbA _).trans (hb2.mono (hbA _).size)
      go_wp2_with fail
      refine bodyPost_ret (v := .tuple #[.slice (some ⟨w2.heap.size + 1 + 1, 0, none⟩) 0 0, .bool false]) (by simp [results, Tryz.results91, go_sem]) rfl ⟨(end_nil2 hbW _ _ _).1, ?_⟩
      rw [HM.out]
      exact ⟨_, rfl, (end_nil2 hbW _ _ _).2⟩
  · have HP := hid hP
    have HR1 := hid hr1
    have z1 := hb1.size
    clear hP hr1
    have hbA : ∀ o, Below w.heap.size w (w1.alloc o) := fun o => hb1.alloc z1 o
    go_wp2_with fail
    refine (l1Read_any b _ hb).mono ?_
    rintro e w2 ⟨hb2, ⟨hn2, rfl⟩ | ⟨T, c1, A1, m1, cap1, hT, rfl, hr2⟩⟩
    · have hm : mtOf a.data.toList b.data.toList = none := by unfold mtOf; rw [HP.out, hn2]
      have HM := hid hm
      clear hn2 hm
      have hbW := (hbA _).trans (hb2.mono (hbA _).size)
      go_wp2_with fail
      refine bodyPost_ret (v := .tuple #[.slice (some ⟨w2.heap.size + 1 + 1, 0, none⟩) 0 0, .bool false]) (by simp [results, Tryz.results91, go_sem]) rfl ⟨(end_nil2 hbW _ _ _).1, ?_⟩
      rw [HM.out]
      exact ⟨_, rfl, (end_nil2 hbW _ _ _).2⟩
    · obtain ⟨_, oP, _⟩ := tyOf_text HP.out
      obtain ⟨eT, oT, lT⟩ := tyOf_text hT
      have hlT : T.text.length ≤ 60 := by rw [← eT]; exact lT
      obtain ⟨o, ho⟩ : ∃ o, mt P T (fun _ => none) = o := ⟨_, rfl⟩
      have hm : mtOf a.data.toList b.data.toList = o := by
        unfold mtOf
        rw [HP.out, hT]
        exact ho
      have HM := hid hm
      have HO := hid ho
      have HT := hid hT
      have HR2 := hid hr2
      have HOP := hid oP
      have HOT := hid oT
      have hbW := (hbA (.cells #[.int .u8 c0.toNat, .slice A0 m0 cap0] 112)).trans (hb2.mono (hbA _).size)
      have z2 := hb2.size
      simp only [World.size_alloc] at z2
      have n0 := cell_below (blk_cells2 (heap_new1 w1 (.cells #[.int .u8 c0.toNat, .slice A0 m0 cap0] 112))).1 (by simp only [World.size_alloc]; omega) hb2
      have n1 := cell_below (blk_cells2 (heap_new1 w1 (.cells #[.int .u8 c0.toNat, .slice A0 m0 cap0] 112))).2 (by simp only [World.size_alloc]; omega) hb2
      have a0 : ∀ o1 o2, ((w2.alloc o1).alloc o2).cell? ⟨w1.heap.size, 0, none⟩ = some (.int .u8 c0.toNat) := fun o1 o2 => by
        rw [World.cell?_alloc_lt _ _ _ (by simp only [World.size_alloc]; omega), World.cell?_alloc_lt _ _ _ (by show w1.heap.size < _; omega)]
        exact n0
      have a1 : ∀ o1 o2, ((w2.alloc o1).alloc o2).cell? ⟨w1.heap.size, 1, none⟩ = some (.slice A0 m0 cap0) := fun o1 o2 => by
        rw [World.cell?_alloc_lt _ _ _ (by simp only [World.size_alloc]; omega), World.cell?_alloc_lt _ _ _ (by show w1.heap.size < _; omega)]
        exact n1
      clear hm ho hT hr2 oP oT eT lT n0 n1
      go_wp2_with fail
      obtain ⟨W3, hW3⟩ : ∃ W3, (w2.alloc (.cells #[.int .u8 c1.toNat, .slice A1 m1 cap1] 112)).alloc (.cells emptyN 155) = W3 := ⟨_, rfl⟩
      have hst0 := StndN.new (w2.alloc (.cells #[.int .u8 c1.toNat, .slice A1 m1 cap1] 112)) (fun g => w.heap.size ≤ g ∧ g < w2.heap.size)
      simp only [World.size_alloc] at hst0
      rw [hW3] at hst0
      have hb23 : Below w2.heap.size w2 W3 := by rw [← hW3]; exact ((Below.refl _ _).alloc (Nat.le_refl _) _).alloc (by simp only [World.size_alloc]; omega) _
      have zW := hbW.size
      have z3 : W3.heap.size = w2.heap.size + 2 := by rw [← hW3]; simp only [World.size_alloc]
      have hk := matchN_any P T (fun _ => none) (fun g => w.heap.size ≤ g ∧ g < w2.heap.size) (w2.heap.size + 1) c0 A0 m0 cap0 c1 A1 m1 cap1 W3 hst0
        (HR1.out.keep fun g hg => ⟨⟨hg.1, by omega⟩, by
          rw [hb23.block g (by omega), hb2.block g (by simp only [World.size_alloc]; omega)]
          exact Below.heap_alloc _ _ _ hg.2⟩)
        (HR2.out.keep fun g hg => ⟨⟨by have := hg.1; simp only [World.size_alloc] at this; omega, hg.2⟩, hb23.block g hg.2⟩)
        (fun h => by omega) (fun g hg => by omega) none_fine HOP.out HOT.out hlT
      rw [HO.out] at hk
      have HK := hid hk
      have Z3 := hid z3
      clear hk hst0 z3
      show Calls Tryz.prog _ _ ((w2.alloc _).alloc (.cells emptyN 155)) _
      rw [hW3]
      clear hW3 a0 a1
      refine HK.out.mono ?_
      rintro e w4 ⟨hb4, hr⟩
      have hbut : Below w.heap.size w w4 := hbW.trans ((hb23.mono zW).trans (hb4.below' (by have := Z3.out; omega) (by omega)))
      cases o with
      | none =>
        obtain rfl : e = .returned (.bool false) := hr
        go_wp2_with fail
        refine bodyPost_ret (v := .tuple #[.slice (some ⟨w4.heap.size, 0, none⟩) 0 0, .bool false]) (by simp [results, Tryz.results91, go_sem]) rfl ⟨hbut.alloc hbut.size _, ?_⟩
        rw [HM.out]
        exact ⟨_, rfl, own_nil2 hbut.size _⟩
      | some g =>
        obtain ⟨rfl, hst⟩ : e = .returned (.bool true) ∧ StndN w4 (w2.heap.size + 1) (fun j => w.heap.size ≤ j ∧ j < w2.heap.size) g := hr
        have z34 : W3.heap.size ≤ w4.heap.size := hb4.size
        have hfine := mtOf_fine HM.out
        have HT := hid (l2Told_any (w2.heap.size + 1) (fun j => w.heap.size ≤ j ∧ j < w2.heap.size) g w4 hst (fun j hj => by have := Z3.out; omega) (fun c t hc => by have := (hfine c t hc).2; omega))
        have HF := hid hfine
        clear hst hfine
        go_wp2_with fail
        refine HT.out.mono ?_
        rintro e w5 ⟨hb5, ⟨⟨k, t, _, hkt, hlt⟩, _⟩ | ⟨_, v, rfl, hown⟩⟩
        · have := (HF.out _ t hkt).2
          omega
        · have hv := hown
          obtain ⟨B, cp, rfl, _, _⟩ := own_pairs hown
          have HV := hid hv
          have z4 := hbut.size
          clear hown hv
          go_wp2_with fail
          refine bodyPost_ret (v := .tuple #[.slice B (told g).length cp, .bool true]) (by simp [results, Tryz.results91, go_sem]) rfl ⟨hbut.trans (hb5.mono z4), ?_⟩
          rw [HM.out]
          exact ⟨_, rfl, own_base HV.out z4⟩

set_option maxHeartbeats 800000 in
theorem isInstanceS_any (a b : ByteArray) (w : World) (ha : a.size ≤ maxLen) (hb : b.size ≤ maxLen) : Calls Tryz.prog 63 #[.string a, .string b] w fun e w' => e = .returned (.bool (mtOf a.data.toList b.data.toList).isSome) ∧ Below w.heap.size w w' := by
  obtain ⟨o, ho⟩ : ∃ o, mtOf a.data.toList b.data.toList = o := ⟨_, rfl⟩
  have hm := matchTypeS_any a b w ha hb
  unfold MatchEndS at hm
  rw [ho] at hm ⊢
  have HM := hid hm
  clear ho hm
  cases o with
  | none =>
    go_enter Tryz.func63, Tryz.ntmps63
    go_wp2_with fail
    refine HM.out.mono ?_
    rintro e w1 ⟨hb1, v, rfl, _⟩
    go_wp2_with fail
    go_ret
    exact ⟨rfl, hb1⟩
  | some g =>
    go_enter Tryz.func63, Tryz.ntmps63
    go_wp2_with fail
    refine HM.out.mono ?_
    rintro e w1 ⟨hb1, v, rfl, _⟩
    go_wp2_with fail
    go_ret
    exact ⟨rfl, hb1⟩

set_option maxHeartbeats 800000 in
theorem isInstance_any (a b : ByteArray) (w : World) (ha : a.size ≤ maxLen) (hb : b.size ≤ maxLen) : Calls Tryz.prog 81 #[.string a, .string b] w fun e w' => e = .returned (.bool (mtOf a.data.toList b.data.toList).isSome) ∧ Below w.heap.size w w' := by
  obtain ⟨o, ho⟩ : ∃ o, mtOf a.data.toList b.data.toList = o := ⟨_, rfl⟩
  have hm := matchType_any a b w ha hb
  unfold MatchEnd at hm
  rw [ho] at hm ⊢
  have HM := hid hm
  clear ho hm
  cases o with
  | none =>
    go_enter Tryz.func81, Tryz.ntmps81
    go_wp2_with fail
    refine HM.out.mono ?_
    rintro e w1 ⟨hb1, rfl⟩
    go_wp2_with fail
    go_ret
    exact ⟨rfl, hb1⟩
  | some g =>
    go_enter Tryz.func81, Tryz.ntmps81
    go_wp2_with fail
    refine HM.out.mono ?_
    rintro e w1 ⟨hb1, v, rfl, _⟩
    go_wp2_with fail
    go_ret
    exact ⟨rfl, hb1⟩

end Go.Proofs.YtmpmalcjfckemaaGreatDoor
