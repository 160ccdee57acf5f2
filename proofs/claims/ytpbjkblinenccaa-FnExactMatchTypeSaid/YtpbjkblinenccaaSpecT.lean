/- The model's l1Read and TypeValid. -/
import Derived.Test.YtpbjkblinenccaaReadN
namespace Go.Proofs.Ytpbjkblinenccaa
open Go.RowKit

/-- What the model's l1Read comes to. -/
def NodeTypeEnd (w : World) (o : Option Ty) (e : Ending) (w' : World) : Prop :=
  Below w.heap.size w w' ∧ ((o = none ∧ e = .returned (.tuple #[.agg #[.int .u8 0, .slice none 0 0], .bool false])) ∨
    ∃ (t : Ty) (c : UInt8) (A : Option Addr) (m cap : Nat), o = some t ∧ e = .returned (.tuple #[.agg #[.int .u8 c.toNat, .slice A m cap], .bool true]) ∧ RepN w' (fun g => w.heap.size ≤ g ∧ g < w'.heap.size) t (.int .u8 c.toNat) (.slice A m cap))

theorem tyOf_none {l : List UInt8} (h : parse l.length l = none) : tyOf l = none := by
  unfold tyOf
  split
  · rw [h]
  · rfl
theorem tyOf_long {l : List UInt8} (h : 60 < l.length) : tyOf l = none := by
  unfold tyOf
  rw [if_neg (by omega)]
theorem tyOf_rest {l : List UInt8} {t : Ty} {x : UInt8} {r : List UInt8} (h : parse l.length l = some (t, x :: r)) : tyOf l = none := by
  unfold tyOf
  split
  · rw [h]
  · rfl
theorem tyOf_some {l : List UInt8} {t : Ty} (h : parse l.length l = some (t, [])) (hl : l.length ≤ 60) : tyOf l = some t := by
  unfold tyOf
  rw [if_pos hl, h]

set_option maxHeartbeats 400000 in
set_option maxRecDepth 100000 in
theorem l1Read_any (s : ByteArray) (w : World) (hs : s.size ≤ maxLen) :
    Calls Try.prog 37 #[.string s] w (NodeTypeEnd w (tyOf s.data.toList)) := by
  have hm := hs
  unfold maxLen at hm
  go_enter Try.func37, Try.ntmps37
  go_wp2_with fail
  have hz0 : (0 : Int) = ((0 : Nat) : Int) := rfl
  have hr0 : RdS ((w.alloc (.cells #[.int .u8 0, .slice none 0 0] 59)).alloc (.cells #[.string s, .int .i64 0, .bool false] 110)) (w.heap.size + 1) s 0 false := by
    have := heap_new1 (w.alloc (.cells #[.int .u8 0, .slice none 0 0] 59)) (.cells #[.string s, .int .i64 0, .bool false] 110)
    rwa [World.size_alloc] at this
  have hnode := nodeS_any s hs s.data.toList.length (w.heap.size + 1) 0 _ (Nat.zero_le _) (by simp) hr0
  rw [List.drop_zero] at hnode
  have HN := hid hnode
  clear hnode hz0 hr0
  refine HN.out.mono ?_
  rintro e w1 ⟨hb1, c, A, m, cap, k, rfl, hk, hend⟩
  have z1 := hb1.size
  simp only [World.size_alloc] at z1
  have hres : w1.heap[w.heap.size]? = some (.cells #[.int .u8 0, .slice none 0 0] 59 (0, 0)) := by
    rw [hb1.block _ (by simp only [World.size_alloc]; omega) (by omega), Below.heap_alloc _ _ _ (by simp only [World.size_alloc]; omega)]
    exact heap_new1 _ _
  have hbel : Below w.heap.size w w1 := (((Below.refl _ _).alloc (Nat.le_refl _) _).alloc (by simp only [World.size_alloc]; omega) _).trans (hb1.below' (by simp only [World.size_alloc]; omega) (by omega))
  obtain ⟨r0, r1, rf⟩ := two_cells hres
  have g0 : ∀ o, (w1.alloc o).cell? ⟨w.heap.size, 0, none⟩ = some (.int .u8 0) := fun o => (World.cell?_alloc_lt _ _ _ (by show w.heap.size < _; omega)).trans r0
  have g1 : ∀ o, (w1.alloc o).cell? ⟨w.heap.size, 1, none⟩ = some (.slice none 0 0) := fun o => (World.cell?_alloc_lt _ _ _ (by show w.heap.size < _; omega)).trans r1
  have gf : ∀ o k, (w1.alloc o).frozen? ⟨w.heap.size, k, none⟩ = false := fun o k => (World.frozen?_alloc_old _ _ _ (by show w.heap.size ≠ _; omega)).trans (rf k)
  clear r0 r1 rf
  rcases hend with ⟨hn1, hr1⟩ | ⟨t, r, hs1, hd1, hr1, hrep⟩
  · have b0 : ∀ o, (w1.alloc o).cell? ⟨w.heap.size + 1, 2, none⟩ = some (.bool true) := fun o => (World.cell?_alloc_lt _ _ _ (by show w.heap.size + 1 < _; omega)).trans hr1.c2
    go_wp2_with fail
    exact bodyPost_ret (v := .tuple #[.agg #[.int .u8 0, .slice none 0 0], .bool false]) (by simp [results, Try.results37, go_sem, g0, g1]) rfl
      ⟨((hbel.alloc (by omega) _).setCell (Nat.le_refl _) _).setCell (Nat.le_refl _) _, .inl ⟨tyOf_none hn1, rfl⟩⟩
  · have b0 : ∀ o, (w1.alloc o).cell? ⟨w.heap.size + 1, 2, none⟩ = some (.bool false) := fun o => (World.cell?_alloc_lt _ _ _ (by show w.heap.size + 1 < _; omega)).trans hr1.c2
    have b1 : ∀ o, (w1.alloc o).cell? ⟨w.heap.size + 1, 1, none⟩ = some (.int .i64 k) := fun o => (World.cell?_alloc_lt _ _ _ (by show w.heap.size + 1 < _; omega)).trans hr1.c1
    by_cases hks : k = s.size
    · have hd : ((k : Int) != (s.size : Int)) = false := by simp [hks]
      have hrn : r = [] := by
        rw [← hd1, hks]
        exact List.drop_eq_nil_of_le (by simp)
      have HRN := hid hrn
      clear hks hd1 hrn
      have hrn := HRN
      by_cases hl : s.size ≤ 60
      · go_wp2_with fail
        refine bodyPost_ret (v := .tuple #[.agg #[.int .u8 c.toNat, .slice A m cap], .bool true]) (by simp [results, Try.results37, go_sem, g0, g1]) rfl
          ⟨((hbel.alloc (by omega) _).setCell (Nat.le_refl _) _).setCell (Nat.le_refl _) _, .inr ⟨t, c, A, m, cap, tyOf_some (by rw [hs1, hrn.out]) (by simp; omega), rfl, RepN.keep hrep fun x hx => ?_⟩⟩
        obtain ⟨hx1, hx2⟩ := hx
        simp only [World.size_alloc] at hx1
        refine ⟨⟨by omega, by simp [World.setCell]; omega⟩, ?_⟩
        rw [Below.heap_setCell _ _ _ _ (by show x ≠ w.heap.size; omega), Below.heap_setCell _ _ _ _ (by show x ≠ w.heap.size; omega), Below.heap_alloc _ _ _ hx2]
      · go_wp2_with fail
        exact bodyPost_ret (v := .tuple #[.agg #[.int .u8 0, .slice none 0 0], .bool false]) (by simp [results, Try.results37, go_sem, g0, g1]) rfl
          ⟨((hbel.alloc (by omega) _).setCell (Nat.le_refl _) _).setCell (Nat.le_refl _) _, .inl ⟨tyOf_long (by simp; omega), rfl⟩⟩
    · have hd : ((k : Int) != (s.size : Int)) = true := by simp; omega
      have HKS := hid hks
      clear hks
      rcases r with _ | ⟨x, r⟩
      · exact absurd (by
          have h := congrArg List.length hd1
          rw [List.length_drop] at h
          have e : s.size = s.data.toList.length := by simp
          simp at h
          omega) HKS.out
      · clear hd1
        go_wp2_with fail
        exact bodyPost_ret (v := .tuple #[.agg #[.int .u8 0, .slice none 0 0], .bool false]) (by simp [results, Try.results37, go_sem, g0, g1]) rfl
          ⟨((hbel.alloc (by omega) _).setCell (Nat.le_refl _) _).setCell (Nat.le_refl _) _, .inl ⟨tyOf_rest hs1, rfl⟩⟩

set_option maxHeartbeats 400000 in
set_option maxRecDepth 100000 in
theorem typeValidS_any (s : ByteArray) (w : World) (hs : s.size ≤ maxLen) :
    Calls Try.prog 43 #[.string s] w fun e w' => e = .returned (.bool (tyOf s.data.toList).isSome) ∧ Below w.heap.size w w' := by
  go_enter Try.func43, Try.ntmps43
  go_wp2_with fail
  refine (l1Read_any s _ hs).mono ?_
  rintro e w1 ⟨hb, ⟨hn, rfl⟩ | ⟨t, c, A, m, cap, hs1, rfl, hrep⟩⟩
  · go_wp2_with fail
    go_ret
    exact ⟨ret_bool (by rw [hn]; rfl), hb.alloc hb.size _⟩
  · go_wp2_with fail
    go_ret
    exact ⟨ret_bool (by rw [hs1]; rfl), hb.alloc hb.size _⟩

theorem typeValidS_at (s : ByteArray) (w : World) (hs : s.size ≤ maxLen) (v : Bool) (h : Hid ((tyOf s.data.toList).isSome = v)) :
    Calls Try.prog 43 #[.string s] w fun e w' => e = .returned (.bool v) ∧ Below w.heap.size w w' := by
  rw [← h.out]
  exact typeValidS_any s w hs
theorem typeValidI_at (s : ByteArray) (w : World) (hs : s.size ≤ maxLen) (v : Bool) (h : Hid ((tyOf s.data.toList).isSome = v)) :
    Calls Try.prog 19 #[.string s] w fun e w' => e = .returned (.bool v) ∧ Below w.heap.size w w' := by
  rw [← h.out]
  exact typeValidI_any s w hs

end Go.Proofs.Ytpbjkblinenccaa
