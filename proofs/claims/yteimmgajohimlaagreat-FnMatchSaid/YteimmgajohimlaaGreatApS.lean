/- Bindings applied, in the model: the length of a type's text. -/
import Derived.Test.YteimmgajohimlaaGreatPartsI
namespace Go.Proofs.YteimmgajohimlaaGreat
open Go.RowKit

set_option maxHeartbeats 1000000 in
set_option maxRecDepth 100000 in
theorem l2Length_any (t : Ty) : ∀ (S : Nat → Prop) (h p : Value) (w : World), RepN w S t h p → (∀ g, S g → g < w.heap.size) → t.text.length ≤ 100000000000 →
    Calls Tryz.prog 67 #[.agg #[h, p]] w fun e w' => e = .returned (.int .i64 t.text.length) ∧ Below w.heap.size w w' := by
  induction t with
  | lf c =>
    rintro S h p w ⟨rfl, A, cap, rfl⟩ hS hsz
    go_enter Tryz.func67, Tryz.ntmps67
    go_wp2_with fail
    refine wp_loop_rounds 1 ?_
    rw [rounds_succ]
    go_wp2_with fail
    go_ret
    exact ⟨rfl, (Below.refl _ _).alloc (Nat.le_refl _) _⟩
  | un c a ih =>
    rintro S h p w ⟨rfl, g, cap, x, y, rfl, hg, hx, hy, hrep⟩ hS hsz
    have hgl := hS g hg
    obtain ⟨c1, A1, m1, cap1, rfl, rfl⟩ := hrep.form
    have z : a.text.length ≤ 100000000000 := by simp [Ty.text] at hsz; omega
    obtain ⟨la, hla⟩ : ∃ n, a.text.length = n := ⟨_, rfl⟩
    rw [hla] at z
    have HLA := hid hla
    have hz : (0 : Int) ≤ (la : Int) := by omega
    have fx : ∀ o, (w.alloc o).cell? ⟨g, 0, none⟩ = some (.int .u8 c1.toNat) := fun o => cell_below hx hgl ((Below.refl _ _).alloc (Nat.le_refl _) o)
    have fy : ∀ o, (w.alloc o).cell? ⟨g, 1, none⟩ = some (.slice A1 m1 cap1) := fun o => cell_below hy hgl ((Below.refl _ _).alloc (Nat.le_refl _) o)
    have HX := hid hx
    have HY := hid hy
    rw [hla] at ih
    clear hx hy hla
    go_enter Tryz.func67, Tryz.ntmps67
    go_wp2_with fail
    refine wp_loop_rounds 2 ?_
    rw [rounds_succ]
    go_wp2_with fail
    have hb2 : ∀ o o', Below w.heap.size w ((w.alloc o).alloc o') := fun o o' => ((Below.refl _ _).alloc (Nat.le_refl _) o).alloc (by simp only [World.size_alloc]; omega) o'
    refine (ih S _ _ _ (hrep.below hS (hb2 _ _)) (fun g hg => Nat.lt_of_lt_of_le (hS g hg) (hb2 _ _).size) z).mono ?_
    rintro e w2 ⟨rfl, hb3⟩
    have n1 : w2.cell? ⟨w.heap.size, 1, none⟩ = some (.slice (some ⟨g, 0, none⟩) 1 cap) := cell_below ((World.cell?_alloc_lt _ _ _ (by simp only [World.size_alloc]; omega)).trans (two_cells (heap_new1 w (.cells #[.int .u8 c.toNat, .slice (some ⟨g, 0, none⟩) 1 cap] 61))).2.1) (by simp only [World.size_alloc]; omega) hb3
    go_wp2_with fail
    rw [rounds_succ]
    go_wp2_with fail
    go_ret
    exact ⟨ret_int (by have := HLA.out; simp [Ty.text]; omega), (hb2 _ _).trans (hb3.mono (hb2 _ _).size)⟩
  | bi c a a' iha ihb =>
    rintro S h p w ⟨rfl, g, cap, x, y, x', y', rfl, hg, hx, hy, hx', hy', hrep, hrep'⟩ hS hsz
    have hgl := hS g hg
    obtain ⟨c1, A1, m1, cap1, rfl, rfl⟩ := hrep.form
    obtain ⟨c2, A2, m2, cap2, rfl, rfl⟩ := hrep'.form
    have z : a.text.length ≤ 100000000000 := by simp [Ty.text] at hsz; omega
    have z' : a'.text.length ≤ 100000000000 := by simp [Ty.text] at hsz; omega
    obtain ⟨la, hla⟩ : ∃ n, a.text.length = n := ⟨_, rfl⟩
    rw [hla] at z
    have HLA := hid hla
    have hz : (0 : Int) ≤ (la : Int) := by omega
    obtain ⟨lb, hlb⟩ : ∃ n, a'.text.length = n := ⟨_, rfl⟩
    rw [hlb] at z'
    have HLB := hid hlb
    have hz' : (0 : Int) ≤ (lb : Int) := by omega
    have fx : ∀ o, (w.alloc o).cell? ⟨g, 0, none⟩ = some (.int .u8 c1.toNat) := fun o => cell_below hx hgl ((Below.refl _ _).alloc (Nat.le_refl _) o)
    have fy : ∀ o, (w.alloc o).cell? ⟨g, 1, none⟩ = some (.slice A1 m1 cap1) := fun o => cell_below hy hgl ((Below.refl _ _).alloc (Nat.le_refl _) o)
    have HX := hid hx
    have HY := hid hy
    have HX' := hid hx'
    have HY' := hid hy'
    rw [hla] at iha
    rw [hlb] at ihb
    clear hx hy hx' hy' hla hlb
    go_enter Tryz.func67, Tryz.ntmps67
    go_wp2_with fail
    refine wp_loop_rounds 3 ?_
    rw [rounds_succ]
    go_wp2_with fail
    have hb2 : ∀ o o', Below w.heap.size w ((w.alloc o).alloc o') := fun o o' => ((Below.refl _ _).alloc (Nat.le_refl _) o).alloc (by simp only [World.size_alloc]; omega) o'
    refine (iha S _ _ _ (hrep.below hS (hb2 _ _)) (fun g hg => Nat.lt_of_lt_of_le (hS g hg) (hb2 _ _).size) z).mono ?_
    rintro e w2 ⟨rfl, hb3⟩
    have n1 : w2.cell? ⟨w.heap.size, 1, none⟩ = some (.slice (some ⟨g, 0, none⟩) 2 cap) := cell_below ((World.cell?_alloc_lt _ _ _ (by simp only [World.size_alloc]; omega)).trans (two_cells (heap_new1 w (.cells #[.int .u8 c.toNat, .slice (some ⟨g, 0, none⟩) 2 cap] 61))).2.1) (by simp only [World.size_alloc]; omega) hb3
    have zw2 : w.heap.size < w2.heap.size := (by have := hb3.size; simp only [World.size_alloc] at this; omega)
    have hb4 := (hb2 _ _).trans (hb3.mono (hb2 _ _).size)
    have gx := cell_below HX'.out hgl hb4
    have gy := cell_below HY'.out hgl hb4
    go_wp2_with fail
    rw [rounds_succ]
    go_wp2_with fail
    have hb5 : ∀ o, Below w.heap.size w (w2.alloc o) := fun o => hb4.alloc hb4.size o
    refine (ihb S _ _ _ (hrep'.below hS (hb5 _)) (fun g hg => Nat.lt_of_lt_of_le (hS g hg) (hb5 _).size) z').mono ?_
    rintro e w3 ⟨rfl, hb6⟩
    have n2 := cell_below ((World.cell?_alloc_lt _ _ _ zw2).trans n1) (by simp only [World.size_alloc]; omega) hb6
    clear n1
    go_wp2_with fail
    rw [rounds_succ]
    go_wp2_with fail
    go_ret
    exact ⟨ret_int (by have := HLA.out; have := HLB.out; simp [Ty.text]; omega), (hb5 _).trans (hb6.mono (hb5 _).size)⟩


/-- Where a letter stands among the model's variables; -1: it is none. -/
def l2ix (c : UInt8) : Int := findI [88, 89, 90, 120, 121, 122, 49, 50, 51, 52, 53, 54] c
theorem l2ix_var (c : UInt8) : (isVarB c = true → 0 ≤ l2ix c ∧ l2ix c < 6) ∧ (ar c ≠ -1 → isVarB c = false → l2ix c = -1) ∧ -1 ≤ l2ix c ∧ l2ix c < 12 := by
  refine u8_all (p := fun c => (isVarB c = true → 0 ≤ l2ix c ∧ l2ix c < 6) ∧ (ar c ≠ -1 → isVarB c = false → l2ix c = -1) ∧ -1 ≤ l2ix c ∧ l2ix c < 12) ?_ c
  decide +kernel
set_option maxHeartbeats 400000 in
theorem l2Index_at (c : UInt8) (k : Int) (hk : Hid (l2ix c = k)) (w : World) :
    Calls Tryz.prog 65 #[.int .u8 c.toNat] w fun e w' => e = .returned (.int .i64 k) ∧ w = w' := by
  have hk' : Hid (findI [88, 89, 90, 120, 121, 122, 49, 50, 51, 52, 53, 54] c = k) := hk
  go_enter Tryz.func65, Tryz.ntmps65
  go_wp2_with (go_at_call 91; refine (l13Find_at _ _ _ (by decide) k hk').mono ?_; rintro e w' ⟨rfl, rfl⟩)
  go_ret
  exact ⟨rfl, rfl⟩

end Go.Proofs.YteimmgajohimlaaGreat
