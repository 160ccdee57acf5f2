/- The exact laws' own helpers over instances: szInstance, toInstance, eqInstance and their slices. -/
import Derived.Test.YtjpdiahbnhemoaaGreatDoorNdI
import Derived.Deep.OwnRows
import Derived.Deep.SlicePairs
import Derived.Deep.Slices
import Derived.Deep.RegionWith
namespace Go.Proofs.YtjpdiahbnhemoaaGreatDoor
open Go.RowKit

theorem Prs.keep {w w' : World} {A : Option Addr} {n : Nat} {zs : List (ByteArray × ByteArray)} (h : Prs w A n zs) (hz : w.heap.size ≤ w'.heap.size) (hk : ∀ a, A = some a → w'.heap[a.block]? = w.heap[a.block]?) : Prs w' A n zs := by
  refine ⟨h.1, fun hn => ?_⟩
  obtain ⟨g, o, rfl, hg, hc⟩ := h.2 hn
  have e := hk _ rfl
  refine ⟨g, o, rfl, Nat.lt_of_lt_of_le hg hz, fun j z hj => ⟨?_, ?_⟩⟩
  · rw [World.cell?_of_block (w := w) (w' := w') (a := ⟨g, o + j * 2, none⟩) e]
    exact (hc j z hj).1
  · rw [World.cell?_of_block (w := w) (w' := w') (a := ⟨g, o + j * 2 + 1, none⟩) e]
    exact (hc j z hj).2

/-- A slice of n instances. -/
def Inss (w : World) (A : Option Addr) (n : Nat) (is : List Ins) : Prop :=
  is.length = n ∧ (0 < n → ∃ g o, A = some ⟨g, o, none⟩ ∧ g < w.heap.size ∧ ∀ (j : Nat) i, is[j]? = some i → w.cell? ⟨g, o + j * 3, none⟩ = some (.string i.c) ∧ w.cell? ⟨g, o + j * 3 + 1, none⟩ = some (.string i.t) ∧
    ∃ B m cap, w.cell? ⟨g, o + j * 3 + 2, none⟩ = some (.slice B m cap) ∧ m ≤ maxLen ∧ Prs w B m i.ns)
theorem Inss.below {w w' : World} {A : Option Addr} {n : Nat} {is : List Ins} (h : Inss w A n is) (hb : Below w.heap.size w w') : Inss w' A n is := by
  refine ⟨h.1, fun hn => ?_⟩
  obtain ⟨g, o, rfl, hg, hc⟩ := h.2 hn
  refine ⟨g, o, rfl, Nat.lt_of_lt_of_le hg hb.size, fun j i hj => ?_⟩
  obtain ⟨h1, h2, B, m, cap, h3, h4, h5⟩ := hc j i hj
  exact ⟨cell_below h1 hg hb, cell_below h2 hg hb, B, m, cap, cell_below h3 hg hb, h4, h5.below hb⟩
/-- No string of an instance is too long for a machine. -/
def InsOk (i : Ins) : Prop := i.c.size ≤ maxLen ∧ i.t.size ≤ maxLen ∧ ∀ z ∈ i.ns, z.1.size ≤ maxLen ∧ z.2.size ≤ maxLen
def inssTot (is : List Ins) : Nat := (is.map insTot).sum
theorem inssTot_snoc {is : List Ins} {k : Nat} {i : Ins} (h : is[k]? = some i) : inssTot (is.take (k + 1)) = inssTot (is.take k) + insTot i := by
  rw [List.take_add_one, h]
  simp [inssTot]
theorem inssTot_take_le (is : List Ins) (k : Nat) : inssTot (is.take k) ≤ inssTot is := by
  have h : inssTot is = inssTot (is.take k) + inssTot (is.drop k) := by
    have := congrArg (fun l => (List.map insTot l).sum) (List.take_append_drop k is)
    simp only [List.map_append, List.sum_append] at this
    exact this.symm
  omega
theorem inssTot_mem {is : List Ins} {i : Ins} (h : i ∈ is) : insTot i ≤ inssTot is := by
  induction is with
  | nil => cases h
  | cons y ys ih =>
    rcases List.mem_cons.1 h with rfl | h
    · simp [inssTot]
    · have := ih h
      simp [inssTot] at this ⊢
      omega

set_option maxHeartbeats 400000 in
set_option maxRecDepth 100000 in
theorem eqInstance_same (x y : ByteArray) (A B : Option Addr) (n c d : Nat) (zs : List (ByteArray × ByteArray)) (w : World) (ha : Prs w A n zs) (hb : Prs w B n zs) (hn : n ≤ 1048576) :
    Calls Tryz.prog 32 #[.agg #[.string x, .string y, .slice A n c], .agg #[.string x, .string y, .slice B n d]] w fun e w' => e = .returned (.bool true) ∧ Below w.heap.size w w' := by
  have HA := hid ha
  have HB := hid hb
  clear ha hb
  go_enter Tryz.func32, Tryz.ntmps32
  go_wp2_with fail
  refine (eqNeed_same x y _).mono ?_
  rintro e w1 ⟨rfl, hb1⟩
  have hb2 : ∀ o o', Below w.heap.size w ((w.alloc o).alloc o') := fun o o' => ((Below.refl _ _).alloc (Nat.le_refl _) o).alloc (by simp only [World.size_alloc]; omega) o'
  have hbw := hid ((hb2 (.cells #[.string x, .string y, .slice A n c] 52) (.cells #[.string x, .string y, .slice B n d] 52)).trans (hb1.mono (hb2 _ _).size))
  have E0 : w1.heap[w.heap.size]? = some (.cells #[.string x, .string y, .slice A n c] 52 (0, 0)) := (hb1.block _ (by simp only [World.size_alloc]; omega)).trans ((Below.heap_alloc _ _ _ (by simp only [World.size_alloc]; omega)).trans (heap_new1 w _))
  have E1 : w1.heap[w.heap.size + 1]? = some (.cells #[.string x, .string y, .slice B n d] 52 (0, 0)) := (hb1.block _ (by simp only [World.size_alloc]; omega)).trans (by
    have := heap_new1 (w.alloc (.cells #[.string x, .string y, .slice A n c] 52)) (.cells #[.string x, .string y, .slice B n d] 52)
    simpa only [World.size_alloc] using this)
  have a2 := cell_blk E0 (j := 2) rfl
  have b2 := cell_blk E1 (j := 2) rfl
  clear E0 E1
  go_wp2_with fail
  refine (eqNeedS_same A B n c d zs w1 (HA.out.below hbw.out) (HB.out.below hbw.out) hn).mono ?_
  rintro e w2 ⟨rfl, hb3⟩
  go_wp2_with fail
  go_ret
  exact ⟨rfl, hbw.out.trans (hb3.mono hbw.out.size)⟩

theorem set1_other {w : World} {k j rb : Nat} (hne : rb ≠ k) (x : Value) : (w.setCell ⟨k, j, none⟩ x).heap[rb]? = w.heap[rb]? := by
  simp [World.setCell, Array.getElem?_modify, Ne.symm hne]

end Go.Proofs.YtjpdiahbnhemoaaGreatDoor
