/- The exact laws' own helpers over instances: szInstance, toInstance, eqInstance and their slices. -/
import Derived.Test.YtgbbobjkhpplkaaDoorNdI
import Derived.Deep.OwnRows
import Derived.Deep.SlicePairs
import Derived.Deep.Slices
import Derived.Deep.RegionWith
namespace Go.Proofs.YtgbbobjkhpplkaaDoor
open Go.RowKit

theorem Prs.keep {w w' : World} {A : Option Addr} {n : Nat} {zs : List (ByteArray × ByteArray)} (h : Prs w A n zs) (hz : w.heap.size ≤ w'.heap.size) (hk : ∀ a, A = some a → w'.heap[a.block]? = w.heap[a.block]?) : Prs w' A n zs := by
  refine ⟨h.1, fun hn => ?_⟩
  obtain ⟨g, o, rfl, hg, hc⟩ := h.2 hn
  have e := hk _ rfl
  refine ⟨g, o, rfl, Nat.lt_of_lt_of_le hg hz, fun j z hj => ⟨?_, ?_⟩⟩
  · rw [World.cell?_of_block (w := w) (w' := w') (a := ⟨g, o + j * 2, none⟩) e]
    exact (hc j z hj).1
  · rw [World.cell?_of_block (w := w) (w' := w') (a := ⟨g, o + j * 2 + 1, none⟩) e]
    exact (hc j z hj).2

/-- A slice of n instances. -/
def Inss (w : World) (A : Option Addr) (n : Nat) (is : List Ins) : Prop :=
  is.length = n ∧ (0 < n → ∃ g o, A = some ⟨g, o, none⟩ ∧ g < w.heap.size ∧ ∀ (j : Nat) i, is[j]? = some i → w.cell? ⟨g, o + j * 3, none⟩ = some (.string i.c) ∧ w.cell? ⟨g, o + j * 3 + 1, none⟩ = some (.string i.t) ∧
    ∃ B m cap, w.cell? ⟨g, o + j * 3 + 2, none⟩ = some (.slice B m cap) ∧ m ≤ maxLen ∧ Prs w B m i.ns)
theorem Inss.below {w w' : World} {A : Option Addr} {n : Nat} {is : List Ins} (h : Inss w A n is) (hb : Below w.heap.size w w') : Inss w' A n is := by
  refine ⟨h.1, fun hn => ?_⟩
  obtain ⟨g, o, rfl, hg, hc⟩ := h.2 hn
  refine ⟨g, o, rfl, Nat.lt_of_lt_of_le hg hb.size, fun j i hj => ?_⟩
  obtain ⟨h1, h2, B, m, cap, h3, h4, h5⟩ := hc j i hj
  exact ⟨cell_below h1 hg hb, cell_below h2 hg hb, B, m, cap, cell_below h3 hg hb, h4, h5.below hb⟩
/-- No string of an instance is too long for a machine. -/
def InsOk (i : Ins) : Prop := i.c.size ≤ maxLen ∧ i.t.size ≤ maxLen ∧ ∀ z ∈ i.ns, z.1.size ≤ maxLen ∧ z.2.size ≤ maxLen
def inssTot (is : List Ins) : Nat := (is.map insTot).sum
theorem inssTot_snoc {is : List Ins} {k : Nat} {i : Ins} (h : is[k]? = some i) : inssTot (is.take (k + 1)) = inssTot (is.take k) + insTot i := by
  rw [List.take_add_one, h]
  simp [inssTot]
theorem inssTot_take_le (is : List Ins) (k : Nat) : inssTot (is.take k) ≤ inssTot is := by
  have h : inssTot is = inssTot (is.take k) + inssTot (is.drop k) := by
    have := congrArg (fun l => (List.map insTot l).sum) (List.take_append_drop k is)
    simp only [List.map_append, List.sum_append] at this
    exact this.symm
  omega
theorem inssTot_mem {is : List Ins} {i : Ins} (h : i ∈ is) : insTot i ≤ inssTot is := by
  induction is with
  | nil => cases h
  | cons y ys ih =>
    rcases List.mem_cons.1 h with rfl | h
    · simp [inssTot]
    · have := ih h
      simp [inssTot] at this ⊢
      omega

set_option maxHeartbeats 400000 in
set_option maxRecDepth 100000 in
theorem szInstance_any (x y : ByteArray) (A : Option Addr) (n c : Nat) (zs : List (ByteArray × ByteArray)) (left : Nat) (w : World) (ha : Prs w A n zs) (hn : n ≤ maxLen) (hok : InsOk ⟨x, y, zs⟩) (hl : left ≤ 1048576) :
    Calls Tryd.prog 28 #[.agg #[.string x, .string y, .slice A n c], .int .i64 left] w fun e w' => ∃ r : Int, e = .returned (.int .i64 r) ∧ Below w.heap.size w w' ∧ (r = -1 ∨ ∃ r' : Nat, r = (r' : Int) ∧ r' + insTot ⟨x, y, zs⟩ = left) := by
  obtain ⟨h1, h2, h3⟩ := hok
  have HI := hid (show insTot ⟨x, y, zs⟩ = x.size + y.size + n + tot zs by rw [← ha.1]; rfl)
  have HA := hid ha
  have H3 := hid h3
  clear ha h3
  go_enter Tryd.func28, Tryd.ntmps28
  go_wp2_with fail
  refine (szNeed_any x y left _ h1 h2 hl).mono ?_
  rintro e w1 ⟨r, rfl, hb1, hr⟩
  have hb1' := ((Below.refl w.heap.size w).alloc (Nat.le_refl _) _).trans (hb1.mono (by simp only [World.size_alloc]; omega))
  have hz1 := hb1.size
  simp only [World.size_alloc] at hz1
  have hc2 : w1.cell? ⟨w.heap.size, 2, none⟩ = some (.slice A n c) := cell_blk ((hb1.block _ (by simp only [World.size_alloc]; omega)).trans (heap_new1 w (.cells #[.string x, .string y, .slice A n c] 61))) rfl
  rcases hr with ⟨rfl, hr⟩ | ⟨hr, rfl⟩
  · go_wp2_with fail
    go_ret
    exact ⟨-1, rfl, hb1', .inl rfl⟩
  · go_wp2_with fail
    refine (szNeedS_any A n c zs _ _ (HA.out.below hb1') H3.out hn (by omega)).mono ?_
    rintro e w2 ⟨r, rfl, hb2, hr2⟩
    have hb2' := hb1'.trans (hb2.mono hb1'.size)
    rcases hr2 with rfl | ⟨r', rfl, hr'⟩
    · go_wp2_with fail
      go_ret
      exact ⟨-1, rfl, hb2', .inl rfl⟩
    · have hr0 : ¬ (r' : Int) < 0 := by omega
      have HR := hid hr'
      clear hr'
      go_wp2_with fail
      go_ret
      exact ⟨r', rfl, hb2', .inr ⟨r', rfl, by have := HI.out; have := HR.out; omega⟩⟩

set_option maxHeartbeats 1000000 in
set_option maxRecDepth 100000 in
theorem szInstanceS_any (A : Option Addr) (n c : Nat) (is : List Ins) (left : Nat) (w : World) (ha : Inss w A n is) (hz : ∀ i ∈ is, InsOk i) (hn : n ≤ maxLen) (hl : left ≤ 1048576) :
    Calls Tryd.prog 13 #[.slice A n c, .int .i64 left] w fun e w' => ∃ r : Int, e = .returned (.int .i64 r) ∧ Below w.heap.size w w' ∧ (r = -1 ∨ ∃ r' : Nat, r = (r' : Int) ∧ r' + n + inssTot is = left) := by
  have HA := hid ha
  have HZ := hid hz
  clear ha hz
  unfold maxLen at hn
  by_cases h0 : left < n
  · go_enter Tryd.func13, Tryd.ntmps13
    go_wp2_with fail
    go_ret
    exact ⟨-1, rfl, Below.refl _ _, .inl rfl⟩
  · go_enter Tryd.func13, Tryd.ntmps13
    go_wp2_with fail
    go_loopw [1, 5] (fun l i wr => ∃ k l' : Nat, k ≤ n ∧ i = .int .i64 k ∧ l = .int .i64 l' ∧ l' + n + inssTot (is.take k) = left ∧ Below w.heap.size w wr) (fun _ i _ => n - (intOf i).toNat)
    case atStart => exact ⟨0, left - n, Nat.zero_le _, rfl, by go_num, by simp [inssTot]; omega, Below.refl _ _⟩
    case round =>
      obtain ⟨k, l', hk, rfl, rfl, hl', hbel⟩ := hrel
      have HL := hid hl'
      have hll : l' ≤ left := by omega
      clear hl'
      by_cases hlt : k < n
      · obtain ⟨g, o, rfl, hg, hca⟩ := HA.out.2 (by omega)
        have hx : is[k]? = some (is[k]'(by have := HA.out.1; omega)) := List.getElem?_eq_getElem _
        obtain ⟨ca, cb, B, m, cap, cc, hm, hp⟩ := hca k _ hx
        have hsz := HZ.out _ (List.mem_of_getElem? hx)
        obtain ⟨⟨x, y, ns⟩, ex⟩ : ∃ z, is[k]'(by have := HA.out.1; omega) = z := ⟨_, rfl⟩
        rw [ex] at ca cb hsz hx hp
        have HX := hid hx
        have ca' := cell_below ca hg hbel
        have cb' := cell_below cb hg hbel
        have cc' := cell_below cc hg hbel
        have HP := hid (hp.below hbel)
        have HS := hid hsz
        clear hca hx ex ca cb cc hp hsz
        have i1 : (0 : Int) ≤ (k : Int) := by omega
        have i2 : (k : Int) < (n : Int) := by omega
        go_wp2_with (go_at_call 28; refine (szInstance_any x y B m cap ns l' _ HP.out hm HS.out (by omega)).mono ?_; rintro e w1 ⟨r, rfl, hb1, hr⟩; rcases hr with rfl | ⟨r', rfl, hr⟩)
        · go_ret
          exact ⟨-1, rfl, hbel.trans (hb1.mono hbel.size), .inl rfl⟩
        · have HR := hid hr
          clear hr
          go_roundw
          case rel => exact ⟨k + 1, r', hlt, by go_num, rfl, by rw [inssTot_snoc HX.out]; have := HL.out; have := HR.out; omega, hbel.trans (hb1.mono hbel.size)⟩
          case measure => simp [intOf]; omega
      · go_wp2_with fail
        go_ret
        refine ⟨l', rfl, hbel, .inr ⟨l', rfl, ?_⟩⟩
        have h1 := HL.out
        have h2 : is.take k = is := List.take_of_length_le (by have := HA.out.1; omega)
        rw [h2] at h1
        omega

set_option maxHeartbeats 400000 in
set_option maxRecDepth 100000 in
theorem toInstance_any (x y : ByteArray) (A : Option Addr) (n c : Nat) (zs : List (ByteArray × ByteArray)) (w : World) (ha : Prs w A n zs) (hn : n ≤ 1048576) :
    Calls Tryd.prog 33 #[.agg #[.string x, .string y, .slice A n c]] w fun e w' => ∃ g, e = .returned (.agg #[.string x, .string y, .slice (some ⟨g, 0, none⟩) n n]) ∧ w.heap.size ≤ g ∧ OwnPrsNeed w' g n zs ∧ Below w.heap.size w w' := by
  have HA := hid ha
  clear ha
  go_enter Tryd.func33, Tryd.ntmps33
  go_wp2_with fail
  refine (toNeed_any x y _).mono ?_
  rintro e w1 ⟨rfl, hb1⟩
  have zb := hb1.size
  simp only [World.size_alloc] at zb
  have HB := hid (((((Below.refl w.heap.size w).alloc (Nat.le_refl _) (.cells #[.string x, .string y, .slice A n c] 61)).alloc (by simp only [World.size_alloc]; omega) (.cells #[.string ⟨#[]⟩, .string ⟨#[]⟩, .slice none 0 0] 63)).alloc (by simp only [World.size_alloc]; omega) (.cells #[.string ⟨#[]⟩, .string ⟨#[]⟩, .slice none 0 0] 63)).trans (hb1.mono (by simp only [World.size_alloc]; omega)))
  have B0 := hid (show w1.heap[w.heap.size]? = some (.cells #[.string x, .string y, .slice A n c] 61 (0, 0)) from (hb1.block _ (by simp only [World.size_alloc]; omega)).trans ((Below.heap_alloc _ _ _ (by simp only [World.size_alloc]; omega)).trans ((Below.heap_alloc _ _ _ (by simp only [World.size_alloc]; omega)).trans (heap_new1 w _))))
  have B2 := hid (show w1.heap[w.heap.size + 1 + 1]? = some (.cells #[.string ⟨#[]⟩, .string ⟨#[]⟩, .slice none 0 0] 63 (0, 0)) from (hb1.block _ (by simp only [World.size_alloc]; omega)).trans (by
    have := heap_new1 ((w.alloc (.cells #[.string x, .string y, .slice A n c] 61)).alloc (.cells #[.string ⟨#[]⟩, .string ⟨#[]⟩, .slice none 0 0] 63)) (.cells #[.string ⟨#[]⟩, .string ⟨#[]⟩, .slice none 0 0] 63)
    simpa only [World.size_alloc] using this))
  have B1 := hid (show w1.heap[w.heap.size + 1]? = some (.cells #[.string ⟨#[]⟩, .string ⟨#[]⟩, .slice none 0 0] 63 (0, 0)) from (hb1.block _ (by simp only [World.size_alloc]; omega)).trans ((Below.heap_alloc _ _ _ (by simp only [World.size_alloc]; omega)).trans (by
    have := heap_new1 (w.alloc (.cells #[.string x, .string y, .slice A n c] 61)) (.cells #[.string ⟨#[]⟩, .string ⟨#[]⟩, .slice none 0 0] 63)
    simpa only [World.size_alloc] using this)))
  have f2 := frz_blk B2.out
  have q2 : w1.cell? ⟨w.heap.size, 2, none⟩ = some (.slice A n c) := cell_blk B0.out rfl
  have o0 := cell_blk B2.out (j := 0) rfl
  have o1 := cell_blk B2.out (j := 1) rfl
  have o2 := cell_blk B2.out (j := 2) rfl
  go_wp2_with fail
  obtain ⟨W2, hW2⟩ : ∃ W2, (w1.setCell ⟨w.heap.size + 1 + 1, 0, none⟩ (.string x)).setCell ⟨w.heap.size + 1 + 1, 1, none⟩ (.string y) = W2 := ⟨_, rfl⟩
  have hbW : Below w.heap.size w W2 := by rw [← hW2]; exact (HB.out.setCell (by show w.heap.size ≤ w.heap.size + 1 + 1; omega) _).setCell (by show w.heap.size ≤ w.heap.size + 1 + 1; omega) _
  have hzW : W2.heap.size = w1.heap.size := by rw [← hW2]; simp [World.setCell]
  have D2 : W2.heap[w.heap.size + 1 + 1]? = some (.cells #[.string x, .string y, .slice none 0 0] 63 (0, 0)) := by
    have h := B2.out
    rw [← hW2]
    simp [World.setCell, Array.getElem?_modify, h]
  have D1 : W2.heap[w.heap.size + 1]? = some (.cells #[.string ⟨#[]⟩, .string ⟨#[]⟩, .slice none 0 0] 63 (0, 0)) := by
    rw [← hW2, Below.heap_setCell _ _ _ _ (by show w.heap.size + 1 ≠ w.heap.size + 1 + 1; omega), Below.heap_setCell _ _ _ _ (by show w.heap.size + 1 ≠ w.heap.size + 1 + 1; omega)]
    exact B1.out
  rw [hW2]
  have HW := hid hW2
  have HD1 := hid D1
  have HD2 := hid D2
  clear hW2 D1 D2 o0 o1 o2 q2 f2
  refine (toNeedS_any A n c zs W2 (HA.out.below hbW) hn).mono ?_
  rintro e w3 ⟨rfl, hown, hb3⟩
  have HO := hid hown
  have z3 := hb3.size
  have E1 := hid ((hb3.block _ (by omega)).trans HD1.out)
  have E2 := hid ((hb3.block _ (by omega)).trans HD2.out)
  have hbw3 := hid (hbW.trans (hb3.mono hbW.size))
  have f1 := frz_blk E1.out
  have f2 := frz_blk E2.out
  have o0 := cell_blk E2.out (j := 0) rfl
  have o1 := cell_blk E2.out (j := 1) rfl
  have o2 := cell_blk E2.out (j := 2) rfl
  have r0 := cell_blk E1.out (j := 0) rfl
  have r1 := cell_blk E1.out (j := 1) rfl
  have r2 := cell_blk E1.out (j := 2) rfl
  clear hown
  go_wp2_with fail
  refine bodyPost_ret (v := .agg #[.string x, .string y, .slice (some ⟨W2.heap.size, 0, none⟩) n n]) (by simp [results, Tryd.results33, go_sem, r0, r1, r2]) rfl ⟨W2.heap.size, rfl, by omega, ?_, ?_⟩
  · obtain ⟨cur, h1, h2, h3, h4⟩ := HO.out
    refine ⟨cur, ?_, h2, h3, h4⟩
    rw [Below.heap_setCell _ _ _ _ (by show W2.heap.size ≠ w.heap.size + 1; omega), Below.heap_setCell _ _ _ _ (by show W2.heap.size ≠ w.heap.size + 1; omega), Below.heap_setCell _ _ _ _ (by show W2.heap.size ≠ w.heap.size + 1; omega), Below.heap_setCell _ _ _ _ (by show W2.heap.size ≠ w.heap.size + 1 + 1; omega)]
    exact h1
  · exact (((hbw3.out.setCell (by show w.heap.size ≤ w.heap.size + 1 + 1; omega) _).setCell (by show w.heap.size ≤ w.heap.size + 1; omega) _).setCell (by show w.heap.size ≤ w.heap.size + 1; omega) _).setCell (by show w.heap.size ≤ w.heap.size + 1; omega) _

set_option maxHeartbeats 400000 in
set_option maxRecDepth 100000 in
theorem eqInstance_same (x y : ByteArray) (A B : Option Addr) (n c d : Nat) (zs : List (ByteArray × ByteArray)) (w : World) (ha : Prs w A n zs) (hb : Prs w B n zs) (hn : n ≤ 1048576) :
    Calls Tryd.prog 39 #[.agg #[.string x, .string y, .slice A n c], .agg #[.string x, .string y, .slice B n d]] w fun e w' => e = .returned (.bool true) ∧ Below w.heap.size w w' := by
  have HA := hid ha
  have HB := hid hb
  clear ha hb
  go_enter Tryd.func39, Tryd.ntmps39
  go_wp2_with fail
  refine (eqNeed_same x y _).mono ?_
  rintro e w1 ⟨rfl, hb1⟩
  have hb2 : ∀ o o', Below w.heap.size w ((w.alloc o).alloc o') := fun o o' => ((Below.refl _ _).alloc (Nat.le_refl _) o).alloc (by simp only [World.size_alloc]; omega) o'
  have hbw := hid ((hb2 (.cells #[.string x, .string y, .slice A n c] 63) (.cells #[.string x, .string y, .slice B n d] 63)).trans (hb1.mono (hb2 _ _).size))
  have E0 : w1.heap[w.heap.size]? = some (.cells #[.string x, .string y, .slice A n c] 63 (0, 0)) := (hb1.block _ (by simp only [World.size_alloc]; omega)).trans ((Below.heap_alloc _ _ _ (by simp only [World.size_alloc]; omega)).trans (heap_new1 w _))
  have E1 : w1.heap[w.heap.size + 1]? = some (.cells #[.string x, .string y, .slice B n d] 63 (0, 0)) := (hb1.block _ (by simp only [World.size_alloc]; omega)).trans (by
    have := heap_new1 (w.alloc (.cells #[.string x, .string y, .slice A n c] 63)) (.cells #[.string x, .string y, .slice B n d] 63)
    simpa only [World.size_alloc] using this)
  have a2 := cell_blk E0 (j := 2) rfl
  have b2 := cell_blk E1 (j := 2) rfl
  clear E0 E1
  go_wp2_with fail
  refine (eqNeedS_same A B n c d zs w1 (HA.out.below hbw.out) (HB.out.below hbw.out) hn).mono ?_
  rintro e w2 ⟨rfl, hb3⟩
  go_wp2_with fail
  go_ret
  exact ⟨rfl, hbw.out.trans (hb3.mono hbw.out.size)⟩

theorem set1_other {w : World} {k j rb : Nat} (hne : rb ≠ k) (x : Value) : (w.setCell ⟨k, j, none⟩ x).heap[rb]? = w.heap[rb]? := by
  simp [World.setCell, Array.getElem?_modify, Ne.symm hne]

end Go.Proofs.YtgbbobjkhpplkaaDoor
