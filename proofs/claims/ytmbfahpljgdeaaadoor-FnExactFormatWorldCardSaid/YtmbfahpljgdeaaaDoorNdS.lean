/- FormatNeed and FormatInstance in the model. -/
import Derived.Test.YtmbfahpljgdeaaaDoorNdI
namespace Go.Proofs.YtmbfahpljgdeaaaDoor
open Go.RowKit

set_option maxHeartbeats 400000 in
set_option maxRecDepth 100000 in
theorem formatNeedS_any (x y : ByteArray) (w : World) (h : x.size + y.size ≤ 1048576) :
    Calls Tryd.prog 85 #[.agg #[.string x, .string y]] w fun e w' => e = .returned (.string (strOf (ndt (x, y)))) ∧ Below w.heap.size w w' := by
  have hx : x.size ≤ 1048576 := by omega
  have hy : y.size ≤ 1048576 := by omega
  have HC := hid (ndt_cat x y)
  go_enter Tryd.func85, Tryd.ntmps85
  go_wp2_with fail
  go_ret
  rw [← HC.out]
  exact ⟨rfl, (Below.refl _ _).alloc (Nat.le_refl _) _⟩

/-- The text of an instance with its first k needs. -/
theorem insL_zero (x y : ByteArray) : insL ⟨x, y, []⟩ = ndt (x, y) := by simp [insL]
theorem insL_one (x y : ByteArray) (z : ByteArray × ByteArray) : insL ⟨x, y, [z]⟩ = ndt (x, y) ++ 58 :: ndt z := by simp [insL, ndL_one]
theorem insL_snoc (x y : ByteArray) {zs : List (ByteArray × ByteArray)} (h : zs ≠ []) (z : ByteArray × ByteArray) : insL ⟨x, y, zs ++ [z]⟩ = insL ⟨x, y, zs⟩ ++ 38 :: ndt z := by
  simp [insL, h, ndL_snoc h]

set_option maxHeartbeats 1000000 in
set_option maxRecDepth 100000 in
theorem formatInstanceS_any (x y : ByteArray) (A : Option Addr) (n c : Nat) (zs : List (ByteArray × ByteArray)) (w : World) (ha : Prs w A n zs) (hn : insTot ⟨x, y, zs⟩ ≤ 1048576) :
    Calls Tryd.prog 61 #[.agg #[.string x, .string y, .slice A n c]] w fun e w' => e = .returned (.string (strOf (insL ⟨x, y, zs⟩))) ∧ Below w.heap.size w w' := by
  have hlen := ha.1
  have hn2 : x.size + y.size + n + tot zs ≤ 1048576 := by rw [← hlen]; exact hn
  have HA := hid ha
  have HL := hid hlen
  have HLEN := fun k => hid (insL_len ⟨x, y, zs.take k⟩)
  clear ha hn hlen
  have hs0 : x.size + y.size ≤ 1048576 := by omega
  have hs1 : n + tot zs ≤ 1048576 := by omega
  have hnn : n ≤ 1048576 := by omega
  have HT := hid hn2
  clear hn2
  go_enter Tryd.func61, Tryd.ntmps61
  go_wp2_with fail
  refine (formatNeedS_any x y _ hs0).mono ?_
  rintro e w1 ⟨rfl, hb1⟩
  have hb1' := ((Below.refl w.heap.size w).alloc (Nat.le_refl _) (.cells #[.string x, .string y, .slice A n c] 45)).trans (hb1.mono (by simp only [World.size_alloc]; omega))
  have hz1 := hb1.size
  simp only [World.size_alloc] at hz1
  have hc2 : w1.cell? ⟨w.heap.size, 2, none⟩ = some (.slice A n c) := cell_blk ((hb1.block _ (by simp only [World.size_alloc]; omega)).trans (heap_new1 w (.cells #[.string x, .string y, .slice A n c] 45))) rfl
  go_wp2_with fail
  go_loopw [3, 12] (fun o i wr => ∃ (k : Nat) (b : ByteArray), k ≤ n ∧ i = .int .i64 k ∧ o = .string b ∧ b.data.toList = insL ⟨x, y, zs.take k⟩ ∧ Below w.heap.size w wr) (fun _ i _ => n - (intOf i).toNat)
  case atStart => exact ⟨0, _, Nat.zero_le _, rfl, rfl, by rw [strOf_list, List.take_zero, insL_zero], hb1'⟩
  case round =>
    obtain ⟨k, b, hk, rfl, rfl, hb, hbel⟩ := hrel
    have hsz := hbel.size
    have hbs : b.size ≤ 3145728 := by
      have e : b.size = b.data.toList.length := by simp
      rw [e, hb]
      have h1 := (HLEN k).out
      have h2 := HT.out
      have h3 := tot_take_le zs k
      unfold insTot at h1
      simp only [List.length_take] at h1
      omega
    have HB := hid hb
    clear hb
    by_cases hlt : k < n
    · obtain ⟨g, o, rfl, hg, hca⟩ := HA.out.2 (by omega)
      have hx : zs[k]? = some (zs[k]'(by have := HA.out.1; omega)) := List.getElem?_eq_getElem _
      obtain ⟨ca, cb⟩ := hca k _ hx
      have hms := tot_mem (List.mem_of_getElem? hx)
      obtain ⟨⟨x', y'⟩, ex⟩ : ∃ z, zs[k]'(by have := HA.out.1; omega) = z := ⟨_, rfl⟩
      rw [ex] at ca cb hx hms
      have hxs : x'.size + y'.size ≤ 1048576 := by have := HT.out; simp only at hms; omega
      have HTK := hid (show zs.take (k + 1) = zs.take k ++ [(x', y')] by rw [List.take_add_one, hx]; rfl)
      have ca' := cell_below ca hg hbel
      have cb' := cell_below cb hg hbel
      clear hca hx ex ca cb hms
      obtain ⟨q, hq⟩ : ∃ q, strOf (ndt (x', y')) = q := ⟨_, rfl⟩
      have hqs : q.size ≤ 1048577 := by rw [← hq, strOf_size, ndt_len]; simp only; omega
      have HQ := hid hq
      have HN := hid (fun W => formatNeedS_any x' y' W hxs)
      simp only [hq] at HN
      clear hq
      have i1 : (0 : Int) ≤ (k : Int) := by omega
      have i2 : (k : Int) < (n : Int) := by omega
      by_cases h0 : k = 0
      · have HK0 := hid (show zs.take k = [] by rw [h0]; rfl)
        have h1 : ((k : Int) == 0) = true := by simp; omega
        clear h0
        go_wp2_with fail
        refine (HN.out _).mono ?_
        rintro e w2 ⟨rfl, hb2⟩
        go_wp2_with fail
        go_roundw
        case rel =>
          refine ⟨k + 1, _, hlt, by go_num, rfl, ?_, (hbel.alloc hsz _).trans (hb2.mono (by simp only [World.size_alloc]; omega))⟩
          rw [HTK.out, HK0.out, List.nil_append, insL_one]
          have h := HB.out
          rw [HK0.out, insL_zero] at h
          simp [ByteArray.data_append, h, ← HQ.out, strOf]
        case measure => simp [intOf]; omega
      · have h1 : ((k : Int) == 0) = false := by simp; omega
        have HNE := hid (show zs.take k ≠ [] by
          intro e
          have := congrArg List.length e
          rw [List.length_take, HL.out] at this
          simp at this
          omega)
        go_wp2_with fail
        refine (HN.out _).mono ?_
        rintro e w2 ⟨rfl, hb2⟩
        go_wp2_with fail
        go_roundw
        case rel =>
          refine ⟨k + 1, _, hlt, by go_num, rfl, ?_, (hbel.alloc hsz _).trans (hb2.mono (by simp only [World.size_alloc]; omega))⟩
          rw [HTK.out, insL_snoc _ _ HNE.out]
          simp [ByteArray.data_append, HB.out, ← HQ.out, strOf]
        case measure => simp [intOf]; omega
    · obtain rfl : k = n := by omega
      have htk : zs.take k = zs := List.take_of_length_le (by have := HL.out; omega)
      have HE := hid (show strOf (insL ⟨x, y, zs⟩) = b by
        have h := HB.out
        rw [htk] at h
        exact (strOf_eq h).symm)
      clear htk
      go_wp2_with fail
      go_ret
      rw [HE.out]
      exact ⟨rfl, hbel⟩

end Go.Proofs.YtmbfahpljgdeaaaDoor
