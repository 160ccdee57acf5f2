/- FormatBindings in the model. -/
import Derived.Test.YtjpdiahbnhemoaaNdI
namespace Go.Proofs.Ytjpdiahbnhemoaa
open Go.RowKit

set_option maxHeartbeats 1000000 in
set_option maxRecDepth 100000 in
theorem fmtS_any (A : Option Addr) (n c : Nat) (zs : List (ByteArray × ByteArray)) (w : World) (ha : Prs w A n zs) (hn : n + tot zs ≤ 1048576) :
    Calls Try.prog 20 #[.slice A n c] w fun e w' => e = .returned (.string (fmtB zs)) ∧ Below w.heap.size w w' := by
  have HA := hid ha
  have HL := fun k => hid (fmtL_len (zs.take k))
  have HT := hid hn
  have hn' : n ≤ 1048576 := by omega
  clear ha hn
  go_enter Try.func20, Try.ntmps20
  go_wp2_with fail
  go_loopw [3, 8] (fun o i wr => ∃ (k : Nat) (b : ByteArray), k ≤ n ∧ i = .int .i64 k ∧ o = .string b ∧ b.data.toList = fmtL (zs.take k) ∧ Below w.heap.size w wr) (fun _ i _ => n - (intOf i).toNat)
  case atStart => exact ⟨0, ⟨#[]⟩, Nat.zero_le _, rfl, rfl, rfl, Below.refl _ _⟩
  case round =>
    obtain ⟨k, b, hk, rfl, rfl, hb, hbel⟩ := hrel
    have hsz := hbel.size
    have hbs : b.size ≤ 3145728 := by
      have e : b.size = b.data.toList.length := by simp
      rw [e, hb]
      have h1 := (HL k).out
      have h2 := HT.out
      have h3 := tot_take_le zs k
      rw [List.length_take] at h1
      omega
    have HB := hid hb
    clear hb
    by_cases hlt : k < n
    · obtain ⟨g, o, rfl, hg, hca⟩ := HA.out.2 (by omega)
      have hx : zs[k]? = some (zs[k]'(by have := HA.out.1; omega)) := List.getElem?_eq_getElem _
      obtain ⟨ca, cb⟩ := hca k _ hx
      have hms := tot_mem (List.mem_of_getElem? hx)
      obtain ⟨⟨x, y⟩, ex⟩ : ∃ z, zs[k]'(by have := HA.out.1; omega) = z := ⟨_, rfl⟩
      rw [ex] at ca cb hx hms
      have hxs : x.size ≤ 1048576 ∧ y.size ≤ 1048576 := by have := HT.out; simp only at hms; omega
      obtain ⟨hxs1, hxs2⟩ := hxs
      have HTK := hid (show zs.take (k + 1) = zs.take k ++ [(x, y)] by rw [List.take_add_one, hx]; rfl)
      have ca' := cell_below ca hg hbel
      have cb' := cell_below cb hg hbel
      clear hca hx ex ca cb hms
      have i1 : (0 : Int) ≤ (k : Int) := by omega
      have i2 : (k : Int) < (n : Int) := by omega
      by_cases h0 : k = 0
      · have h1 : ¬ (0 : Int) < (k : Int) := by omega
        have HB0 := hid (show b.data.toList = [] by rw [HB.out, h0]; rfl)
        have HK0 := hid (show zs.take k = [] by rw [h0]; rfl)
        clear h0
        go_wp2_with fail
        go_roundw
        case rel =>
          refine ⟨k + 1, _, hlt, by go_num, rfl, ?_, hbel.alloc hsz _⟩
          rw [HTK.out, HK0.out, List.nil_append, fmtL_one]
          simp [ByteArray.data_append, bnd, HB0.out]
        case measure => simp [intOf]; omega
      · have h1 : (0 : Int) < (k : Int) := by omega
        have HNE := hid (show zs.take k ≠ [] by
          intro e
          have := congrArg List.length e
          rw [List.length_take, HA.out.1] at this
          simp at this
          omega)
        go_wp2_with fail
        go_roundw
        case rel =>
          refine ⟨k + 1, _, hlt, by go_num, rfl, ?_, hbel.alloc hsz _⟩
          rw [HTK.out, fmtL_snoc HNE.out]
          simp [ByteArray.data_append, bnd, HB.out]
        case measure => simp [intOf]; omega
    · obtain rfl : k = n := by omega
      have htk : zs.take k = zs := List.take_of_length_le (by have := HA.out.1; omega)
      by_cases h0 : zs = []
      · have hem : b.toList.isEmpty = true := by
          rw [ByteArray.toList_eq, HB.out, htk, h0]
          rfl
        clear htk
        have HF := hid (show fmtB zs = { data := #[45] } by rw [h0]; rfl)
        go_wp2_with fail
        go_ret
        refine ⟨?_, hbel⟩
        rw [HF.out]
        rfl
      · have hem : b.toList.isEmpty = false := by
          rw [ByteArray.toList_eq, HB.out, htk]
          have := fmtL_ne h0
          cases h : fmtL zs with
          | nil => exact absurd h this
          | cons => rfl
        have HF := hid (show fmtB zs = b by
          unfold fmtB
          rw [if_neg h0, ← htk, ← HB.out]
          exact (strOf_eq rfl).symm)
        clear htk
        go_wp2_with fail
        go_ret
        refine ⟨?_, hbel⟩
        rw [HF.out]
        rfl

end Go.Proofs.Ytjpdiahbnhemoaa
