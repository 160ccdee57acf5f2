/- Gaps with spaces between them: FormatGaps in both. -/
import Derived.Test.YtlpfgiegapelmaaDoorFnu
import Derived.Test.YtlpfgiegapelmaaDoorArgG
import Derived.Test.YtlpfgiegapelmaaDoorNdI
import Derived.Deep.RegionWith
import Derived.Deep.Cut
import Derived.RegionTactic
namespace Go.Proofs.YtlpfgiegapelmaaDoor
open Go.RowKit
set_option linter.unusedVariables false

def gpT (z : Int × ByteArray) : ByteArray := strOf (Lib.itoa z.1 ++ z.2.data.toList)
def gpL (zs : List (Int × ByteArray)) : List ByteArray := zs.map gpT
def gpW (zs : List (Int × ByteArray)) : ByteArray := ftW (gpL zs)
def GpOk (zs : List (Int × ByteArray)) : Prop := ∀ z ∈ zs, (-9223372036854775808 ≤ z.1 ∧ z.1 ≤ 9223372036854775807) ∧ z.2.size ≤ maxLen
theorem gpT_size {z : Int × ByteArray} (h0 : -9223372036854775808 ≤ z.1) (h1 : z.1 ≤ 9223372036854775807) : (gpT z).size ≤ 21 + z.2.size := by
  have h3 := Lib.itoa_length_le z.1 h0 h1
  have e : z.2.size = z.2.data.toList.length := by simp
  unfold gpT
  rw [strOf_size, List.length_append]
  omega
theorem gpL_sum {zs : List (Int × ByteArray)} (h : GpOk zs) : sumS (gpL zs) ≤ 21 * zs.length + totG zs := by
  induction zs with
  | nil => exact Nat.le_refl _
  | cons x xs ih =>
    obtain ⟨⟨h0, h1⟩, _⟩ := h x (List.mem_cons_self ..)
    have h2 := ih fun y hy => h y (List.mem_cons_of_mem _ hy)
    have h3 := gpT_size h0 h1
    unfold sumS gpL totG at h2 ⊢
    simp only [List.map_cons, List.sum_cons, List.length_cons]
    omega
theorem gpL_at {zs : List (Int × ByteArray)} {k : Nat} {z : Int × ByteArray} (h : zs[k]? = some z) : (gpL zs)[k]? = some (gpT z) := by unfold gpL; rw [List.getElem?_map, h]; rfl
theorem totG_mem {zs : List (Int × ByteArray)} {z : Int × ByteArray} (h : z ∈ zs) : z.2.size ≤ totG zs := by
  induction zs with
  | nil => cases h
  | cons a l ih =>
    unfold totG at ih ⊢
    simp only [List.map_cons, List.sum_cons]
    rcases List.mem_cons.1 h with rfl | h
    · omega
    · have := ih h; omega
theorem itoa_ne (n : Int) : Lib.itoa n ≠ [] := by
  have hd : ∀ m, Lib.decDigits m ≠ [] := fun m => by
    by_cases h : m < 10
    · rw [Lib.decDigits_one h]; simp
    · rw [dec_step h]; simp
  by_cases h : 0 ≤ n
  · obtain ⟨k, rfl⟩ : ∃ k : Nat, n = (k : Int) := ⟨n.toNat, by omega⟩
    rw [Lib.itoa_nonneg]
    exact hd k
  · obtain ⟨k, rfl⟩ : ∃ k : Nat, n = -(k : Int) := ⟨(-n).toNat, by omega⟩
    rw [Lib.itoa_neg k (by omega)]
    simp

theorem gpL_jn {zs : List (Int × ByteArray)} (h : zs ≠ []) : jn (gpL zs) ≠ [] := by
  rcases zs with _ | ⟨z, zs⟩
  · exact absurd rfl h
  · have h1 : (gpT z).data.toList ≠ [] := by
      unfold gpT
      rw [strOf_list]
      simp [itoa_ne]
    rcases zs with _ | ⟨y, ys⟩
    · simp [gpL, jn, Lib.join, List.intercalate]
      simpa using h1
    · simp [gpL, jn, Lib.join, List.intercalate]

set_option maxHeartbeats 400000 in
set_option maxRecDepth 100000 in
theorem gapTextI_any (x : Int) (y : ByteArray) (h0 : -9223372036854775808 ≤ x) (h1 : x ≤ 9223372036854775807) (hy : y.size ≤ 1048576) (w : World) (ht : PTab w) :
    Calls Tryd.prog 72 #[.agg #[.int .i64 x, .string y]] w fun e w' => e = .returned (.string (gpT (x, y))) ∧ Below w.heap.size w w' := by
  obtain ⟨t, ht'⟩ : ∃ t, strOf (Lib.itoa x) = t := ⟨_, rfl⟩
  have hts : t.size ≤ 21 := by rw [← ht', strOf_size]; exact Lib.itoa_length_le x h0 h1
  have HIT := hid (fun (W : World) (hW : Below w.heap.size w W) => itoaT_any x h0 h1 W (ht.below hW) t ht')
  have HR := hid (show t ++ y = gpT (x, y) by rw [← ht']; exact strOf_eq (by simp [ByteArray.data_append, strOf]))
  have hcat : ¬ 9223372036854775807 < t.size + y.size := by omega
  have hW := heap_new1 w (.cells #[.int .i64 x, .string y] 82)
  obtain ⟨W, hWW⟩ : ∃ W, w.alloc (.cells #[.int .i64 x, .string y] 82) = W := ⟨_, rfl⟩
  rw [hWW] at hW
  have zW : w.heap.size < W.heap.size := by rw [← hWW]; simp only [World.size_alloc]; omega
  have HB0 := hid (show Below w.heap.size w W by rw [← hWW]; exact (Below.refl _ _).alloc (Nat.le_refl _) _)
  have HWC := hid (fun (V : World) (hV : Below W.heap.size W V) => show V.cell? ⟨w.heap.size, 1, none⟩ = some (.string y) from cell_blk ((hV.block _ zW).trans hW) (j := 1) rfl)
  have c0 := cell_blk hW (j := 0) rfl
  have c1 := cell_blk hW (j := 1) rfl
  have HWE := hid hWW
  clear ht' hW ht hWW
  go_enter Tryd.func72, Tryd.ntmps72
  go_upto_region 2 with fail
  rw [HWE.out]
  go_region_with (go_at_call 60; refine (HIT.out W.drew HB0.out.drew).mono ?_; rintro e w1 ⟨rfl, hb1⟩; have d1 := HWC.out w1 ((Below.refl _ W).drew.trans hb1))
  all_goals
    go_wp2_with fail
    go_ret
    exact ⟨by rw [← HR.out]; rfl, HB0.out.trans (Below.mono ((Below.refl _ W).drew.trans hb1) HB0.out.size)⟩

set_option maxHeartbeats 1000000 in
set_option maxRecDepth 100000 in
theorem formatGapsI_any (A : Option Addr) (n cap : Nat) (zs : List (Int × ByteArray)) (w : World) (ha : Gps w A n zs) (hx : GpOk zs) (hn : n + totG zs ≤ 1048576) (ht : PTab w) (r : ByteArray) (hr : Hid (gpW zs = r)) :
    Calls Tryd.prog 38 #[.slice A n cap] w fun e w' => e = .returned (.string r) ∧ Below w.heap.size w w' := by
  obtain ⟨i0, hi0, hz0, hz1, hz2⟩ := info_parts stringInfo
  have HA := hid ha
  have HX := hid hx
  have HTB := hid ht
  have HT := hid hn
  have hnn : n ≤ 1048576 := by omega
  clear ha hx ht hn
  go_enter Tryd.func38, Tryd.ntmps38
  go_wp2_with fail
  go_loopw [3, 8] (fun v i wr => ∃ (k : Nat) (ys : List Value), k ≤ n ∧ i = .int .i64 k ∧ ys = ((gpL zs).take k).map Value.string ∧ wr.ownsRow w.heap.size 9 1 v k ys ∧ Below w.heap.size w wr) (fun _ i _ => n - (intOf i).toNat)
  case atStart => exact ⟨0, [], Nat.zero_le _, rfl, rfl, World.ownsRow_nil _ _ _ _, Below.refl _ _⟩
  case round =>
    obtain ⟨k, ys, hk, rfl, hys, hown, hbel⟩ := hrel
    have HYS := hid hys
    have HOWN := hid hown
    have zr := hbel.size
    clear hys hown
    by_cases hlt : k < n
    · obtain ⟨g, o, rfl, hg, hca⟩ := HA.out.2 (by omega)
      have hx : zs[k]? = some (zs[k]'(by have := HA.out.1; omega)) := List.getElem?_eq_getElem _
      obtain ⟨ca, cb⟩ := hca k _ hx
      obtain ⟨⟨x, y⟩, ex⟩ : ∃ z, zs[k]'(by have := HA.out.1; omega) = z := ⟨_, rfl⟩
      rw [ex] at ca cb hx
      have hmem := List.mem_of_getElem? hx
      obtain ⟨⟨h0, h1⟩, _⟩ := HX.out _ hmem
      have hyt := totG_mem hmem
      have hys1 : y.size ≤ 1048576 := by have := HT.out; simp only at hyt; omega
      have ca' := cell_below ca hg hbel
      have cb' := cell_below cb hg hbel
      obtain ⟨t, ht⟩ : ∃ t, gpT (x, y) = t := ⟨_, rfl⟩
      have HIT := hid (fun (W : World) (hW : Below w.heap.size w W) => gapTextI_any x y h0 h1 hys1 W (HTB.out.below hW))
      rw [ht] at HIT
      have HTK := hid (show ((gpL zs).take (k + 1)).map Value.string = ((gpL zs).take k).map Value.string ++ [.string t] by rw [List.take_add_one, gpL_at hx, ht]; simp)
      have HB := hid hbel
      have i1 : (0 : Int) ≤ (k : Int) := by omega
      have i2 : (k : Int) < (n : Int) := by omega
      clear hca hx ex ca cb ht hbel h0 h1 hmem hyt
      go_wp2_with fail
      refine (HIT.out _ (HB.out.alloc zr _)).mono ?_
      rintro e w1 ⟨rfl, hb1⟩
      have z1 := hb1.size
      simp only [World.size_alloc] at z1
      have R1 := hid (((Below.refl wr.heap.size wr).alloc (Nat.le_refl _) _).trans (hb1.mono (by simp only [World.size_alloc]; omega)))
      have HB1 := hid (HB.out.trans (R1.out.mono zr))
      have HO1 := hid (own_keep HOWN.out fun g hg => R1.out.block g (HOWN.out.lt g hg).2)
      clear hb1
      go_wp2_with (at_builtin; refine wpList_append_own _ rfl _ _ 24 rfl w.heap.size 9 i0 (.string ⟨#[]⟩) 1 16 Tryd.underlying24 hi0 hz0 hz1 hz2 rfl (by decide) _ k _ rfl (World.ownsRow.alloc HO1.out _) ⟨w1.heap.size, 0, none⟩ 1 1 [.string t] rfl rfl (cell_one_new _ _ _) ?c2 ?c3 ?c4 ?c5 ?_)
      case c2 => simp [Value.oneCell']
      case c3 => unfold maxLen; omega
      case c4 => omega
      case c5 => simp only [World.size_alloc]; omega
      intro v2 w7 hown7 hg7 hv7
      clear hv7
      have HO7 := hid hown7
      have HG7 := hid hg7
      clear hown7 hg7
      go_wp2_with fail
      go_roundw
      case rel =>
        refine ⟨k + 1, ys ++ [.string t], by omega, by go_num, by rw [HTK.out, ← HYS.out], HO7.out, ?_⟩
        exact (HB1.out.alloc HB1.out.size _).grown HG7.out (by simp only [World.size_alloc]; have := HB1.out.size; omega) (fun k' hk' => (HO1.out.lt k' hk').1)
      case measure => simp [intOf]; omega
    · have hkn : k = n := by omega
      subst hkn
      have hl : (gpL zs).length = k := by unfold gpL; rw [List.length_map]; exact HA.out.1
      have h := HOWN.out
      rw [HYS.out, List.take_of_length_le (by omega)] at h
      have hs := gpL_sum HX.out
      have hjl := jn_len (gpL zs)
      have HF := hid (textOfAll_any w.heap.size k _ (gpL zs) { data := #[32] } wr h (by omega) hl (by
        have := HT.out
        have := HA.out.1
        show (jn (gpL zs)).length ≤ _
        omega) r (by
        show _ = _
        rw [← hr.out]
        unfold allW gpW ftW
        by_cases hz : zs = []
        · subst hz; rfl
        · have hne : gpL zs ≠ [] := by unfold gpL; simpa using hz
          rw [if_neg hne]
          show strOf (jn (gpL zs)) = orW (strOf (jn (gpL zs)))
          unfold orW
          rw [if_neg]
          rw [strOf_size]
          exact fun e => gpL_jn hz (List.length_eq_zero_iff.1 e)))
      clear h hs hl hjl
      go_wp2_with fail
      refine HF.out.mono ?_
      rintro e w1 ⟨rfl, hb1⟩
      go_wp2_with fail
      go_ret
      exact ⟨rfl, hbel.trans (hb1.mono zr)⟩

set_option maxHeartbeats 1000000 in
set_option maxRecDepth 100000 in
theorem formatGapsS_any (A : Option Addr) (n cap : Nat) (zs : List (Int × ByteArray)) (w : World) (ha : Gps w A n zs) (hx : GpOk zs) (hn : n + totG zs ≤ 1048576) (r : ByteArray) (hr : Hid (gpW zs = r)) :
    Calls Tryd.prog 36 #[.slice A n cap] w fun e w' => e = .returned (.string r) ∧ Below w.heap.size w w' := by
  have HA := hid ha
  have HX := hid hx
  have HT := hid hn
  have hnn : n ≤ 1048576 := by omega
  have hll : (gpL zs).length = n := by unfold gpL; rw [List.length_map]; exact ha.1
  have hlen : ∀ k, (jn ((gpL zs).take k)).length ≤ 209715200 := fun k => by
    have h1 := jn_len ((gpL zs).take k)
    have h2 := sumS_take (gpL zs) k
    have h3 := gpL_sum hx
    have h4 := ha.1
    have h5 : ((gpL zs).take k).length ≤ (gpL zs).length := by rw [List.length_take]; omega
    omega
  have HL := hid hlen
  have HLL := hid hll
  clear ha hx hlen hll hn
  go_enter Tryd.func36, Tryd.ntmps36
  go_wp2_with fail
  go_loopw [3, 8] (fun v i wr => ∃ (k : Nat) (b : ByteArray), k ≤ n ∧ i = .int .i64 k ∧ v = .string b ∧ b = strOf (jn ((gpL zs).take k)) ∧ Below w.heap.size w wr) (fun _ i _ => n - (intOf i).toNat)
  case atStart => exact ⟨0, ⟨#[]⟩, Nat.zero_le _, rfl, rfl, by rw [List.take_zero]; rfl, Below.refl _ _⟩
  case round =>
    obtain ⟨k, b, hk, rfl, rfl, hb, hbel⟩ := hrel
    have HB := hid hb
    have zr := hbel.size
    have hbs : b.size ≤ 209715200 := by rw [hb, strOf_size]; exact HL.out k
    clear hb
    by_cases hlt : k < n
    · obtain ⟨g, o, rfl, hg, hca⟩ := HA.out.2 (by omega)
      have hx : zs[k]? = some (zs[k]'(by have := HA.out.1; omega)) := List.getElem?_eq_getElem _
      obtain ⟨ca, cb⟩ := hca k _ hx
      obtain ⟨⟨x, y⟩, ex⟩ : ∃ z, zs[k]'(by have := HA.out.1; omega) = z := ⟨_, rfl⟩
      rw [ex] at ca cb hx
      have hmem := List.mem_of_getElem? hx
      obtain ⟨⟨h0, h1⟩, _⟩ := HX.out _ hmem
      have hyt := totG_mem hmem
      have hys1 : y.size ≤ 1048576 := by have := HT.out; simp only at hyt; omega
      have ca' := cell_below ca hg hbel
      have cb' := cell_below cb hg hbel
      obtain ⟨t, ht⟩ : ∃ t, strOf (Lib.itoa x) = t := ⟨_, rfl⟩
      have hts : t.size ≤ 21 := by rw [← ht, strOf_size]; exact Lib.itoa_length_le x h0 h1
      have HDC := hid (fun (W : World) => l13Dec_any x h0 h1 W t ht)
      have HAT := hid (show (gpL zs)[k]? = some (t ++ y) by
        rw [gpL_at hx]
        show some (strOf (Lib.itoa x ++ y.data.toList)) = _
        rw [← ht]
        exact congrArg some (strOf_eq (by simp [ByteArray.data_append, strOf])).symm)
      have i1 : (0 : Int) ≤ (k : Int) := by omega
      have i2 : (k : Int) < (n : Int) := by omega
      have hsz1 : ({ data := #[32] } : ByteArray).size = 1 := rfl
      have hcat1 : ¬ 9223372036854775807 < b.size + ({ data := #[32] } : ByteArray).size := by omega
      have hcat2 : ¬ 9223372036854775807 < (b ++ ({ data := #[32] } : ByteArray)).size + t.size := by rw [ByteArray.size_append]; omega
      have hcat3 : ¬ 9223372036854775807 < (b ++ ({ data := #[32] } : ByteArray) ++ t).size + y.size := by rw [ByteArray.size_append, ByteArray.size_append]; omega
      have hcat4 : ¬ 9223372036854775807 < b.size + t.size := by omega
      have hcat5 : ¬ 9223372036854775807 < (b ++ t).size + y.size := by rw [ByteArray.size_append]; omega
      obtain ⟨W, hW⟩ : ∃ W, wr.alloc (.cells #[.int .i64 x, .string y] 82) = W := ⟨_, rfl⟩
      have hWc := heap_new1 wr (.cells #[.int .i64 x, .string y] 82)
      rw [hW] at hWc
      have zW : wr.heap.size < W.heap.size := by rw [← hW]; simp only [World.size_alloc]; omega
      have HBW := hid (show Below w.heap.size w W by rw [← hW]; exact hbel.alloc zr _)
      have HWC := hid (fun (V : World) (hV : Below W.heap.size W V) => show V.cell? ⟨wr.heap.size, 1, none⟩ = some (.string y) from cell_blk ((hV.block _ zW).trans hWc) (j := 1) rfl)
      have m0 := cell_blk hWc (j := 0) rfl
      have m1 := cell_blk hWc (j := 1) rfl
      clear hca hx ex ca cb ht h0 h1 hmem hyt hWc hsz1
      by_cases h0 : k = 0
      · have hk0 : ¬ (0 : Int) < (k : Int) := by omega
        have H0 := hid h0
        clear h0
        go_wp2_with fail
        go_region_with (go_at_call 66; refine (HDC.out W.drew).mono ?_; rintro e w1 ⟨rfl, hb1⟩; have d1 := HWC.out w1 ((Below.refl _ W).drew.trans hb1))
        all_goals
          have HB1 := hid (HBW.out.trans (Below.mono ((Below.refl _ W).drew.trans hb1) HBW.out.size))
          clear hb1
          go_wp2_with fail
          go_roundw
          case rel =>
            refine ⟨k + 1, _, by omega, by go_num, rfl, ?_, HB1.out⟩
            rw [jn_snoc HAT.out, if_pos H0.out, HB.out, H0.out, List.take_zero]
            exact strOf_eq (by simp [ByteArray.data_append, strOf, jn, Lib.join, List.intercalate])
          case measure => simp [intOf]; omega
      · have hk0 : (0 : Int) < (k : Int) := by omega
        go_wp2_with fail
        go_region_with (go_at_call 66; refine (HDC.out W.drew).mono ?_; rintro e w1 ⟨rfl, hb1⟩; have d1 := HWC.out w1 ((Below.refl _ W).drew.trans hb1))
        all_goals
          have HB1 := hid (HBW.out.trans (Below.mono ((Below.refl _ W).drew.trans hb1) HBW.out.size))
          clear hb1
          go_wp2_with fail
          go_roundw
          case rel =>
            refine ⟨k + 1, _, by omega, by go_num, rfl, ?_, HB1.out⟩
            rw [jn_snoc HAT.out, if_neg h0, HB.out]
            exact strOf_eq (by simp [ByteArray.data_append, strOf])
          case measure => simp [intOf]; omega
    · have hkn : k = n := by omega
      subst hkn
      have hbf := HB.out
      rw [List.take_of_length_le (by have := HLL.out; omega)] at hbf
      have hrf : orW b = r := by rw [hbf, ← hr.out]; rfl
      by_cases hb0 : b.size = 0
      · have h0 : b.toList.isEmpty = true := by
          rw [ByteArray.toList_eq]
          have : b.data.toList.length = 0 := by simpa using hb0
          rw [List.length_eq_zero_iff.1 this]; rfl
        have hR : r = { data := #[45] } := by rw [← hrf]; unfold orW; rw [if_pos hb0]
        subst hR
        clear hr hrf hbf hb0
        go_wp2_with fail
        go_ret
        exact ⟨rfl, hbel⟩
      · have h0 : b.toList.isEmpty = false := by
          rw [ByteArray.toList_eq]
          rcases e : b.data.toList with _ | ⟨x, l⟩
          · exact absurd (by have : b.data.toList.length = 0 := by rw [e]; rfl
                             simpa using this) hb0
          · rfl
        have hR : r = b := by rw [← hrf]; unfold orW; rw [if_neg hb0]
        subst hR
        clear hr hrf hbf hb0
        go_wp2_with fail
        go_ret
        exact ⟨rfl, hbel⟩

end Go.Proofs.YtlpfgiegapelmaaDoor
