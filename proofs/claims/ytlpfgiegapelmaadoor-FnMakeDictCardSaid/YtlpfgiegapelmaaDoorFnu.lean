/- Numbers with spaces between them: FormatNumbers in both. -/
import Derived.Test.YtlpfgiegapelmaaDoorFtx
import Derived.Test.YtlpfgiegapelmaaDoorDec
import Derived.Test.YtlpfgiegapelmaaDoorIt
import Derived.Test.YtlpfgiegapelmaaDoorKeep
import Derived.WalkSmall
import Derived.Lib.ItoaLen
namespace Go.Proofs.YtlpfgiegapelmaaDoor
open Go.RowKit
set_option linter.unusedVariables false

/-- The library's table of powers of ten is as the program lays it. -/
def PTab (w : World) : Prop := Lib.TabIs Tryd.prog w "internal/strconv.uint64pow10" .u64 Lib.pow10Tab
theorem gPow : Tryd.prog.globalNamed "internal/strconv.uint64pow10" = some 0 := by kernel_rfl
theorem PTab.lt {w : World} (h : PTab w) : 0 < w.heap.size := by
  unfold PTab Lib.TabIs World.var? at h
  rw [gPow] at h
  rcases Nat.lt_or_ge 0 w.heap.size with h' | h'
  · exact h'
  · simp [Array.getElem?_eq_none h'] at h
theorem PTab.below {w w' : World} (h : PTab w) (hb : Below w.heap.size w w') : PTab w' := var?_below hb gPow h.lt h
theorem itoaT_any (n : Int) (h0 : -9223372036854775808 ≤ n) (h1 : n ≤ 9223372036854775807) (w : World) (ht : PTab w) (r : ByteArray) (hr : Hid (strOf (Lib.itoa n) = r)) :
    Calls Tryd.prog 60 #[.int .i64 n] w fun e w' => e = .returned (.string r) ∧ Below w.heap.size w w' := by
  refine (Tryd.strconv_Itoa n h0 h1 w ht).mono ?_
  rintro e w' ⟨rfl, k, os, rfl⟩
  exact ⟨by rw [← hr.out]; rfl, ⟨rfl, rfl, rfl, by show w.heap.size ≤ (w.heap ++ os).size; rw [Array.size_append]; omega, fun j hj => by show (w.heap ++ os)[j]? = _; rw [Array.getElem?_append_left hj]⟩⟩

theorem own_madeF {w : World} {base n : Nat} {v : Value} {xs : List ByteArray} (h : w.ownsRow base 9 1 v n (xs.map Value.string)) : ∃ B c, v = .slice B n c ∧ n ≤ c ∧ Strs w B n xs := by
  have hcells : ∀ g, v.ownBlock = some g → ∀ j u, (xs.map Value.string)[j]? = some u → w.cell? ((⟨g, 0, none⟩ : Addr).add j) = some u := fun g hg => h.cells hg
  have hl := h.lt
  obtain ⟨h1, ⟨rfl, h0⟩ | ⟨g, cap, cur, rfl, hb, hg, hnc, _⟩⟩ := h
  · exact ⟨none, 0, by rw [h0], by omega, by simpa using h1, fun h => by omega⟩
  · refine ⟨_, cap, rfl, hnc, by simpa using h1, fun _ => ⟨g, 0, rfl, (hl g rfl).2, fun j x hj => ?_⟩⟩
    have := hcells g rfl j (.string x) (by rw [List.getElem?_map, hj]; rfl)
    rwa [show (⟨g, 0, none⟩ : Addr).add j = ⟨g, 0 + j, none⟩ by unfold Addr.add; split <;> simp_all] at this
def nmL (xs : List Int) : List ByteArray := xs.map fun n => strOf (Lib.itoa n)
def nmW (xs : List Int) : ByteArray := ftW (nmL xs)
def I64s (xs : List Int) : Prop := ∀ x ∈ xs, -9223372036854775808 ≤ x ∧ x ≤ 9223372036854775807
theorem nmL_sum {xs : List Int} (h : I64s xs) : sumS (nmL xs) ≤ 21 * xs.length := by
  induction xs with
  | nil => exact Nat.le_refl _
  | cons x xs ih =>
    obtain ⟨h0, h1⟩ := h x (List.mem_cons_self ..)
    have h2 := ih fun y hy => h y (List.mem_cons_of_mem _ hy)
    have h3 := Lib.itoa_length_le x h0 h1
    unfold sumS nmL at h2 ⊢
    simp only [List.map_cons, List.sum_cons, List.length_cons, strOf_size]
    omega
theorem nmL_at {xs : List Int} {k : Nat} {x : Int} (h : xs[k]? = some x) : (nmL xs)[k]? = some (strOf (Lib.itoa x)) := by unfold nmL; rw [List.getElem?_map, h]; rfl

set_option maxHeartbeats 1000000 in
set_option maxRecDepth 100000 in
theorem formatNumbersI_any (A : Option Addr) (n cap : Nat) (xs : List Int) (w : World) (ha : Ints w A n xs) (hx : I64s xs) (hn : n ≤ 1048576) (ht : PTab w) (r : ByteArray) (hr : Hid (nmW xs = r)) :
    Calls Tryd.prog 31 #[.slice A n cap] w fun e w' => e = .returned (.string r) ∧ Below w.heap.size w w' := by
  obtain ⟨i0, hi0, hz0, hz1, hz2⟩ := info_parts stringInfo
  have HA := hid ha
  have HX := hid hx
  have HTB := hid ht
  clear ha hx ht
  go_enter Tryd.func31, Tryd.ntmps31
  go_wp2_with fail
  go_loopw [3, 8] (fun v i wr => ∃ (k : Nat) (ys : List Value), k ≤ n ∧ i = .int .i64 k ∧ ys = ((nmL xs).take k).map Value.string ∧ wr.ownsRow w.heap.size 9 1 v k ys ∧ Below w.heap.size w wr) (fun _ i _ => n - (intOf i).toNat)
  case atStart => exact ⟨0, [], Nat.zero_le _, rfl, rfl, World.ownsRow_nil _ _ _ _, Below.refl _ _⟩
  case round =>
    obtain ⟨k, ys, hk, rfl, hys, hown, hbel⟩ := hrel
    have HYS := hid hys
    have HOWN := hid hown
    have zr := hbel.size
    clear hys hown
    by_cases hlt : k < n
    · obtain ⟨g, o, rfl, hg, hca⟩ := HA.out.2 (by omega)
      have hx : xs[k]? = some (xs[k]'(by have := HA.out.1; omega)) := List.getElem?_eq_getElem _
      have ca := hca k _ hx
      obtain ⟨x, ex⟩ : ∃ z, xs[k]'(by have := HA.out.1; omega) = z := ⟨_, rfl⟩
      rw [ex] at ca hx
      obtain ⟨h0, h1⟩ := HX.out x (List.mem_of_getElem? hx)
      have ca' := cell_below ca hg hbel
      obtain ⟨t, ht⟩ : ∃ t, strOf (Lib.itoa x) = t := ⟨_, rfl⟩
      have HIT := hid (itoaT_any x h0 h1 wr (HTB.out.below hbel) t ht)
      have HTK := hid (show ((nmL xs).take (k + 1)).map Value.string = ((nmL xs).take k).map Value.string ++ [.string t] by rw [List.take_add_one, nmL_at hx, ht]; simp)
      have HB := hid hbel
      have i1 : (0 : Int) ≤ (k : Int) := by omega
      have i2 : (k : Int) < (n : Int) := by omega
      clear hca hx ex ca ht hbel h0 h1
      go_wp2_with fail
      refine HIT.out.mono ?_
      rintro e w1 ⟨rfl, hb1⟩
      have z1 := hb1.size
      have HB1 := hid (HB.out.trans (hb1.mono zr))
      have HO1 := hid (own_keep HOWN.out fun g hg => hb1.block g (HOWN.out.lt g hg).2)
      clear hb1
      go_wp2_with (at_builtin; refine wpList_append_own _ rfl _ _ 24 rfl w.heap.size 9 i0 (.string ⟨#[]⟩) 1 16 Tryd.underlying24 hi0 hz0 hz1 hz2 rfl (by decide) _ k _ rfl (World.ownsRow.alloc HO1.out _) ⟨w1.heap.size, 0, none⟩ 1 1 [.string t] rfl rfl (cell_one_new _ _ _) ?c2 ?c3 ?c4 ?c5 ?_)
      case c2 => simp [Value.oneCell']
      case c3 => unfold maxLen; omega
      case c4 => omega
      case c5 => simp only [World.size_alloc]; omega
      intro v2 w7 hown7 hg7 hv7
      clear hv7
      have HO7 := hid hown7
      have HG7 := hid hg7
      clear hown7 hg7
      go_wp2_with fail
      go_roundw
      case rel =>
        refine ⟨k + 1, ys ++ [.string t], by omega, by go_num, by rw [HTK.out, ← HYS.out], HO7.out, ?_⟩
        exact (HB1.out.alloc HB1.out.size _).grown HG7.out (by simp only [World.size_alloc]; have := HB1.out.size; omega) (fun k' hk' => (HO1.out.lt k' hk').1)
      case measure => simp [intOf]; omega
    · have hkn : k = n := by omega
      subst hkn
      have hl : (nmL xs).length = k := by unfold nmL; rw [List.length_map]; exact HA.out.1
      have h := HOWN.out
      rw [HYS.out, List.take_of_length_le (by omega)] at h
      obtain ⟨B, c2, rfl, hc2, hst⟩ := own_madeF h
      have hs := nmL_sum HX.out
      have HF := hid (formatTextsI_any B k c2 (nmL xs) wr hst (by have := HA.out.1; omega) hc2 r hr)
      clear h hst hs hl
      go_wp2_with fail
      refine HF.out.mono ?_
      rintro e w1 ⟨rfl, hb1⟩
      go_wp2_with fail
      go_ret
      exact ⟨rfl, hbel.trans (hb1.mono zr)⟩

set_option maxHeartbeats 1000000 in
set_option maxRecDepth 100000 in
theorem formatNumbersS_any (A : Option Addr) (n cap : Nat) (xs : List Int) (w : World) (ha : Ints w A n xs) (hx : I64s xs) (hn : n ≤ 1048576) (r : ByteArray) (hr : Hid (nmW xs = r)) :
    Calls Tryd.prog 32 #[.slice A n cap] w fun e w' => e = .returned (.string r) ∧ Below w.heap.size w w' := by
  have HA := hid ha
  have HX := hid hx
  have hll : (nmL xs).length = n := by unfold nmL; rw [List.length_map]; exact ha.1
  have hlen : ∀ k, (jn ((nmL xs).take k)).length ≤ 209715200 := fun k => by
    have h1 := jn_len ((nmL xs).take k)
    have h2 := sumS_take (nmL xs) k
    have h3 := nmL_sum hx
    have h4 := ha.1
    have h5 : ((nmL xs).take k).length ≤ (nmL xs).length := by rw [List.length_take]; omega
    omega
  have HL := hid hlen
  have HLL := hid hll
  clear ha hx hlen hll
  go_enter Tryd.func32, Tryd.ntmps32
  go_wp2_with fail
  go_loopw [3, 8] (fun v i wr => ∃ (k : Nat) (b : ByteArray), k ≤ n ∧ i = .int .i64 k ∧ v = .string b ∧ b = strOf (jn ((nmL xs).take k)) ∧ Below w.heap.size w wr) (fun _ i _ => n - (intOf i).toNat)
  case atStart => exact ⟨0, ⟨#[]⟩, Nat.zero_le _, rfl, rfl, by rw [List.take_zero]; rfl, Below.refl _ _⟩
  case round =>
    obtain ⟨k, b, hk, rfl, rfl, hb, hbel⟩ := hrel
    have HB := hid hb
    have zr := hbel.size
    have hbs : b.size ≤ 209715200 := by rw [hb, strOf_size]; exact HL.out k
    clear hb
    by_cases hlt : k < n
    · obtain ⟨g, o, rfl, hg, hca⟩ := HA.out.2 (by omega)
      have hx : xs[k]? = some (xs[k]'(by have := HA.out.1; omega)) := List.getElem?_eq_getElem _
      have ca := hca k _ hx
      obtain ⟨x, ex⟩ : ∃ z, xs[k]'(by have := HA.out.1; omega) = z := ⟨_, rfl⟩
      rw [ex] at ca hx
      obtain ⟨h0, h1⟩ := HX.out x (List.mem_of_getElem? hx)
      have ca' := cell_below ca hg hbel
      obtain ⟨t, ht⟩ : ∃ t, strOf (Lib.itoa x) = t := ⟨_, rfl⟩
      have hts : t.size ≤ 21 := by rw [← ht, strOf_size]; exact Lib.itoa_length_le x h0 h1
      have HDC := hid (l13Dec_any x h0 h1 wr t ht)
      have HAT := hid (show (nmL xs)[k]? = some t by rw [nmL_at hx, ht])
      have i1 : (0 : Int) ≤ (k : Int) := by omega
      have i2 : (k : Int) < (n : Int) := by omega
      have hcat1 : ¬ 9223372036854775807 < b.size + ({ data := #[32] } : ByteArray).size := by
        have : ({ data := #[32] } : ByteArray).size = 1 := rfl
        omega
      have hsz : (b ++ ({ data := #[32] } : ByteArray)).size = b.size + 1 := by rw [ByteArray.size_append]; rfl
      clear hca hx ex ca ht h0 h1
      by_cases h0 : k = 0
      · have hcat : ¬ 9223372036854775807 < b.size + t.size := by omega
        have hk0 : ¬ (0 : Int) < (k : Int) := by omega
        have H0 := hid h0
        clear h0
        go_wp2_with fail
        refine HDC.out.mono ?_
        rintro e w1 ⟨rfl, hb1⟩
        have HB1 := hid (hbel.trans (hb1.mono zr))
        clear hb1
        go_wp2_with fail
        go_roundw
        case rel =>
          refine ⟨k + 1, _, by omega, by go_num, rfl, ?_, HB1.out⟩
          rw [jn_snoc HAT.out, if_pos H0.out, HB.out, H0.out, List.take_zero]
          exact strOf_eq (by simp [ByteArray.data_append, strOf, jn, Lib.join, List.intercalate])
        case measure => simp [intOf]; omega
      · have hk0 : (0 : Int) < (k : Int) := by omega
        have hcat : ¬ 9223372036854775807 < (b ++ ({ data := #[32] } : ByteArray)).size + t.size := by rw [hsz]; omega
        clear hsz
        go_wp2_with fail
        refine HDC.out.mono ?_
        rintro e w1 ⟨rfl, hb1⟩
        have HB1 := hid (hbel.trans (hb1.mono zr))
        clear hb1
        go_wp2_with fail
        go_roundw
        case rel =>
          refine ⟨k + 1, _, by omega, by go_num, rfl, ?_, HB1.out⟩
          rw [jn_snoc HAT.out, if_neg h0, HB.out]
          exact strOf_eq (by simp [ByteArray.data_append, strOf])
        case measure => simp [intOf]; omega
    · have hkn : k = n := by omega
      subst hkn
      have HT := hid (l12Text_any b wr r (by
        show _ = _
        rw [HB.out, List.take_of_length_le (by have := HLL.out; omega)]
        exact hr.out))
      go_wp2_with fail
      refine HT.out.mono ?_
      rintro e w1 ⟨rfl, rfl⟩
      go_wp2_with fail
      go_ret
      exact ⟨rfl, hbel⟩

end Go.Proofs.YtlpfgiegapelmaaDoor
