/- Texts with spaces between them: FormatTexts in both. -/
import Derived.Test.YtlpfgiegapelmaaDoorArgsS
import Derived.Test.YtlpfgiegapelmaaDoorArgsB
import Derived.Test.YtlpfgiegapelmaaDoorJoin
import Derived.LoopN
namespace Go.Proofs.YtlpfgiegapelmaaDoor
open Go.RowKit
set_option linter.unusedVariables false

theorem join_snocW (sep : List UInt8) : ∀ (xs : List (List UInt8)) (x : List UInt8), xs ≠ [] → Lib.join (xs ++ [x]) sep = Lib.join xs sep ++ (sep ++ x)
  | [], x, h => absurd rfl h
  | [a], x, _ => by simp [Lib.join, List.intercalate]
  | a :: b :: l, x, _ => by
    have h := join_snocW sep (b :: l) x (by simp)
    simp only [Lib.join, List.intercalate, List.cons_append, List.intersperse, List.flatten_cons] at h ⊢
    rw [h]
    simp
theorem join_lenW (xs : List (List UInt8)) (c : UInt8) : (Lib.join xs [c]).length ≤ (xs.map List.length).sum + xs.length := by
  induction xs with
  | nil => simp [Lib.join, List.intercalate]
  | cons a l ih =>
    rcases l with _ | ⟨b, l⟩
    · simp [Lib.join, List.intercalate]
    · simp only [Lib.join, List.intercalate, List.intersperse, List.flatten_cons, List.length_append, List.map_cons, List.sum_cons, List.length_cons] at ih ⊢
      simp at ih ⊢
      omega
def sumS (xs : List ByteArray) : Nat := (xs.map ByteArray.size).sum
def jn (xs : List ByteArray) : List UInt8 := Lib.join (xs.map (·.data.toList)) [32]
/-- A text, or a dash for the empty one. -/
def orW (j : ByteArray) : ByteArray := if j.size = 0 then { data := #[45] } else j
def ftW (xs : List ByteArray) : ByteArray := orW (strOf (jn xs))
theorem sumS_snoc {xs : List ByteArray} {k : Nat} {x : ByteArray} (h : xs[k]? = some x) : sumS (xs.take (k + 1)) = sumS (xs.take k) + x.size := by
  rw [List.take_add_one, h]
  simp [sumS]
theorem sumS_take (xs : List ByteArray) (k : Nat) : sumS (xs.take k) ≤ sumS xs := by
  have h := congrArg (fun l => (List.map ByteArray.size l).sum) (List.take_append_drop k xs)
  simp only [List.map_append, List.sum_append] at h
  unfold sumS
  omega
theorem jn_len (xs : List ByteArray) : (jn xs).length ≤ sumS xs + xs.length := by
  have h := join_lenW (xs.map (·.data.toList)) 32
  have e : (xs.map (·.data.toList)).map List.length = xs.map ByteArray.size := by
    rw [List.map_map]
    exact List.map_congr_left fun x _ => by simp
  rw [e, List.length_map] at h
  exact h
theorem jn_snoc {xs : List ByteArray} {k : Nat} {x : ByteArray} (h : xs[k]? = some x) : jn (xs.take (k + 1)) = (if k = 0 then [] else jn (xs.take k) ++ [32]) ++ x.data.toList := by
  unfold jn
  rw [List.take_add_one, h]
  have hk := (List.getElem?_eq_some_iff.1 h).1
  by_cases h0 : k = 0
  · subst h0
    simp [Lib.join_one]
  · rw [if_neg h0]
    simp only [Option.toList_some, List.map_append, List.map_cons, List.map_nil]
    rw [join_snocW [32] _ _ (by
      intro e
      have := congrArg List.length e
      rw [List.length_map, List.length_take] at this
      simp only [List.length_nil] at this
      omega)]
    simp

set_option maxHeartbeats 400000 in
theorem szStrings_any (A : Option Addr) (n c : Nat) (xs : List ByteArray) (left : Nat) (w : World) (ha : Strs w A n xs) (hz : ∀ x ∈ xs, x.size ≤ maxLen) (hn : n ≤ maxLen) (hl : left ≤ 1048576) :
    Calls Tryd.prog 43 #[.slice A n c, .int .i64 left] w fun e w' => ∃ (r : Int) (m : Nat), e = .returned (.int .i64 r) ∧ w' = w.drewN m ∧ (r = -1 ∨ (0 ≤ r ∧ n + sumS xs ≤ left)) := by
  have HA := hid ha
  have HZ := hid hz
  clear ha hz
  unfold maxLen at hn
  by_cases h0 : left < n
  · go_enter Tryd.func43, Tryd.ntmps43
    go_wp2_with fail
    go_ret
    exact ⟨-1, 0, rfl, rfl, .inl rfl⟩
  · go_enter Tryd.func43, Tryd.ntmps43
    go_wp2_with fail
    go_loopw [1, 5] (fun l i wr => ∃ k m l' : Nat, k ≤ n ∧ i = .int .i64 k ∧ l = .int .i64 l' ∧ l' + n + sumS (xs.take k) = left ∧ wr = w.drewN m) (fun _ i _ => n - (intOf i).toNat)
    case atStart => exact ⟨0, 0, left - n, Nat.zero_le _, rfl, by go_num, by simp [sumS]; omega, rfl⟩
    case round =>
      obtain ⟨k, m, l', hk, rfl, rfl, hl', rfl⟩ := hrel
      have HL := hid hl'
      have hll : l' ≤ left := by omega
      clear hl'
      by_cases hlt : k < n
      · obtain ⟨g, o, rfl, _, hca⟩ := HA.out.2 (by omega)
        have hx : xs[k]? = some (xs[k]'(by have := HA.out.1; omega)) := List.getElem?_eq_getElem _
        have ca := hca k _ hx
        have hsz := HZ.out _ (List.mem_of_getElem? hx)
        obtain ⟨x, ex⟩ : ∃ x, xs[k]'(by have := HA.out.1; omega) = x := ⟨_, rfl⟩
        rw [ex] at ca hsz hx
        have HX := hid hx
        unfold maxLen at hsz
        clear hca hx ex
        have i1 : (0 : Int) ≤ (k : Int) := by omega
        have i2 : (k : Int) < (n : Int) := by omega
        by_cases hle : l' < x.size
        · go_wp2_with fail
          go_ret
          exact ⟨-1, _, rfl, rfl, .inl rfl⟩
        · go_wp2_with fail
          go_roundw
          case rel => exact ⟨k + 1, _, l' - x.size, hlt, by go_num, by go_num, by rw [sumS_snoc HX.out]; have := HL.out; omega, rfl⟩
          case measure => simp [intOf]; omega
      · have h1 := HL.out
        have h2 : xs.take k = xs := List.take_of_length_le (by have := HA.out.1; omega)
        rw [h2] at h1
        have H1 := hid h1
        clear h1 h2
        go_wp2_with fail
        go_ret
        exact ⟨l', m, rfl, rfl, .inr ⟨by omega, by have := H1.out; omega⟩⟩

set_option maxHeartbeats 400000 in
set_option maxRecDepth 100000 in
theorem cmpOr_any (g cap : Nat) (a : ByteArray) (w : World) (ha : w.cell? ⟨g, 0, none⟩ = some (.string a)) (hb : w.cell? ⟨g, 1, none⟩ = some (.string { data := #[45] })) (r : ByteArray) (hr : Hid (orW a = r)) :
    Calls Tryd.prog 68 #[.slice (some ⟨g, 0, none⟩) 2 cap] w fun e w' => e = .returned (.string r) ∧ w' = w := by
  by_cases h : a.size = 0
  · have h0 : a.toList.isEmpty = true := by
      rw [ByteArray.toList_eq]
      have : a.data.toList.length = 0 := by simpa using h
      rw [List.length_eq_zero_iff.1 this]; rfl
    have hR : r = { data := #[45] } := by rw [← hr.out]; unfold orW; rw [if_pos h]
    subst hR
    clear hr h
    go_enter Tryd.func68, Tryd.ntmps68
    go_wp2_with fail
    refine wp_loop_rounds 3 ?_
    rw [rounds_succ]
    go_wp2_with fail
    rw [rounds_succ]
    go_wp2_with fail
    go_ret
    exact ⟨rfl, rfl⟩
  · have h0 : a.toList.isEmpty = false := by
      rw [ByteArray.toList_eq]
      rcases e : a.data.toList with _ | ⟨x, l⟩
      · exact absurd (by have : a.data.toList.length = 0 := by rw [e]; rfl
                         simpa using this) h
      · rfl
    have hR : r = a := by rw [← hr.out]; unfold orW; rw [if_neg h]
    subst hR
    clear hr h
    go_enter Tryd.func68, Tryd.ntmps68
    go_wp2_with fail
    refine wp_loop_rounds 3 ?_
    rw [rounds_succ]
    go_wp2_with fail
    go_ret
    exact ⟨rfl, rfl⟩

set_option maxHeartbeats 400000 in
set_option maxRecDepth 100000 in
theorem formatTextsI_any (A : Option Addr) (n cap : Nat) (xs : List ByteArray) (w : World) (ha : Strs w A n xs) (hn : n + sumS xs ≤ 104857600) (hc : n ≤ cap) (r : ByteArray) (hr : Hid (ftW xs = r)) :
    Calls Tryd.prog 33 #[.slice A n cap] w fun e w' => e = .returned (.string r) ∧ Below w.heap.size w w' := by
  obtain ⟨j, hj⟩ : ∃ j, strOf (jn xs) = j := ⟨_, rfl⟩
  have HJ := hid hj
  have hor : Hid (orW j = r) := by show _ = _; rw [← hj]; exact hr.out
  have hjoin : Calls Tryd.prog 69 #[.slice A n cap, .string { data := #[32] }] w fun e w' => e = .returned (.string j) ∧ Below w.heap.size w w' := by
    by_cases h0 : 0 < n
    · obtain ⟨g, o, rfl, hg, hcells⟩ := ha.2 h0
      have hl := jn_len xs
      have hx := ha.1
      subst hx
      rw [← hj]
      exact Tryd.strings_Join g o cap xs { data := #[32] } w hcells hg (by omega) hc (by show (jn xs).length ≤ _; omega)
    · obtain rfl : n = 0 := by omega
      have hx : xs = [] := List.length_eq_zero_iff.1 ha.1
      subst hx
      rw [← hj]
      exact (Tryd.strings_Join_none A cap { data := #[32] } w).mono fun e w' ⟨h1, h2⟩ => ⟨h1, by rw [h2]; exact Below.refl _ _⟩
  have HJN := hid hjoin
  clear hj hjoin ha
  go_enter Tryd.func33, Tryd.ntmps33
  go_wp2_with fail
  refine HJN.out.mono ?_
  rintro e w1 ⟨rfl, hb1⟩
  have hW := heap_new1 w1 (.cells #[.string j, .string { data := #[45] }] 9)
  have HOR := hid (cmpOr_any w1.heap.size 2 j _ (cell_blk hW (j := 0) rfl) (cell_blk hW (j := 1) rfl) r hor)
  clear hW
  go_wp2_with fail
  refine HOR.out.mono ?_
  rintro e w2 ⟨rfl, rfl⟩
  go_wp2_with fail
  go_ret
  exact ⟨rfl, hb1.alloc hb1.size _⟩

theorem l12Text_any (a : ByteArray) (w : World) (r : ByteArray) (hr : Hid (orW a = r)) :
    Calls Tryd.prog 67 #[.string a] w fun e w' => e = .returned (.string r) ∧ w' = w := by
  by_cases h : a.size = 0
  · have h0 : a.toList.isEmpty = true := by
      rw [ByteArray.toList_eq]
      have : a.data.toList.length = 0 := by simpa using h
      rw [List.length_eq_zero_iff.1 this]; rfl
    have hR : r = { data := #[45] } := by rw [← hr.out]; unfold orW; rw [if_pos h]
    subst hR
    clear hr h
    go_enter Tryd.func67, Tryd.ntmps67
    go_wp2_with fail
    go_ret
    exact ⟨rfl, rfl⟩
  · have h0 : a.toList.isEmpty = false := by
      rw [ByteArray.toList_eq]
      rcases e : a.data.toList with _ | ⟨x, l⟩
      · exact absurd (by have : a.data.toList.length = 0 := by rw [e]; rfl
                         simpa using this) h
      · rfl
    have hR : r = a := by rw [← hr.out]; unfold orW; rw [if_neg h]
    subst hR
    clear hr h
    go_enter Tryd.func67, Tryd.ntmps67
    go_wp2_with fail
    go_ret
    exact ⟨rfl, rfl⟩

set_option maxHeartbeats 400000 in
set_option maxRecDepth 100000 in
theorem formatTextsS_any (A : Option Addr) (n cap : Nat) (xs : List ByteArray) (w : World) (ha : Strs w A n xs) (hn : n + sumS xs ≤ 104857600) (r : ByteArray) (hr : Hid (ftW xs = r)) :
    Calls Tryd.prog 34 #[.slice A n cap] w fun e w' => e = .returned (.string r) ∧ w' = w := by
  have HA := hid ha
  have hlen : ∀ k, (jn (xs.take k)).length ≤ 209715200 := fun k => by
    have h1 := jn_len (xs.take k)
    have h2 := sumS_take xs k
    have h3 := List.length_take_le k xs
    have h4 := ha.1
    have h5 : (xs.take k).length ≤ xs.length := by rw [List.length_take]; omega
    omega
  have HL := hid hlen
  have hns : ∀ x ∈ xs, x.size ≤ 104857600 := fun x hx => by
    obtain ⟨k, hk, e⟩ := List.mem_iff_getElem.1 hx
    have h1 := sumS_snoc (k := k) (xs := xs) (x := x) (by rw [List.getElem?_eq_getElem hk, e])
    have h2 := sumS_take xs (k + 1)
    omega
  have HNS := hid hns
  have hnn : n ≤ 104857600 := by omega
  clear ha hlen hns hn
  go_enter Tryd.func34, Tryd.ntmps34
  go_wp2_with fail
  go_loopw [3, 8] (fun v i wr => ∃ (k : Nat) (b : ByteArray), k ≤ n ∧ i = .int .i64 k ∧ v = .string b ∧ b = strOf (jn (xs.take k)) ∧ wr = w) (fun _ i _ => n - (intOf i).toNat)
  case atStart => exact ⟨0, ⟨#[]⟩, Nat.zero_le _, rfl, rfl, by rw [List.take_zero]; rfl, rfl⟩
  case round =>
    obtain ⟨k, b, hk, rfl, rfl, hb, rfl⟩ := hrel
    have HB := hid hb
    have hbs : b.size ≤ 209715200 := by rw [hb, strOf_size]; exact HL.out k
    clear hb
    by_cases hlt : k < n
    · obtain ⟨g, o, rfl, hg, hca⟩ := HA.out.2 (by omega)
      have hx : xs[k]? = some (xs[k]'(by have := HA.out.1; omega)) := List.getElem?_eq_getElem _
      have ca := hca k _ hx
      obtain ⟨x, ex⟩ : ∃ z, xs[k]'(by have := HA.out.1; omega) = z := ⟨_, rfl⟩
      rw [ex] at ca hx
      have hxs := HNS.out x (List.mem_of_getElem? hx)
      have HX := hid hx
      clear hca hx ex
      have i1 : (0 : Int) ≤ (k : Int) := by omega
      have i2 : (k : Int) < (n : Int) := by omega
      have hcat1 : ¬ 9223372036854775807 < b.size + ({ data := #[32] } : ByteArray).size := by
        have : ({ data := #[32] } : ByteArray).size = 1 := rfl
        omega
      have hsz : (b ++ ({ data := #[32] } : ByteArray)).size = b.size + 1 := by rw [ByteArray.size_append]; rfl
      by_cases h0 : k = 0
      · have hcat : ¬ 9223372036854775807 < b.size + x.size := by omega
        have hk0 : ¬ (0 : Int) < (k : Int) := by omega
        have H0 := hid h0
        clear h0
        go_wp2_with fail
        go_roundw
        case rel =>
          refine ⟨k + 1, _, by omega, by go_num, rfl, ?_, trivial⟩
          rw [jn_snoc HX.out, if_pos H0.out, HB.out, H0.out, List.take_zero]
          exact strOf_eq (by simp [ByteArray.data_append, strOf, jn, Lib.join, List.intercalate])
        case measure => simp [intOf]; omega
      · have hk0 : (0 : Int) < (k : Int) := by omega
        have hcat : ¬ 9223372036854775807 < (b ++ ({ data := #[32] } : ByteArray)).size + x.size := by rw [hsz]; omega
        clear hsz
        go_wp2_with fail
        go_roundw
        case rel =>
          refine ⟨k + 1, _, by omega, by go_num, rfl, ?_, trivial⟩
          rw [jn_snoc HX.out, if_neg h0, HB.out]
          exact strOf_eq (by simp [ByteArray.data_append, strOf])
        case measure => simp [intOf]; omega
    · have hkn : k = n := by omega
      subst hkn
      have HT := hid (l12Text_any b wr r (by
        show _ = _
        rw [HB.out, List.take_of_length_le (by have := HA.out.1; omega)]
        exact hr.out))
      go_wp2_with fail
      refine HT.out.mono ?_
      rintro e w1 ⟨rfl, rfl⟩
      go_wp2_with fail
      go_ret
      exact ⟨rfl, rfl⟩

end Go.Proofs.YtlpfgiegapelmaaDoor
