/- FormatNeed and FormatInstance in the program. -/
import Derived.Test.YtgfjeplciljhlaaDoorNdW
import Derived.Test.YtgfjeplciljhlaaDoorJoin
import Derived.Test.YtgfjeplciljhlaaDoorFmtI
import Derived.OwnWalk
namespace Go.Proofs.YtgfjeplciljhlaaDoor
open Go.RowKit

theorem own_keep {w w' : World} {base : Nat} {e : TypeId} {size : Nat} {v : Value} {n : Nat} {xs : List Value} (h : w.ownsRow base e size v n xs) (hk : ∀ g, v.ownBlock = some g → w'.heap[g]? = w.heap[g]?) : w'.ownsRow base e size v n xs := by
  refine ⟨h.1, ?_⟩
  rcases h.2 with h' | ⟨g, cap, cur, rfl, hb, hg, r⟩
  · exact .inl h'
  · exact .inr ⟨g, cap, cur, rfl, hb, (hk g rfl).trans hg, r⟩
theorem ndt_cat (x y : ByteArray) : x ++ ({ data := #[32] } : ByteArray) ++ y = strOf (ndt (x, y)) := strOf_eq (by simp [ByteArray.data_append, ndt])

set_option maxHeartbeats 400000 in
set_option maxRecDepth 100000 in
theorem formatNeedI_any (x y : ByteArray) (w : World) (h : x.size + y.size ≤ 1048576) :
    Calls Tryd.prog 108 #[.agg #[.string x, .string y]] w fun e w' => e = .returned (.string (strOf (ndt (x, y)))) ∧ Below w.heap.size w w' := by
  have hx : x.size ≤ 1048576 := by omega
  have hy : y.size ≤ 1048576 := by omega
  have HC := hid (ndt_cat x y)
  go_enter Tryd.func108, Tryd.ntmps108
  go_wp2_with fail
  go_ret
  rw [← HC.out]
  exact ⟨rfl, (Below.refl _ _).alloc (Nat.le_refl _) _⟩

set_option maxHeartbeats 1000000 in
set_option maxRecDepth 100000 in
theorem needTexts_any (A : Option Addr) (n c : Nat) (zs : List (ByteArray × ByteArray)) (w : World) (ha : Prs w A n zs) (h0 : 0 < n) (hn : n + tot zs ≤ 1048576) :
    Calls Tryd.prog 109 #[.slice A n c] w fun e w' => ∃ g cap, e = .returned (.slice (some ⟨g, 0, none⟩) n cap) ∧ g < w'.heap.size ∧ n ≤ cap ∧ (∀ (j : Nat) z, zs[j]? = some z → w'.cell? ⟨g, j, none⟩ = some (.string (strOf (ndt z)))) ∧ Below w.heap.size w w' := by
  have HA := hid ha
  clear ha
  have HT := hid hn
  obtain ⟨i0, hi0, hz0, hz1, hz2⟩ := info_parts stringInfo
  have hn' : n ≤ 1048576 := by omega
  clear hn
  go_enter Tryd.func109, Tryd.ntmps109
  go_wp2_with fail
  go_loopw [3, 8] (fun v i wr => ∃ k : Nat, k ≤ n ∧ i = .int .i64 k ∧ wr.ownsRow w.heap.size 9 1 v k ((zs.take k).map fun z => .string (strOf (ndt z))) ∧ Below w.heap.size w wr) (fun _ i _ => n - (intOf i).toNat)
  case atStart => exact ⟨0, Nat.zero_le _, rfl, ⟨rfl, .inl ⟨rfl, rfl⟩⟩, Below.refl _ _⟩
  case round =>
    obtain ⟨k, hk, rfl, hown, hbel⟩ := hrel
    have hsz := hbel.size
    have HW := hid hown
    clear hown
    by_cases hlt : k < n
    · obtain ⟨g, o, rfl, hg, hca⟩ := HA.out.2 (by omega)
      have hx : zs[k]? = some (zs[k]'(by have := HA.out.1; omega)) := List.getElem?_eq_getElem _
      obtain ⟨ca, cb⟩ := hca k _ hx
      have hms := tot_mem (List.mem_of_getElem? hx)
      obtain ⟨⟨x, y⟩, ex⟩ : ∃ z, zs[k]'(by have := HA.out.1; omega) = z := ⟨_, rfl⟩
      rw [ex] at ca cb hx hms
      have hxs : x.size + y.size ≤ 1048576 := by have := HT.out; simp only at hms; omega
      have HX := hid hx
      have ca' := cell_below ca hg hbel
      have cb' := cell_below cb hg hbel
      clear hca hx ex ca cb hms
      have i1 : (0 : Int) ≤ (k : Int) := by omega
      have i2 : (k : Int) < (n : Int) := by omega
      go_wp2_with fail
      refine (formatNeedI_any x y _ hxs).mono ?_
      rintro e w1 ⟨rfl, hb1⟩
      have hb1' := (hbel.alloc hsz _).trans (hb1.mono (by simp only [World.size_alloc]; omega))
      have hz1' := hb1.size
      simp only [World.size_alloc] at hz1'
      have HW1 := hid (own_keep (w' := w1) HW.out fun g' hg' => (hb1.block g' (by have := (HW.out.lt g' hg').2; simp only [World.size_alloc]; omega)).trans (Below.heap_alloc _ _ _ (HW.out.lt g' hg').2))
      go_wp2_with (at_builtin; refine wpList_append_own _ rfl _ _ 70 rfl w.heap.size 9 i0 (.string ⟨#[]⟩) 1 16 Tryd.underlying70 hi0 hz0 hz1 hz2 rfl (by decide) _ k _ rfl (HW1.out.alloc _) ⟨w1.heap.size, 0, none⟩ 1 1 [.string (strOf (ndt (x, y)))] rfl rfl ?c1 ?c2 ?c3 ?c4 ?c5 ?_)
      case c1 =>
        intro j u hj
        rcases j with _ | j
        · simp only [List.getElem?_cons_zero, Option.some.injEq] at hj
          subst hj
          exact cell_new1 w1 _ _
        · simp at hj
      case c2 => simp [Value.oneCell']
      case c3 => unfold maxLen; omega
      case c4 => omega
      case c5 => simp only [World.size_alloc]; omega
      intro v2 w2 hown2 hg2 hv2
      clear hv2
      have HO2 := hid hown2
      have HG2 := hid hg2
      clear hown2 hg2
      go_wp2_with fail
      go_roundw
      case rel =>
        refine ⟨k + 1, hlt, by go_num, ?_, ?_⟩
        · rw [List.take_add_one, HX.out, List.map_append, List.map_take]
          exact HO2.out
        · exact (hb1'.alloc (by omega) _).grown HG2.out (by simp only [World.size_alloc]; omega) (fun k' hk' => (HW.out.lt k' hk').1)
      case measure => simp [intOf]; omega
    · obtain rfl : k = n := by omega
      have hown := HW.out
      have htk : zs.take k = zs := List.take_of_length_le (by have := HA.out.1; omega)
      rw [htk] at hown
      obtain ⟨g, cap, rfl, hg, hgl, hcap, hcell⟩ := own_row hown (by omega)
      have HCELL := hid hcell
      clear hcell hown htk
      go_wp2_with fail
      go_ret
      refine ⟨g, cap, rfl, hgl, hcap, fun j z hz => ?_, hbel⟩
      refine HCELL.out j _ ?_
      rw [List.getElem?_map, hz]
      rfl

/-- Strings joined by '&' in the program. -/
theorem joinI_any (g cap n : Nat) (zs : List (ByteArray × ByteArray)) (w : World) (hz : zs.length = n) (hg : g < w.heap.size) (hc : n ≤ cap) (hcell : ∀ (j : Nat) z, zs[j]? = some z → w.cell? ⟨g, j, none⟩ = some (.string (strOf (ndt z)))) (hn : n + tot zs ≤ 1048576) :
    Calls Tryd.prog 75 #[.slice (some ⟨g, 0, none⟩) n cap, .string { data := #[38] }] w fun e w' => e = .returned (.string (strOf (ndL zs))) ∧ Below w.heap.size w w' := by
  have e1 : (zs.map fun z => strOf (ndt z)).length = n := by rw [List.length_map]; exact hz
  have e2 : (zs.map fun z => strOf (ndt z)).map (·.data.toList) = zs.map ndt := by simp [strOf]
  have hj := Tryd.strings_Join g 0 cap (zs.map fun z => strOf (ndt z)) { data := #[38] } w (fun j x hx => by
    rw [Nat.zero_add]
    rw [List.getElem?_map] at hx
    cases hz : zs[j]? with
    | none => rw [hz] at hx; cases hx
    | some z =>
      rw [hz] at hx
      simp at hx
      subst hx
      exact hcell j z hz) hg (by rw [e1]; omega) (by rw [e1]; exact hc) (by
    have := ndL_len zs
    rw [e2]
    show (ndL zs).length ≤ _
    omega)
  rw [e1, e2] at hj
  exact hj.mono fun e w' h => h

set_option maxHeartbeats 1000000 in
set_option maxRecDepth 100000 in
theorem formatInstanceI_any (x y : ByteArray) (A : Option Addr) (n c : Nat) (zs : List (ByteArray × ByteArray)) (w : World) (ha : Prs w A n zs) (hn : insTot ⟨x, y, zs⟩ ≤ 1048576) :
    Calls Tryd.prog 76 #[.agg #[.string x, .string y, .slice A n c]] w fun e w' => e = .returned (.string (strOf (insL ⟨x, y, zs⟩))) ∧ Below w.heap.size w w' := by
  have hlen := ha.1
  have hn2 : x.size + y.size + n + tot zs ≤ 1048576 := by rw [← hlen]; exact hn
  have HA := hid ha
  have HL := hid hlen
  clear ha hn hlen
  have hs0 : x.size + y.size ≤ 1048576 := by omega
  have hs1 : n + tot zs ≤ 1048576 := by omega
  have hnn : n ≤ 1048576 := by omega
  obtain ⟨q, hq⟩ : ∃ q, strOf (ndt (x, y)) = q := ⟨_, rfl⟩
  have hqs : q.size ≤ 1048577 := by rw [← hq, strOf_size, ndt_len]; simp only; omega
  have HQ := hid hq
  have HN := hid (formatNeedI_any x y (w.alloc (.cells #[.string x, .string y, .slice A n c] 31)) hs0)
  rw [hq] at HN
  clear hq
  go_enter Tryd.func76, Tryd.ntmps76
  go_wp2_with fail
  refine HN.out.mono ?_
  rintro e w1 ⟨rfl, hb1⟩
  have hb1' := ((Below.refl w.heap.size w).alloc (Nat.le_refl _) (.cells #[.string x, .string y, .slice A n c] 31)).trans (hb1.mono (by simp only [World.size_alloc]; omega))
  have hz1 := hb1.size
  simp only [World.size_alloc] at hz1
  have hc2 : w1.cell? ⟨w.heap.size, 2, none⟩ = some (.slice A n c) := cell_blk ((hb1.block _ (by simp only [World.size_alloc]; omega)).trans (heap_new1 w (.cells #[.string x, .string y, .slice A n c] 31))) rfl
  by_cases h0 : n = 0
  · have hz : zs = [] := List.eq_nil_of_length_eq_zero (by rw [HL.out]; exact h0)
    have HE := hid (show strOf (insL ⟨x, y, zs⟩) = q by
      rw [← HQ.out, hz]
      simp [insL])
    subst h0
    clear hz
    go_wp2_with fail
    go_ret
    rw [HE.out]
    exact ⟨rfl, hb1'⟩
  · have h1 : ((n : Int) == 0) = false := by simp; omega
    have HP1 := hid (HA.out.below hb1')
    obtain ⟨r, hr⟩ : ∃ r, strOf (ndL zs) = r := ⟨_, rfl⟩
    have hrs : r.size ≤ 2097152 := by
      rw [← hr, strOf_size]
      have := ndL_len zs
      have := HL.out
      omega
    have HR := hid hr
    have HE := hid (show strOf (insL ⟨x, y, zs⟩) = q ++ ({ data := #[58] } : ByteArray) ++ r by
      symm
      refine strOf_eq ?_
      have hne : zs ≠ [] := by
        rintro rfl
        exact h0 HL.out.symm
      simp [ByteArray.data_append, insL, hne, ← HQ.out, ← HR.out, strOf])
    have hnp : 0 < n := by omega
    go_wp2_with fail
    refine (needTexts_any A n c zs _ HP1.out hnp hs1).mono ?_
    rintro e w2 ⟨g, cap, rfl, hg, hcap, hcell, hb2⟩
    have HJ := hid (joinI_any g cap n zs w2 HL.out hg hcap hcell hs1)
    rw [hr] at HJ
    clear hcell hr
    go_wp2_with fail
    refine HJ.out.mono ?_
    rintro e w3 ⟨rfl, hb3⟩
    go_wp2_with fail
    go_ret
    rw [HE.out]
    exact ⟨rfl, hb1'.trans ((hb2.trans (hb3.mono hb2.size)).mono hb1'.size)⟩

end Go.Proofs.YtgfjeplciljhlaaDoor
