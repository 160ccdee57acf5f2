/- FormatBindings in the program. -/
import Derived.Test.YteimmgajohimlaaFmtW
import Derived.Test.YteimmgajohimlaaJoin
import Derived.OwnWalk
namespace Go.Proofs.Yteimmgajohimlaa
open Go.RowKit

theorem bnd_cat (x y : ByteArray) : x ++ ({ data := #[61] } : ByteArray) ++ y = strOf (bnd (x, y)) := strOf_eq (by simp [ByteArray.data_append, bnd])
theorem own_row {w : World} {base n : Nat} {T : TypeId} {v : Value} {xs : List Value} (h : w.ownsRow base T 1 v n xs) (hn : 0 < n) :
    ∃ g cap, v = .slice (some ⟨g, 0, none⟩) n cap ∧ base ≤ g ∧ g < w.heap.size ∧ n ≤ cap ∧ ∀ (j : Nat) u, xs[j]? = some u → w.cell? ⟨g, j, none⟩ = some u := by
  have hc : ∀ g, v.ownBlock = some g → ∀ j u, xs[j]? = some u → w.cell? ((⟨g, 0, none⟩ : Addr).add j) = some u := fun g hg => h.cells hg
  have hl := h.lt
  obtain ⟨h1, ⟨rfl, rfl⟩ | ⟨g, cap, cur, rfl, hb, hg, hnc, _⟩⟩ := h
  · exact absurd hn (Nat.lt_irrefl 0)
  · refine ⟨g, cap, rfl, hb, (hl g rfl).2, hnc, fun j u hj => ?_⟩
    have := hc g rfl j u hj
    rwa [show (⟨g, 0, none⟩ : Addr).add j = ⟨g, j, none⟩ by unfold Addr.add; split <;> simp_all] at this

set_option maxHeartbeats 1000000 in
set_option maxRecDepth 100000 in
theorem fmtI_any (A : Option Addr) (n c : Nat) (zs : List (ByteArray × ByteArray)) (w : World) (ha : Prs w A n zs) (hn : n + tot zs ≤ 1048576) :
    Calls Try.prog 14 #[.slice A n c] w fun e w' => e = .returned (.string (fmtB zs)) ∧ Below w.heap.size w w' := by
  have HA := hid ha
  clear ha
  by_cases h0 : n = 0
  · have hz : zs = [] := List.eq_nil_of_length_eq_zero (by rw [HA.out.1]; exact h0)
    subst h0
    subst hz
    clear hn
    go_enter Try.func14, Try.ntmps14
    go_wp2_with fail
    go_ret
    exact ⟨rfl, Below.refl _ _⟩
  · have h1 : ((n : Int) == 0) = false := by simp; omega
    have hzs : zs ≠ [] := by
      rintro rfl
      exact h0 HA.out.1.symm
    have HB := hid (show fmtB zs = strOf (fmtL zs) by unfold fmtB; rw [if_neg hzs])
    have HL := hid (fmtL_len zs)
    have HT := hid hn
    obtain ⟨i0, hi0, hz0, hz1, hz2⟩ := info_parts stringInfo
    have hn' : n ≤ 1048576 := by omega
    clear hn
    go_enter Try.func14, Try.ntmps14
    go_wp2_with fail
    go_loopw [3, 11] (fun v i wr => ∃ k : Nat, k ≤ n ∧ i = .int .i64 k ∧ wr.ownsRow w.heap.size 9 1 v k ((zs.take k).map fun z => .string (strOf (bnd z))) ∧ Below w.heap.size w wr) (fun _ i _ => n - (intOf i).toNat)
    case atStart => exact ⟨0, Nat.zero_le _, rfl, ⟨rfl, .inl ⟨rfl, rfl⟩⟩, Below.refl _ _⟩
    case round =>
      obtain ⟨k, hk, rfl, hown, hbel⟩ := hrel
      have hsz := hbel.size
      have HW := hid hown
      clear hown
      by_cases hlt : k < n
      · obtain ⟨g, o, rfl, hg, hca⟩ := HA.out.2 (by omega)
        have hx : zs[k]? = some (zs[k]'(by have := HA.out.1; omega)) := List.getElem?_eq_getElem _
        obtain ⟨ca, cb⟩ := hca k _ hx
        have hms := tot_mem (List.mem_of_getElem? hx)
        obtain ⟨⟨x, y⟩, ex⟩ : ∃ z, zs[k]'(by have := HA.out.1; omega) = z := ⟨_, rfl⟩
        rw [ex] at ca cb hx hms
        have hxs : x.size ≤ 1048576 ∧ y.size ≤ 1048576 := by have := HT.out; simp only at hms; omega
        obtain ⟨hxs1, hxs2⟩ := hxs
        have HX := hid hx
        have ca' := cell_below ca hg hbel
        have cb' := cell_below cb hg hbel
        clear hca hx ex ca cb hms
        have i1 : (0 : Int) ≤ (k : Int) := by omega
        have i2 : (k : Int) < (n : Int) := by omega
        go_wp2_with (at_builtin; refine wpList_append_own _ rfl _ _ 31 rfl w.heap.size 9 i0 (.string ⟨#[]⟩) 1 16 Try.underlying31 hi0 hz0 hz1 hz2 rfl (by decide) _ k _ rfl ((HW.out.alloc _).alloc _) ⟨wr.heap.size + 1, 0, none⟩ 1 1 [.string (x ++ { data := #[61] } ++ y)] rfl rfl ?c1 ?c2 ?c3 ?c4 ?c5 ?_)
        case c2 => rfl
        case c3 => unfold maxLen; omega
        case c4 => omega
        case c5 => omega
        intro v2 w2 hown2 hg2 hv2
        clear hv2
        have HO2 := hid hown2
        have HG2 := hid hg2
        clear hown2 hg2
        go_wp2_with fail
        go_roundw
        case rel =>
          refine ⟨k + 1, hlt, by go_num, ?_, ?_⟩
          · rw [List.take_add_one, HX.out, List.map_append, List.map_take]
            have h := HO2.out
            rw [bnd_cat] at h
            exact h
          · exact ((hbel.alloc hsz _).alloc (by simp only [World.size_alloc]; omega) _).grown HG2.out (by simp only [World.size_alloc]; omega) (fun k' hk' => (HW.out.lt k' hk').1)
        case measure => simp [intOf]; omega
      · obtain rfl : k = n := by omega
        have hown := HW.out
        have htk : zs.take k = zs := List.take_of_length_le (by have := HA.out.1; omega)
        rw [htk] at hown
        obtain ⟨g, cap, rfl, hg, hgl, hcap, hcell⟩ := own_row hown (by omega)
        have hj := Try.strings_Join g 0 cap (zs.map fun z => strOf (bnd z)) { data := #[32] } wr (fun j x hx => by
          rw [Nat.zero_add]
          refine hcell j _ ?_
          rw [List.getElem?_map] at hx ⊢
          cases hz : zs[j]? with
          | none => rw [hz] at hx; cases hx
          | some z => rw [hz] at hx; simp at hx; subst hx; rfl) hgl (by rw [List.length_map, HA.out.1]; omega) (by rw [List.length_map, HA.out.1]; exact hcap) (by
          have := HL.out
          have h2 := HT.out
          have h3 := HA.out.1
          have e : (zs.map fun z => strOf (bnd z)).map (·.data.toList) = zs.map bnd := by simp [strOf]
          rw [e]
          show (fmtL zs).length ≤ _
          omega)
        have e1 : (zs.map fun z => strOf (bnd z)).length = k := by rw [List.length_map]; exact HA.out.1
        have e2 : (zs.map fun z => strOf (bnd z)).map (·.data.toList) = zs.map bnd := by simp [strOf]
        rw [e1, e2] at hj
        have HJ := hid hj
        clear hj hcell hown htk e1 e2
        go_wp2_with fail
        refine HJ.out.mono ?_
        rintro e w1 ⟨rfl, hb1⟩
        go_wp2_with fail
        go_ret
        refine ⟨?_, hbel.trans (hb1.mono hsz)⟩
        rw [HB.out]
        rfl

end Go.Proofs.Yteimmgajohimlaa
