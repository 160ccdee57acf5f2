/- Needs with '&' between them: FormatNeeds in the program and in the model. -/
import Derived.Test.YtjpdiahbnhemoaaNdS
namespace Go.Proofs.Ytjpdiahbnhemoaa
open Go.RowKit
set_option linter.unusedVariables false

/-- The text of needs; a dash for none. -/
def fmN (zs : List (ByteArray × ByteArray)) : ByteArray := if zs = [] then { data := #[45] } else strOf (ndL zs)

theorem ndL_ne {zs : List (ByteArray × ByteArray)} (h : zs ≠ []) : ndL zs ≠ [] := by
  rcases zs with _ | ⟨z, _ | ⟨y, ys⟩⟩
  · exact absurd rfl h
  · rw [ndL_one]
    unfold ndt
    simp
  · rw [ndL_cons]
    simp

set_option maxHeartbeats 1000000 in
set_option maxRecDepth 100000 in
theorem needTextsO_any (A : Option Addr) (n c : Nat) (zs : List (ByteArray × ByteArray)) (w : World) (ha : Prs w A n zs) (hn : n + tot zs ≤ 1048576) :
    Calls Try.prog 56 #[.slice A n c] w fun e w' => (∃ v, e = .returned v ∧ w'.ownsRow w.heap.size 9 1 v n ((zs.map fun z => strOf (ndt z)).map Value.string)) ∧ Below w.heap.size w w' := by
  have HA := hid ha
  clear ha
  have HT := hid hn
  obtain ⟨i0, hi0, hz0, hz1, hz2⟩ := info_parts stringInfo
  have hn' : n ≤ 1048576 := by omega
  clear hn
  go_enter Try.func56, Try.ntmps56
  go_wp2_with fail
  go_loopw [3, 8] (fun v i wr => ∃ k : Nat, k ≤ n ∧ i = .int .i64 k ∧ wr.ownsRow w.heap.size 9 1 v k ((zs.take k).map fun z => .string (strOf (ndt z))) ∧ Below w.heap.size w wr) (fun _ i _ => n - (intOf i).toNat)
  case atStart => exact ⟨0, Nat.zero_le _, rfl, ⟨rfl, .inl ⟨rfl, rfl⟩⟩, Below.refl _ _⟩
  case round =>
    obtain ⟨k, hk, rfl, hown, hbel⟩ := hrel
    have hsz := hbel.size
    have HW := hid hown
    clear hown
    by_cases hlt : k < n
    · obtain ⟨g, o, rfl, hg, hca⟩ := HA.out.2 (by omega)
      have hx : zs[k]? = some (zs[k]'(by have := HA.out.1; omega)) := List.getElem?_eq_getElem _
      obtain ⟨ca, cb⟩ := hca k _ hx
      have hms := tot_mem (List.mem_of_getElem? hx)
      obtain ⟨⟨x, y⟩, ex⟩ : ∃ z, zs[k]'(by have := HA.out.1; omega) = z := ⟨_, rfl⟩
      rw [ex] at ca cb hx hms
      have hxs : x.size + y.size ≤ 1048576 := by have := HT.out; simp only at hms; omega
      have HX := hid hx
      have ca' := cell_below ca hg hbel
      have cb' := cell_below cb hg hbel
      clear hca hx ex ca cb hms
      have i1 : (0 : Int) ≤ (k : Int) := by omega
      have i2 : (k : Int) < (n : Int) := by omega
      go_wp2_with fail
      refine (formatNeedI_any x y _ hxs).mono ?_
      rintro e w1 ⟨rfl, hb1⟩
      have hb1' := (hbel.alloc hsz _).trans (hb1.mono (by simp only [World.size_alloc]; omega))
      have hz1' := hb1.size
      simp only [World.size_alloc] at hz1'
      have HW1 := hid (own_keep (w' := w1) HW.out fun g' hg' => (hb1.block g' (by have := (HW.out.lt g' hg').2; simp only [World.size_alloc]; omega)).trans (Below.heap_alloc _ _ _ (HW.out.lt g' hg').2))
      go_wp2_with (at_builtin; refine wpList_append_own _ rfl _ _ 88 rfl w.heap.size 9 i0 (.string ⟨#[]⟩) 1 16 Try.underlying88 hi0 hz0 hz1 hz2 rfl (by decide) _ k _ rfl (HW1.out.alloc _) ⟨w1.heap.size, 0, none⟩ 1 1 [.string (strOf (ndt (x, y)))] rfl rfl ?c1 ?c2 ?c3 ?c4 ?c5 ?_)
      case c1 =>
        intro j u hj
        rcases j with _ | j
        · simp only [List.getElem?_cons_zero, Option.some.injEq] at hj
          subst hj
          exact cell_new1 w1 _ _
        · simp at hj
      case c2 => simp [Value.oneCell']
      case c3 => unfold maxLen; omega
      case c4 => omega
      case c5 => simp only [World.size_alloc]; omega
      intro v2 w2 hown2 hg2 hv2
      clear hv2
      have HO2 := hid hown2
      have HG2 := hid hg2
      clear hown2 hg2
      go_wp2_with fail
      go_roundw
      case rel =>
        refine ⟨k + 1, hlt, by go_num, ?_, ?_⟩
        · rw [List.take_add_one, HX.out, List.map_append, List.map_take]
          exact HO2.out
        · exact (hb1'.alloc (by omega) _).grown HG2.out (by simp only [World.size_alloc]; omega) (fun k' hk' => (HW.out.lt k' hk').1)
      case measure => simp [intOf]; omega
    · obtain rfl : k = n := by omega
      have hown := HW.out
      have htk : zs.take k = zs := List.take_of_length_le (by have := HA.out.1; omega)
      rw [htk] at hown
      have e0 : zs.map (fun z => Value.string (strOf (ndt z))) = (zs.map fun z => strOf (ndt z)).map Value.string := by rw [List.map_map]; rfl
      rw [e0] at hown
      have HO := hid hown
      clear hown htk e0
      go_wp2_with fail
      go_ret
      exact ⟨⟨_, rfl, HO.out⟩, hbel⟩

set_option maxHeartbeats 1000000 in
set_option maxRecDepth 100000 in
theorem formatNeedsI_any (A : Option Addr) (n c : Nat) (zs : List (ByteArray × ByteArray)) (w : World) (ha : Prs w A n zs) (hn : n + tot zs ≤ 1048576) :
    Calls Try.prog 35 #[.slice A n c] w fun e w' => e = .returned (.string (fmN zs)) ∧ Below w.heap.size w w' := by
  have HN := hid (needTextsO_any A n c zs w ha hn)
  have HL := hid ha.1
  have HT := hid hn
  obtain ⟨r, hr⟩ : ∃ r, fmN zs = r := ⟨_, rfl⟩
  have HR := hid hr
  rw [hr]
  clear ha hn hr
  go_enter Try.func35, Try.ntmps35
  go_wp2_with fail
  refine HN.out.mono ?_
  rintro e w1 ⟨⟨v, rfl, hown⟩, hb1⟩
  have e2 : (zs.map fun z => strOf (ndt z)).map (·.data.toList) = zs.map ndt := by simp [strOf]
  have HTX := hid (textOfAll_any w.heap.size n v (zs.map fun z => strOf (ndt z)) { data := #[38] } w1 hown (by have := HT.out; omega) (by rw [List.length_map]; exact HL.out) (by
    have h1 := ndL_len zs
    have h2 := HT.out
    have h3 := HL.out
    rw [e2]
    show (ndL zs).length ≤ _
    omega) r (by
    show _ = _
    rw [← HR.out]
    unfold allW fmN
    by_cases hz : zs = []
    · subst hz; rfl
    · rw [if_neg hz, if_neg (by simpa using hz), e2]
      rfl))
  clear hown e2
  go_wp2_with fail
  refine HTX.out.mono ?_
  rintro e w2 ⟨rfl, hb2⟩
  go_wp2_with fail
  go_ret
  exact ⟨rfl, hb1.trans (hb2.mono hb1.size)⟩

set_option maxHeartbeats 1000000 in
set_option maxRecDepth 100000 in
theorem formatNeedsS_any (A : Option Addr) (n c : Nat) (zs : List (ByteArray × ByteArray)) (w : World) (ha : Prs w A n zs) (hn : n + tot zs ≤ 1048576) :
    Calls Try.prog 33 #[.slice A n c] w fun e w' => e = .returned (.string (fmN zs)) ∧ Below w.heap.size w w' := by
  have HA := hid ha
  have HL := hid ha.1
  have HT := hid hn
  have HLEN := fun k => hid (ndL_len (zs.take k))
  have hnn : n ≤ 1048576 := by omega
  obtain ⟨r, hr⟩ : ∃ r, fmN zs = r := ⟨_, rfl⟩
  have HR := hid hr
  rw [hr]
  clear ha hn hr
  go_enter Try.func33, Try.ntmps33
  go_wp2_with fail
  go_loopw [3, 8] (fun o i wr => ∃ (k : Nat) (b : ByteArray), k ≤ n ∧ i = .int .i64 k ∧ o = .string b ∧ b.data.toList = ndL (zs.take k) ∧ Below w.heap.size w wr) (fun _ i _ => n - (intOf i).toNat)
  case atStart => exact ⟨0, _, Nat.zero_le _, rfl, rfl, by rw [List.take_zero, ndL_nil], Below.refl _ _⟩
  case round =>
    obtain ⟨k, b, hk, rfl, rfl, hb, hbel⟩ := hrel
    have hsz := hbel.size
    have hbs : b.size ≤ 3145728 := by
      have e : b.size = b.data.toList.length := by simp
      rw [e, hb]
      have h1 := (HLEN k).out
      have h2 := HT.out
      have h3 := tot_take_le zs k
      rw [List.length_take] at h1
      omega
    have HB := hid hb
    clear hb
    by_cases hlt : k < n
    · obtain ⟨g, o, rfl, hg, hca⟩ := HA.out.2 (by omega)
      have hx : zs[k]? = some (zs[k]'(by have := HA.out.1; omega)) := List.getElem?_eq_getElem _
      obtain ⟨ca, cb⟩ := hca k _ hx
      have hms := tot_mem (List.mem_of_getElem? hx)
      obtain ⟨⟨x', y'⟩, ex⟩ : ∃ z, zs[k]'(by have := HA.out.1; omega) = z := ⟨_, rfl⟩
      rw [ex] at ca cb hx hms
      have hxs : x'.size + y'.size ≤ 1048576 := by have := HT.out; simp only at hms; omega
      have HTK := hid (show zs.take (k + 1) = zs.take k ++ [(x', y')] by rw [List.take_add_one, hx]; rfl)
      have ca' := cell_below ca hg hbel
      have cb' := cell_below cb hg hbel
      clear hca hx ex ca cb hms
      obtain ⟨q, hq⟩ : ∃ q, strOf (ndt (x', y')) = q := ⟨_, rfl⟩
      have hqs : q.size ≤ 1048577 := by rw [← hq, strOf_size, ndt_len]; simp only; omega
      have HQ := hid hq
      have HN := hid (fun W => formatNeedS_any x' y' W hxs)
      simp only [hq] at HN
      clear hq
      have i1 : (0 : Int) ≤ (k : Int) := by omega
      have i2 : (k : Int) < (n : Int) := by omega
      have hcat1 : ¬ 9223372036854775807 < b.size + ({ data := #[38] } : ByteArray).size := by
        have : ({ data := #[38] } : ByteArray).size = 1 := rfl
        omega
      have hcat2 : ¬ 9223372036854775807 < (b ++ ({ data := #[38] } : ByteArray)).size + q.size := by rw [ByteArray.size_append]; have : ({ data := #[38] } : ByteArray).size = 1 := rfl; omega
      have hcat3 : ¬ 9223372036854775807 < b.size + q.size := by omega
      by_cases h0 : k = 0
      · have HK0 := hid (show zs.take k = [] by rw [h0]; rfl)
        have h1 : ¬ (0 : Int) < (k : Int) := by omega
        clear h0
        go_wp2_with fail
        refine (HN.out _).mono ?_
        rintro e w2 ⟨rfl, hb2⟩
        go_wp2_with fail
        go_roundw
        case rel =>
          refine ⟨k + 1, _, hlt, by go_num, rfl, ?_, (hbel.alloc hsz _).trans (hb2.mono (by simp only [World.size_alloc]; omega))⟩
          rw [HTK.out, HK0.out, List.nil_append, ndL_one]
          have h := HB.out
          rw [HK0.out, ndL_nil] at h
          simp [ByteArray.data_append, h, ← HQ.out, strOf]
        case measure => simp [intOf]; omega
      · have h1 : (0 : Int) < (k : Int) := by omega
        have HNE := hid (show zs.take k ≠ [] by
          intro e
          have := congrArg List.length e
          rw [List.length_take, HL.out] at this
          simp at this
          omega)
        go_wp2_with fail
        refine (HN.out _).mono ?_
        rintro e w2 ⟨rfl, hb2⟩
        go_wp2_with fail
        go_roundw
        case rel =>
          refine ⟨k + 1, _, hlt, by go_num, rfl, ?_, (hbel.alloc hsz _).trans (hb2.mono (by simp only [World.size_alloc]; omega))⟩
          rw [HTK.out, ndL_snoc HNE.out]
          simp [ByteArray.data_append, HB.out, ← HQ.out, strOf]
        case measure => simp [intOf]; omega
    · obtain rfl : k = n := by omega
      have htk : zs.take k = zs := List.take_of_length_le (by have := HL.out; omega)
      have hbz := HB.out
      rw [htk] at hbz
      by_cases hz : zs = []
      · have hR : r = { data := #[45] } := by rw [← HR.out]; unfold fmN; rw [if_pos hz]
        have h0 : b.toList.isEmpty = true := by
          rw [ByteArray.toList_eq, hbz, hz]; rfl
        clear htk hbz hz
        subst hR
        go_wp2_with fail
        go_ret
        exact ⟨rfl, hbel⟩
      · have hR : r = b := by rw [← HR.out]; unfold fmN; rw [if_neg hz]; exact (strOf_eq hbz).symm
        have h0 : b.toList.isEmpty = false := by
          rw [ByteArray.toList_eq, hbz]
          rcases e : ndL zs with _ | ⟨x, l⟩
          · exact absurd e (ndL_ne hz)
          · rfl
        clear htk hbz hz
        subst hR
        go_wp2_with fail
        go_ret
        exact ⟨rfl, hbel⟩

end Go.Proofs.Ytjpdiahbnhemoaa
