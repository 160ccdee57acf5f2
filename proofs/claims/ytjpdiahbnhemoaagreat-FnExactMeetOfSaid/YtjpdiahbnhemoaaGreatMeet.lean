/- MeetOf, in the program and in the model. -/
import Derived.Test.YtjpdiahbnhemoaaGreatUtS
namespace Go.Proofs.YtjpdiahbnhemoaaGreat
open Go.RowKit

/-- What two texts meet in. -/
noncomputable def meetOf (l l' : List UInt8) : Option (List UInt8) :=
  match uniOf l l' with
  | none => none
  | some g => apOf (told g) l
theorem uniOf_short {l l' : List UInt8} {g : UInt8 → Option Ty} (h : uniOf l l' = some g) : ufOf l l' = some g ∧ Short g := by
  unfold uniOf at h
  split at h
  · cases h
  · rename_i h' hu
    split at h
    · rename_i hs
      injection h with h
      subst h
      exact ⟨hu, hs⟩
    · cases h
theorem told_small {g : UInt8 → Option Ty} (h : Short g) : ∀ z ∈ told g, z.1.size ≤ 1 ∧ z.2.size ≤ 60 := by
  intro z hz
  unfold told at hz
  obtain ⟨c, _, hc⟩ := List.mem_filterMap.1 hz
  rcases hg : g c with _ | t
  · rw [hg] at hc; cases hc
  · rw [hg] at hc
    have e : (strOf [c], strOf t.text) = z := by injection hc
    rw [← e, strOf_size, strOf_size]
    exact ⟨Nat.le_refl _, h c t hg⟩
theorem told_len' (f : UInt8 → Option Ty) : (told f).length ≤ 6 := by
  unfold told
  exact Nat.le_trans (List.length_filterMap_le _ _) (by decide)
theorem told_max {g : UInt8 → Option Ty} (h : Short g) : ∀ z ∈ told g, z.1.size ≤ maxLen ∧ z.2.size ≤ maxLen := by
  intro z hz
  have := told_small h z hz
  unfold maxLen
  omega

set_option maxHeartbeats 800000 in
theorem meetI_any (a b : ByteArray) (w : World) (ha : a.size ≤ maxLen) (hb : b.size ≤ maxLen) : Calls Tryz.prog 5 #[.string a, .string b] w fun e w' => e = .returned (.tuple #[.string (apS (meetOf a.data.toList b.data.toList)), .bool (meetOf a.data.toList b.data.toList).isSome]) ∧ Below w.heap.size w w' := by
  have hU := unifyTypes_any a b w ha hb
  obtain ⟨m, hm⟩ : ∃ m, meetOf a.data.toList b.data.toList = m := ⟨_, rfl⟩
  rw [hm]
  unfold UnifyEnd at hU
  unfold meetOf at hm
  rcases ho : uniOf a.data.toList b.data.toList with _ | g
  · rw [ho] at hU hm
    obtain rfl : none = m := hm
    have HU := hid hU
    clear hU ho
    go_enter Tryz.func5, Tryz.ntmps5
    go_wp2_with fail
    refine HU.out.mono ?_
    rintro e w1 ⟨hb1, rfl⟩
    go_wp2_with fail
    exact bodyPost_ret (v := .tuple #[.string ⟨#[]⟩, .bool false]) (by simp [results, Tryz.results5, go_sem]) rfl ⟨rfl, hb1⟩
  · rw [ho] at hU hm
    have hs := (uniOf_short ho).2
    have HZ := hid (told_max hs)
    have HU := hid hU
    have HM := hid (show apOf (told g) a.data.toList = m from hm)
    obtain ⟨zs, hzs⟩ : ∃ zs, told g = zs := ⟨_, rfl⟩
    have hz6 : zs.length ≤ 6 := by rw [← hzs]; exact told_len' g
    rw [hzs] at HZ HM
    simp only [hzs] at HU
    obtain ⟨q, hq⟩ : ∃ q, apS m = q := ⟨_, rfl⟩
    obtain ⟨bb, hbb⟩ : ∃ b, m.isSome = b := ⟨_, rfl⟩
    rw [hq, hbb]
    have HQ := hid hq
    have HB := hid hbb
    obtain ⟨n, hn⟩ : ∃ n, zs.length = n := ⟨_, rfl⟩
    have HN := hid hn
    rw [hn] at hz6
    clear hU ho hm hs hzs hq hbb hn
    go_enter Tryz.func5, Tryz.ntmps5
    go_wp2_with fail
    refine HU.out.mono ?_
    rintro e w1 ⟨hb1, v, rfl, hown⟩
    rw [HN.out] at hown
    obtain ⟨B, cp, rfl, _, hp⟩ := own_pairs hown
    clear hown
    have hA := apI_any B n cp zs a w1 hp HZ.out (by omega) ha
    rw [HM.out, HQ.out, HB.out] at hA
    have HA := hid hA
    clear hA hp
    go_wp2_with fail
    refine HA.out.mono ?_
    rintro e w2 ⟨rfl, hb2⟩
    go_wp2_with fail
    exact bodyPost_ret (v := .tuple #[.string q, .bool bb]) (by simp [results, Tryz.results5, go_sem]) rfl ⟨rfl, hb1.trans (hb2.mono hb1.size)⟩

set_option maxHeartbeats 800000 in
theorem meetS_any (a b : ByteArray) (w : World) (ha : a.size ≤ maxLen) (hb : b.size ≤ maxLen) : Calls Tryz.prog 4 #[.string a, .string b] w fun e w' => e = .returned (.tuple #[.string (apS (meetOf a.data.toList b.data.toList)), .bool (meetOf a.data.toList b.data.toList).isSome]) ∧ Below w.heap.size w w' := by
  have hU := unifyTypesS_any a b w ha hb
  obtain ⟨m, hm⟩ : ∃ m, meetOf a.data.toList b.data.toList = m := ⟨_, rfl⟩
  rw [hm]
  unfold UnifyEndS at hU
  unfold meetOf at hm
  rcases ho : uniOf a.data.toList b.data.toList with _ | g
  · rw [ho] at hU hm
    obtain rfl : none = m := hm
    have HU := hid hU
    clear hU ho
    go_enter Tryz.func4, Tryz.ntmps4
    go_wp2_with fail
    refine HU.out.mono ?_
    rintro e w1 ⟨hb1, v, rfl, hown⟩
    obtain ⟨B, cp, rfl, _, _⟩ := own_pairs (zs := []) hown
    clear hown
    go_wp2_with fail
    exact bodyPost_ret (v := .tuple #[.string ⟨#[]⟩, .bool false]) (by simp [results, Tryz.results4, go_sem]) rfl ⟨rfl, hb1⟩
  · rw [ho] at hU hm
    have hs := (uniOf_short ho).2
    have HZ := hid (told_max hs)
    have HU := hid hU
    have HM := hid (show apOf (told g) a.data.toList = m from hm)
    obtain ⟨zs, hzs⟩ : ∃ zs, told g = zs := ⟨_, rfl⟩
    have hz6 : zs.length ≤ 6 := by rw [← hzs]; exact told_len' g
    rw [hzs] at HZ HM
    simp only [hzs] at HU
    obtain ⟨q, hq⟩ : ∃ q, apS m = q := ⟨_, rfl⟩
    obtain ⟨bb, hbb⟩ : ∃ b, m.isSome = b := ⟨_, rfl⟩
    rw [hq, hbb]
    have HQ := hid hq
    have HB := hid hbb
    obtain ⟨n, hn⟩ : ∃ n, zs.length = n := ⟨_, rfl⟩
    have HN := hid hn
    rw [hn] at hz6
    clear hU ho hm hs hzs hq hbb hn
    go_enter Tryz.func4, Tryz.ntmps4
    go_wp2_with fail
    refine HU.out.mono ?_
    rintro e w1 ⟨hb1, v, rfl, hown⟩
    rw [HN.out] at hown
    obtain ⟨B, cp, rfl, _, hp⟩ := own_pairs hown
    clear hown
    have hA := apS_any B n cp zs a w1 hp HZ.out (by omega) ha
    rw [HM.out, HQ.out, HB.out] at hA
    have HA := hid hA
    clear hA hp
    go_wp2_with fail
    refine HA.out.mono ?_
    rintro e w2 ⟨rfl, hb2⟩
    go_wp2_with fail
    exact bodyPost_ret (v := .tuple #[.string q, .bool bb]) (by simp [results, Tryz.results4, go_sem]) rfl ⟨rfl, hb1.trans (hb2.mono hb1.size)⟩

end Go.Proofs.YtjpdiahbnhemoaaGreat
