/- RenameType, in the program and in the model. -/
import Derived.Test.YtaccndloddcboaaRenI
import Derived.Test.YtaccndloddcboaaVars
import Derived.Laws.IdiomStrings
namespace Go.Proofs.Ytaccndloddcboaa
open Go.RowKit

theorem cf_capital (args : Array Value) (w : World) : (callFunc 96 args).run Try.prog w = .ok (.enter 96 args) w := by kernel_rfl
/-- A renamed type's text. -/
def renOf (l : List UInt8) : List UInt8 := if (tyOf l).isSome = true then l.map capB else []

set_option maxHeartbeats 400000 in
set_option maxRecDepth 100000 in
theorem renI_any (s : ByteArray) (hs : s.size ≤ maxLen) (w : World) :
    Calls Try.prog 48 #[.string s] w fun e w' => e = .returned (.string (strOf (renOf s.data.toList))) ∧ Below w.heap.size w w' := by
  go_enter Try.func48, Try.ntmps48
  go_wp2_with fail
  refine (readType_any s _ hs).mono ?_
  rintro e w1 ⟨hb, ⟨hn, rfl⟩ | ⟨t, T, b, hs1, rfl, hrep⟩⟩
  · have HN := hid hn
    clear hn
    go_wp2_with fail
    go_ret
    refine ⟨?_, hb⟩
    show Ending.returned (.string _) = .returned (.string _)
    rw [renOf, HN.out, if_neg (by decide)]
    rfl
  · have HS := hid hs1
    clear hs1
    go_wp2_with fail
    obtain ⟨htx, hok, hlen⟩ := tyOf_text HS.out
    refine (replace_any _ _ #[] cf_capital w1 _ _ (capitalVariable_any w1 _) (fun k hk => hk.2) (fun k hk => hk.elim) t _ w1 (Below.refl _ _) (hrep.repP hok)).mono ?_
    rintro e w2 ⟨T2, b2, rfl, hrep2, hb2⟩
    rw [ren_sub hok] at hrep2
    have hlen2 : t.ren.text.length ≤ 60 := by rw [ren_text hok, List.length_map, ← htx]; exact hlen
    have hz1 := hb.size
    have hz2 := hb2.size
    obtain ⟨fn, hm, hcf, hcall⟩ := textBy_any t.ren w.heap.size w2.heap.size T2 b2 w2 (hrep2.rep (fun k hk => hk.elim (fun h => ⟨h.1, by omega⟩) fun h => h.elim (fun h => h.elim) fun h => ⟨by omega, h.2⟩) (ren_ok hok)) (Nat.le_refl _) (ren_ok hok) hlen2
    have HCALL := hid hcall
    have HTX := hid htx
    clear hcall htx
    go_wp2_with fail
    refine HCALL.out.mono ?_
    rintro e w3 ⟨rfl, hb3⟩
    go_wp2_with fail
    go_ret
    refine ⟨?_, (hb.trans (hb2.mono hz1)).trans (hb3.mono (by omega))⟩
    show Ending.returned (.string _) = .returned (.string _)
    rw [renOf, if_pos (by rw [HS.out]; rfl), ren_text hok, HTX.out]

set_option maxHeartbeats 400000 in
set_option maxRecDepth 100000 in
theorem capitalS_any (c : UInt8) (w : World) :
    Calls Try.prog 97 #[.int .u8 c.toNat] w fun e w' => e = .returned (.int .u8 (capB c).toNat) ∧ w = w' := by
  have h8 : (c.toNat : Int) ≤ 255 := by have := c.toNat_lt; omega
  have h9 : (0 : Int) ≤ (c.toNat : Int) := by omega
  by_cases h1 : (120 : Int) ≤ c.toNat
  · by_cases h2 : (c.toNat : Int) ≤ 122
    · have HE := hid (cap_sub c h1 h2)
      go_enter Try.func97, Try.ntmps97
      go_wp2
      go_ret
      exact ⟨ret_int HE.out, rfl⟩
    · have HE := hid (cap_same c (by omega))
      go_enter Try.func97, Try.ntmps97
      go_wp2
      go_ret
      exact ⟨ret_int (by rw [HE.out]), rfl⟩
  · have HE := hid (cap_same c (by omega))
    go_enter Try.func97, Try.ntmps97
    go_wp2
    go_ret
    exact ⟨ret_int (by rw [HE.out]), rfl⟩

theorem conv_one (w : World) (c : UInt8) : (convert 22 9 (.slice (some ⟨w.heap.size, 0, none⟩) 1 1)).run Try.prog (w.alloc (.cells #[.int .u8 c.toNat] 5)) = .ok (.string (strOf [c])) (w.alloc (.cells #[.int .u8 c.toNat] 5)) := by
  refine run_convert_bytes_back _ _ _ 5 ⟨w.heap.size, 0, none⟩ 1 [c] Try.underlying22 Try.underlying5 Try.underlying9 (fun j hj => ?_)
  have e : j = 0 := by simp at hj; omega
  subst e
  exact cell_new1 _ _ _

set_option maxHeartbeats 1000000 in
set_option maxRecDepth 100000 in
theorem renS_any (s : ByteArray) (hs : s.size ≤ 1048576) (w : World) :
    Calls Try.prog 49 #[.string s] w fun e w' => e = .returned (.string (strOf (renOf s.data.toList))) ∧ Below w.heap.size w w' := by
  go_enter Try.func49, Try.ntmps49
  go_wp2_with fail
  go_loopw [3, 4, 7] (fun o _ k wr => ∃ (pos : Nat) (b : ByteArray), pos ≤ s.size ∧ k = .int .i64 pos ∧ o = .string b ∧ b.data.toList = (s.data.toList.take pos).map capB ∧ Below w.heap.size w wr) (fun _ _ k _ => s.size - (intOf k).toNat)
  case atStart => exact ⟨0, ⟨#[]⟩, Nat.zero_le _, rfl, rfl, rfl, Below.refl _ _⟩
  case round =>
    obtain ⟨pos, b, hp, rfl, rfl, hb, hbel⟩ := hrel
    have hbl : b.size ≤ 1048576 := by
      have h1 : b.size = b.data.toList.length := by simp
      rw [h1, hb, List.length_map]
      exact Nat.le_trans (List.length_take_le _ _) (by omega)
    have HB := hid hb
    clear hb
    by_cases hlt : pos < s.size
    · have hts := take_snoc s pos hlt
      have HTS := hid hts
      clear hts
      have hcv := hid (conv_one wr (capB s[pos]))
      have happ := hid (append_list b [capB s[pos]])
      have hcv' := hcv.out
      have hs1 : (strOf [capB s[pos]]).size ≤ 1 := Nat.le_refl _
      obtain ⟨v, hv⟩ : ∃ v, strOf [capB s[pos]] = v := ⟨_, rfl⟩
      rw [hv] at hcv' hs1 happ
      have HV := hid hv
      clear hv
      go_wp2_with (go_at_call 97; refine (capitalS_any _ _).mono ?_; rintro e w' ⟨rfl, rfl⟩)
      go_roundw
      case rel =>
        refine ⟨pos + 1, _, hlt, by go_num, rfl, ?_, hbel.alloc hbel.size _⟩
        rw [happ.out, HB.out, HTS.out, List.map_append]
        rfl
      case measure => simp [intOf]; omega
    · by_cases hv : (tyOf s.data.toList).isSome = true
      · have HV := hid hv
        clear hv
        go_wp2_with (go_at_call 31; refine (typeValidS_at s _ (by unfold maxLen; omega) true HV).mono ?_; rintro e w1 ⟨rfl, hb1⟩)
        go_ret
        refine ⟨?_, hbel.trans (hb1.mono hbel.size)⟩
        show Ending.returned (.string b) = .returned (.string _)
        rw [renOf, if_pos HV.out, strOf_eq HB.out, List.take_of_length_le (by simp; omega)]
      · have hv' : (tyOf s.data.toList).isSome = false := by simpa using hv
        have HV := hid hv'
        clear hv hv'
        go_wp2_with (go_at_call 31; refine (typeValidS_at s _ (by unfold maxLen; omega) false HV).mono ?_; rintro e w1 ⟨rfl, hb1⟩)
        go_ret
        refine ⟨?_, hbel.trans (hb1.mono hbel.size)⟩
        show Ending.returned (.string _) = .returned (.string _)
        rw [renOf, if_neg (by rw [HV.out]; decide)]
        rfl

theorem renI_at (s : ByteArray) (hs : s.size ≤ maxLen) (w : World) (r : ByteArray) (hr : Hid (strOf (renOf s.data.toList) = r)) :
    Calls Try.prog 48 #[.string s] w fun e w' => e = .returned (.string r) ∧ Below w.heap.size w w' := by
  rw [← hr.out]
  exact renI_any s hs w
theorem renS_at (s : ByteArray) (hs : s.size ≤ 1048576) (w : World) (r : ByteArray) (hr : Hid (strOf (renOf s.data.toList) = r)) :
    Calls Try.prog 49 #[.string s] w fun e w' => e = .returned (.string r) ∧ Below w.heap.size w w' := by
  rw [← hr.out]
  exact renS_any s hs w

end Go.Proofs.Ytaccndloddcboaa
