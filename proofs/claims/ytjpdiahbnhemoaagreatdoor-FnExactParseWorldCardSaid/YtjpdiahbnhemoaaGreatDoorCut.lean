/- The model's l13Cut: a text cut at a letter. -/
import Derived.Test.YtjpdiahbnhemoaaGreatDoorPrJ
import Derived.Test.YtjpdiahbnhemoaaGreatDoorRdW
import Derived.Test.YtjpdiahbnhemoaaGreatDoorArgsN
import Derived.Deep.AppendLies
import Derived.OwnWalk
namespace Go.Proofs.YtjpdiahbnhemoaaGreatDoor
open Go.RowKit
set_option linter.unusedVariables false

theorem cutInfo : (Tryz.prog.info? 9).map (fun i => (i.zero, i.size, i.bytes)) = some (some (.string ⟨#[]⟩), 1, 16) := by kernel_rfl
theorem extract_mid (s : ByteArray) (i j : Nat) (hj : j ≤ s.size) : (s.extract i j).data.toList = (s.data.toList.drop i).take (j - i) := by
  rw [ByteArray.data_extract, Array.toList_extract, List.extract_eq_take_drop]

/-- A round of the loop that cuts. -/
def CtR (w : World) (s : ByteArray) (m : UInt8) (P : List (List UInt8)) (v fr i : Value) (wr : World) : Prop :=
  ∃ (zs : List ByteArray) (g cap f k : Nat), v = .slice (some ⟨g, 0, none⟩) zs.length cap ∧ wr.ownsRow w.heap.size 9 1 v zs.length (zs.map Value.string) ∧ fr = .int .i64 f ∧ i = .int .i64 k ∧ zs.length ≤ k ∧ Below w.heap.size w wr ∧
    ((k ≤ s.size ∧ f ≤ k ∧ zs.map (·.data.toList) ++ cutG m ((s.data.toList.drop f).take (k - f)) (s.data.toList.drop k) = P) ∨ (k = s.size + 1 ∧ zs.map (·.data.toList) = P))

set_option maxHeartbeats 4000000 in
set_option maxRecDepth 100000 in
theorem l13Cut_any (s : ByteArray) (m : UInt8) (hs : s.size ≤ 1048576) (P : List (List UInt8)) (hP : Hid (cutG m [] s.data.toList = P)) (w : World) :
    Calls Tryz.prog 21 #[.string s, .int .u8 m.toNat] w fun e w' => (∃ (g c : Nat) (zs : List ByteArray), e = .returned (.slice (some ⟨g, 0, none⟩) P.length c) ∧ w'.ownsRow w.heap.size 9 1 (.slice (some ⟨g, 0, none⟩) P.length c) P.length (zs.map Value.string) ∧ zs.map (·.data.toList) = P) ∧ Below w.heap.size w w' := by
  obtain ⟨i0, hi0, hz0, hz1, hz2⟩ := info_parts cutInfo
  go_enter Tryz.func21, Tryz.ntmps21
  go_wp2_with fail
  go_loopw [5, 6, 7] (fun v fr i wr => CtR w s m P v fr i wr) (fun _ _ i _ => s.size + 1 - (intOf i).toNat)
  case atStart =>
    refine ⟨[], w.heap.size, 0, 0, 0, rfl, ⟨rfl, .inr ⟨w.heap.size, 0, #[], rfl, Nat.le_refl _, heap_alloc_new w _, Nat.le_refl _, Nat.zero_le _, rfl, rfl⟩⟩, rfl, rfl, Nat.le_refl _, (Below.refl _ _).alloc (Nat.le_refl _) _, .inl ⟨Nat.zero_le _, Nat.le_refl _, ?_⟩⟩
    simpa using hP.out
  case round =>
    obtain ⟨zs, g, cap, f, k, rfl, hown, rfl, rfl, hzk, hbel, hst⟩ := hrel
    obtain ⟨n, hn⟩ : ∃ n, zs.length = n := ⟨_, rfl⟩
    obtain ⟨xs, hxs⟩ : ∃ xs, zs.map Value.string = xs := ⟨_, rfl⟩
    rw [hn] at hzk
    rw [hn, hxs] at hown
    rw [hn]
    have HN := hid hn
    have HXS := hid hxs
    have HOWN := hid hown
    have HBEL := hid hbel
    have hgb : w.heap.size ≤ g ∧ g < wr.heap.size := hown.lt g rfl
    have zr := hbel.size
    clear hown hn hxs hbel
    rcases hst with ⟨hk, hfk, hcut⟩ | ⟨hk, hcut⟩
    · have hk' : (k : Int) ≤ (s.size : Int) := by omega
      have hf' : (f : Int) ≤ (k : Int) := by omega
      have hf0 : (0 : Int) ≤ (f : Int) := by omega
      have hk0 : (0 : Int) ≤ (k : Int) := by omega
      have HCUT := hid hcut
      clear hcut
      have k3 : IntKind.i64.wrap ((k : Int) + 1) = (k : Int) + 1 := by rw [IntKind.wrap_i64]; omega
      have hlen : s.size = s.data.toList.length := by simp
      by_cases hke : k = s.size
      · subst hke
        clear hk' hlen
        go_wp2_with (first
          | (at_builtin; refine wpList_append_lies _ rfl _ _ 44 rfl w.heap.size 9 i0 _ 1 16 Tryz.underlying44 hi0 hz0 hz1 hz2 rfl (by decide) _ _ _ rfl (HOWN.out.alloc _) ⟨wr.heap.size, 0, none⟩ 1 1 [.string (s.extract f s.size)] rfl rfl ?c1 ?c2 (by decide) ?c3 ?c4 ?c5 (wr.heap.size + 1) (World.size_alloc _ _) ?_)
          | fail)
        case c1 => exact World.news_of_block (heap_alloc_new wr _)
        case c2 => simp [Value.oneCell']
        case c3 => unfold maxLen; omega
        case c4 => omega
        case c5 => simp only [World.size_alloc]; omega
        intro g5 cap5 w5 hown5 hg5 hat5 q5
        have HO5 := hid hown5
        clear hown5
        go_wp2_with fail
        go_roundw
        case rel =>
          refine ⟨zs ++ [s.extract f s.size], g5, cap5, s.size + 1, s.size + 1, by rw [List.length_append, HN.out]; rfl, ?_, by go_num, by go_num, by rw [List.length_append, HN.out]; simp; omega, (HBEL.out.alloc zr _).grown hg5 (by simp only [World.size_alloc]; omega) (by intro j hj; simp [Value.ownBlock] at hj; omega), .inr ⟨rfl, ?_⟩⟩
          · rw [List.length_append, HN.out, List.map_append, HXS.out]
            exact HO5.out
          · have h := HCUT.out
            rw [show s.data.toList.drop s.size = [] from List.drop_eq_nil_of_le (by simp)] at h
            rw [← h, List.map_append, List.map_cons, List.map_nil, extract_mid s f s.size hk]
            rfl
        case measure => simp [intOf]
      · have hke' : ((k : Int) == (s.size : Int)) = false := by simp; omega
        have hks : k < s.size := by omega
        have hks' : (k : Int) < (s.size : Int) := by omega
        have hby := byte_at hks
        obtain ⟨d, hd⟩ : ∃ d, s[k] = d := ⟨_, rfl⟩
        rw [hd] at hby
        have HDR := hid (show s.data.toList.drop k = d :: s.data.toList.drop (k + 1) by
          rw [List.drop_eq_getElem_cons (by rw [← hlen]; exact hks)]
          congr 1)
        have HTK := hid (show (s.data.toList.drop f).take (k + 1 - f) = (s.data.toList.drop f).take (k - f) ++ [d] by
          rw [show k + 1 - f = (k - f) + 1 by omega, List.take_add_one, List.getElem?_drop, show f + (k - f) = k by omega, hby]
          rfl)
        have HBY := hid hby
        clear hke hby hlen
        by_cases hdm : d = m
        · subst hdm
          go_wp2_with (first
            | (at_builtin; refine wpList_append_lies _ rfl _ _ 44 rfl w.heap.size 9 i0 _ 1 16 Tryz.underlying44 hi0 hz0 hz1 hz2 rfl (by decide) _ _ _ rfl (HOWN.out.alloc _) ⟨wr.heap.size, 0, none⟩ 1 1 [.string (s.extract f k)] rfl rfl ?c1 ?c2 (by decide) ?c3 ?c4 ?c5 (wr.heap.size + 1) (World.size_alloc _ _) ?_)
            | fail)
          case c1 => exact World.news_of_block (heap_alloc_new wr _)
          case c2 => simp [Value.oneCell']
          case c3 => unfold maxLen; omega
          case c4 => omega
          case c5 => simp only [World.size_alloc]; omega
          intro g5 cap5 w5 hown5 hg5 hat5 q5
          have HO5 := hid hown5
          clear hown5
          go_wp2_with fail
          go_roundw
          case rel =>
            refine ⟨zs ++ [s.extract f k], g5, cap5, k + 1, k + 1, by rw [List.length_append, HN.out]; rfl, ?_, by go_num, by go_num, by rw [List.length_append, HN.out]; simp; omega, (HBEL.out.alloc zr _).grown hg5 (by simp only [World.size_alloc]; omega) (by intro j hj; simp [Value.ownBlock] at hj; omega), .inl ⟨by omega, Nat.le_refl _, ?_⟩⟩
            · rw [List.length_append, HN.out, List.map_append, HXS.out]
              exact HO5.out
            · have h := HCUT.out
              rw [HDR.out, cutG_yes] at h
              rw [← h, List.map_append, List.map_cons, List.map_nil, extract_mid s f k hk]
              simp
          case measure => simp [intOf]; omega
        · have hdm' : ((d.toNat : Int) == (m.toNat : Int)) = false := by
            have : d.toNat ≠ m.toNat := fun e => hdm (UInt8.toNat_inj.1 e)
            simp
            omega
          have hdm2 : ¬ (d.toNat : Int) = (m.toNat : Int) := by simpa using hdm'
          have HDM := hid (show (d == m) = false by simpa using hdm)
          clear hdm
          go_wp2_with fail
          go_roundw
          case rel =>
            refine ⟨zs, g, cap, f, k + 1, by rw [HN.out], by rw [HN.out, HXS.out]; exact HOWN.out, rfl, by go_num, by rw [HN.out]; omega, HBEL.out, .inl ⟨by omega, by omega, ?_⟩⟩
            have h := HCUT.out
            rw [HDR.out, cutG_no _ _ HDM.out] at h
            rw [HTK.out]
            exact h
          case measure => simp [intOf]; omega
    · have hk' : ¬ (k : Int) ≤ (s.size : Int) := by omega
      have HCUT := hid hcut
      clear hcut
      go_wp2_with fail
      go_ret
      have hL : P.length = n := by rw [← HCUT.out, List.length_map]; exact HN.out
      refine ⟨⟨g, cap, by rw [hL]; rfl, zs, ?_, HCUT.out⟩, HBEL.out⟩
      rw [hL, HXS.out]
      exact HOWN.out

end Go.Proofs.YtjpdiahbnhemoaaGreatDoor
