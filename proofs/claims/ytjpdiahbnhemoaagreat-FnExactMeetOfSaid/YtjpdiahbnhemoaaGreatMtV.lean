/- What variables stand for, told, in the model: l2Told. MatchType and IsInstance, in the model and in the program. -/
import Derived.Test.YtjpdiahbnhemoaaGreatMtU
import Derived.Test.YtjpdiahbnhemoaaGreatArgsB
import Derived.Test.YtjpdiahbnhemoaaGreatMtK
namespace Go.Proofs.YtjpdiahbnhemoaaGreat
open Go.RowKit

/-- The letter in place k of the model's map. -/
def letN (k : Nat) : UInt8 := ([88, 89, 90, 120, 121, 122, 49, 50, 51, 52, 53, 54] : List UInt8).getD k 0
theorem letN_ix : ∀ k, k < 12 → l2ix (letN k) = (k : Int) ∧ (letN k).toNat < 128 := by decide +kernel
/-- What is told of the first k letters. -/
def toldK (h : UInt8 → Option Ty) (k : Nat) : List (ByteArray × ByteArray) :=
  (([88, 89, 90, 120, 121, 122] : List UInt8).take k).filterMap fun c => (h c).map fun t => (strOf [c], strOf t.text)
theorem letN_cut : ∀ k, k < 6 → ({ data := #[88, 89, 90, 120, 121, 122, 49, 50, 51, 52, 53, 54] } : ByteArray).extract k ((k : Int) + 1).toNat = strOf [letN k] := by
  intro k hk
  match k, hk with
  | 0, _ => decide +kernel
  | 1, _ => decide +kernel
  | 2, _ => decide +kernel
  | 3, _ => decide +kernel
  | 4, _ => decide +kernel
  | 5, _ => decide +kernel
theorem wrapN {x : Int} (h : 0 ≤ x ∧ x ≤ 1000) : IntKind.i64.wrap x = x := by
  have h1 : -9223372036854775808 ≤ x := by omega
  have h2 : x ≤ 9223372036854775807 := by omega
  simp [IntKind.wrap, IntKind.bits, IntKind.signed]
  omega
theorem toldK_step (h : UInt8 → Option Ty) : ∀ k, k < 6 → toldK h (k + 1) = toldK h k ++ (match h (letN k) with | some t => [(strOf [letN k], strOf t.text)] | none => []) := by
  intro k hk
  unfold toldK
  rw [List.take_add_one, List.filterMap_append]
  congr 1
  have : ([88, 89, 90, 120, 121, 122] : List UInt8)[k]? = some (letN k) := by
    match k, hk with
    | 0, _ => rfl
    | 1, _ => rfl
    | 2, _ => rfl
    | 3, _ => rfl
    | 4, _ => rfl
    | 5, _ => rfl
  rw [this]
  cases hk2 : h (letN k) <;> simp [hk2]
theorem toldK_all (h : UInt8 → Option Ty) (k : Nat) (hk : 6 ≤ k) : toldK h k = told h := by
  unfold toldK told
  rw [List.take_of_length_le (by simpa using hk)]

/-- How l2Told ends. -/
def ToldEnd (h : UInt8 → Option Ty) (w : World) (e : Ending) (w' : World) : Prop :=
  Below w.heap.size w w' ∧ (((∃ k t, k < 6 ∧ h (letN k) = some t ∧ 60 < t.text.length) ∧ ∃ v, e = .returned (.tuple #[v, .bool false]) ∧ w'.ownsRow w.heap.size 42 2 v 0 []) ∨
    ((∀ k t, k < 6 → h (letN k) = some t → t.text.length ≤ 60) ∧ ∃ v, e = .returned (.tuple #[v, .bool true]) ∧ w'.ownsRow w.heap.size 42 2 v (told h).length (cells2 (told h))))

set_option maxHeartbeats 2000000 in
set_option maxRecDepth 100000 in
theorem l2Told_any (mb : Nat) (S : Nat → Prop) (h : UInt8 → Option Ty) (w : World) (hst : StndN w mb S h) (hS : ∀ g, S g → g < w.heap.size) (hL : ∀ c t, h c = some t → t.text.length ≤ 100000000000) :
    Calls Tryz.prog 12 #[.pointer (some ⟨mb, 0, none⟩)] w (ToldEnd h w) := by
  obtain ⟨i0, hi0, hz0, hz1, hz2⟩ := info_parts bindingInfo
  have hmb := hst.lt
  have HST := hid hst
  have HS := hid hS
  have HL := hid hL
  clear hst hS hL
  go_enter Tryz.func12, Tryz.ntmps12
  go_wp2_with fail
  go_loopw [4, 10] (fun v i wr => ∃ k : Nat, k ≤ 12 ∧ i = .int .i64 k ∧ wr.ownsRow w.heap.size 42 2 v (toldK h k).length (cells2 (toldK h k)) ∧ (∃ g c, v = .slice (some ⟨g, 0, none⟩) (toldK h k).length c) ∧ Below w.heap.size w wr ∧ Hid (∀ j t, j < k → j < 6 → h (letN j) = some t → t.text.length ≤ 60)) (fun _ i _ => 12 - (intOf i).toNat)
  case atStart =>
    exact ⟨0, Nat.zero_le _, rfl, ⟨rfl, .inr ⟨w.heap.size, 0, #[], rfl, Nat.le_refl _, heap_new1 _ _, Nat.le_refl _, Nat.zero_le _, rfl, rfl⟩⟩, ⟨_, _, rfl⟩, (Below.refl _ _).alloc (Nat.le_refl _) _, fun j t hj => absurd hj (Nat.not_lt_zero _)⟩
  case round =>
    obtain ⟨k, hk, rfl, hown, ⟨g, cap, rfl⟩, hbel, HDONE⟩ := hrel
    have zr := hbel.size
    have HOWN := hid hown
    by_cases hlt : k < 12
    · have i1 : (0 : Int) ≤ (k : Int) := by omega
      have i2 : (k : Int) < 12 := by omega
      obtain ⟨hix, hasc⟩ := letN_ix k hlt
      obtain ⟨c, hc⟩ : ∃ c, letN k = c := ⟨_, rfl⟩
      have HC := hid hc
      rw [hc] at hix hasc
      have hstr : StndN wr mb S h := HST.out.keep (hbel.block mb hmb) fun g hg => ⟨hg, hbel.block g (HS.out g hg)⟩
      obtain ⟨cur, h1, h2, h3⟩ := hstr
      have h4 := h3 c k hix
      clear hc
      rcases hh : h c with _ | t
      · rw [hh] at h4
        have c0 := cell_blk h1 h4.1
        have c1 := cell_blk h1 h4.2
        have a0 : ∀ o, (wr.alloc o).cell? ⟨mb, k * 2, none⟩ = some (.int .u8 0) := fun o => (World.cell?_alloc_lt _ _ _ (by show mb < _; omega)).trans c0
        have a1 : ∀ o, (wr.alloc o).cell? ⟨mb, k * 2 + 1, none⟩ = some (.slice none 0 0) := fun o => (World.cell?_alloc_lt _ _ _ (by show mb < _; omega)).trans c1
        clear h1 h2 h3 h4 hown
        go_wp2_with fail
        go_region_with fail
        all_goals
          go_wp2_with fail
          go_roundw
          case rel =>
            have he : toldK h (k + 1) = toldK h k := by
              by_cases h6 : k < 6
              · rw [toldK_step h k h6, HC.out, hh, List.append_nil]
              · rw [toldK_all h k (by omega), toldK_all h (k + 1) (by omega)]
            refine ⟨k + 1, hlt, by go_num, ?_, ⟨g, cap, by rw [he]⟩, ?_, fun j t hj h6 hjt => ?_⟩
            · rw [he]
              exact HOWN.out.alloc _
            · exact (hbel.alloc zr _).drew
            · by_cases e : j = k
              · subst e
                rw [HC.out, hh] at hjt
                cases hjt
              · exact HDONE.out j t (by omega) h6 hjt
          case measure => simp [intOf]; omega
      · rw [hh] at h4
        obtain ⟨d, A, m, capn, hd0, g0, g1, hrep⟩ := h4
        have c0 := cell_blk h1 g0
        have c1 := cell_blk h1 g1
        have hdn : ((d.toNat : Int) == 0) = false := by
          rw [beq_eq_false_iff_ne]
          exact fun e => hd0 (UInt8.toNat_inj.1 (by rw [show (0 : UInt8).toNat = 0 from rfl]; omega))
        have a0 : ∀ o, (wr.alloc o).cell? ⟨mb, k * 2, none⟩ = some (.int .u8 d.toNat) := fun o => (World.cell?_alloc_lt _ _ _ (by show mb < _; omega)).trans c0
        have a1 : ∀ o, (wr.alloc o).cell? ⟨mb, k * 2 + 1, none⟩ = some (.slice A m capn) := fun o => (World.cell?_alloc_lt _ _ _ (by show mb < _; omega)).trans c1
        have HREP := hid hrep
        have HH := hid hh
        obtain ⟨n, hn⟩ : ∃ n, (toldK h k).length = n := ⟨_, rfl⟩
        obtain ⟨xs, hxs⟩ : ∃ xs, cells2 (toldK h k) = xs := ⟨_, rfl⟩
        rw [hn, hxs] at HOWN
        rw [hn]
        have hn6 : n ≤ 6 := by
          rw [← hn]
          unfold toldK
          refine Nat.le_trans (List.length_filterMap_le _ _) ?_
          rw [List.length_take]
          simp
          omega
        have HN := hid hn
        have HXS := hid hxs
        have hLt := HL.out c t hh
        have hgb : w.heap.size ≤ g ∧ g < wr.heap.size := HOWN.out.lt g rfl
        clear h1 h2 h3 hown hrep hh hn hxs g0 g1 hd0
        go_wp2_with fail
        by_cases h6 : k < 6
        · have h6' : (k : Int) < 6 := by omega
          go_region_with fail
          all_goals
            go_wp2_with fail
            obtain ⟨W9, hW9⟩ : ∃ W9, (wr.alloc (.cells #[.int .u8 d.toNat, .slice A m capn] 31)).drew = W9 := ⟨_, rfl⟩
            have hb9 : Below wr.heap.size wr W9 := by rw [← hW9]; exact ((Below.refl _ _).alloc (Nat.le_refl _) _).drew
            have p0 : W9.cell? ⟨wr.heap.size, 0, none⟩ = some (.int .u8 d.toNat) := by rw [← hW9]; exact (blk_cells2 (heap_new1 wr _)).1
            have p1 : W9.cell? ⟨wr.heap.size, 1, none⟩ = some (.slice A m capn) := by rw [← hW9]; exact (blk_cells2 (heap_new1 wr _)).2
            have z9 : W9.heap.size = wr.heap.size + 1 := by rw [← hW9]; show (wr.alloc _).heap.size = _; simp only [World.size_alloc]
            rw [hW9]
            clear hW9
            have hrep9 : RepN W9 S t (.int .u8 d.toNat) (.slice A m capn) := HREP.out.keep fun j hj => ⟨hj, hb9.block j (Nat.lt_of_lt_of_le (HS.out j hj) zr)⟩
            obtain ⟨tl, htl⟩ : ∃ n, t.text.length = n := ⟨_, rfl⟩
            have hlen := l2Length_any t S _ _ W9 hrep9 (fun j hj => by have := HS.out j hj; omega) hLt
            rw [htl] at hlen
            refine hlen.mono ?_
            rintro e w5 ⟨rfl, hb5⟩
            have HTL := hid htl
            have hb95 : Below wr.heap.size wr w5 := hb9.trans (hb5.mono (by omega))
            have hbw5 : Below w.heap.size w w5 := hbel.trans (hb95.mono zr)
            have z5 : wr.heap.size + 1 ≤ w5.heap.size := by have := hb5.size; omega
            have n0 := cell_below p0 (by show wr.heap.size < _; omega) hb5
            have n1 := cell_below p1 (by show wr.heap.size < _; omega) hb5
            have hown5 := own_kept HOWN.out (hb95.block g hgb.2)
            have HO5 := hid hown5
            have HR5 := hid (hrep9.keep (S' := S) (w' := w5) fun j hj => ⟨hj, hb5.block j (by have := HS.out j hj; omega)⟩)
            have htl0 : 0 ≤ (tl : Int) := by omega
            clear c0 c1 a0 a1 hlen htl hrep9 p0 p1 hown5
            by_cases hlong : (60 : Int) < (tl : Int)
            · go_wp2_with fail
              refine bodyPost_ret (v := .tuple #[.slice (some ⟨w5.heap.size, 0, none⟩) 0 0, .bool false]) (by simp [results, Tryz.results12, go_sem]) rfl ⟨hbw5.alloc hbw5.size _, .inl ⟨⟨k, t, h6, by rw [HC.out, HH.out], by rw [HTL.out]; omega⟩, _, rfl, ⟨rfl, .inr ⟨w5.heap.size, 0, #[], rfl, hbw5.size, heap_new1 _ _, Nat.le_refl _, Nat.zero_le _, rfl, rfl⟩⟩⟩⟩
            · have HT := hid (fun (W : World) (hW : Below w5.heap.size w5 W) => textS_any t S (.int .u8 d.toNat) (.slice A m capn) W (HR5.out.keep fun j hj => ⟨hj, hW.block j (by have := HS.out j hj; omega)⟩) (fun j hj => by have := HS.out j hj; have := hW.size; omega) (by rw [HTL.out]; omega))
              obtain ⟨q, hq⟩ : ∃ q, strOf t.text = q := ⟨_, rfl⟩
              rw [hq] at HT
              have HQ := hid hq
              clear hq
              go_wp2_with fail
              have k1 : (k : Int) + 1 ≤ 12 := by omega
              have k2 : (k : Int) ≤ (k : Int) + 1 := by omega
              have k3 : IntKind.i64.wrap ((k : Int) + 1) = (k : Int) + 1 := wrapN (by omega)
              have k4 : (0 : Int) ≤ (k : Int) + 1 := by omega
              have HW6 := hid (fun (w6 : World) (hb : Below w5.heap.size w5 w6) => And.intro (own_kept HO5.out (hb.block g (by omega))) hb.size)
              go_region_law
                (first
                  | (refine step_append_lies _ (by rfl) _ _ _ (by rfl) w.heap.size 42 i0 _ 2 32 Tryz.underlying25 hi0 hz0 hz1 hz2 rfl (by omega) (.slice (some ⟨g, 0, none⟩) n cap) n xs (by rfl) (hown6.alloc _)
                       ⟨w6.heap.size, 0, none⟩ 1 1 _ (by rfl) (by rfl) (World.news_of_block (heap_alloc_new w6 _)) (by simp [Value.oneCell'])
                       (by omega) (by simp only [maxLen]; omega) (by omega) (by simp only [World.size_alloc]; omega) (w6.heap.size + 1) (by simp) ?_
                     intro gg cap7 w7 hown7 hg7 hat7 hlt7
                     have HO7 := hid hown7
                     clear hown7)
                  | (go_simp
                     go_at_call 17
                     refine (HT.out _ (Below.refl _ _).drew).mono ?_
                     intro e w6 hend
                     obtain ⟨rfl, hb6⟩ := hend
                     obtain ⟨hown6, z6⟩ := HW6.out w6 (bel_undrewN hb6)))
              all_goals
                go_wp2_with fail
                go_roundw
                case rel =>
                  have he : toldK h (k + 1) = toldK h k ++ [(strOf [c], strOf t.text)] := by rw [toldK_step h k h6, HC.out, HH.out]
                  have hl : (toldK h (k + 1)).length = n + 1 := by rw [he, List.length_append, HN.out]; rfl
                  have hcut := letN_cut k h6
                  rw [HC.out] at hcut
                  refine ⟨k + 1, hlt, by go_num, ?_, ⟨gg, cap7, by rw [hl]⟩, ?_, fun j t' hj hj6 hjt => ?_⟩
                  · have h7 := HO7.out
                    rw [hl, he, cells2_snoc, HXS.out, HQ.out, ← hcut]
                    exact h7
                  · have hbw6 : Below w.heap.size w w6 := hbw5.trans ((bel_undrewN hb6).mono hbw5.size)
                    exact (hbw6.alloc hbw6.size _).grown hg7 (by have := hbw6.size; simp only [World.size_alloc]; omega) (fun j hj => by simp [Value.ownBlock] at hj; omega)
                  · by_cases e : j = k
                    · subst e
                      rw [HC.out, HH.out] at hjt
                      injection hjt with hjt
                      rw [← hjt, HTL.out]
                      omega
                    · exact HDONE.out j t' (by omega) hj6 hjt
                case measure => simp [intOf]; omega
        · have h6' : (6 : Int) ≤ (k : Int) := by omega
          go_region_with fail
          all_goals
            go_wp2_with fail
            go_roundw
            case rel =>
              have he : toldK h (k + 1) = toldK h k := by rw [toldK_all h k (by omega), toldK_all h (k + 1) (by omega)]
              refine ⟨k + 1, hlt, by go_num, ?_, ⟨g, cap, by rw [he, HN.out]⟩, ?_, fun j t hj h6 hjt => HDONE.out j t (by omega) h6 hjt⟩
              · rw [he, HN.out, HXS.out]
                exact HOWN.out.alloc _
              · exact (hbel.alloc zr _).drew
            case measure => simp [intOf]; omega
    · have hk12 : k = 12 := by omega
      have he := toldK_all h k (by omega)
      rw [he] at HOWN ⊢
      have HK := hid hk12
      clear hk12 he hown
      go_wp2_with fail
      exact bodyPost_ret (v := .tuple #[.slice (some ⟨g, 0, none⟩) (told h).length cap, .bool true]) (by simp [results, Tryz.results12, go_sem]) rfl ⟨hbel, .inr ⟨fun j t hj hjt => HDONE.out j t (by have := HK.out; omega) hj hjt, _, rfl, HOWN.out⟩⟩

end Go.Proofs.YtjpdiahbnhemoaaGreat

namespace Go.Proofs.YtjpdiahbnhemoaaGreat
open Go.RowKit

/-- How the model's MatchType ends. -/
def MatchEndS (w : World) (l l' : List UInt8) (e : Ending) (w' : World) : Prop :=
  Below w.heap.size w w' ∧ match mtOf l l' with
    | none => ∃ v, e = .returned (.tuple #[v, .bool false]) ∧ w'.ownsRow w.heap.size 42 2 v 0 []
    | some g => ∃ v, e = .returned (.tuple #[v, .bool true]) ∧ w'.ownsRow w.heap.size 42 2 v (told g).length (cells2 (told g))
theorem own_nil2 {w : World} {B : Nat} (hB : B ≤ w.heap.size) (T : TypeId) : (w.alloc (.cells #[] T)).ownsRow B T 2 (.slice (some ⟨w.heap.size, 0, none⟩) 0 0) 0 [] :=
  ⟨rfl, .inr ⟨w.heap.size, 0, #[], rfl, hB, heap_new1 _ _, Nat.le_refl _, Nat.zero_le _, rfl, rfl⟩⟩

theorem end_nil2 {w w2 : World} (hb : Below w.heap.size w w2) (o1 o2 : Obj) (T : TypeId) : Below w.heap.size w (((w2.alloc o1).alloc o2).alloc (.cells #[] T)) ∧ (((w2.alloc o1).alloc o2).alloc (.cells #[] T)).ownsRow w.heap.size T 2 (.slice (some ⟨w2.heap.size + 1 + 1, 0, none⟩) 0 0) 0 [] := by
  have z := hb.size
  refine ⟨((hb.alloc z _).alloc (by simp only [World.size_alloc]; omega) _).alloc (by simp only [World.size_alloc]; omega) _, ?_⟩
  have h := own_nil2 (w := (w2.alloc o1).alloc o2) (B := w.heap.size) (by simp only [World.size_alloc]; omega) T
  simp only [World.size_alloc] at h
  exact h

end Go.Proofs.YtjpdiahbnhemoaaGreat
