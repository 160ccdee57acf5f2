/- Draws: bindings. -/
import Derived.Test.YtechacocfpobgaaDrawC
import Derived.Test.YtechacocfpobgaaArgsB
import Derived.Deep.RegionLaw
import Derived.StillTactics
import Derived.Deep.AppendLies
import Derived.OwnWalk
namespace Go.Proofs.Ytechacocfpobgaa
open Go.RowKit

/-- A round of the loop that draws bindings. -/
def BdR (w : World) (rb P k : Nat) (v : Value) (wr : World) : Prop :=
  ∃ zs : List (ByteArray × ByteArray), zs.length ≤ k ∧ wr.ownsRow w.heap.size 47 2 v zs.length (cells2 zs) ∧ (∀ z ∈ zs, z.1.size ≤ 100 ∧ z.2.size ≤ 100) ∧ Rdr wr rb (P + 20 * k) ∧ But w.heap.size rb w wr ∧ (∃ g c, v = .slice (some ⟨g, 0, none⟩) zs.length c ∧ g ≠ rb)

theorem but_three {rb P K K' : Nat} {a b c d : World} (h1 : Gave rb P 1 a b) (h2 : Gave rb (P + 1) K b.drew c) (h3 : Gave rb (P + 1 + K) K' c d) : But a.heap.size rb a d :=
  h1.2.trans ((But.trans (a := b) (b := c) ⟨h2.2.os, h2.2.tape, h2.2.output, h2.2.size, h2.2.block⟩ (h3.2.mono h2.2.size)).mono h1.2.size)

set_option maxHeartbeats 2000000 in
set_option maxRecDepth 100000 in
theorem l2Bindings_any (rb P : Nat) (w : World) (hr : Rdr w rb P) (hP : P ≤ 1000000) :
    Calls Try.prog 70 #[.pointer (some ⟨rb, 0, none⟩)] w fun e w' => ∃ (B : Option Addr) (n c : Nat) (zs : List (ByteArray × ByteArray)), e = .returned (.slice B n c) ∧ n ≤ c ∧ n ≤ 7 ∧ Prs w' B n zs ∧ (∀ z ∈ zs, z.1.size ≤ 100 ∧ z.2.size ≤ 100) ∧ Gave rb P 200 w w' ∧ (∀ g o, B = some ⟨g, o, none⟩ → g ≠ rb) := by
  have hrb := hr.lt
  have HR0 := hid hr
  clear hr
  obtain ⟨i0, hi0, hz0, hz1, hz2⟩ := info_parts bindingInfo
  go_enter Try.func70, Try.ntmps70
  go_wp2_with fail
  go_loopw [3, 6] (fun v i wr => ∃ k : Nat, k ≤ 6 ∧ i = .int .i64 k ∧ BdR w rb P k v wr) (fun _ i _ => 6 - (intOf i).toNat)
  case atStart =>
    refine ⟨0, Nat.zero_le _, rfl, [], Nat.le_refl _, ⟨rfl, .inr ⟨w.heap.size, 0, #[], rfl, Nat.le_refl _, heap_new1 _ _, Nat.le_refl _, Nat.zero_le _, rfl, rfl⟩⟩, (fun z hz => by cases hz), HR0.out.keep ((Below.refl _ _).alloc (Nat.le_refl _) _), But.of_below ((Below.refl _ _).alloc (Nat.le_refl _) _), w.heap.size, 0, rfl, by omega⟩
  case round =>
    obtain ⟨k, hk, rfl, zs, hzl, hown, hzs, hrd, hbut, g, c, rfl, hgr⟩ := hrel
    have HZS := hid hzs
    have HBUT := hid hbut
    have zr := hbut.size
    obtain ⟨n, hn⟩ : ∃ n, zs.length = n := ⟨_, rfl⟩
    obtain ⟨xs, hxs⟩ : ∃ xs, cells2 zs = xs := ⟨_, rfl⟩
    rw [hn] at hzl
    rw [hn, hxs] at hown
    rw [hn]
    have HN := hid hn
    have HXS := hid hxs
    have HOWN := hid hown
    have hgb : w.heap.size ≤ g ∧ g < wr.heap.size := hown.lt g rfl
    have HK := hid (fun (W : World) (hW : But wr.heap.size rb wr W) => show W.ownsRow w.heap.size 47 2 (.slice (some ⟨g, 0, none⟩) n c) n xs from HOWN.out.kept (row := some rb) ⟨hW.os, hW.tape, hW.output, hW.size, fun k hk hn => hW.block k hk (fun e => hn (by rw [e]))⟩ (.inr fun e => by simp [Value.ownBlock] at e; omega))
    clear hown hzs hbut hn hxs
    by_cases hlt : k < 6
    · go_wp2_with fail
      refine (pick_any rb (P + 20 * k) 3 wr hrd (by omega) (by omega) (by omega)).mono ?_
      rintro e w1 ⟨j, rfl, hj0, hj1, hG1⟩
      by_cases hj : j = 0
      · subst hj
        have k0 : (0 : Int) ≤ (k : Int) := by omega
        have k1 : (k : Int) + 1 ≤ 12 := by omega
        have k2 : (k : Int) ≤ (k : Int) + 1 := by omega
        have k3 : IntKind.i64.wrap ((k : Int) + 1) = (k : Int) + 1 := wrap_in _ (by omega)
        have k4 : (0 : Int) ≤ (k : Int) + 1 := by omega
        have hr1 : Rdr w1.drew rb (P + 20 * k + 1) := hG1.1
        have HPK := hid (pick_any rb (P + 20 * k + 1) 3 w1.drew hr1 (by omega) (by omega) (by omega))
        have HDR := hid (fun (W : World) (dd : Nat) (hd : dd ≤ 2) (hr : Rdr W rb (P + 20 * k + 1 + 1)) => l1Draw_any dd (by omega) rb (P + 20 * k + 1 + 1) false W hr (by
          have : dd = 0 ∨ dd = 1 ∨ dd = 2 := by omega
          have : dPick dd ≤ 10 := by rcases this with rfl | rfl | rfl <;> decide
          omega))
        have HG1 := hid hG1
        clear hG1 hr1
        go_wp2_with fail
        go_region_law
          (first
            | (refine step_append_lies _ (by rfl) _ _ _ (by rfl) w.heap.size 47 i0 _ 2 32 Try.underlying39 hi0 hz0 hz1 hz2 rfl (by omega) (.slice (some ⟨g, 0, none⟩) n c) n xs (by rfl) (hown4.alloc _)
                 ⟨w4.heap.size, 0, none⟩ 1 1 _ (by rfl) (by rfl) (World.news_of_block (heap_alloc_new w4 _)) (by simp [Value.oneCell'])
                 (by omega) (by simp only [maxLen]; omega) (by omega) (by simp only [World.size_alloc]; omega) (w4.heap.size + 1) (by simp) ?_
               intro gg cap5 w5 hown5 hg5 hat5 hlt5
               have HO5 := hid hown5
               clear hown5)
            | (go_simp
               go_at_call 81
               refine HPK.out.mono ?_
               intro e w2 hend
               obtain ⟨m, rfl, hm0, hm1, hG2⟩ := hend
               obtain ⟨dd, rfl⟩ : ∃ dd : Nat, m = (dd : Int) := ⟨m.toNat, by omega⟩
               have hdd : dd ≤ 2 := (by omega)
               have hr2 := hG2.1)
            | (go_simp
               go_at_call 80
               refine (HDR.out _ dd hdd hr2).mono ?_
               intro e w4 hend
               obtain ⟨x, rfl, hx0, hx1, hG4⟩ := hend
               have hbut4 : But wr.heap.size rb wr w4 := but_three HG1.out hG2 hG4
               have hown4 := HK.out w4 hbut4
               have z4 := hbut4.size))
        all_goals
          go_wp2_with fail
          go_roundw
          case rel =>
            have hd1 : dLen dd ≤ 16 ∧ dPick dd ≤ 10 := by
              have : dd = 0 ∨ dd = 1 ∨ dd = 2 := by omega
              rcases this with rfl | rfl | rfl <;> decide
            have z5 := hg5.size
            simp only [World.size_alloc] at z5
            refine ⟨k + 1, hlt, by go_num, zs ++ [(({ data := #[88, 89, 90, 120, 121, 122, 49, 50, 51, 52, 53, 54] } : ByteArray).extract k ((k : Int) + 1).toNat, x)], by rw [List.length_append, HN.out]; simp; omega, ?_, fun z hz => ?_, ?_, ?_, gg, cap5, by rw [List.length_append, HN.out]; rfl, ?_⟩
            · rw [List.length_append, HN.out, cells2_snoc, HXS.out]
              exact HO5.out
            · rcases List.mem_append.1 hz with hz | hz
              · exact HZS.out z hz
              · simp only [List.mem_singleton] at hz
                subst hz
                refine ⟨?_, by show x.size ≤ 100; omega⟩
                simp
                omega
            · refine Rdr.le (P := P + 20 * k + 1 + 1 + dPick dd) ?_ (by omega)
              refine hG4.1.keep' (by omega) fun j hj => ?_
              rw [hg5.block j (by simp only [World.size_alloc]; omega) (by simp [Value.ownBlock]; omega)]
              exact Below.heap_alloc _ _ _ (by omega)
            · have h1 := HBUT.out.trans (hbut4.mono zr)
              refine ⟨hg5.os.trans h1.os, hg5.tape.trans h1.tape, hg5.output.trans h1.output, by omega, fun j hj hn => ?_⟩
              rw [hg5.block j (by simp only [World.size_alloc]; omega) (by simp [Value.ownBlock]; omega), Below.heap_alloc _ _ _ (by omega)]
              exact h1.block j hj hn
            · rcases hat5 with h | h
              · simp only [Value.ownBlock, Option.some.injEq] at h
                omega
              · omega
          case measure => simp [intOf]; omega
      · have hj' : (j == 0) = false := by simpa using hj
        go_wp2_with fail
        go_roundw
        case rel =>
          refine ⟨k + 1, hlt, by go_num, zs, by rw [HN.out]; omega, ?_, HZS.out, hG1.1.le (by omega), HBUT.out.trans (hG1.2.mono zr), g, c, by rw [HN.out], hgr⟩
          rw [HN.out, HXS.out]
          exact HK.out w1 hG1.2
        case measure => simp [intOf]; omega
    · have hk6 : k = 6 := by omega
      have HK6 := hid hk6
      clear hk6
      go_wp2_with fail
      refine (pick_any rb (P + 20 * k) 20 wr hrd (by omega) (by omega) (by omega)).mono ?_
      rintro e w1 ⟨j, rfl, hj0, hj1, hG1⟩
      by_cases hj : j = 0
      · subst hj
        go_wp2_with fail
        refine (of_new rb (P + 20 * k + 1) 3 _ _ [⟨#[120]⟩, ⟨#[105]⟩, ⟨#[]⟩] w1 hG1.1 (by omega) rfl rfl (by omega) (by omega)).mono ?_
        rintro e w2 ⟨x, hx, rfl, hG2⟩
        have hx1 : x.size ≤ 1 := small_of (by rfl) hx
        clear hx
        go_wp2_with fail
        refine (of_new rb (P + 20 * k + 1 + 1) 2 _ _ [⟨#[105]⟩, ⟨#[113]⟩] w2 hG2.1 (by omega) rfl rfl (by omega) (by omega)).mono ?_
        rintro e w3 ⟨y, hy, rfl, hG3⟩
        have hy1 : y.size ≤ 1 := small_of (by rfl) hy
        clear hy
        have hG := hG1.trans (hG2.trans hG3)
        have hown3 := HK.out w3 hG.2
        have z3 := hG.2.size
        have HO3 := hid hown3
        clear hown3
        go_wp2_with (first
          | (at_builtin; refine wpList_append_lies _ rfl _ _ 39 rfl w.heap.size 47 i0 _ 2 32 Try.underlying39 hi0 hz0 hz1 hz2 rfl (by decide) _ _ _ rfl (HO3.out.alloc _) ⟨w3.heap.size, 0, none⟩ 1 1 [.string x, .string y] rfl rfl ?c1 ?c2 (by decide) ?c3 ?c4 ?c5 (w3.heap.size + 1) (World.size_alloc _ _) ?_)
          | fail)
        case c1 => exact World.news_of_block (heap_alloc_new w3 _)
        case c2 => simp [Value.oneCell']
        case c3 => unfold maxLen; omega
        case c4 => omega
        case c5 => simp only [World.size_alloc]; omega
        intro g5 cap5 w5 hown5 hg5 hat5 q5
        have HO5 := hid hown5
        have z5 := hg5.size
        simp only [World.size_alloc] at z5
        clear hown5
        go_wp2_with fail
        go_ret
        have h7 : w5.ownsRow w.heap.size 47 2 (.slice (some ⟨g5, 0, none⟩) (n + 1) cap5) (n + 1) (cells2 (zs ++ [(x, y)])) := by
          rw [cells2_snoc, HXS.out]
          exact HO5.out
        obtain ⟨B, c', e1, hc', hp⟩ := own_pairs h7
        simp only [Value.slice.injEq] at e1
        obtain ⟨rfl, _, rfl⟩ := e1
        have hbutE : But w.heap.size rb w w5 := by
          have h1 := HBUT.out.trans (hG.2.mono zr)
          refine ⟨hg5.os.trans h1.os, hg5.tape.trans h1.tape, hg5.output.trans h1.output, by omega, fun j hj hn => ?_⟩
          rw [hg5.block j (by simp only [World.size_alloc]; omega) (by simp [Value.ownBlock]; omega), Below.heap_alloc _ _ _ (by omega)]
          exact h1.block j hj hn
        refine ⟨_, n + 1, _, zs ++ [(x, y)], rfl, hc', by have := HK6.out; omega, hp, fun z hz => ?_, ⟨?_, hbutE⟩, fun g0 o0 e0 => by have := h7.lt g5 rfl; simp only [Option.some.injEq, Addr.mk.injEq] at e0; omega⟩
        · rcases List.mem_append.1 hz with hz | hz
          · exact HZS.out z hz
          · simp only [List.mem_singleton] at hz
            subst hz
            exact ⟨Nat.le_trans hx1 (by decide), Nat.le_trans hy1 (by decide)⟩
        · refine Rdr.le (P := P + 20 * k + (1 + (1 + 1))) ?_ (by have := HK6.out; omega)
          refine hG.1.keep' (by omega) fun j hj => ?_
          rw [hg5.block j (by simp only [World.size_alloc]; omega) (by simp [Value.ownBlock]; omega)]
          exact Below.heap_alloc _ _ _ (by omega)
      · have hj' : (j == 0) = false := by simpa using hj
        go_wp2_with fail
        go_ret
        have h7 : w1.ownsRow w.heap.size 47 2 (.slice (some ⟨g, 0, none⟩) n c) n (cells2 zs) := by
          rw [HXS.out]
          exact HK.out w1 hG1.2
        obtain ⟨B, c', e1, hc', hp⟩ := own_pairs h7
        simp only [Value.slice.injEq] at e1
        obtain ⟨rfl, _, rfl⟩ := e1
        exact ⟨_, n, _, zs, rfl, hc', by have := HK6.out; omega, hp, HZS.out, ⟨hG1.1.le (by have := HK6.out; omega), HBUT.out.trans (hG1.2.mono zr)⟩, fun g0 o0 e0 => by simp only [Option.some.injEq, Addr.mk.injEq] at e0; omega⟩

theorem Prs.but {w w' : World} {A : Option Addr} {n rb : Nat} {zs : List (ByteArray × ByteArray)} (h : Prs w A n zs) (hb : But w.heap.size rb w w') (hA : ∀ g o, A = some ⟨g, o, none⟩ → g ≠ rb) : Prs w' A n zs := by
  refine ⟨h.1, fun hn => ?_⟩
  obtain ⟨g, o, rfl, hg, hc⟩ := h.2 hn
  refine ⟨g, o, rfl, Nat.lt_of_lt_of_le hg hb.size, fun j z hj => ?_⟩
  have hq := hb.block g hg (hA g o rfl)
  exact ⟨(World.cell?_of_block (w := w) (w' := w') (a := ⟨g, o + j * 2, none⟩) hq).trans (hc j z hj).1, (World.cell?_of_block (w := w) (w' := w') (a := ⟨g, o + j * 2 + 1, none⟩) hq).trans (hc j z hj).2⟩
theorem tot_small {zs : List (ByteArray × ByteArray)} (h : ∀ z ∈ zs, z.1.size ≤ 100 ∧ z.2.size ≤ 100) : tot zs ≤ 200 * zs.length := by
  induction zs with
  | nil => exact Nat.le_refl _
  | cons z zs ih =>
    have h1 := h z (List.mem_cons_self ..)
    have h2 := ih fun y hy => h y (List.mem_cons_of_mem _ hy)
    simp only [tot, List.map_cons, List.sum_cons, List.length_cons] at h2 ⊢
    omega

set_option maxHeartbeats 400000 in
theorem drawBindingsValid_any (A : Option Addr) (len cap : Nat) (w : World) (hl : len ≤ cap) (hm : cap ≤ maxLen) (hb : Bts w A len) :
    Calls Try.prog 38 #[.slice A len cap] w fun e w' => ∃ (B : Option Addr) (n c : Nat) (zs : List (ByteArray × ByteArray)), e = .returned (.slice B n c) ∧ n ≤ c ∧ n ≤ 7 ∧ Prs w' B n zs ∧ (∀ z ∈ zs, z.1.size ≤ 100 ∧ z.2.size ≤ 100) ∧ Below w.heap.size w w' := by
  have HB := hid hb
  clear hb
  go_enter Try.func38, Try.ntmps38
  go_wp2_with fail
  refine (l13Open_any A len cap w hl hm HB.out).mono ?_
  rintro e u1 ⟨rb, rfl, hrb, hr1, hb1⟩
  go_wp2_with fail
  refine (l2Bindings_any rb 0 u1 hr1 (by omega)).mono ?_
  rintro e u2 ⟨B, n, c, zs, rfl, hc, hn, hp, hz, hG, hBg⟩
  have HP := hid hp
  have HZ := hid hz
  clear hp hz
  go_wp2_with fail
  go_ret
  exact ⟨B, n, c, zs, rfl, hc, hn, HP.out, HZ.out, hb1.trans (hG.2.below' hb1.size hrb)⟩

set_option maxHeartbeats 400000 in
theorem drawApplyBindings_any (A : Option Addr) (len cap : Nat) (w : World) (hl : len ≤ cap) (hm : cap ≤ maxLen) (hb : Bts w A len) :
    Calls Try.prog 35 #[.slice A len cap] w fun e w' => ∃ (B : Option Addr) (n c : Nat) (zs : List (ByteArray × ByteArray)) (t : ByteArray), e = .returned (.tuple #[.slice B n c, .string t]) ∧ n ≤ c ∧ n ≤ 7 ∧ Prs w' B n zs ∧ (∀ z ∈ zs, z.1.size ≤ 100 ∧ z.2.size ≤ 100) ∧ t.size ≤ 100 ∧ Below w.heap.size w w' := by
  have HB := hid hb
  clear hb
  go_enter Try.func35, Try.ntmps35
  go_wp2_with fail
  refine (l13Open_any A len cap w hl hm HB.out).mono ?_
  rintro e u1 ⟨rb, rfl, hrb, hr1, hb1⟩
  go_wp2_with fail
  refine (l2Bindings_any rb 0 u1 hr1 (by omega)).mono ?_
  rintro e u2 ⟨B, n, c, zs, rfl, hc, hn, hp, hz, hG, hBg⟩
  have HP := hid hp
  have HZ := hid hz
  clear hp hz
  go_wp2_with fail
  refine (l1Any_any rb (0 + 200) u2 hG.1 (by omega)).mono ?_
  rintro e u3 ⟨t, rfl, ht, hG2⟩
  go_wp2_with fail
  refine bodyPost_ret (v := .tuple #[.slice B n c, .string t]) (by simp [results, Try.results35, go_sem]) rfl ⟨B, n, c, zs, t, rfl, hc, hn, ?_, HZ.out, ht, hb1.trans ((hG.trans hG2).2.below' hb1.size hrb)⟩
  exact HP.out.but hG2.2 hBg

end Go.Proofs.Ytechacocfpobgaa
