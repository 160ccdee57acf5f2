/- Drawn dictionaries: l6Draw, l6Any, the arguments of PartsOfDict and MakeDict. -/
import Derived.Test.YtlpfgiegapelmaaDoorDrawE
import Derived.Test.YtlpfgiegapelmaaDoorDec
import Derived.Deep.RegionWith
import Derived.Deep.Cut
import Derived.RegionTactic
namespace Go.Proofs.YtlpfgiegapelmaaDoor
open Go.RowKit
set_option linter.unusedVariables false

def gPick : Nat → Nat
  | 0 => 1
  | d + 1 => 3 + 2 * gPick d
theorem Gave.below6 {rb P K : Nat} {a b c : World} (h : Gave rb P K a b) (hb : Below b.heap.size b c) : Gave rb P K a c := ⟨h.1.keep hb, h.2.trans ((But.of_below hb).mono h.2.size)⟩
theorem Gave.drew6 {rb P K : Nat} {a b : World} (h : Gave rb P K a.drew b) : Gave rb P K a b := ⟨h.1, ((But.refl a.heap.size rb a).drewN 1).trans h.2⟩
theorem cutP : ∀ k, k < 2 → (({ data := #[40, 44] } : ByteArray).extract k ((k : Int) + 1).toNat).size = 1 := by
  intro k hk
  match k, hk with
  | 0, _ => decide +kernel
  | 1, _ => decide +kernel
theorem decS_any (k : Nat) (hk : k ≤ 9) (w : World) : Calls Tryd.prog 66 #[.int .i64 (k : Int)] w fun e w' => ∃ x : ByteArray, e = .returned (.string x) ∧ x.size = 1 ∧ Below w.heap.size w w' := by
  refine (decP_any k (by omega) w _ (hid rfl)).mono ?_
  rintro e w' ⟨rfl, hb⟩
  refine ⟨_, rfl, ?_, hb⟩
  rw [Lib.decDigits_one (by omega)]
  rfl

set_option maxHeartbeats 1000000 in
set_option maxRecDepth 100000 in
theorem l6Draw_any (d : Nat) : ∀ (_ : d ≤ 3) (rb P : Nat) (w : World), Rdr w rb P → P + gPick d ≤ 1099511627776 →
    Calls Tryd.prog 78 #[.pointer (some ⟨rb, 0, none⟩), .int .i64 d] w fun e w' => ∃ x : ByteArray, e = .returned (.string x) ∧ 0 < x.size ∧ x.size ≤ dLen d ∧ Gave rb P (gPick d) w w' := by
  induction d with
  | zero =>
    intro hd rb P w hr hP
    have hP' : P + 1 ≤ 1099511627776 := hP
    go_enter Tryd.func78, Tryd.ntmps78
    go_wp2_with fail
    refine (pick_any rb P 6 w hr (by omega) (by omega) (by omega)).mono ?_
    rintro e w1 ⟨k, rfl, k0, k1, hG1⟩
    obtain ⟨j, rfl⟩ : ∃ j : Nat, k = (j : Int) := ⟨k.toNat, by omega⟩
    go_wp2_with fail
    refine (decS_any j (by omega) w1).mono ?_
    rintro e w2 ⟨x, rfl, hx, hb2⟩
    go_wp2_with fail
    go_ret
    exact ⟨x, rfl, by omega, by rw [hx]; exact dLen_pos 0, hG1.below6 hb2⟩
  | succ d ih =>
    intro hd rb P w hr hP
    have hd0 : ((d : Int) + 1 == 0) = false := by simp; omega
    have hd1 : IntKind.i64.wrap ((d : Int) + 1 - 1) = (d : Int) := by rw [IntKind.wrap_i64]; omega
    have hd2 : IntKind.i64.wrap (d : Int) = (d : Int) := by rw [IntKind.wrap_i64]; omega
    have e1 : dLen (d + 1) = 4 + 2 * dLen d := rfl
    have e2 : gPick (d + 1) = 3 + 2 * gPick d := rfl
    have e4 := dLen_pos d
    have hdl : dLen d ≤ 100 ∧ gPick d ≤ 100 := by
      have : d = 0 ∨ d = 1 ∨ d = 2 := by omega
      rcases this with rfl | rfl | rfl <;> decide
    go_enter Tryd.func78, Tryd.ntmps78
    go_wp2_with fail
    refine (pick_any rb P 6 w hr (by omega) (by omega) (by omega)).mono ?_
    rintro e w1 ⟨k, rfl, k0, k1, hG1⟩
    obtain ⟨j, rfl⟩ : ∃ j : Nat, k = (j : Int) := ⟨k.toNat, by omega⟩
    go_wp2_with fail
    refine (decS_any j (by omega) w1).mono ?_
    rintro e w2 ⟨x, rfl, hx, hb2⟩
    have hG2 := hG1.below6 hb2
    go_wp2_with fail
    refine (pick_any rb (P + 1) 3 w2 hG2.1 (by omega) (by omega) (by omega)).mono ?_
    rintro e w3 ⟨m, rfl, m0, m1, hG3⟩
    have hG23 := hG2.trans hG3
    by_cases hm : m = 0
    · subst hm
      go_wp2_with fail
      go_ret
      exact ⟨x, rfl, by omega, by omega, hG23.1.le (by omega), hG23.2⟩
    · have hm' : (m == 0) = false := by simpa using hm
      go_wp2_with fail
      refine (pick_any rb (P + 1 + 1) 2 w3 hG3.1 (by omega) (by omega) (by omega)).mono ?_
      rintro e w4 ⟨q, rfl, q0, q1, hG4⟩
      obtain ⟨t, rfl⟩ : ∃ t : Nat, q = (t : Int) := ⟨q.toNat, by omega⟩
      have hq : IntKind.i64.wrap (1 + (t : Int)) = ((t + 1 : Nat) : Int) := by rw [IntKind.wrap_i64]; omega
      obtain ⟨M, hM⟩ : ∃ M, t + 1 = M := ⟨_, rfl⟩
      rw [hM] at hq
      have hM2 : M ≤ 2 := by omega
      have hG234 := hG23.trans hG4
      have HG := hid hG234
      clear hG1 hG2 hG3 hG4 hG23 hG234 hM
      go_wp2_with fail
      go_loopw [5, 21] (fun o i wr => ∃ (k : Nat) (b : ByteArray), k ≤ M ∧ i = .int .i64 k ∧ o = .string b ∧ 0 < b.size ∧ b.size ≤ 1 + k * (1 + dLen d) ∧ Gave rb P (1 + 1 + 1 + k * gPick d) w wr) (fun _ i _ => M - (intOf i).toNat)
      case atStart => exact ⟨0, x, Nat.zero_le _, rfl, rfl, by omega, by omega, by rw [Nat.zero_mul]; exact HG.out⟩
      case round =>
        obtain ⟨k, b, hk, rfl, rfl, hb0, hb1, hGr⟩ := hrel
        have HGR := hid hGr
        have hrd := hGr.1
        clear hGr
        have hkd : k * (1 + dLen d) ≤ 202 := by
          have : k = 0 ∨ k = 1 ∨ k = 2 := by omega
          rcases this with rfl | rfl | rfl <;> omega
        have hkp : k * gPick d ≤ 200 := by
          have : k = 0 ∨ k = 1 ∨ k = 2 := by omega
          rcases this with rfl | rfl | rfl <;> omega
        by_cases hlt : k < M
        · have hcs := cutP k (by omega)
          have i1 : (0 : Int) ≤ (k : Int) := by omega
          have i2 : (k : Int) < (M : Int) := by omega
          have i3 : (k : Int) + 1 ≤ 2 := by omega
          have hw : IntKind.i64.wrap ((k : Int) + 1) = (k : Int) + 1 := by rw [IntKind.wrap_i64]; omega
          have hkd1 : (k + 1) * (1 + dLen d) = k * (1 + dLen d) + (1 + dLen d) := by rw [Nat.succ_mul]
          have hkp1 : (k + 1) * gPick d = k * gPick d + gPick d := by rw [Nat.succ_mul]
          have hkp2 : (k + 1) * gPick d ≤ 2 * gPick d := Nat.mul_le_mul_right _ (by omega)
          have hkd2 : (k + 1) * (1 + dLen d) ≤ 2 * (1 + dLen d) := Nat.mul_le_mul_right _ (by omega)
          have HIH := hid (ih (by omega) rb (P + (1 + 1 + 1 + k * gPick d)) wr.drew hrd (by omega))
          have hcat1 : ¬ 9223372036854775807 < b.size + (({ data := #[40, 44] } : ByteArray).extract k ((k : Int) + 1).toNat).size := by omega
          have HC1 := hid hkp1
          have HC2 := hid hkd1
          have HC3 := hid hkp2
          have HC4 := hid hkd2
          have HCS := hid hcs
          clear hkp1 hkd1 hkp2 hkd2 hcs
          go_upto_region 7 with fail
          go_region_with (go_at_call 78; refine HIH.out.mono ?_; rintro e w5 ⟨y, rfl, y0, y1, hG5⟩; have hcat2 : ¬ 9223372036854775807 < (b ++ ({ data := #[40, 44] } : ByteArray).extract k ((k : Int) + 1).toNat).size + y.size := (by rw [ByteArray.size_append]; have := HCS.out; omega))
          all_goals
            have HG5 := hid (HGR.out.trans hG5.drew6)
            clear hG5
            go_wp2_with fail
            go_roundw
            case rel =>
              refine ⟨k + 1, _, by omega, by go_num, rfl, ?_, ?_, HG5.out.1.le (by have := HC1.out; omega), ?_⟩
              · rw [ByteArray.size_append, ByteArray.size_append]; omega
              · have h := HCS.out; have e : ((k : Int) + 1).toNat = k + 1 := (by omega); rw [e] at h; rw [ByteArray.size_append, ByteArray.size_append, h]; have := HC2.out; omega
              · exact HG5.out.2
            case measure => simp [intOf]; omega
        · have hkn : k = M := by omega
          have hb2 : b.size ≤ 1 + 2 * (1 + dLen d) := by
            have : k = 0 ∨ k = 1 ∨ k = 2 := by omega
            rcases this with rfl | rfl | rfl <;> omega
          have hp2 : k * gPick d ≤ 2 * gPick d := Nat.mul_le_mul_right _ (by omega)
          have hcat : ¬ 9223372036854775807 < b.size + ({ data := #[41] } : ByteArray).size := by
            have : ({ data := #[41] } : ByteArray).size = 1 := rfl
            omega
          have hs1 : (b ++ ({ data := #[41] } : ByteArray)).size = b.size + 1 := by rw [ByteArray.size_append]; rfl
          have HS1 := hid hs1
          clear hs1
          go_wp2_with fail
          go_ret
          exact ⟨_, rfl, by rw [HS1.out]; omega, by rw [HS1.out]; omega, HGR.out.1.le (by omega), HGR.out.2⟩

set_option maxHeartbeats 4000000 in
set_option maxRecDepth 100000 in
theorem l6Any_any (rb P : Nat) (w : World) (hr : Rdr w rb P) (hP : P ≤ 1000000) :
    Calls Tryd.prog 50 #[.pointer (some ⟨rb, 0, none⟩)] w fun e w' => ∃ x : ByteArray, e = .returned (.string x) ∧ x.size ≤ 100 ∧ Gave rb P 100 w w' := by
  go_enter Tryd.func50, Tryd.ntmps50
  go_wp2_with fail
  refine (pick_any rb P 4 w hr (by omega) (by omega) (by omega)).mono ?_
  rintro e w1 ⟨k, rfl, k0, k1, hG1⟩
  obtain ⟨d, rfl⟩ : ∃ d : Nat, k = (d : Int) := ⟨k.toNat, by omega⟩
  have hd : d ≤ 3 := by omega
  have hdl : dLen d ≤ 76 ∧ gPick d ≤ 50 := by
    have : d = 0 ∨ d = 1 ∨ d = 2 ∨ d = 3 := by omega
    rcases this with rfl | rfl | rfl | rfl <;> decide
  go_wp2_with fail
  refine (l6Draw_any d hd rb (P + 1) w1 hG1.1 (by omega)).mono ?_
  rintro e w3 ⟨x, rfl, x0, x1, hG3⟩
  go_wp2_with fail
  refine (pick_any rb (P + 1 + gPick d) 12 w3 hG3.1 (by omega) (by omega) (by omega)).mono ?_
  rintro e w4 ⟨q, rfl, q0, q1, hG4⟩
  by_cases hq : 0 < q
  · go_wp2_with fail
    go_ret
    have hG := hG1.trans (hG3.trans hG4)
    exact ⟨x, rfl, by omega, hG.1.le (by omega), hG.2⟩
  · have xs : (x.size : Int) ≤ 9223372036854775807 := by omega
    have xs1 : 1 ≤ (x.size : Int) := by omega
    go_wp2_with fail
    refine (pick_any rb (P + 1 + gPick d + 1) x.size w4 hG4.1 (by omega) xs1 xs).mono ?_
    rintro e w5 ⟨j, rfl, j0, j1, hG5⟩
    obtain ⟨i, rfl⟩ : ∃ i : Nat, j = (i : Int) := ⟨j.toNat, by omega⟩
    have hi : i < x.size := by omega
    have i1 : (i : Int) ≤ (x.size : Int) := by omega
    go_wp2_with fail
    have HG := hid (And.intro hG1 (And.intro hG3 (And.intro hG4 hG5)))
    have hr5 : Rdr w5.drew rb (P + 1 + gPick d + 1 + 1) := hG5.1
    clear hG1 hG3 hG4 hG5
    go_region_with (first | (go_at_call 65; refine (of_new rb (P + 1 + gPick d + 1 + 1) 6 _ _ [⟨#[]⟩, ⟨#[40]⟩, ⟨#[41]⟩, ⟨#[44]⟩, ⟨#[48]⟩, ⟨#[120]⟩] w5.drew hr5 (by omega) rfl rfl (by omega) (by omega)).mono ?_; rintro e w6 ⟨y, hy, rfl, hG6⟩; have hy1 : y.size ≤ 1 := small_of (by rfl) hy; clear hy) | (go_at_call 64; refine (pick_any rb (P + 1 + gPick d + 1 + 1 + 1) 2 _ hG6.1 (by omega) (by omega) (by omega)).mono ?_; rintro e w7 ⟨t', rfl, t0, t1, hG7⟩; obtain ⟨t, rfl⟩ : ∃ t : Nat, t' = (t : Int) := ⟨t'.toNat, by omega⟩; have t2 : (i : Int) + (t : Int) ≤ (x.size : Int) := (by omega); have t3 : (0 : Int) ≤ (i : Int) + (t : Int) := (by omega); have t4 : IntKind.i64.wrap ((i : Int) + (t : Int)) = (i : Int) + (t : Int) := wrap_in _ (by omega)))
    all_goals
      go_wp2_with fail
      go_ret
      have hG := HG.out.1.trans (HG.out.2.1.trans (HG.out.2.2.1.trans (HG.out.2.2.2.trans (Gave.trans (a := w5) (b := w6) ⟨hG6.1, ((But.refl w5.heap.size rb w5).drewN 1).trans hG6.2⟩ hG7))))
      exact ⟨_, rfl, by simp; omega, hG.1.le (by omega), hG.2⟩

set_option maxHeartbeats 400000 in
set_option maxRecDepth 100000 in
theorem drawPartsOfDict_any (A : Option Addr) (len cap : Nat) (w : World) (hl : len ≤ cap) (hm : cap ≤ maxLen) (hb : Bts w A len) :
    Calls Tryd.prog 13 #[.slice A len cap] w fun e w' => ∃ t : ByteArray, e = .returned (.string t) ∧ t.size ≤ 100 ∧ Below w.heap.size w w' := by
  have HB := hid hb
  clear hb
  go_enter Tryd.func13, Tryd.ntmps13
  go_wp2_with fail
  refine (l13Open_any A len cap w hl hm HB.out).mono ?_
  rintro e u1 ⟨rb, rfl, hrb, hr1, hb1⟩
  go_wp2_with fail
  refine (l6Any_any rb 0 u1 hr1 (by omega)).mono ?_
  rintro e u2 ⟨t, rfl, ht, _, hG⟩
  go_wp2_with fail
  go_ret
  exact ⟨t, rfl, ht, hb1.trans (hG.below' hb1.size hrb)⟩

theorem num_newAt (rb P n g : Nat) (cs : Array Value) (T : TypeId) (xs : List Int) (w : World) (hr : Rdr w rb P) (hP : P ≤ 1099511627776) (hcs : cs = (xs.map (Value.int .i64)).toArray) (hn : n = xs.length) (h0 : 0 < n) (h1 : n ≤ 1000) (hg : g = w.heap.size) :
    Calls Tryd.prog 58 #[.pointer (some ⟨rb, 0, none⟩), .slice (some ⟨g, 0, none⟩) n n] (w.alloc (.cells cs T)) fun e w' => ∃ x, x ∈ xs ∧ e = .returned (.int .i64 x) ∧ Gave rb P 1 w w' := by
  subst hg
  exact num_new rb P n cs T xs w hr hP hcs hn h0 h1

set_option maxHeartbeats 2000000 in
set_option maxRecDepth 100000 in
theorem drawMakeDict_any (A : Option Addr) (len cap : Nat) (w : World) (hl : len ≤ cap) (hm : cap ≤ maxLen) (hb : Bts w A len) :
    Calls Tryd.prog 24 #[.slice A len cap] w fun e w' => ∃ (i : Int) (B : Option Addr) (n c : Nat) (xs : List ByteArray), e = .returned (.tuple #[.int .i64 i, .slice B n c]) ∧ (-1 ≤ i ∧ i ≤ 10) ∧ n ≤ c ∧ n ≤ 4 ∧ Strs w' B n xs ∧ (∀ x ∈ xs, x.size ≤ 100) ∧ Below w.heap.size w w' := by
  obtain ⟨i0, hi0, hz0, hz1, hz2⟩ := info_parts stringInfo
  have HB := hid hb
  clear hb
  go_enter Tryd.func24, Tryd.ntmps24
  go_wp2_with fail
  refine (l13Open_any A len cap w hl hm HB.out).mono ?_
  rintro e u1 ⟨rb, rfl, hrb, hr1, hb1⟩
  have z1 := hb1.size
  have hrb1 := hr1.lt
  have HR1 := hid (hr1.keep ((Below.refl u1.heap.size u1).alloc (Nat.le_refl _) (.cells #[] 9)))
  have HB1 := hid hb1
  clear hr1 hb1
  go_wp2_with fail
  refine (num_newAt rb 0 5 (u1.heap.size + 1) _ _ [1, 2, 0, 3, 4] (u1.alloc (.cells #[] 9)) HR1.out (by omega) rfl rfl (by omega) (by omega) (World.size_alloc _ _).symm).mono ?_
  rintro e u2 ⟨m, hm5, rfl, hG⟩
  have hmr : 0 ≤ m ∧ m ≤ 4 := by simp at hm5; omega
  obtain ⟨M, rfl⟩ : ∃ M : Nat, m = (M : Int) := ⟨m.toNat, by omega⟩
  have hM : M ≤ 4 := by omega
  have z2 := hG.2.size
  simp only [World.size_alloc] at z2
  have hown0 : u2.ownsRow u1.heap.size 9 1 (.slice (some ⟨u1.heap.size, 0, none⟩) 0 0) 0 [] := by
    refine ⟨rfl, .inr ⟨u1.heap.size, 0, #[], rfl, Nat.le_refl _, ?_, Nat.le_refl _, Nat.zero_le _, rfl, rfl⟩⟩
    rw [hG.2.block u1.heap.size (by simp only [World.size_alloc]; omega) (by omega)]
    exact heap_new1 _ _
  have hbel0 : Below w.heap.size w u2 := HB1.out.trans (((Below.refl _ _).alloc (by omega) _).trans (hG.2.below' (by simp only [World.size_alloc]; omega) hrb))
  have HGR := hid hG.1
  have HOWN := hid hown0
  have HBL := hid hbel0
  clear hown0 hG hbel0 hm5 hmr
  go_wp2_with fail
  go_loopw [5, 12] (fun v i wr => ∃ (k : Nat) (xs : List ByteArray), k ≤ M ∧ i = .int .i64 k ∧ wr.ownsRow u1.heap.size 9 1 v k (xs.map Value.string) ∧ xs.length = k ∧ (∀ x ∈ xs, x.size ≤ 100) ∧ Rdr wr rb (0 + 1 + 100 * k) ∧ Below w.heap.size w wr ∧ u1.heap.size ≤ wr.heap.size) (fun _ i _ => M - (intOf i).toNat)
  case atStart => exact ⟨0, [], Nat.zero_le _, rfl, HOWN.out, rfl, (fun x hx => by cases hx), HGR.out, HBL.out, by omega⟩
  case round =>
    obtain ⟨k, xs, hk, rfl, hown, hxl, hxs, hrd, hbel, hz⟩ := hrel
    have HW := hid hown
    have HXL := hid hxl
    have HXS := hid hxs
    have HRD := hid hrd
    have HBEL := hid hbel
    have hrbw := hrd.lt
    clear hown hxl hxs hrd hbel
    by_cases hlt : k < M
    · go_wp2_with fail
      refine (l6Any_any rb (0 + 1 + 100 * k) wr HRD.out (by omega)).mono ?_
      rintro e w1 ⟨x, rfl, hx, hG⟩
      have hzw := hG.2.size
      have hown1 : w1.ownsRow u1.heap.size 9 1 _ k (xs.map Value.string) := HW.out.kept (row := some rb) ⟨hG.2.os, hG.2.tape, hG.2.output, hG.2.size, fun k hk hn => hG.2.block k hk (fun e => hn (by rw [e]))⟩ (.inr fun e => by have := (HW.out.lt rb e).1; omega)
      have HW1 := hid hown1
      have HX := hid hx
      have HG := hid hG
      clear hown1 hx hG
      go_wp2_with (at_builtin; refine wpList_append_own _ rfl _ _ 24 rfl u1.heap.size 9 i0 (.string ⟨#[]⟩) 1 16 Tryd.underlying24 hi0 hz0 hz1 hz2 rfl (by decide) _ k _ rfl (HW1.out.alloc _) ⟨w1.heap.size, 0, none⟩ 1 1 [.string x] rfl rfl ?c1 ?c2 ?c3 ?c4 ?c5 ?_)
      case c1 => exact news1 _ _ _
      case c2 =>
        intro u hu
        simp only [List.mem_singleton] at hu
        subst hu
        rfl
      case c3 => unfold maxLen; omega
      case c4 => omega
      case c5 => simp only [World.size_alloc]; omega
      intro v2 w2 hown2 hg2 hv2
      clear hv2
      have HO2 := hid hown2
      have HG2 := hid hg2
      have hzz := hg2.size
      simp only [World.size_alloc] at hzz
      clear hown2 hg2
      have hbw1 : Below w.heap.size w w1 := HBEL.out.trans (HG.out.2.below' (by have := HBEL.out.size; omega) hrb)
      go_wp2_with fail
      go_roundw
      case rel =>
        refine ⟨k + 1, xs ++ [x], hlt, by go_num, ?_, by rw [List.length_append, HXL.out]; rfl, ?_, ?_, ?_, by omega⟩
        · rw [List.map_append]
          exact HO2.out
        · intro y hy
          rcases List.mem_append.1 hy with hy | hy
          · exact HXS.out y hy
          · simp only [List.mem_singleton] at hy
            subst hy
            exact HX.out
        · have hle : (0 + 1 + 100 * k + 100) = 0 + 1 + 100 * (k + 1) := by omega
          rw [← hle]
          refine HG.out.1.keep' (by omega) fun j hj => ?_
          rw [HG2.out.block j (by simp only [World.size_alloc]; omega) (fun e => by have := (HW1.out.lt j e.symm).1; omega)]
          exact Below.heap_alloc _ _ _ (by omega)
        · exact (hbw1.alloc (by have := hbw1.size; omega) _).grown HG2.out (by have := hbw1.size; simp only [World.size_alloc]; omega) (fun j hj => by have := (HW1.out.lt j hj).1; omega)
      case measure => simp [intOf]; omega
    · obtain rfl : k = M := by omega
      go_wp2_with fail
      refine (num_new rb (0 + 1 + 100 * k) 6 _ _ [0, 3, 9, 10, -1, 1] wr HRD.out (by omega) rfl rfl (by omega) (by omega)).mono ?_
      rintro e w1 ⟨x, hx6, rfl, hG⟩
      have hxr : -1 ≤ x ∧ x ≤ 10 := by simp at hx6; omega
      have hown1 : w1.ownsRow u1.heap.size 9 1 _ k (xs.map Value.string) := HW.out.kept (row := some rb) ⟨hG.2.os, hG.2.tape, hG.2.output, hG.2.size, fun k hk hn => hG.2.block k hk (fun e => hn (by rw [e]))⟩ (.inr fun e => by have := (HW.out.lt rb e).1; omega)
      obtain ⟨B, c, hB, hc, hS⟩ := own_made hown1
      subst hB
      have HS := hid hS
      have HG := hid hG
      have hbw1 : Below w.heap.size w w1 := HBEL.out.trans (HG.out.2.below' (by have := HBEL.out.size; omega) hrb)
      clear hS hG hown1 hx6
      go_wp2_with fail
      exact bodyPost_ret (v := .tuple #[.int .i64 x, .slice B k c]) (by simp [results, Tryd.results24, go_sem]) rfl ⟨x, B, k, c, xs, rfl, hxr, hc, hM, HS.out, HXS.out, hbw1⟩

end Go.Proofs.YtlpfgiegapelmaaDoor
