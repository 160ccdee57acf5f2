/- The program's dictionaries: how deep one is; whether an instance stands in it. -/
import Derived.Test.YtlpfgiegapelmaaDoorDrT
import Derived.Deep.RegionWith
import Derived.Deep.Cut
import Derived.RegionTactic
namespace Go.Proofs.YtlpfgiegapelmaaDoor
open Go.RowKit
set_option linter.unusedVariables false

theorem depthL_append (xs ys : List Dt) : depthL xs ≤ depthL (xs ++ ys) := by
  induction xs with
  | nil => exact Nat.zero_le _
  | cons x xs ih => simp only [List.cons_append, depthL]; omega
theorem part_len {c : UInt8} {ps : List Dt} (hl : (Dt.nd c ps).text.length ≤ 100000000000) : (∀ p ∈ ps, p.text.length ≤ 100000000000) ∧ ps.length ≤ 100000000000 := by
  rw [Dt.text_nd] at hl
  simp only [List.length_cons, List.length_append] at hl
  refine ⟨fun p hp => ?_, ?_⟩
  · have h1 := mem_len (i := 0) hp
    omega
  · have := partsT_len ps 0
    omega

def DepthD (d : Dt) : Prop := ∀ (S : Nat → Prop) (a : Nat) (w : World), RepD w S d a → d.text.length ≤ 100000000000 →
  Calls Tryd.prog 63 #[.pointer (some ⟨a, 0, none⟩)] w fun e w' => e = .returned (.int .i64 (d.depth : Int)) ∧ w' = w

set_option maxHeartbeats 1000000 in
set_option maxRecDepth 100000 in
theorem depthD_any (d : Dt) : DepthD d := by
  induction d using Dt.ind with
  | h c ps ih =>
    intro S a w hr hl
    obtain ⟨hls, hnb⟩ := part_len hl
    have hsz := (Dt.nd c ps).depth_le
    rw [Dt.depth_nd] at hsz ⊢
    obtain ⟨A, cap, hc, ha, hcap, hrow⟩ := hr.row
    have c1 : w.cell? ⟨a, 1, none⟩ = some (.slice A ps.length cap) := cell_blk hc (j := 1) rfl
    obtain ⟨n, hn⟩ : ∃ n, ps.length = n := ⟨_, rfl⟩
    rw [hn] at c1 hrow hcap hnb
    obtain ⟨T, hT⟩ : ∃ T, depthL ps = T := ⟨_, rfl⟩
    rw [hT] at hsz ⊢
    have hTm : T ≤ 100000000000 := by omega
    have HT := hid hT
    have HN := hid hn
    have HROW := hid hrow
    have HIH := hid ih
    have HL := hid hls
    clear hn hrow ih hls hc ha hr hT hsz hl
    go_enter Tryd.func63, Tryd.ntmps63
    go_wp2_with fail
    go_loopw [3, 11] (fun v i wr => ∃ k : Nat, k ≤ n ∧ i = .int .i64 k ∧ v = .int .i64 ((depthL (ps.take k) : Nat) : Int) ∧ wr = w) (fun _ i _ => n - (intOf i).toNat)
    case atStart => exact ⟨0, Nat.zero_le _, rfl, rfl, rfl⟩
    case round =>
      obtain ⟨k, hk, rfl, rfl, rfl⟩ := hrel
      by_cases hlt : k < n
      · obtain ⟨g, rfl, hg, hcells⟩ := HROW.out (by omega)
        have hpk : k < ps.length := by rw [HN.out]; exact hlt
        obtain ⟨p, hp⟩ : ∃ p, ps[k]? = some p := ⟨_, List.getElem?_eq_getElem hpk⟩
        obtain ⟨a', hca, hrep⟩ := hcells k p hp
        have hmem := List.mem_of_getElem? hp
        have HS := hid (HIH.out p hmem S a' _ hrep (HL.out p hmem))
        have hstep : depthL (ps.take (k + 1)) = max (depthL (ps.take k)) (p.depth + 1) := by rw [List.take_add_one, hp]; exact depthL_snoc _ _
        have hle : depthL (ps.take (k + 1)) ≤ T := by
          rw [← HT.out]
          conv => rhs; rw [← List.take_append_drop (k + 1) ps]
          exact depthL_append _ _
        obtain ⟨u, hu⟩ : ∃ u, depthL (ps.take k) = u := ⟨_, rfl⟩
        obtain ⟨z, hz⟩ : ∃ z, p.depth = z := ⟨_, rfl⟩
        rw [hu, hz] at hstep
        rw [hstep] at hle
        rw [hz] at HS
        rw [hu]
        have hzm : z + 1 ≤ 100000000000 := by omega
        have hum : u ≤ 100000000000 := by omega
        have HST := hid hstep
        have i1 : (0 : Int) ≤ (k : Int) := by omega
        have i2 : (k : Int) < (n : Int) := by omega
        have hw : IntKind.i64.wrap ((z : Int) + 1) = (z : Int) + 1 := by rw [IntKind.wrap_i64]; omega
        clear hcells hrep hmem hp hstep hu hz hle
        by_cases hlt2 : u < z + 1
        all_goals
          go_wp2_with fail
          refine HS.out.mono ?_
          rintro e w1 ⟨rfl, rfl⟩
          go_wp2_with fail
          go_roundw
          case rel =>
            refine ⟨k + 1, by omega, by go_num, ?_, trivial⟩
            rw [HST.out]
            congr 1
            omega
          case measure => simp [intOf]; omega
      · have hkn : k = n := by omega
        subst hkn
        go_wp2_with fail
        go_ret
        refine ⟨?_, rfl⟩
        rw [List.take_of_length_le (by have := HN.out; omega), HT.out]
        rfl

/-- A row of dictionaries in memory. -/
def RowD (w : World) (S : Nat → Prop) (A : Option Addr) (n : Nat) (ps : List Dt) : Prop :=
  ps.length = n ∧ (0 < n → ∃ g, A = some ⟨g, 0, none⟩ ∧ S g ∧ ∀ (j : Nat) p, ps[j]? = some p → ∃ a', w.cell? ⟨g, j, none⟩ = some (.pointer (some ⟨a', 0, none⟩)) ∧ RepD w S p a')

def HasD (x : UInt8) (i : Nat) (d : Dt) : Prop := ∀ (S : Nat → Prop) (a : Nat) (w : World), RepD w S d a → (∀ y, S y → y < w.heap.size) → d.ok → d.text.length ≤ 100000000000 →
  Calls Tryd.prog 56 #[.pointer (some ⟨a, 0, none⟩), .int .i64 (i : Int)] w fun e w' => e = .returned (.bool (d.has x)) ∧ Below w.heap.size w w'

set_option maxHeartbeats 400000 in
set_option maxRecDepth 100000 in
theorem has1D_any (x : UInt8) (i : Nat) (p : Dt) (hp : HasD x i p) (S : Nat → Prop) (a b : Nat) (w : World) (hr : RepD w S p a) (hS : ∀ y, S y → y < w.heap.size) (hok : p.ok) (hl : p.text.length ≤ 100000000000) (hc : w.cell? ⟨b, 0, none⟩ = some (.int .i64 (i : Int))) :
    Calls Tryd.prog 84 #[.pointer (some ⟨a, 0, none⟩), .pointer (some ⟨b, 0, none⟩)] w fun e w' => e = .returned (.bool (p.has x)) ∧ Below w.heap.size w w' := by
  have HP := hid (hp S a w hr hS hok hl)
  obtain ⟨v, hv⟩ : ∃ v, p.has x = v := ⟨_, rfl⟩
  rw [hv] at HP ⊢
  clear hp hr hS hok hl hv
  go_enter Tryd.func84, Tryd.ntmps84
  go_wp2_with fail
  refine HP.out.mono ?_
  rintro e w1 ⟨rfl, hb⟩
  go_wp2_with fail
  go_ret
  exact ⟨rfl, hb⟩

theorem cf_hasD (args : Array Value) (w : World) : (callFunc 84 args).run Tryd.prog w = .ok (.enter 84 args) w := by kernel_rfl

set_option maxHeartbeats 1000000 in
set_option maxRecDepth 100000 in
theorem indexD_any (fn : Nat) (k1 : Value) (hcf : ∀ args w, (callFunc fn args).run Tryd.prog w = .ok (.enter fn args) w) (S : Nat → Prop) (A : Option Addr) (n cap : Nat) (ps : List Dt) (r : Dt → Bool) (w : World) (hn : n ≤ 100000000000) (ha : RowD w S A n ps) (hS : ∀ y, S y → y < w.heap.size)
    (HC : ∀ W p a, p ∈ ps → Below w.heap.size w W → RepD W S p a → Calls Tryd.prog fn #[.pointer (some ⟨a, 0, none⟩), k1] W fun e w' => e = .returned (.bool (r p)) ∧ Below W.heap.size W w') :
    Calls Tryd.prog 92 #[.slice A n cap, .func (.func fn) #[] #[k1]] w fun e w' => ∃ q : Int, e = .returned (.int .i64 q) ∧ decide (0 ≤ q) = ps.any r ∧ Below w.heap.size w w' := by
  have HA := hid ha
  have HCC := hid HC
  have HS := hid hS
  clear ha HC hS
  go_enter Tryd.func92, Tryd.ntmps92
  go_wp2_with fail
  go_loopw [8] (fun i wr => ∃ k : Nat, k ≤ n ∧ i = .int .i64 k ∧ (∀ j p, j < k → ps[j]? = some p → r p = false) ∧ Below w.heap.size w wr) (fun i _ => n - (intOf i).toNat)
  case atStart => exact ⟨0, Nat.zero_le _, rfl, (fun j z h => absurd h (Nat.not_lt_zero _)), Below.refl _ _⟩
  case round =>
    obtain ⟨k, hk, rfl, hno, hbel⟩ := hrel
    have HNO := hid hno
    clear hno
    by_cases hlt : k < n
    · obtain ⟨g, rfl, hg, hca⟩ := HA.out.2 (by omega)
      have hx : ps[k]? = some (ps[k]'(by have := HA.out.1; omega)) := List.getElem?_eq_getElem _
      obtain ⟨a', ca, hrep⟩ := hca k _ hx
      obtain ⟨p, ex⟩ : ∃ z, ps[k]'(by have := HA.out.1; omega) = z := ⟨_, rfl⟩
      rw [ex] at hrep hx
      have HX := hid hx
      have ca' := cell_below ca (HS.out g hg) hbel
      have HI := hid (HCC.out wr p a' (List.mem_of_getElem? hx) hbel (RepD.keep (fun x hx => ⟨hx, hbel.block x (HS.out x hx)⟩) p a' hrep))
      clear hca hx ex ca hrep
      have i1 : (0 : Int) ≤ (k : Int) := by omega
      have i2 : (k : Int) < (n : Int) := by omega
      obtain ⟨b, hb⟩ : ∃ b, r p = b := ⟨_, rfl⟩
      rw [hb] at HI
      have HB := hid hb
      clear hb
      go_wp2_with fail
      refine HI.out.mono ?_
      rintro e w1 ⟨rfl, d1⟩
      cases b
      · go_wp2_with fail
        go_roundw
        case rel =>
          refine ⟨k + 1, hlt, by go_num, fun j z hj hz => ?_, hbel.trans (d1.mono hbel.size)⟩
          by_cases e : j = k
          · subst e
            rw [HX.out] at hz
            injection hz with hz
            rw [← hz]
            exact HB.out
          · exact HNO.out j z (by omega) hz
        case measure => simp [intOf]; omega
      · go_wp2_with fail
        go_ret
        refine ⟨(k : Int), rfl, ?_, hbel.trans (d1.mono hbel.size)⟩
        rw [decide_eq_true i1]
        exact (List.any_eq_true.2 ⟨p, List.mem_of_getElem? HX.out, HB.out⟩).symm
    · go_wp2_with fail
      go_ret
      refine ⟨-1, rfl, ?_, hbel⟩
      rw [show decide ((0 : Int) ≤ -1) = false from rfl]
      refine (Bool.eq_false_iff.2 fun h => ?_).symm
      obtain ⟨z, hz, e⟩ := List.any_eq_true.1 h
      obtain ⟨j, hj, rfl⟩ := List.getElem_of_mem hz
      rw [HNO.out j _ (by have := HA.out.1; omega) (List.getElem?_eq_getElem hj)] at e
      cases e

set_option maxHeartbeats 400000 in
set_option maxRecDepth 100000 in
theorem containsD_any (fn : Nat) (k1 : Value) (hcf : ∀ args w, (callFunc fn args).run Tryd.prog w = .ok (.enter fn args) w) (S : Nat → Prop) (A : Option Addr) (n cap : Nat) (ps : List Dt) (r : Dt → Bool) (w : World) (hn : n ≤ 100000000000) (ha : RowD w S A n ps) (hS : ∀ y, S y → y < w.heap.size)
    (HC : ∀ W p a, p ∈ ps → Below w.heap.size w W → RepD W S p a → Calls Tryd.prog fn #[.pointer (some ⟨a, 0, none⟩), k1] W fun e w' => e = .returned (.bool (r p)) ∧ Below W.heap.size W w') :
    Calls Tryd.prog 83 #[.slice A n cap, .func (.func fn) #[] #[k1]] w fun e w' => e = .returned (.bool (ps.any r)) ∧ Below w.heap.size w w' := by
  have HI := hid (indexD_any fn k1 hcf S A n cap ps r w hn ha hS HC)
  clear HC ha hS
  go_enter Tryd.func83, Tryd.ntmps83
  go_wp2_with fail
  refine HI.out.mono ?_
  rintro e w1 ⟨q, rfl, hq, hb⟩
  have HQ := hid hq
  clear hq
  go_wp2_with fail
  go_ret
  exact ⟨by rw [← HQ.out]; simp, hb⟩

theorem RepD.rowD {w : World} {S : Nat → Prop} {c : UInt8} {ps : List Dt} {a : Nat} (h : RepD w S (.nd c ps) a) : ∃ A cap, w.cell? ⟨a, 0, none⟩ = some (.int .i64 ((c.toNat - 48 : Nat) : Int)) ∧ w.cell? ⟨a, 1, none⟩ = some (.slice A ps.length cap) ∧ S a ∧ ps.length ≤ cap ∧ RowD w S A ps.length ps := by
  obtain ⟨A, cap, hc, ha, hcap, hrow⟩ := h.row
  exact ⟨A, cap, cell_blk hc (j := 0) rfl, cell_blk hc (j := 1) rfl, ha, hcap, rfl, hrow⟩

set_option maxHeartbeats 1000000 in
set_option maxRecDepth 100000 in
theorem hasD_any (x : UInt8) (i : Nat) (hi : 48 + i = x.toNat) (hi9 : i ≤ 9) (d : Dt) : HasD x i d := by
  induction d using Dt.ind with
  | h c ps ih =>
    intro S a w hr hS hok hl
    obtain ⟨hls, hnb⟩ := part_len hl
    obtain ⟨hdg, hlen, hps⟩ := (Dt.ok_nd c ps).1 hok
    have hcv := dg_val hdg
    obtain ⟨A, cap, c0, c1, ha, hcap, hrow⟩ := hr.rowD
    obtain ⟨W0, hW0⟩ : ∃ W0, w.alloc (.cells #[.int .i64 (i : Int)] 3) = W0 := ⟨_, rfl⟩
    have hWc := heap_new1 w (.cells #[.int .i64 (i : Int)] 3)
    rw [hW0] at hWc
    have zW : w.heap.size < W0.heap.size := by rw [← hW0]; simp only [World.size_alloc]; omega
    have hb0 : Below w.heap.size w W0 := by rw [← hW0]; exact (Below.refl _ _).alloc (Nat.le_refl _) _
    have hal := hS a ha
    have d0 := cell_below c0 hal hb0
    have d1 := cell_below c1 hal hb0
    have e0 := cell_of1 hWc
    have HCN := hid (fun (V : World) (hV : Below W0.heap.size W0 V) => by
      have hwV := hb0.trans (hV.mono hb0.size)
      have hrw : RowD V S A ps.length ps := by
        refine ⟨hrow.1, fun h => ?_⟩
        obtain ⟨g, e, hg, hj⟩ := hrow.2 h
        refine ⟨g, e, hg, fun j p hp => ?_⟩
        obtain ⟨a', h1, h2⟩ := hj j p hp
        exact ⟨a', cell_below h1 (hS g hg) hwV, RepD.keep (fun y hy => ⟨hy, hwV.block y (hS y hy)⟩) p a' h2⟩
      exact containsD_any 84 (.pointer (some ⟨w.heap.size, 0, none⟩)) cf_hasD S A ps.length cap ps (fun p => p.has x) V hnb hrw (fun y hy => by have := hS y hy; have := hwV.size; omega) fun W p a' hp hW hrep => has1D_any x i p (ih p hp) S a' w.heap.size W hrep (fun y hy => by have := hS y hy; have := hwV.size; have := hW.size; omega) (hps p hp) (hls p hp) (cell_blk ((hW.block _ (Nat.lt_of_lt_of_le zW hV.size)).trans ((hV.block _ zW).trans hWc)) rfl))
    obtain ⟨n, hn⟩ : ∃ n, ps.length = n := ⟨_, rfl⟩
    rw [hn] at HCN d1 hnb hcap
    have hhas : (Dt.nd c ps).has x = (c == x || ps.any fun p => p.has x) := by rw [Dt.has_nd, hasL_any]
    obtain ⟨q, hq⟩ : ∃ q, c.toNat - 48 = q := ⟨_, rfl⟩
    rw [hq] at d0
    have hcx : (c == x) = decide (q = i) := by
      by_cases e : q = i
      · rw [decide_eq_true e, beq_iff_eq, ← UInt8.toNat_inj]; omega
      · rw [decide_eq_false e, beq_eq_false_iff_ne]
        intro h
        rw [h] at hq hcv
        omega
    rw [hcx] at hhas
    rw [hhas]
    obtain ⟨v, hv⟩ : ∃ v, (ps.any fun p => p.has x) = v := ⟨_, rfl⟩
    rw [hv] at HCN ⊢
    have HB0 := hid hb0
    have HW0 := hid hW0
    have HBD := hid (show Below W0.heap.size W0 W0.drew from (Below.refl _ _).drew)
    clear c0 c1 ha hrow hdg hps hls hhas hcx hv hcv hq hn hok hr ih hS hb0 hl hWc hW0
    by_cases e : q = i
    · subst e
      go_enter Tryd.func56, Tryd.ntmps56
      go_upto_region 1 with fail
      rw [HW0.out]
      go_quiet (fail)
      go_wp2_with fail
      go_ret
      exact ⟨by simp, below_drewN' HB0.out _⟩
    · have hne : ((q : Int) == (i : Int)) = false := by simp; omega
      rw [decide_eq_false e, Bool.false_or]
      go_enter Tryd.func56, Tryd.ntmps56
      go_upto_region 1 with fail
      rw [HW0.out]
      go_region_with (go_at_call 83; refine (HCN.out W0.drew HBD.out).mono ?_; rintro e w1 ⟨rfl, hb⟩)
      all_goals
        go_wp2_with fail
        go_ret
        exact ⟨rfl, HB0.out.trans ((HBD.out.trans hb).mono HB0.out.size)⟩

end Go.Proofs.YtlpfgiegapelmaaDoor
