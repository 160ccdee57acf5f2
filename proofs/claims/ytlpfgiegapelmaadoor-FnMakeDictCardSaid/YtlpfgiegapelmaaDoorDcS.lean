/- The model's dictionaries: their texts, how deep they are; DictValid, InstanceOf, SizeOfDict, DepthOfDict. -/
import Derived.Test.YtlpfgiegapelmaaDoorDrS
import Derived.Test.YtlpfgiegapelmaaDoorDcI
import Derived.Test.YtlpfgiegapelmaaDoorDec
import Derived.Test.YtlpfgiegapelmaaDoorPartsS
import Derived.Deep.RegionWith
import Derived.Deep.Cut
import Derived.RegionTactic
namespace Go.Proofs.YtlpfgiegapelmaaDoor
open Go.RowKit
set_option linter.unusedVariables false

theorem dec1_any (q : Nat) (hq : q ≤ 9) (c : UInt8) (hc : Hid (48 + q = c.toNat)) (w : World) :
    Calls Tryd.prog 66 #[.int .i64 (q : Int)] w fun e w' => e = .returned (.string (strOf [c])) ∧ Below w.heap.size w w' := by
  refine decP_any q (by omega) w _ (hid ?_)
  rw [Lib.decDigits_one (by omega), hc.out, UInt8.ofNat_toNat]
theorem sep_cut : ∀ k, k < 3 → ({ data := #[40, 44, 44] } : ByteArray).extract k ((k : Int) + 1).toNat = strOf [sepD k] := by
  intro k hk
  match k, hk with
  | 0, _ => decide +kernel
  | 1, _ => decide +kernel
  | 2, _ => decide +kernel

def TextM (d : Dt) : Prop := ∀ (S : Nat → Prop) (h p : Value) (w : World), RepM w S d h p → (∀ x, S x → x < w.heap.size) → d.ok → d.text.length ≤ 100000000000 →
  Calls Tryd.prog 55 #[.agg #[h, p]] w fun e w' => e = .returned (.string (strOf d.text)) ∧ Below w.heap.size w w'

theorem partsT_take_len (i : Nat) (ps : List Dt) (k : Nat) : (partsT i (ps.take k)).length ≤ (partsT i ps).length := by
  conv => rhs; rw [← List.take_append_drop k ps]
  rw [partsT_append, List.length_append]
  omega

set_option maxHeartbeats 2000000 in
set_option maxRecDepth 100000 in
theorem textM_any (d : Dt) : TextM d := by
  induction d using Dt.ind with
  | h c ps ih =>
    intro S h p w hr hS hok hl
    obtain ⟨hdg, hlen, hps⟩ := (Dt.ok_nd c ps).1 hok
    obtain ⟨hls, hnb⟩ := part_len hl
    have hcv := dg_val hdg
    obtain ⟨rfl, A, cap, rfl, hcap, hrow⟩ := hr.row
    obtain ⟨n, hn⟩ : ∃ n, ps.length = n := ⟨_, rfl⟩
    rw [hn] at hrow hcap hnb hlen ⊢
    obtain ⟨q, hq⟩ : ∃ q, c.toNat - 48 = q := ⟨_, rfl⟩
    rw [hq]
    have HDC := hid (fun (W : World) => dec1_any q (by omega) c (hid (by omega)) W)
    obtain ⟨hd, hhd⟩ : ∃ hd, strOf [c] = hd := ⟨_, rfl⟩
    have hds : hd.size ≤ 1 := by rw [← hhd]; exact Nat.le_refl _
    rw [hhd] at HDC
    have HHD := hid hhd
    obtain ⟨T, hT⟩ : ∃ T, (Dt.nd c ps).text = T := ⟨_, rfl⟩
    have htk : ∀ k, (partsT 0 (ps.take k)).length ≤ 100000000000 := fun k => by
      have h1 := partsT_take_len 0 ps k
      rw [Dt.text_nd] at hl
      simp only [List.length_cons, List.length_append] at hl
      omega
    have HTK := hid htk
    rw [hT] at hl ⊢
    have HT := hid hT
    have HN := hid hn
    have HROW := hid hrow
    have HIH := hid ih
    have HL := hid hls
    have HS := hid hS
    have HOK := hid hps
    obtain ⟨W, hW⟩ : ∃ W, w.alloc (.cells #[.int .i64 (q : Int), .slice A n cap] 64) = W := ⟨_, rfl⟩
    have hWc := heap_new1 w (.cells #[.int .i64 (q : Int), .slice A n cap] 64)
    rw [hW] at hWc
    have BW := hid (show Below w.heap.size w W by rw [← hW]; exact (Below.refl _ _).alloc (Nat.le_refl _) _)
    have zW : w.heap.size < W.heap.size := by rw [← hW]; simp only [World.size_alloc]; omega
    have c0 := cell_blk hWc (j := 0) rfl
    have HC1 := hid (fun (V : World) (hV : Below W.heap.size W V) => show V.cell? ⟨w.heap.size, 1, none⟩ = some (.slice A n cap) from cell_blk ((hV.block _ zW).trans hWc) (j := 1) rfl)
    have HWW := hid hW
    clear hn hrow ih hls hr hT hl hS hW hWc hq hhd hps hok hdg hcv htk
    go_enter Tryd.func55, Tryd.ntmps55
    go_wp2_with fail
    rw [HWW.out]
    refine (HDC.out _).mono ?_
    rintro e w1 ⟨rfl, hb1⟩
    have C1 := HC1.out w1 hb1
    have HB1 := hid hb1
    have z1 := hb1.size
    clear hb1 c0
    go_wp2_with fail
    go_loopw [3, 12] (fun v i wr => ∃ (k : Nat) (b : ByteArray), k ≤ n ∧ i = .int .i64 k ∧ v = .string b ∧ b = strOf (c :: partsT 0 (ps.take k)) ∧ Below W.heap.size W wr) (fun _ i _ => n - (intOf i).toNat)
    case atStart => exact ⟨0, _, Nat.zero_le _, rfl, rfl, by rw [← HHD.out, List.take_zero, partsT_nil], HB1.out⟩
    case round =>
      obtain ⟨k, b, hk, rfl, rfl, hb, hbel⟩ := hrel
      have HB := hid hb
      have hbs : b.size ≤ 100000000001 := by rw [hb, strOf_size, List.length_cons]; have := HTK.out k; omega
      clear hb
      have zr := hbel.size
      have HBEL := hid hbel
      by_cases hlt : k < n
      · obtain ⟨g, rfl, hg, hcells⟩ := HROW.out (by omega)
        have hpk : k < ps.length := by rw [HN.out]; exact hlt
        obtain ⟨p, hp⟩ : ∃ p, ps[k]? = some p := ⟨_, List.getElem?_eq_getElem hpk⟩
        obtain ⟨x, y, hca, hcb, hrep⟩ := hcells k p hp
        have hmem := List.mem_of_getElem? hp
        obtain ⟨q', A', m', cap', rfl, rfl⟩ := hrep.form
        have hbw := BW.out.trans (hbel.mono BW.out.size)
        have ca := cell_below hca (HS.out g hg) hbw
        have cb := cell_below hcb (HS.out g hg) hbw
        obtain ⟨V, hV⟩ : ∃ V, wr.alloc (.cells #[.int .i64 q', .slice A' m' cap'] 64) = V := ⟨_, rfl⟩
        have hVc := heap_new1 wr (.cells #[.int .i64 q', .slice A' m' cap'] 64)
        rw [hV] at hVc
        have hbV : Below w.heap.size w V := by rw [← hV]; exact hbw.alloc hbw.size _
        have HBV := hid (show Below W.heap.size W V.drew from by rw [← hV]; exact (hbel.alloc zr _).drew)
        have v0 := cell_blk (w := V.drew) hVc (j := 0) rfl
        have v1 := cell_blk (w := V.drew) hVc (j := 1) rfl
        have HZ := hid (HIH.out p hmem S _ _ V.drew (RepM.keep (w' := V.drew) (fun x hx => ⟨hx, hbV.block x (HS.out x hx)⟩) p _ _ hrep) (fun x hx => by have := HS.out x hx; have h2 : w.heap.size ≤ V.drew.heap.size := hbV.size; omega) (HOK.out p hmem) (HL.out p hmem))
        have HVE := hid hV
        obtain ⟨t, ht⟩ : ∃ t, strOf p.text = t := ⟨_, rfl⟩
        rw [ht] at HZ
        have hts : t.size ≤ 100000000000 := by rw [← ht, strOf_size]; exact HL.out p hmem
        have hstep : strOf (c :: partsT 0 (ps.take (k + 1))) = b ++ ({ data := #[40, 44, 44] } : ByteArray).extract k ((k : Int) + 1).toNat ++ t := by
          rw [sep_cut k (by omega), List.take_add_one, hp, HB.out, ← ht]
          rw [show (some p : Option Dt).toList = [p] from rfl, partsT_snoc, List.length_take, Nat.zero_add, Nat.min_eq_left (by omega)]
          refine (strOf_eq ?_).symm
          simp [ByteArray.data_append, strOf]
        have hes : (({ data := #[40, 44, 44] } : ByteArray).extract k ((k : Int) + 1).toNat).size = 1 := by rw [sep_cut k (by omega)]; rfl
        have hcat1 : ¬ 9223372036854775807 < b.size + (({ data := #[40, 44, 44] } : ByteArray).extract k ((k : Int) + 1).toNat).size := by omega
        have hcat2 : ¬ 9223372036854775807 < (b ++ ({ data := #[40, 44, 44] } : ByteArray).extract k ((k : Int) + 1).toNat).size + t.size := by rw [ByteArray.size_append]; omega
        have HST := hid hstep
        have i1 : (0 : Int) ≤ (k : Int) := by omega
        have i2 : (k : Int) < (n : Int) := by omega
        have i3 : (k : Int) + 1 ≤ 3 := by omega
        have hw : IntKind.i64.wrap ((k : Int) + 1) = (k : Int) + 1 := by rw [IntKind.wrap_i64]; omega
        clear hcells hrep hmem hp ht hstep hes hca hcb hbw hbel C1 hVc hbV hV
        go_upto_region 5 with fail
        rw [HVE.out]
        go_region_with (go_at_call 55; refine HZ.out.mono ?_; rintro e w2 ⟨rfl, hb2⟩)
        all_goals
          have HB2 := hid (HBV.out.trans (hb2.mono HBV.out.size))
          clear hb2
          go_wp2_with fail
          go_roundw
          case rel => exact ⟨k + 1, _, by omega, by go_num, rfl, HST.out.symm, HB2.out⟩
          case measure => simp [intOf]; omega
      · have hkn : k = n := by omega
        subst hkn
        have hb := HB.out
        rw [List.take_of_length_le (by have := HN.out; omega)] at hb
        have C2 := HC1.out wr hbel
        have hfin : strOf T = if k = 0 then b else b ++ ({ data := #[41] } : ByteArray) := by
          rw [← HT.out, Dt.text_nd]
          by_cases h0 : k = 0
          · have e : ps = [] := List.length_eq_zero_iff.1 (by rw [HN.out, h0])
            rw [if_pos h0, hb, e]
            rfl
          · have e : ps.isEmpty = false := by
              rw [List.isEmpty_eq_false_iff]
              intro e
              have := HN.out
              rw [e] at this
              exact h0 this.symm
            rw [if_neg h0, hb, e]
            refine (strOf_eq ?_).symm
            simp [ByteArray.data_append, strOf]
        have HF := hid hfin
        have hcat : ¬ 9223372036854775807 < b.size + ({ data := #[41] } : ByteArray).size := by
          have : ({ data := #[41] } : ByteArray).size = 1 := rfl
          omega
        clear hb hfin C1
        by_cases h0 : k = 0
        · have hk0 : ¬ (0 : Int) < (k : Int) := by omega
          have hF := HF.out
          rw [if_pos h0] at hF
          have HFF := hid hF
          clear hF h0
          go_wp2_with fail
          go_ret
          exact ⟨by rw [HFF.out]; rfl, BW.out.trans (hbel.mono BW.out.size)⟩
        · have hk0 : (0 : Int) < (k : Int) := by omega
          have hF := HF.out
          rw [if_neg h0] at hF
          have HFF := hid hF
          clear hF
          go_wp2_with fail
          go_ret
          exact ⟨by rw [HFF.out]; rfl, BW.out.trans (hbel.mono BW.out.size)⟩

def DepthM (d : Dt) : Prop := ∀ (S : Nat → Prop) (h p : Value) (w : World), RepM w S d h p → (∀ x, S x → x < w.heap.size) → d.text.length ≤ 100000000000 →
  Calls Tryd.prog 77 #[.agg #[h, p]] w fun e w' => e = .returned (.int .i64 (d.depth : Int)) ∧ Below w.heap.size w w'

set_option maxHeartbeats 1000000 in
set_option maxRecDepth 100000 in
theorem depthM_any (d : Dt) : DepthM d := by
  induction d using Dt.ind with
  | h c ps ih =>
    intro S h p w hr hS hl
    obtain ⟨hls, hnb⟩ := part_len hl
    have hsz := (Dt.nd c ps).depth_le
    rw [Dt.depth_nd] at hsz ⊢
    obtain ⟨rfl, A, cap, rfl, hcap, hrow⟩ := hr.row
    obtain ⟨n, hn⟩ : ∃ n, ps.length = n := ⟨_, rfl⟩
    rw [hn] at hrow hcap hnb ⊢
    obtain ⟨T, hT⟩ : ∃ T, depthL ps = T := ⟨_, rfl⟩
    rw [hT] at hsz ⊢
    have hTm : T ≤ 100000000000 := by omega
    have HT := hid hT
    have HN := hid hn
    have HROW := hid hrow
    have HIH := hid ih
    have HL := hid hls
    have HS := hid hS
    obtain ⟨q, hq⟩ : ∃ q, c.toNat - 48 = q := ⟨_, rfl⟩
    rw [hq]
    have hW := heap_new1 w (.cells #[.int .i64 (q : Int), .slice A n cap] 64)
    have c1 := cell_blk hW (j := 1) rfl
    clear hn hrow ih hls hr hT hsz hl hS hW hq
    go_enter Tryd.func77, Tryd.ntmps77
    go_wp2_with fail
    go_loopw [3, 9] (fun v i wr => ∃ k : Nat, k ≤ n ∧ i = .int .i64 k ∧ v = .int .i64 ((depthL (ps.take k) : Nat) : Int) ∧ Below w.heap.size w wr) (fun _ i _ => n - (intOf i).toNat)
    case atStart => exact ⟨0, Nat.zero_le _, rfl, rfl, (Below.refl _ _).alloc (Nat.le_refl _) _⟩
    case round =>
      obtain ⟨k, hk, rfl, rfl, hbel⟩ := hrel
      have zr := hbel.size
      have HBEL := hid hbel
      by_cases hlt : k < n
      · obtain ⟨g, rfl, hg, hcells⟩ := HROW.out (by omega)
        have hpk : k < ps.length := by rw [HN.out]; exact hlt
        obtain ⟨p, hp⟩ : ∃ p, ps[k]? = some p := ⟨_, List.getElem?_eq_getElem hpk⟩
        obtain ⟨x, y, hca, hcb, hrep⟩ := hcells k p hp
        have hmem := List.mem_of_getElem? hp
        obtain ⟨q', A', m', cap', rfl, rfl⟩ := hrep.form
        have ca := cell_below hca (HS.out g hg) hbel
        have cb := cell_below hcb (HS.out g hg) hbel
        have HZ := hid (HIH.out p hmem S _ _ (wr.alloc (.cells #[.int .i64 q', .slice A' m' cap'] 64)) (RepM.keep (fun x hx => ⟨hx, by rw [Below.heap_alloc _ _ _ (by have := HS.out x hx; omega)]; exact hbel.block x (HS.out x hx)⟩) p _ _ hrep) (fun x hx => by have := HS.out x hx; simp only [World.size_alloc]; omega) (HL.out p hmem))
        have hstep : depthL (ps.take (k + 1)) = max (depthL (ps.take k)) (p.depth + 1) := by rw [List.take_add_one, hp]; exact depthL_snoc _ _
        have hle : depthL (ps.take (k + 1)) ≤ T := by
          rw [← HT.out]
          conv => rhs; rw [← List.take_append_drop (k + 1) ps]
          exact depthL_append _ _
        obtain ⟨u, hu⟩ : ∃ u, depthL (ps.take k) = u := ⟨_, rfl⟩
        obtain ⟨z, hz⟩ : ∃ z, p.depth = z := ⟨_, rfl⟩
        rw [hu, hz] at hstep
        rw [hstep] at hle
        rw [hz] at HZ
        rw [hu]
        have hzm : z + 1 ≤ 100000000000 := by omega
        have hum : u ≤ 100000000000 := by omega
        have HST := hid hstep
        have i1 : (0 : Int) ≤ (k : Int) := by omega
        have i2 : (k : Int) < (n : Int) := by omega
        have hw : IntKind.i64.wrap (1 + (z : Int)) = 1 + (z : Int) := by rw [IntKind.wrap_i64]; omega
        clear hcells hrep hmem hp hstep hu hz hle hca hcb hbel
        by_cases hlt2 : u < z + 1
        all_goals
          go_wp2_with fail
          refine HZ.out.mono ?_
          rintro e w1 ⟨rfl, hb1⟩
          have HB1 := hid ((HBEL.out.alloc zr _).trans (hb1.mono (by simp only [World.size_alloc]; omega)))
          clear hb1
          go_wp2_with fail
          go_roundw
          case rel =>
            refine ⟨k + 1, by omega, by go_num, ?_, HB1.out⟩
            rw [HST.out]
            congr 1
            omega
          case measure => simp [intOf]; omega
      · have hkn : k = n := by omega
        subst hkn
        go_wp2_with fail
        go_ret
        refine ⟨?_, hbel⟩
        rw [List.take_of_length_le (by have := HN.out; omega), HT.out]
        rfl

set_option maxHeartbeats 400000 in
set_option maxRecDepth 100000 in
theorem dictValidS_at (s : ByteArray) (w : World) (hs : s.size ≤ maxLen) (v : Bool) (h : Hid ((dtOf s.data.toList).isSome = v)) :
    Calls Tryd.prog 20 #[.string s] w fun e w' => e = .returned (.bool v) ∧ Below w.heap.size w w' := by
  go_enter Tryd.func20, Tryd.ntmps20
  go_wp2_with fail
  refine (l6Read_any s _ hs).mono ?_
  rintro e w1 ⟨hb, ⟨hn, rfl⟩ | ⟨d, q, A, m, cap, hd, rfl, hrep⟩⟩
  · rw [hn] at h
    have hv := h.out
    clear h
    subst hv
    go_wp2_with fail
    go_ret
    first | exact ⟨rfl, hb⟩ | exact ⟨rfl, hb.alloc hb.size _⟩
  · rw [hd] at h
    have hv := h.out
    clear h hrep
    subst hv
    go_wp2_with fail
    go_ret
    first | exact ⟨rfl, hb⟩ | exact ⟨rfl, hb.alloc hb.size _⟩

set_option maxHeartbeats 400000 in
set_option maxRecDepth 100000 in
theorem instanceOfS_at (s : ByteArray) (w : World) (hs : s.size ≤ maxLen) (v : Int) (h : Hid (instOf s.data.toList = v)) :
    Calls Tryd.prog 18 #[.string s] w fun e w' => e = .returned (.int .i64 v) ∧ Below w.heap.size w w' := by
  go_enter Tryd.func18, Tryd.ntmps18
  go_wp2_with fail
  refine (l6Read_any s _ hs).mono ?_
  rintro e w1 ⟨hb, ⟨hn, rfl⟩ | ⟨d, q, A, m, cap, hd, rfl, hrep⟩⟩
  · unfold instOf at h
    rw [hn] at h
    have hv : (-1 : Int) = v := h.out
    clear h
    subst hv
    go_wp2_with fail
    go_ret
    exact ⟨rfl, hb.alloc hb.size _⟩
  · obtain ⟨c, ps⟩ := d
    unfold instOf at h
    rw [hd] at h
    have hv : ((c.toNat - 48 : Nat) : Int) = v := h.out
    have hq := hrep.row.1
    injection hq with _ hq
    rw [← hq] at hv
    clear h hrep hq
    subst hv
    go_wp2_with fail
    go_ret
    exact ⟨rfl, hb.alloc hb.size _⟩

set_option maxHeartbeats 400000 in
set_option maxRecDepth 100000 in
theorem sizeOfDictS_at (s : ByteArray) (w : World) (hs : s.size ≤ maxLen) (v : Int) (h : Hid (szOf s.data.toList = v)) :
    Calls Tryd.prog 45 #[.string s] w fun e w' => e = .returned (.int .i64 v) ∧ Below w.heap.size w w' := by
  go_enter Tryd.func45, Tryd.ntmps45
  go_wp2_with fail
  refine (l6Read_any s _ hs).mono ?_
  rintro e w1 ⟨hb, ⟨hn, rfl⟩ | ⟨d, q, A, m, cap, hd, rfl, hrep⟩⟩
  · unfold szOf at h
    rw [hn] at h
    have hv : (-1 : Int) = v := h.out
    clear h
    subst hv
    go_wp2_with fail
    go_ret
    exact ⟨rfl, hb.alloc hb.size _⟩
  · unfold szOf at h
    rw [hd] at h
    have hv : (d.size : Int) = v := h.out
    obtain ⟨htx, _, hl⟩ := dtOf_text hd
    have HS := hid (fun o => sizeM_any d _ _ _ (w1.alloc o) (RepM.keep (S' := fun x => x < w1.heap.size) (fun x hx => ⟨hx.2, Below.heap_alloc _ _ _ hx.2⟩) d _ _ hrep) (fun x hx => by simp only [World.size_alloc]; omega) (by rw [← htx]; omega))
    rw [hv] at HS
    have HB := hid hb
    clear h hv hrep htx hd hb
    go_wp2_with fail
    refine (HS.out _).mono ?_
    rintro e w2 ⟨rfl, hb2⟩
    go_wp2_with fail
    go_ret
    exact ⟨rfl, (HB.out.alloc HB.out.size _).trans (hb2.mono (HB.out.alloc HB.out.size _).size)⟩

set_option maxHeartbeats 400000 in
set_option maxRecDepth 100000 in
theorem depthOfDictS_at (s : ByteArray) (w : World) (hs : s.size ≤ maxLen) (v : Int) (h : Hid (depOf s.data.toList = v)) :
    Calls Tryd.prog 46 #[.string s] w fun e w' => e = .returned (.int .i64 v) ∧ Below w.heap.size w w' := by
  go_enter Tryd.func46, Tryd.ntmps46
  go_wp2_with fail
  refine (l6Read_any s _ hs).mono ?_
  rintro e w1 ⟨hb, ⟨hn, rfl⟩ | ⟨d, q, A, m, cap, hd, rfl, hrep⟩⟩
  · unfold depOf at h
    rw [hn] at h
    have hv : (-1 : Int) = v := h.out
    clear h
    subst hv
    go_wp2_with fail
    go_ret
    exact ⟨rfl, hb.alloc hb.size _⟩
  · unfold depOf at h
    rw [hd] at h
    have hv : (d.depth : Int) = v := h.out
    obtain ⟨htx, _, hl⟩ := dtOf_text hd
    have HS := hid (fun o => depthM_any d _ _ _ (w1.alloc o) (RepM.keep (S' := fun x => x < w1.heap.size) (fun x hx => ⟨hx.2, Below.heap_alloc _ _ _ hx.2⟩) d _ _ hrep) (fun x hx => by simp only [World.size_alloc]; omega) (by rw [← htx]; omega))
    rw [hv] at HS
    have HB := hid hb
    clear h hv hrep htx hd hb
    go_wp2_with fail
    refine (HS.out _).mono ?_
    rintro e w2 ⟨rfl, hb2⟩
    go_wp2_with fail
    go_ret
    exact ⟨rfl, (HB.out.alloc HB.out.size _).trans (hb2.mono (HB.out.alloc HB.out.size _).size)⟩

end Go.Proofs.YtlpfgiegapelmaaDoor
