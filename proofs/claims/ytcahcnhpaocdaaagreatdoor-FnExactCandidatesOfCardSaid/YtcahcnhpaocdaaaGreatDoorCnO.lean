/- Candidates, in the program: World.candidates, CandidatesOf. Candidates in the model: l4Candidates. Candidates: CandidatesOf in the program and in the model. -/
import Derived.Test.YtcahcnhpaocdaaaGreatDoorByC
import Derived.Test.YtcahcnhpaocdaaaGreatDoorKeep
import Derived.Test.YtcahcnhpaocdaaaGreatDoorNv
import Derived.Test.YtcahcnhpaocdaaaGreatDoorMtV
import Derived.Deep.RegionWith
namespace Go.Proofs.YtcahcnhpaocdaaaGreatDoor
open Go.RowKit Go.Maps Go.WideMaps
set_option linter.unusedVariables false

/-- Whether an instance is a candidate; whether it may be one. -/
def cnB (c t : ByteArray) (i : Ins) : Bool := isC c i && (mtOf i.t.data.toList t.data.toList).isSome
def kB (q : Ins → Bool) (is : List Ins) (k : Nat) : Bool := match is[k]? with
  | some i => q i
  | none => false
theorem kB_filter (p q : Ins → Bool) (is : List Ins) : (idxs p 0 is).filter (kB q is) = idxs (fun i => p i && q i) 0 is := idxs_filter p q _ 0 is fun j i hj => by
  unfold kB
  rw [Nat.zero_add, hj]

theorem cf_cand1 (args : Array Value) (w : World) : (callFunc 77 args).run Tryz.prog w = .ok (.enter 77 args) w := by kernel_rfl

set_option maxHeartbeats 1000000 in
set_option maxRecDepth 100000 in
theorem cand1_any (B : Option Addr) (m cap' : Nat) (is : List Ins) (t : ByteArray) (gw gn k : Nat) (i : Ins) (w : World) (hm : m ≤ maxLen) (hk : is[k]? = some i) (hb : Inss w B m is) (hil : i.t.size ≤ maxLen) (htl : t.size ≤ maxLen) (c1 : w.cell? ⟨gw, 1, none⟩ = some (.slice B m cap')) (c2 : w.cell? ⟨gn, 1, none⟩ = some (.string t)) :
    Calls Tryz.prog 77 #[.int .i64 (k : Int), .pointer (some ⟨gw, 0, none⟩), .pointer (some ⟨gn, 0, none⟩)] w fun e w' => e = .returned (.bool (mtOf i.t.data.toList t.data.toList).isSome) ∧ Below w.heap.size w w' := by
  have hkm : k < m := by have := (List.getElem?_eq_some_iff.1 hk).1; have := hb.1; omega
  obtain ⟨g, o, rfl, hg, hca⟩ := hb.2 (by omega)
  obtain ⟨_, a1, _, _, _, _, _, _⟩ := hca k i hk
  obtain ⟨ic, it, ns⟩ := i
  have HII := hid (fun (W : World) => isInstance_any it t W hil htl)
  obtain ⟨v, hv⟩ : ∃ v, (mtOf it.data.toList t.data.toList).isSome = v := ⟨_, rfl⟩
  rw [hv] at HII
  rw [hv]
  have i0 : (0 : Int) ≤ (k : Int) := by omega
  have i1 : (k : Int) < (m : Int) := by omega
  clear hca hb hk hkm hil htl hv
  go_enter Tryz.func77, Tryz.ntmps77
  go_wp2_with fail
  go_region_with (go_at_call 78; refine (HII.out _).mono ?_; rintro e w2 ⟨rfl, b2⟩)
  all_goals
    go_wp2_with fail
    go_ret
    exact ⟨rfl, (Below.refl _ _).drew.trans b2⟩

set_option maxHeartbeats 4000000 in
set_option maxRecDepth 100000 in
theorem candidatesI_any (A : Option Addr) (n cap : Nat) (B : Option Addr) (m cap' : Nat) (is : List Ins) (x t : ByteArray) (w : World) (hm : m ≤ 10) (hb : Inss w B m is) (hok : ∀ i ∈ is, InsOk i) (hx : x.size ≤ maxLen) (htl : t.size ≤ maxLen) :
    Calls Tryz.prog 44 #[.agg #[.slice A n cap, .slice B m cap'], .agg #[.string x, .string t]] w fun e w' => (∃ v, e = .returned v ∧ OwnK w' w.heap.size v (idxs (cnB x t) 0 is)) ∧ Below w.heap.size w w' := by
  obtain ⟨k0, k1, k2, k3⟩ := box2 w #[.slice A n cap, .slice B m cap'] 31 #[.string x, .string t] 41
  obtain ⟨w1, hw1⟩ : ∃ w1, (w.alloc (.cells #[.slice A n cap, .slice B m cap'] 31)).alloc (.cells #[.string x, .string t] 41) = w1 := ⟨_, rfl⟩
  rw [hw1] at k0 k1 k2 k3
  have z1 : w.heap.size + 1 < w1.heap.size := by omega
  have K0 := hid k0
  have HC := hid (fun (W : World) (hW : Below w1.heap.size w1 W) => show (W.cell? ⟨w.heap.size, 0, none⟩ = some (.slice A n cap) ∧ W.cell? ⟨w.heap.size, 1, none⟩ = some (.slice B m cap') ∧ W.cell? ⟨w.heap.size + 1, 0, none⟩ = some (.string x) ∧ W.cell? ⟨w.heap.size + 1, 1, none⟩ = some (.string t)) ∧ Inss W B m is from
    ⟨⟨cell_blk ((hW.block _ (by omega)).trans k2) rfl, cell_blk ((hW.block _ (by omega)).trans k2) rfl, cell_blk ((hW.block _ z1).trans k3) rfl, cell_blk ((hW.block _ z1).trans k3) rfl⟩, hb.below (k0.trans (hW.mono k0.size))⟩)
  have hkey : keyOf Tryz.prog 9 (.string x) = some (.string x.data.toList) := keyOf_string_mk Tryz.underlying9 hx
  have HKEY := hid hkey
  have HBY := hid (fun (W : World) (hW : Below w1.heap.size w1 W) => byClass_any A n cap B m cap' is W hm (HC.out W hW).2 hok)
  have HK := hid (fun (W : World) (hW : Below w1.heap.size w1 W) (D : Option Addr) (l c : Nat) (hl : l ≤ 1048576) (ks : List Nat) (hks : ks = idxs (isC x) 0 is) (hn : NumAt W D l ks) =>
    keepZ_any 77 (.pointer (some ⟨w.heap.size, 0, none⟩)) (.pointer (some ⟨w.heap.size + 1, 0, none⟩)) cf_cand1 D l c ks (kB (fun i => (mtOf i.t.data.toList t.data.toList).isSome) is) W hl hn fun W' k hk hW' => by
      obtain ⟨_, i, hi, _⟩ := idxs_at (isC x) 0 is k (hks ▸ hk)
      rw [Nat.sub_zero] at hi
      have h := HC.out W' (hW.trans (hW'.mono hW.size))
      have e : kB (fun i => (mtOf i.t.data.toList t.data.toList).isSome) is k = (mtOf i.t.data.toList t.data.toList).isSome := by unfold kB; rw [hi]
      rw [e]
      exact cand1_any B m cap' is t w.heap.size (w.heap.size + 1) k i W' (by unfold maxLen; omega) hi h.2 (hok i (List.mem_of_getElem? hi)).2.1 htl h.1.2.1 h.1.2.2.2)
  have HW1 := hid hw1
  have hmf : ∀ (fn : Fn) (first cap : Array Value) (w : World), (Instr.makeFunc fn first cap).run Tryz.prog w = .ok (.func fn first cap) w := fun _ _ _ _ => rfl
  have HFI := hid (kB_filter (isC x) (fun i => (mtOf i.t.data.toList t.data.toList).isSome) is)
  clear k0 k1 k2 k3 hw1 hb hok hkey
  go_enter Tryz.func44, Tryz.ntmps44
  go_wp2_with fail
  rw [HW1.out]
  obtain ⟨⟨c0, c1, c2, c3⟩, _⟩ := HC.out w1.drew (Below.refl _ _).drew
  go_region_with (first
    | (go_at_call 49
       refine (HBY.out _ (Below.refl _ _).drew).mono ?_
       rintro e w2 ⟨D, rfl, h1, h2, h3⟩
       have B2 := hid (show Below w1.heap.size w1 w2 from (Below.refl _ _).drew.trans h3)
       obtain ⟨⟨d0, d1, d2, d3⟩, _⟩ := HC.out w2 B2.out
       have h1' : w2.ownsGroups Tryz.prog 9 (w1.heap.size + 1 + 1) 3 .i64 (w1.heap.size + 1) m D := h1
       obtain ⟨v1, s1, hl1, ha1, ho1, hs1, _⟩ := World.ownsGroups.at h1' strLaw Tryz.underlying75 (zeroInts _) (by unfold maxLen; omega) HKEY.out
       have e1 := byD_zs h2 ho1 ha1
       obtain ⟨D1, cc1, rfl⟩ := ints_form ho1
       have HO1 := hid ho1
       have E1 := hid e1
       clear h1 h1' h2 h3 ha1 ho1 e1)
    | (go_at_call 48
       refine (HK.out w2 B2.out D1 s1.length cc1 (by omega) _ rfl (numAt_of HO1.out E1.out)).mono ?_
       rintro e w3 ⟨⟨v3, rfl, ho3⟩, b3⟩
       rw [HFI.out] at ho3
       have HO3 := hid (ho3.mono (lo := w.heap.size) (Nat.le_trans K0.out.size B2.out.size))
       have B3 := hid (K0.out.trans ((B2.out.trans (b3.mono B2.out.size)).mono K0.out.size))
       obtain ⟨A3, c3, rfl, _⟩ := ho3.form
       clear ho3 b3))
  all_goals
    go_wp2_with fail
    go_ret
    exact ⟨⟨_, rfl, HO3.out⟩, B3.out⟩

end Go.Proofs.YtcahcnhpaocdaaaGreatDoor

namespace Go.Proofs.YtcahcnhpaocdaaaGreatDoor
open Go.RowKit
set_option linter.unusedVariables false

set_option maxHeartbeats 4000000 in
set_option maxRecDepth 100000 in
theorem l4CandidatesS_any (A : Option Addr) (n cap : Nat) (B : Option Addr) (m cap' : Nat) (is : List Ins) (x t : ByteArray) (w : World) (hm : m ≤ 1048576) (hb : Inss w B m is) (hok : ∀ i ∈ is, InsOk i) (htl : t.size ≤ maxLen) :
    Calls Tryz.prog 42 #[.agg #[.slice A n cap, .slice B m cap'], .agg #[.string x, .string t]] w fun e w' => (∃ v, e = .returned v ∧ OwnK w' w.heap.size v (idxs (cnB x t) 0 is)) ∧ Below w.heap.size w w' := by
  obtain ⟨i0, hi0, hz0, hz1, hz2⟩ := info_parts infoIntK
  obtain ⟨k0, k1, k2, k3⟩ := box2 w #[.slice A n cap, .slice B m cap'] 31 #[.string x, .string t] 41
  obtain ⟨w1, hw1⟩ : ∃ w1, (w.alloc (.cells #[.slice A n cap, .slice B m cap'] 31)).alloc (.cells #[.string x, .string t] 41) = w1 := ⟨_, rfl⟩
  rw [hw1] at k0 k1 k2 k3
  have z1 : w.heap.size + 1 < w1.heap.size := by omega
  have K0 := hid k0
  have HZ1 := hid k1
  have HC := hid (fun (W : World) (hW : Below w1.heap.size w1 W) => show (W.cell? ⟨w.heap.size, 0, none⟩ = some (.slice A n cap) ∧ W.cell? ⟨w.heap.size, 1, none⟩ = some (.slice B m cap') ∧ W.cell? ⟨w.heap.size + 1, 0, none⟩ = some (.string x) ∧ W.cell? ⟨w.heap.size + 1, 1, none⟩ = some (.string t)) ∧ Inss W B m is from
    ⟨⟨cell_blk ((hW.block _ (by omega)).trans k2) rfl, cell_blk ((hW.block _ (by omega)).trans k2) rfl, cell_blk ((hW.block _ z1).trans k3) rfl, cell_blk ((hW.block _ z1).trans k3) rfl⟩, hb.below (k0.trans (hW.mono k0.size))⟩)
  have HOK := hid hok
  have HL := hid hb.1
  have HW1 := hid hw1
  obtain ⟨⟨c0, c1, c2, c3⟩, _⟩ := HC.out (w1.alloc (.cells #[] 3)) ((Below.refl _ _).alloc (Nat.le_refl _) _)
  have BE := hid (show Below w1.heap.size w1 (w1.alloc (.cells #[] 3)) from (Below.refl _ _).alloc (Nat.le_refl _) _)
  clear k0 k1 k2 k3 hw1 hb hok
  go_enter Tryz.func42, Tryz.ntmps42
  go_wp2_with fail
  go_loopw [5, 12] (fun v i wr => ∃ k : Nat, k ≤ m ∧ i = .int .i64 k ∧ OwnK wr w1.heap.size v (idxs (cnB x t) 0 (is.take k)) ∧ Below w1.heap.size w1 wr) (fun _ i _ => m - (intOf i).toNat)
  case atStart =>
    rw [HW1.out, show w.heap.size + 1 + 1 = w1.heap.size from HZ1.out.symm]
    exact ⟨0, Nat.zero_le _, rfl, ⟨rfl, .inr ⟨w1.heap.size, 0, #[], rfl, Nat.le_refl _, heap_alloc_new w1 _, Nat.le_refl _, by unfold maxLen; omega, rfl, rfl⟩⟩, BE.out⟩
  case round =>
    obtain ⟨k, hk, rfl, hown, hbel⟩ := hrel
    have HW := hid hown
    have hfl := idxs_take (cnB x t) is k
    clear hown c0 c1 c2 c3
    by_cases hlt : k < m
    · have hx : is[k]? = some (is[k]'(by have := HL.out; omega)) := List.getElem?_eq_getElem _
      obtain ⟨⟨d0, d1, d2, d3⟩, hin⟩ := HC.out wr hbel
      obtain ⟨g, o, rfl, hg, hca⟩ := hin.2 (by omega)
      obtain ⟨ca, cb, E, l, c, cc, _, _⟩ := hca k _ hx
      have hoi := HOK.out _ (List.mem_of_getElem? hx)
      obtain ⟨⟨ic, it, ns⟩, ex⟩ : ∃ z, is[k]'(by have := HL.out; omega) = z := ⟨_, rfl⟩
      rw [ex] at ca cb hx hoi
      have HTK := hid (idxs_snoc (cnB x t) hx)
      have hcb : cnB x t ⟨ic, it, ns⟩ = ((ic.toList == x.toList) && (mtOf it.data.toList t.data.toList).isSome) := rfl
      obtain ⟨q, hq⟩ : ∃ q, (ic.toList == x.toList) = q := ⟨_, rfl⟩
      obtain ⟨v1, hv1⟩ : ∃ v, (mtOf it.data.toList t.data.toList).isSome = v := ⟨_, rfl⟩
      have HII := hid (fun (W : World) => isInstanceS_any it t W hoi.2.1 htl)
      rw [hv1] at HII hcb
      rw [hq] at hcb
      have HCB := hid hcb
      obtain ⟨U, hU⟩ : ∃ U, wr.alloc (.cells #[.string ic, .string it, .slice E l c] 72) = U := ⟨_, rfl⟩
      have BU := hid (show Below w1.heap.size w1 U by rw [← hU]; exact hbel.alloc hbel.size _)
      have HWU := hid (show OwnK U w1.heap.size u5 (idxs (cnB x t) 0 (is.take k)) by rw [← hU]; exact World.ownsRow.alloc HW.out _)
      have zU : wr.heap.size < U.heap.size := by rw [← hU]; simp only [World.size_alloc]; omega
      have hUc := heap_new1 wr (.cells #[.string ic, .string it, .slice E l c] 72)
      rw [hU] at hUc
      have n0 := cell_blk hUc (j := 0) rfl
      have n1 := cell_blk hUc (j := 1) rfl
      obtain ⟨⟨e0, e1, e2, e3⟩, _⟩ := HC.out U BU.out
      have i1 : (0 : Int) ≤ (k : Int) := by omega
      have i2 : (k : Int) < (m : Int) := by omega
      clear hca hx ex hoi hin hcb hv1 hUc hbel
      cases q
      · go_wp2_with fail
        go_roundw
        case rel => exact ⟨k + 1, hlt, by go_num, by rw [HTK.out, HCB.out, if_neg (by simp), List.append_nil]; exact HWU.out, BU.out⟩
        case measure => simp [intOf]; omega
      · go_wp2_with fail
        refine (HII.out _).mono ?_
        rintro e w3 ⟨rfl, b3⟩
        have B3 := hid (BU.out.trans (b3.mono BU.out.size))
        have HW3 := hid (HWU.out.keep b3)
        clear b3
        cases v1
        · go_wp2_with fail
          go_roundw
          case rel => exact ⟨k + 1, hlt, by go_num, by rw [HTK.out, HCB.out, if_neg (by simp), List.append_nil]; exact HW3.out, B3.out⟩
          case measure => simp [intOf]; omega
        · obtain ⟨L, hL⟩ : ∃ L, idxs (cnB x t) 0 (is.take k) = L := ⟨_, rfl⟩
          rw [hL] at HW3 HTK hfl
          rw [HCB.out] at HTK
          clear hL HWU
          go_wp2_with (at_builtin; refine wpList_append_own _ rfl _ _ 38 rfl w1.heap.size 3 i0 (.int .i64 0) 1 8 Tryz.underlying38 hi0 hz0 hz1 hz2 rfl (by decide) _ L.length _ rfl (World.ownsRow.alloc HW3.out _) ⟨w3.heap.size, 0, none⟩ 1 1 [.int .i64 (k : Int)] rfl rfl (cell_one_new _ _ _) ?c2 ?c3 ?c4 ?c5 ?_)
          case c2 => simp [Value.oneCell']
          case c3 => unfold maxLen; omega
          case c4 => omega
          case c5 => simp only [World.size_alloc]; have := B3.out.size; omega
          intro v2 w7 hown7 hg7 hv7
          clear hv7
          have HO7 := hid hown7
          have HG7 := hid hg7
          clear hown7 hg7
          go_wp2_with fail
          go_roundw
          case rel =>
            refine ⟨k + 1, hlt, by go_num, ?_, ?_⟩
            · rw [HTK.out, if_pos (by rfl)]
              unfold OwnK
              rw [zOf_append, List.map_append, List.length_append]
              exact HO7.out
            · exact (B3.out.alloc B3.out.size _).grown HG7.out (by simp only [World.size_alloc]; have := B3.out.size; omega) (fun k' hk' => (HW3.out.lt k' hk').1)
          case measure => simp [intOf]; omega
    · have hkm : k = m := by omega
      subst hkm
      go_wp2_with fail
      go_ret
      have h := HW.out
      rw [List.take_of_length_le (by have := HL.out; omega)] at h
      exact ⟨⟨_, rfl, h.mono (by omega)⟩, K0.out.trans (hbel.mono K0.out.size)⟩

end Go.Proofs.YtcahcnhpaocdaaaGreatDoor

namespace Go.Proofs.YtcahcnhpaocdaaaGreatDoor
open Go.RowKit
set_option linter.unusedVariables false

/-- What is answered. -/
def cnOf (zs : List (ByteArray × ByteArray)) (is : List Ins) (x t : ByteArray) : List Nat := if ndV zs is x t then idxs (cnB x t) 0 is else []
theorem cnOf_len (zs : List (ByteArray × ByteArray)) (is : List Ins) (x t : ByteArray) : (cnOf zs is x t).length ≤ is.length := by
  unfold cnOf
  split
  · exact idxs_length _ _ _
  · exact Nat.zero_le _
set_option maxHeartbeats 1000000 in
set_option maxRecDepth 100000 in
theorem candOfI_any (A : Option Addr) (n cap : Nat) (zs : List (ByteArray × ByteArray)) (B : Option Addr) (m cap' : Nat) (is : List Ins) (x t : ByteArray) (w : World) (hn : n ≤ maxLen) (ha : Prs w A n zs) (hm : m ≤ maxLen) (hb : Inss w B m is) (hok : ∀ i ∈ is, InsOk i) (ht : tot zs ≤ 1048576) (he : WErrs w) (hx : x.size ≤ maxLen) (htt : t.size ≤ maxLen) :
    Calls Tryz.prog 16 #[.agg #[.slice A n cap, .slice B m cap'], .agg #[.string x, .string t]] w (TwoK w (cnOf zs is x t) (ndV zs is x t)) := by
  obtain ⟨k0, k1, k2, k3⟩ := box2 w #[.slice A n cap, .slice B m cap'] 31 #[.string x, .string t] 41
  obtain ⟨w1, hw1⟩ : ∃ w1, (w.alloc (.cells #[.slice A n cap, .slice B m cap'] 31)).alloc (.cells #[.string x, .string t] 41) = w1 := ⟨_, rfl⟩
  rw [hw1] at k0 k1 k2 k3
  have z1 : w.heap.size + 1 < w1.heap.size := by omega
  have K0 := hid k0
  have HC := hid (fun (W : World) (hW : Below w1.heap.size w1 W) => show (W.cell? ⟨w.heap.size, 0, none⟩ = some (.slice A n cap) ∧ W.cell? ⟨w.heap.size, 1, none⟩ = some (.slice B m cap') ∧ W.cell? ⟨w.heap.size + 1, 0, none⟩ = some (.string x) ∧ W.cell? ⟨w.heap.size + 1, 1, none⟩ = some (.string t)) ∧ Inss W B m is from
    ⟨⟨cell_blk ((hW.block _ (by omega)).trans k2) rfl, cell_blk ((hW.block _ (by omega)).trans k2) rfl, cell_blk ((hW.block _ z1).trans k3) rfl, cell_blk ((hW.block _ z1).trans k3) rfl⟩, hb.below (k0.trans (hW.mono k0.size))⟩)
  have HNV := hid (needValidI_any A n cap zs B m cap' is x t w1 hn (ha.below k0) hm (hb.below k0) hok ht (he.below k0) htt)
  have HCN := hid (fun (W : World) (hW : Below w1.heap.size w1 W) (hm : m ≤ 10) => candidatesI_any A n cap B m cap' is x t W hm (HC.out W hW).2 hok hx htt)
  have HM := hid (fun (h : ndV zs is x t = true) => show m ≤ 10 from by
    unfold ndV at h
    simp only [Bool.and_eq_true] at h
    have := (wdOf_is h.1.1).1
    have := hb.1
    omega)
  have HCO := hid (show cnOf zs is x t = if ndV zs is x t then idxs (cnB x t) 0 is else [] from rfl)
  obtain ⟨b, hb'⟩ : ∃ b, ndV zs is x t = b := ⟨_, rfl⟩
  rw [hb'] at HNV HM HCO ⊢
  have HW1 := hid hw1
  clear k0 k1 k2 k3 hw1 ha hb hok he hb'
  go_enter Tryz.func16, Tryz.ntmps16
  go_wp2_with fail
  rw [HW1.out]
  refine HNV.out.mono ?_
  rintro e w2 ⟨rfl, c2⟩
  have B2 := hid c2
  clear c2
  obtain ⟨⟨p0, p1, p2, p3⟩, _⟩ := HC.out w2 B2.out
  cases b
  · go_wp2_with fail
    refine bodyPost_ret (v := .tuple #[.slice none 0 0, .bool false]) (by simp [results, Tryz.results16, go_sem]) rfl ⟨⟨_, rfl, ?_⟩, K0.out.trans (B2.out.mono K0.out.size)⟩
    rw [HCO.out]
    exact World.ownsRow_nil _ _ _ _
  · have HCM := hid (HCN.out w2 B2.out (HM.out rfl))
    go_wp2_with fail
    refine HCM.out.mono ?_
    rintro e w3 ⟨⟨v, rfl, ho⟩, b3⟩
    have HO := hid ho
    obtain ⟨A3, c3, rfl, _⟩ := ho.form
    have B3 := hid (B2.out.trans (b3.mono B2.out.size))
    clear b3 ho
    go_wp2_with fail
    refine bodyPost_ret (v := .tuple #[.slice A3 (idxs (cnB x t) 0 is).length c3, .bool true]) (by simp [results, Tryz.results16, go_sem]) rfl ⟨⟨_, rfl, ?_⟩, K0.out.trans (B3.out.mono K0.out.size)⟩
    rw [HCO.out, if_pos trivial]
    exact HO.out.mono (Nat.le_trans K0.out.size B2.out.size)

set_option maxHeartbeats 1000000 in
set_option maxRecDepth 100000 in
theorem candOfS_any (A : Option Addr) (n cap : Nat) (zs : List (ByteArray × ByteArray)) (B : Option Addr) (m cap' : Nat) (is : List Ins) (x t : ByteArray) (w : World) (hcap : n ≤ cap) (hcm : cap ≤ maxLen) (ha : Prs w A n zs) (hz : ∀ z ∈ zs, z.2.size ≤ maxLen) (hm : m ≤ 1048576) (hb : Inss w B m is) (hok : ∀ i ∈ is, InsOk i) (htt : t.size ≤ maxLen) :
    Calls Tryz.prog 14 #[.agg #[.slice A n cap, .slice B m cap'], .agg #[.string x, .string t]] w (TwoK w (cnOf zs is x t) (ndV zs is x t)) := by
  obtain ⟨k0, k1, k2, k3⟩ := box2 w #[.slice A n cap, .slice B m cap'] 31 #[.string x, .string t] 41
  obtain ⟨w1, hw1⟩ : ∃ w1, (w.alloc (.cells #[.slice A n cap, .slice B m cap'] 31)).alloc (.cells #[.string x, .string t] 41) = w1 := ⟨_, rfl⟩
  rw [hw1] at k0 k1 k2 k3
  have z1 : w.heap.size + 1 < w1.heap.size := by omega
  have K0 := hid k0
  have HC := hid (fun (W : World) (hW : Below w1.heap.size w1 W) => show (W.cell? ⟨w.heap.size, 0, none⟩ = some (.slice A n cap) ∧ W.cell? ⟨w.heap.size, 1, none⟩ = some (.slice B m cap') ∧ W.cell? ⟨w.heap.size + 1, 0, none⟩ = some (.string x) ∧ W.cell? ⟨w.heap.size + 1, 1, none⟩ = some (.string t)) ∧ Inss W B m is from
    ⟨⟨cell_blk ((hW.block _ (by omega)).trans k2) rfl, cell_blk ((hW.block _ (by omega)).trans k2) rfl, cell_blk ((hW.block _ z1).trans k3) rfl, cell_blk ((hW.block _ z1).trans k3) rfl⟩, hb.below (k0.trans (hW.mono k0.size))⟩)
  have HNV := hid (needValidS_any A n cap zs B m cap' is x t w1 hcap hcm (ha.below k0) hz (by unfold maxLen; omega) (hb.below k0) hok htt)
  have HCN := hid (fun (W : World) (hW : Below w1.heap.size w1 W) => l4CandidatesS_any A n cap B m cap' is x t W hm (HC.out W hW).2 hok htt)
  have HCO := hid (show cnOf zs is x t = if ndV zs is x t then idxs (cnB x t) 0 is else [] from rfl)
  obtain ⟨b, hb'⟩ : ∃ b, ndV zs is x t = b := ⟨_, rfl⟩
  rw [hb'] at HNV HCO ⊢
  have HW1 := hid hw1
  clear k0 k1 k2 k3 hw1 ha hb hok hb'
  go_enter Tryz.func14, Tryz.ntmps14
  go_wp2_with fail
  rw [HW1.out]
  refine HNV.out.mono ?_
  rintro e w2 ⟨rfl, c2⟩
  have B2 := hid c2
  clear c2
  obtain ⟨⟨p0, p1, p2, p3⟩, _⟩ := HC.out w2 B2.out
  cases b
  · go_wp2_with fail
    refine bodyPost_ret (v := .tuple #[.slice (some ⟨w2.heap.size, 0, none⟩) 0 0, .bool false]) (by simp [results, Tryz.results14, go_sem]) rfl ⟨⟨_, rfl, ?_⟩, K0.out.trans ((B2.out.alloc B2.out.size _).mono K0.out.size)⟩
    rw [HCO.out]
    exact ⟨rfl, .inr ⟨w2.heap.size, 0, #[], rfl, Nat.le_trans K0.out.size B2.out.size, heap_alloc_new w2 _, Nat.le_refl _, by unfold maxLen; omega, rfl, rfl⟩⟩
  · have HCM := hid (HCN.out w2 B2.out)
    go_wp2_with fail
    refine HCM.out.mono ?_
    rintro e w3 ⟨⟨v, rfl, ho⟩, b3⟩
    have HO := hid ho
    obtain ⟨A3, c3, rfl, _⟩ := ho.form
    have B3 := hid (B2.out.trans (b3.mono B2.out.size))
    clear b3 ho
    go_wp2_with fail
    refine bodyPost_ret (v := .tuple #[.slice A3 (idxs (cnB x t) 0 is).length c3, .bool true]) (by simp [results, Tryz.results14, go_sem]) rfl ⟨⟨_, rfl, ?_⟩, K0.out.trans (B3.out.mono K0.out.size)⟩
    rw [HCO.out, if_pos trivial]
    exact HO.out.mono (Nat.le_trans K0.out.size B2.out.size)

end Go.Proofs.YtcahcnhpaocdaaaGreatDoor
