/- The most special candidate: plain words; firstToAll, mostSpecial, MostSpecial in the program. The most special candidate in the model: MostSpecial. -/
import Derived.Test.YtcahcnhpaocdaaaGreatDoorSpS
import Derived.Test.YtcahcnhpaocdaaaGreatDoorCnO
namespace Go.Proofs.YtcahcnhpaocdaaaGreatDoor
open Go.RowKit
set_option linter.unusedVariables false

/-- The first one that is to all as wanted; -1 if there is none. -/
def firstAll (p : Int → Int → Bool) (ks : List Nat) : Int := match ks.find? fun (i : Nat) => ks.all fun (k : Nat) => p i k with
  | some i => i
  | none => -1
theorem find_stop {q : Nat → Bool} {ks : List Nat} {k x : Nat} (h : ks[k]? = some x) (hn : (ks.take k).find? q = none) (hq : q x = true) : ks.find? q = some x := by
  obtain ⟨hlt, he⟩ := List.getElem?_eq_some_iff.1 h
  have e : ks = ks.take k ++ x :: ks.drop (k + 1) := by rw [← he]; simp
  rw [e, List.find?_append, hn]
  simp [hq]
theorem find_on {q : Nat → Bool} {ks : List Nat} {k x : Nat} (h : ks[k]? = some x) (hn : (ks.take k).find? q = none) (hq : q x = false) : (ks.take (k + 1)).find? q = none := by
  rw [List.take_add_one, h, List.find?_append, hn]
  simp [hq]
theorem filter_all {f : Nat → Bool} {ks : List Nat} : (ks.filter fun k => !f k).length = 0 ↔ ks.all f = true := by
  rw [List.length_eq_zero_iff, List.filter_eq_nil_iff, List.all_eq_true]
  simp
theorem firstAll_some {p : Int → Int → Bool} {ks : List Nat} {x : Nat} (h : (ks.find? fun (i : Nat) => ks.all fun (k : Nat) => p i k) = some x) : firstAll p ks = x := by
  unfold firstAll
  rw [h]
theorem firstAll_none {p : Int → Int → Bool} {ks : List Nat} (h : (ks.find? fun (i : Nat) => ks.all fun (k : Nat) => p i k) = none) : firstAll p ks = -1 := by
  unfold firstAll
  rw [h]
/-- What MostSpecial answers. -/
def msOf (zs : List (ByteArray × ByteArray)) (is : List Ins) (x t : ByteArray) : Int := if ndV zs is x t then firstAll (spB is) (idxs (cnB x t) 0 is) else -1

theorem cf_isSpec (args : Array Value) (w : World) : (callFunc 94 args).run Tryz.prog w = .ok (.enter 94 args) w := by kernel_rfl
theorem cf_first1 (args : Array Value) (w : World) : (callFunc 135 args).run Tryz.prog w = .ok (.enter 135 args) w := by kernel_rfl

set_option maxHeartbeats 1000000 in
set_option maxRecDepth 100000 in
theorem first1_any (A : Option Addr) (n cap : Nat) (B : Option Addr) (m cap' : Nat) (is : List Ins) (gc gi i k : Nat) (w : World) (hm : m ≤ maxLen) (hb : Inss w B m is) (hok : ∀ i ∈ is, InsOk i) (hi : i < is.length) (hk : k < is.length) (c1 : w.cell? ⟨gc, 0, none⟩ = some (.func (.func 94) #[.agg #[.slice A n cap, .slice B m cap']] #[])) (c2 : w.cell? ⟨gi, 0, none⟩ = some (.int .i64 (i : Int))) :
    Calls Tryz.prog 135 #[.int .i64 (k : Int), .pointer (some ⟨gc, 0, none⟩), .pointer (some ⟨gi, 0, none⟩)] w fun e w' => e = .returned (.bool (!spB is i k)) ∧ Below w.heap.size w w' := by
  have ei : is[i]? = some is[i] := List.getElem?_eq_getElem hi
  have ek : is[k]? = some is[k] := List.getElem?_eq_getElem hk
  have hcs := cf_isSpec
  have HS := hid (fun (W : World) (hW : Below w.heap.size w W) => isSpecI_any A n cap B m cap' is i k _ _ W hm (hb.below hW) hok ei ek)
  rw [spB_at ei ek]
  obtain ⟨v, hv⟩ : ∃ v, spI is[i] is[k] = v := ⟨_, rfl⟩
  rw [hv] at HS ⊢
  clear ei ek hv hb hok hi hk
  go_enter Tryz.func135, Tryz.ntmps135
  go_wp2_with fail
  refine (HS.out _ (Below.refl _ _)).mono ?_
  rintro e w2 ⟨rfl, b2⟩
  go_wp2_with fail
  go_ret
  exact ⟨rfl, b2⟩

set_option maxHeartbeats 2000000 in
set_option maxRecDepth 100000 in
theorem firstToAll_any (C : Option Addr) (l c : Nat) (ks : List Nat) (A : Option Addr) (n cap : Nat) (B : Option Addr) (m cap' : Nat) (is : List Ins) (w : World) (hl : l ≤ 1048576) (hks : NumAt w C l ks) (hlt : ∀ k ∈ ks, k < is.length) (hm : m ≤ maxLen) (hb : Inss w B m is) (hok : ∀ i ∈ is, InsOk i) :
    Calls Tryz.prog 93 #[.slice C l c, .func (.func 94) #[.agg #[.slice A n cap, .slice B m cap']] #[]] w fun e w' => e = .returned (.int .i64 (firstAll (spB is) ks)) ∧ Below w.heap.size w w' := by
  have hmf : ∀ (fn : Fn) (first cap : Array Value) (w : World), (Instr.makeFunc fn first cap).run Tryz.prog w = .ok (.func fn first cap) w := fun _ _ _ _ => rfl
  obtain ⟨W, hW⟩ : ∃ W, w.alloc (.cells #[.func (.func 94) #[.agg #[.slice A n cap, .slice B m cap']] #[]] 140) = W := ⟨_, rfl⟩
  have hWc := heap_new1 w (.cells #[.func (.func 94) #[.agg #[.slice A n cap, .slice B m cap']] #[]] 140)
  rw [hW] at hWc
  have BW := hid (show Below w.heap.size w W by rw [← hW]; exact (Below.refl _ _).alloc (Nat.le_refl _) _)
  have zW : w.heap.size < W.heap.size := by rw [← hW]; simp only [World.size_alloc]; omega
  have HWC := hid (fun (V : World) (hV : Below W.heap.size W V) => show V.cell? ⟨w.heap.size, 0, none⟩ = some (.func (.func 94) #[.agg #[.slice A n cap, .slice B m cap']] #[]) from cell_blk ((hV.block _ zW).trans hWc) rfl)
  have HKS := hid (hks.below BW.out)
  have HL := hid hks.1
  have HLT := hid hlt
  have HB := hid (hb.below BW.out)
  have HOK := hid hok
  have HWW := hid hW
  obtain ⟨R, hR⟩ : ∃ R, firstAll (spB is) ks = R := ⟨_, rfl⟩
  rw [hR]
  have HR := hid hR
  clear hks hlt hb hok hW hWc hR
  go_enter Tryz.func93, Tryz.ntmps93
  go_wp2_with fail
  go_loopw [10] (fun i wr => ∃ k : Nat, k ≤ l ∧ i = .int .i64 k ∧ ((ks.take k).find? fun (i : Nat) => ks.all fun (k : Nat) => spB is i k) = none ∧ Below W.heap.size W wr) (fun i _ => l - (intOf i).toNat)
  case atStart =>
    rw [HWW.out]
    exact ⟨0, Nat.zero_le _, rfl, rfl, Below.refl _ _⟩
  case round =>
    obtain ⟨k, hk, rfl, hfn, hbel⟩ := hrel
    have HF := hid hfn
    clear hfn
    by_cases hkl : k < l
    · have hks' := HKS.out.below hbel
      obtain ⟨g, o, rfl, hg, hca⟩ := hks'.2 (by omega)
      have hx : ks[k]? = some (ks[k]'(by have := HL.out; omega)) := List.getElem?_eq_getElem _
      have ca := hca k _ hx
      obtain ⟨x, ex⟩ : ∃ z, ks[k]'(by have := HL.out; omega) = z := ⟨_, rfl⟩
      rw [ex] at ca hx
      have HX := hid hx
      have hxm := List.mem_of_getElem? hx
      have HKN := hid hks'
      have i1 : (0 : Int) ≤ (k : Int) := by omega
      have i2 : (k : Int) < (l : Int) := by omega
      obtain ⟨U, hU⟩ : ∃ U, wr.alloc (.cells #[.int .i64 (x : Int)] 3) = U := ⟨_, rfl⟩
      have hUc := heap_new1 wr (.cells #[.int .i64 (x : Int)] 3)
      rw [hU] at hUc
      have BR := hid (show Below wr.heap.size wr U by rw [← hU]; exact (Below.refl _ _).alloc (Nat.le_refl _) _)
      have zU : wr.heap.size < U.heap.size := by rw [← hU]; simp only [World.size_alloc]; omega
      have HU := hid hU
      have BU := hid (hbel.trans (BR.out.mono hbel.size))
      have HXL := hid (HLT.out x hxm)
      have HKP := hid (keepZ_any 135 (.pointer (some ⟨w.heap.size, 0, none⟩)) (.pointer (some ⟨wr.heap.size, 0, none⟩)) cf_first1 (some ⟨g, o, none⟩) l c ks (fun (k : Nat) => !spB is x k) U hl (hks'.below BR.out) fun V k hkm hV =>
        first1_any A n cap B m cap' is w.heap.size wr.heap.size x k V hm (HB.out.below (BU.out.trans (hV.mono BU.out.size))) HOK.out HXL.out (HLT.out k hkm) (HWC.out V (BU.out.trans (hV.mono BU.out.size))) (cell_blk ((hV.block _ zU).trans hUc) rfl))
      have HUC := hid hUc
      clear hks' hca hx ex hxm hUc hU hbel
      go_wp2_with fail
      rw [HU.out]
      refine HKP.out.mono ?_
      rintro e w2 ⟨⟨v, rfl, ho⟩, b2⟩
      obtain ⟨A3, c3, rfl, _⟩ := ho.form
      have B2 := hid (BU.out.trans (b2.mono BU.out.size))
      have n0 := cell_blk ((b2.block _ zU).trans HUC.out) (j := 0) rfl
      have HFA := hid (filter_all (f := fun (k : Nat) => spB is x k) (ks := ks))
      obtain ⟨fl, hfl⟩ : ∃ fl, (ks.filter fun (k : Nat) => !spB is x k).length = fl := ⟨_, rfl⟩
      have hfl' : (List.filter (fun (k : Nat) => !spB is (x : Int) (k : Int)) ks).length = fl := hfl
      rw [hfl]
      rw [hfl'] at HFA
      clear ho b2 hfl hfl' ca
      by_cases h0 : fl = 0
      · subst h0
        have HA1 := hid (firstAll_some (p := spB is) (find_stop HX.out HF.out (HFA.out.1 rfl)))
        obtain rfl : R = (x : Int) := by rw [← HR.out]; exact HA1.out
        go_wp2_with fail
        go_ret
        exact ⟨rfl, BW.out.trans (B2.out.mono BW.out.size)⟩
      · have h0' : ¬ (fl : Int) = 0 := by omega
        have HN := hid (find_on HX.out HF.out (by rw [← Bool.not_eq_true]; exact fun h => h0 (HFA.out.2 h)))
        clear n0
        go_wp2_with fail
        go_roundw
        case rel => exact ⟨k + 1, hkl, by go_num, HN.out, B2.out⟩
        case measure => simp [intOf]; omega
    · have hkn : k = l := by omega
      subst hkn
      have h1 := HF.out
      rw [List.take_of_length_le (by have := HL.out; omega)] at h1
      obtain rfl : R = -1 := by rw [← HR.out]; exact firstAll_none h1
      clear h1
      go_wp2_with fail
      go_ret
      exact ⟨rfl, BW.out.trans (hbel.mono BW.out.size)⟩

set_option maxHeartbeats 1000000 in
set_option maxRecDepth 100000 in
theorem mostSpecial_any (C : Option Addr) (l c : Nat) (ks : List Nat) (A : Option Addr) (n cap : Nat) (B : Option Addr) (m cap' : Nat) (is : List Ins) (w : World) (hl : l ≤ 1048576) (hks : NumAt w C l ks) (hlt : ∀ k ∈ ks, k < is.length) (hm : m ≤ maxLen) (hb : Inss w B m is) (hok : ∀ i ∈ is, InsOk i) :
    Calls Tryz.prog 61 #[.agg #[.slice A n cap, .slice B m cap'], .slice C l c] w fun e w' => e = .returned (.int .i64 (firstAll (spB is) ks)) ∧ Below w.heap.size w w' := by
  have hmf : ∀ (fn : Fn) (first cap : Array Value) (w : World), (Instr.makeFunc fn first cap).run Tryz.prog w = .ok (.func fn first cap) w := fun _ _ _ _ => rfl
  have hb0 : Below w.heap.size w (w.alloc (.cells #[.slice A n cap, .slice B m cap'] 31)) := (Below.refl _ _).alloc (Nat.le_refl _) _
  have HF := hid (firstToAll_any C l c ks A n cap B m cap' is _ hl (hks.below hb0) hlt hm (hb.below hb0) hok)
  have HB0 := hid hb0
  clear hks hb hok hlt hb0
  go_enter Tryz.func61, Tryz.ntmps61
  go_wp2_with fail
  refine HF.out.mono ?_
  rintro e w2 ⟨rfl, b2⟩
  go_wp2_with fail
  go_ret
  exact ⟨rfl, HB0.out.trans (b2.mono HB0.out.size)⟩

set_option maxHeartbeats 2000000 in
set_option maxRecDepth 100000 in
theorem mostSpecialI_any (A : Option Addr) (n cap : Nat) (zs : List (ByteArray × ByteArray)) (B : Option Addr) (m cap' : Nat) (is : List Ins) (x t : ByteArray) (w : World) (hn : n ≤ maxLen) (ha : Prs w A n zs) (hm : m ≤ maxLen) (hb : Inss w B m is) (hok : ∀ i ∈ is, InsOk i) (ht : tot zs ≤ 1048576) (he : WErrs w) (hx : x.size ≤ maxLen) (htt : t.size ≤ maxLen) :
    Calls Tryz.prog 29 #[.agg #[.slice A n cap, .slice B m cap'], .agg #[.string x, .string t]] w fun e w' => e = .returned (.int .i64 (msOf zs is x t)) ∧ Below w.heap.size w w' := by
  obtain ⟨k0, k1, k2, k3⟩ := box2 w #[.slice A n cap, .slice B m cap'] 31 #[.string x, .string t] 41
  obtain ⟨w1, hw1⟩ : ∃ w1, (w.alloc (.cells #[.slice A n cap, .slice B m cap'] 31)).alloc (.cells #[.string x, .string t] 41) = w1 := ⟨_, rfl⟩
  rw [hw1] at k0 k1 k2 k3
  have z1 : w.heap.size + 1 < w1.heap.size := by omega
  have K0 := hid k0
  have HC := hid (fun (W : World) (hW : Below w1.heap.size w1 W) => show (W.cell? ⟨w.heap.size, 0, none⟩ = some (.slice A n cap) ∧ W.cell? ⟨w.heap.size, 1, none⟩ = some (.slice B m cap') ∧ W.cell? ⟨w.heap.size + 1, 0, none⟩ = some (.string x) ∧ W.cell? ⟨w.heap.size + 1, 1, none⟩ = some (.string t)) ∧ Inss W B m is from
    ⟨⟨cell_blk ((hW.block _ (by omega)).trans k2) rfl, cell_blk ((hW.block _ (by omega)).trans k2) rfl, cell_blk ((hW.block _ z1).trans k3) rfl, cell_blk ((hW.block _ z1).trans k3) rfl⟩, hb.below (k0.trans (hW.mono k0.size))⟩)
  have HNV := hid (needValidI_any A n cap zs B m cap' is x t w1 hn (ha.below k0) hm (hb.below k0) hok ht (he.below k0) htt)
  have HCN := hid (fun (W : World) (hW : Below w1.heap.size w1 W) (hm : m ≤ 10) => candidatesI_any A n cap B m cap' is x t W hm (HC.out W hW).2 hok hx htt)
  have HMS := hid (fun (W : World) (hW : Below w1.heap.size w1 W) (C : Option Addr) (l c : Nat) (hl : l ≤ 1048576) (hks : NumAt W C l (idxs (cnB x t) 0 is)) => mostSpecial_any C l c _ A n cap B m cap' is W hl hks (fun k hk => idxs_lt hk) hm (HC.out W hW).2 hok)
  have HM := hid (fun (h : ndV zs is x t = true) => show m ≤ 10 from by
    unfold ndV at h
    simp only [Bool.and_eq_true] at h
    have := (wdOf_is h.1.1).1
    have := hb.1
    omega)
  have HIL := hid hb.1
  have HCO := hid (show msOf zs is x t = if ndV zs is x t then firstAll (spB is) (idxs (cnB x t) 0 is) else -1 from rfl)
  obtain ⟨b, hb'⟩ : ∃ b, ndV zs is x t = b := ⟨_, rfl⟩
  rw [hb'] at HNV HM HCO
  rw [HCO.out]
  obtain ⟨F, hF⟩ : ∃ F, firstAll (spB is) (idxs (cnB x t) 0 is) = F := ⟨_, rfl⟩
  rw [hF] at HMS
  rw [hF]
  have HW1 := hid hw1
  have HLE := hid (idxs_length (cnB x t) 0 is)
  clear k0 k1 k2 k3 hw1 ha hb hok he hb' HCO hF
  go_enter Tryz.func29, Tryz.ntmps29
  go_wp2_with fail
  rw [HW1.out]
  refine HNV.out.mono ?_
  rintro e w2 ⟨rfl, c2⟩
  have B2 := hid c2
  clear c2
  obtain ⟨⟨p0, p1, p2, p3⟩, _⟩ := HC.out w2 B2.out
  cases b
  · go_wp2_with fail
    go_ret
    exact ⟨rfl, K0.out.trans (B2.out.mono K0.out.size)⟩
  have hm10 := HM.out rfl
  go_wp2_with fail
  obtain ⟨⟨c0, c1, c2, c3⟩, _⟩ := HC.out w2.drew B2.out.drew
  go_region_with (first
    | (go_at_call 44
       refine (HCN.out _ B2.out.drew hm10).mono ?_
       rintro e w3 ⟨⟨v, rfl, ho⟩, b3⟩
       obtain ⟨A3, c3', rfl, _, _, nu⟩ := ho.form
       have NU := hid nu
       have B3 := hid (B2.out.drew.trans (b3.mono B2.out.drew.size))
       obtain ⟨⟨d0, d1, d2, d3⟩, _⟩ := HC.out w3 B3.out
       clear ho b3 nu)
    | (go_at_call 61
       refine (HMS.out _ B3.out A3 _ c3' (by have := HLE.out; have := HIL.out; omega) NU.out).mono ?_
       rintro e w4 ⟨rfl, b4⟩))
  all_goals
    go_wp2_with fail
    go_ret
    exact ⟨rfl, K0.out.trans ((B3.out.trans (b4.mono B3.out.size)).mono K0.out.size)⟩

end Go.Proofs.YtcahcnhpaocdaaaGreatDoor

namespace Go.Proofs.YtcahcnhpaocdaaaGreatDoor
open Go.RowKit
set_option linter.unusedVariables false

theorem all_snocK {f : Nat → Bool} {ks : List Nat} {k x : Nat} (h : ks[k]? = some x) : (ks.take (k + 1)).all f = ((ks.take k).all f && f x) := by
  rw [List.take_add_one, h, List.all_append]
  simp

set_option maxHeartbeats 4000000 in
set_option maxRecDepth 100000 in
theorem mostSpecialS_any (A : Option Addr) (n cap : Nat) (zs : List (ByteArray × ByteArray)) (B : Option Addr) (m cap' : Nat) (is : List Ins) (x t : ByteArray) (w : World) (hcap : n ≤ cap) (hcm : cap ≤ maxLen) (ha : Prs w A n zs) (hz : ∀ z ∈ zs, z.2.size ≤ maxLen) (hm : m ≤ 1048576) (hb : Inss w B m is) (hok : ∀ i ∈ is, InsOk i) (htt : t.size ≤ maxLen) :
    Calls Tryz.prog 28 #[.agg #[.slice A n cap, .slice B m cap'], .agg #[.string x, .string t]] w fun e w' => e = .returned (.int .i64 (msOf zs is x t)) ∧ Below w.heap.size w w' := by
  obtain ⟨k0, k1, k2, k3⟩ := box2 w #[.slice A n cap, .slice B m cap'] 31 #[.string x, .string t] 41
  obtain ⟨w1, hw1⟩ : ∃ w1, (w.alloc (.cells #[.slice A n cap, .slice B m cap'] 31)).alloc (.cells #[.string x, .string t] 41) = w1 := ⟨_, rfl⟩
  rw [hw1] at k0 k1 k2 k3
  have z1 : w.heap.size + 1 < w1.heap.size := by omega
  have K0 := hid k0
  have HC := hid (fun (W : World) (hW : Below w1.heap.size w1 W) => show W.cell? ⟨w.heap.size, 0, none⟩ = some (.slice A n cap) ∧ W.cell? ⟨w.heap.size, 1, none⟩ = some (.slice B m cap') ∧ W.cell? ⟨w.heap.size + 1, 0, none⟩ = some (.string x) ∧ W.cell? ⟨w.heap.size + 1, 1, none⟩ = some (.string t) from
    ⟨cell_blk ((hW.block _ (by omega)).trans k2) rfl, cell_blk ((hW.block _ (by omega)).trans k2) rfl, cell_blk ((hW.block _ z1).trans k3) rfl, cell_blk ((hW.block _ z1).trans k3) rfl⟩)
  have HCN := hid (candOfS_any A n cap zs B m cap' is x t w1 hcap hcm (ha.below k0) hz hm (hb.below k0) hok htt)
  have HSP := hid (fun (W : World) (hW : Below w1.heap.size w1 W) (i k : Nat) => isSpecialS_any A n cap zs B m cap' is (i : Int) (k : Int) W hcap hcm (ha.below (k0.trans (hW.mono k0.size))) hz (by unfold maxLen; omega) (hb.below (k0.trans (hW.mono k0.size))) hok)
  obtain ⟨ks, hks⟩ : ∃ ks, cnOf zs is x t = ks := ⟨_, rfl⟩
  have HLE := hid (show ks.length ≤ 1048576 from by rw [← hks]; have := cnOf_len zs is x t; have := hb.1; omega)
  rw [hks] at HCN
  obtain ⟨R, hR⟩ : ∃ R, msOf zs is x t = R := ⟨_, rfl⟩
  have HFR := hid (show firstAll (spB is) ks = R from by
    rw [← hR, ← hks]
    unfold msOf cnOf
    split
    · rfl
    · rfl)
  have HWD := hid (fun (h : 0 < ks.length) => show wdOf zs is = true from by
    rw [← hks] at h
    unfold cnOf at h
    split at h
    · rename_i h'
      unfold ndV at h'
      simp only [Bool.and_eq_true] at h'
      exact h'.1.1
    · exact absurd h (Nat.lt_irrefl 0))
  rw [hR]
  have HW1 := hid hw1
  clear k0 k1 k2 k3 hw1 ha hb hok hks hR
  go_enter Tryz.func28, Tryz.ntmps28
  go_wp2_with fail
  rw [HW1.out]
  refine HCN.out.mono ?_
  rintro e w2 ⟨⟨v, rfl, ho⟩, b2⟩
  obtain ⟨C, c, rfl, _, _, nu⟩ := ho.form
  have NU := hid nu
  have B2 := hid b2
  obtain ⟨l, hl⟩ : ∃ l, ks.length = l := ⟨_, rfl⟩
  rw [hl] at NU HLE HWD
  rw [hl]
  have HL := hid hl
  have hle := HLE.out
  clear ho b2 nu hl
  go_wp2_with fail
  go_loopw [20] (fun i wr => ∃ k : Nat, k ≤ l ∧ i = .int .i64 k ∧ ((ks.take k).find? fun (i : Nat) => ks.all fun (k : Nat) => spB is i k) = none ∧ Below w2.heap.size w2 wr) (fun i _ => l - (intOf i).toNat)
  case atStart => exact ⟨0, Nat.zero_le _, rfl, rfl, Below.refl _ _⟩
  case round =>
    obtain ⟨k, hk, rfl, hfn, hbel⟩ := hrel
    have HF := hid hfn
    clear hfn
    by_cases hkl : k < l
    · have hwd := HWD.out (by omega)
      have hks' := NU.out.below hbel
      obtain ⟨g, o, rfl, hg, hca⟩ := hks'.2 (by omega)
      have hx : ks[k]? = some (ks[k]'(by have := HL.out; omega)) := List.getElem?_eq_getElem _
      have ca := hca k _ hx
      obtain ⟨y, ey⟩ : ∃ z, ks[k]'(by have := HL.out; omega) = z := ⟨_, rfl⟩
      rw [ey] at ca hx
      have HX := hid hx
      have HWDD := hid hwd
      have i1 : (0 : Int) ≤ (k : Int) := by omega
      have i2 : (k : Int) < (l : Int) := by omega
      have BR := hid hbel
      clear hks' hca hx ey hwd hbel
      go_wp2_with fail
      go_loopw [9, 26] (fun b i wq => ∃ j : Nat, j ≤ l ∧ i = .int .i64 j ∧ b = .bool ((ks.take j).all fun (k : Nat) => spB is y k) ∧ Below wr.heap.size wr wq) (fun _ i _ => l - (intOf i).toNat)
      case atStart => exact ⟨0, Nat.zero_le _, rfl, rfl, Below.refl _ _⟩
      case round =>
        obtain ⟨j, hj, rfl, rfl, hbq⟩ := hrel
        have BQ := hid (BR.out.trans (hbq.mono BR.out.size))
        have CQ := hid hbq
        obtain ⟨fb, hfb⟩ : ∃ fb, ((ks.take j).all fun (k : Nat) => spB is y k) = fb := ⟨_, rfl⟩
        have hfb' : (List.all (List.take j ks) fun (k : Nat) => spB is (y : Int) (k : Int)) = fb := hfb
        have HFB := hid hfb
        rw [hfb']
        clear hfb hfb' hbq ca
        by_cases hjl : j < l
        · obtain ⟨g', o', e', _, hca⟩ := (NU.out.below BQ.out).2 (by omega)
          injection e' with e'
          injection e' with e1 e2
          subst e1 e2
          have hx : ks[j]? = some (ks[j]'(by have := HL.out; omega)) := List.getElem?_eq_getElem _
          have ca := hca j _ hx
          obtain ⟨u, eu⟩ : ∃ z, ks[j]'(by have := HL.out; omega) = z := ⟨_, rfl⟩
          rw [eu] at ca hx
          have HAS := hid (all_snocK (f := fun (k : Nat) => spB is y k) hx)
          have j1 : (0 : Int) ≤ (j : Int) := by omega
          have j2 : (j : Int) < (l : Int) := by omega
          obtain ⟨p0, p1, _, _⟩ := HC.out wr (B2.out.trans (BQ.out.mono B2.out.size))
          have HS := hid (HSP.out wr (B2.out.trans (BQ.out.mono B2.out.size)) y u)
          rw [HWDD.out, Bool.true_and] at HS
          obtain ⟨sv, hsv⟩ : ∃ s, spB is (y : Int) (u : Int) = s := ⟨_, rfl⟩
          rw [hsv] at HS
          have HSV := hid hsv
          clear hca hx eu hsv
          cases fb
          · go_wp2_with fail
            go_roundw
            case rel => exact ⟨j + 1, hjl, by go_num, by rw [HAS.out, HFB.out]; rfl, CQ.out⟩
            case measure => simp [intOf]; omega
          · go_wp2_with fail
            refine HS.out.mono ?_
            rintro e w5 ⟨rfl, b5⟩
            have C5 := hid (CQ.out.trans (b5.mono CQ.out.size))
            clear b5
            go_wp2_with fail
            go_roundw
            case rel => exact ⟨j + 1, hjl, by go_num, by rw [HAS.out, HFB.out]; simp only [HSV.out, Bool.true_and], C5.out⟩
            case measure => simp [intOf]; omega
        · have hjn : j = l := by omega
          subst hjn
          have h1 := HFB.out
          rw [List.take_of_length_le (by have := HL.out; omega)] at h1
          cases fb
          · have HN := hid (find_on HX.out HF.out h1)
            clear h1
            go_wp2_with fail
            go_roundw
            case rel => exact ⟨k + 1, hkl, by go_num, HN.out, BQ.out⟩
            case measure => simp [intOf]; omega
          · have HA1 := hid (firstAll_some (p := spB is) (find_stop HX.out HF.out h1))
            obtain rfl : R = (y : Int) := by rw [← HFR.out]; exact HA1.out
            clear h1
            go_wp2_with fail
            go_ret
            exact ⟨rfl, K0.out.trans ((B2.out.trans (BQ.out.mono B2.out.size)).mono K0.out.size)⟩
    · have hkn : k = l := by omega
      subst hkn
      have h1 := HF.out
      rw [List.take_of_length_le (by have := HL.out; omega)] at h1
      obtain rfl : R = -1 := by rw [← HFR.out]; exact firstAll_none h1
      clear h1
      go_wp2_with fail
      go_ret
      exact ⟨rfl, K0.out.trans ((B2.out.trans (hbel.mono B2.out.size)).mono K0.out.size)⟩

end Go.Proofs.YtcahcnhpaocdaaaGreatDoor
