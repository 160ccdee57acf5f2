/- Givens of a world: GivensValid, in the program and in the model. -/
import Derived.Test.YtgbbobjkhpplkaaDoorNv
import Derived.Deep.RegionWith
import Derived.Deep.Cut
import Derived.RegionTactic
namespace Go.Proofs.YtgbbobjkhpplkaaDoor
open Go.RowKit
set_option linter.unusedVariables false

/-- Whether needs are givens of a world. -/
def gvV (zs : List (ByteArray × ByteArray)) (is : List Ins) (gs : List (ByteArray × ByteArray)) : Bool := (gs.all fun z => ndV zs is z.1 z.2) && (wdOf zs is && decide (gs.length ≤ 6))

set_option maxHeartbeats 1000000 in
set_option maxRecDepth 100000 in
theorem indexN_any (fn : Nat) (k1 : Value) (hcf : ∀ args w, (callFunc fn args).run Tryd.prog w = .ok (.enter fn args) w) (A : Option Addr) (n cap : Nat) (zs : List (ByteArray × ByteArray)) (r : ByteArray × ByteArray → Bool) (w : World) (hn : n ≤ maxLen) (ha : Prs w A n zs)
    (HC : ∀ W x y, (x, y) ∈ zs → Below w.heap.size w W → Calls Tryd.prog fn #[.agg #[.string x, .string y], k1] W fun e w' => e = .returned (.bool (r (x, y))) ∧ Below W.heap.size W w') :
    Calls Tryd.prog 35 #[.slice A n cap, .func (.func fn) #[] #[k1]] w fun e w' => ∃ q : Int, e = .returned (.int .i64 q) ∧ decide (0 ≤ q) = zs.any r ∧ Below w.heap.size w w' := by
  have HA := hid ha
  have HCC := hid HC
  clear ha HC
  unfold maxLen at hn
  go_enter Tryd.func35, Tryd.ntmps35
  go_wp2_with fail
  go_loopw [8] (fun i wr => ∃ k : Nat, k ≤ n ∧ i = .int .i64 k ∧ (∀ j z, j < k → zs[j]? = some z → r z = false) ∧ Below w.heap.size w wr) (fun i _ => n - (intOf i).toNat)
  case atStart => exact ⟨0, Nat.zero_le _, rfl, (fun j z h => absurd h (Nat.not_lt_zero _)), Below.refl _ _⟩
  case round =>
    obtain ⟨k, hk, rfl, hno, hbel⟩ := hrel
    have HNO := hid hno
    clear hno
    by_cases hlt : k < n
    · obtain ⟨g, o, rfl, hg, hca⟩ := HA.out.2 (by omega)
      have hx : zs[k]? = some (zs[k]'(by have := HA.out.1; omega)) := List.getElem?_eq_getElem _
      obtain ⟨ca, cb⟩ := hca k _ hx
      obtain ⟨⟨x, y⟩, ex⟩ : ∃ z, zs[k]'(by have := HA.out.1; omega) = z := ⟨_, rfl⟩
      rw [ex] at ca cb hx
      have HX := hid hx
      have ca' := cell_below ca hg hbel
      have cb' := cell_below cb hg hbel
      have HI := hid (HCC.out wr x y (List.mem_of_getElem? hx) hbel)
      clear hca hx ex ca cb
      have i1 : (0 : Int) ≤ (k : Int) := by omega
      have i2 : (k : Int) < (n : Int) := by omega
      obtain ⟨b, hb⟩ : ∃ b, r (x, y) = b := ⟨_, rfl⟩
      rw [hb] at HI
      have HB := hid hb
      clear hb
      go_wp2_with fail
      refine HI.out.mono ?_
      rintro e w1 ⟨rfl, d1⟩
      cases b
      · go_wp2_with fail
        go_roundw
        case rel =>
          refine ⟨k + 1, hlt, by go_num, fun j z hj hz => ?_, hbel.trans (d1.mono hbel.size)⟩
          by_cases e : j = k
          · subst e
            rw [HX.out] at hz
            injection hz with hz
            rw [← hz]
            exact HB.out
          · exact HNO.out j z (by omega) hz
        case measure => simp [intOf]; omega
      · go_wp2_with fail
        go_ret
        refine ⟨(k : Int), rfl, ?_, hbel.trans (d1.mono hbel.size)⟩
        rw [decide_eq_true i1]
        exact (List.any_eq_true.2 ⟨(x, y), List.mem_of_getElem? HX.out, HB.out⟩).symm
    · go_wp2_with fail
      go_ret
      refine ⟨-1, rfl, ?_, hbel⟩
      rw [show decide ((0 : Int) ≤ -1) = false from rfl]
      refine (Bool.eq_false_iff.2 fun h => ?_).symm
      obtain ⟨z, hz, e⟩ := List.any_eq_true.1 h
      obtain ⟨j, hj, rfl⟩ := List.getElem_of_mem hz
      rw [HNO.out j _ (by have := HA.out.1; omega) (List.getElem?_eq_getElem hj)] at e
      cases e

set_option maxHeartbeats 400000 in
set_option maxRecDepth 100000 in
theorem containsN_any (fn : Nat) (k1 : Value) (hcf : ∀ args w, (callFunc fn args).run Tryd.prog w = .ok (.enter fn args) w) (A : Option Addr) (n cap : Nat) (zs : List (ByteArray × ByteArray)) (r : ByteArray × ByteArray → Bool) (w : World) (hn : n ≤ maxLen) (ha : Prs w A n zs)
    (HC : ∀ W x y, (x, y) ∈ zs → Below w.heap.size w W → Calls Tryd.prog fn #[.agg #[.string x, .string y], k1] W fun e w' => e = .returned (.bool (r (x, y))) ∧ Below W.heap.size W w') :
    Calls Tryd.prog 21 #[.slice A n cap, .func (.func fn) #[] #[k1]] w fun e w' => e = .returned (.bool (zs.any r)) ∧ Below w.heap.size w w' := by
  have HI := hid (indexN_any fn k1 hcf A n cap zs r w hn ha HC)
  clear HC ha
  go_enter Tryd.func21, Tryd.ntmps21
  go_wp2_with fail
  refine HI.out.mono ?_
  rintro e w1 ⟨q, rfl, hq, hb⟩
  have HQ := hid hq
  clear hq
  go_wp2_with fail
  go_ret
  exact ⟨by rw [← HQ.out]; simp, hb⟩

theorem cf_giv (args : Array Value) (w : World) : (callFunc 22 args).run Tryd.prog w = .ok (.enter 22 args) w := by kernel_rfl

set_option maxHeartbeats 400000 in
set_option maxRecDepth 100000 in
theorem gv1_any (A : Option Addr) (n cap : Nat) (zs : List (ByteArray × ByteArray)) (B : Option Addr) (m cap' : Nat) (is : List Ins) (x t : ByteArray) (g : Nat) (W : World) (hn : n ≤ maxLen) (ha : Prs W A n zs) (hm : m ≤ maxLen) (hb : Inss W B m is) (hok : ∀ i ∈ is, InsOk i) (ht : tot zs ≤ 1048576) (he : WErrs W) (htt : t.size ≤ maxLen)
    (hg : g < W.heap.size) (hc0 : W.cell? ⟨g, 0, none⟩ = some (.slice A n cap)) (hc1 : W.cell? ⟨g, 1, none⟩ = some (.slice B m cap')) :
    Calls Tryd.prog 22 #[.agg #[.string x, .string t], .pointer (some ⟨g, 0, none⟩)] W fun e w' => e = .returned (.bool (!ndV zs is x t)) ∧ Below W.heap.size W w' := by
  have HNV := hid (fun (V : World) (hV : Below W.heap.size W V) => needValidI_any A n cap zs B m cap' is x t V hn (ha.below hV) hm (hb.below hV) hok ht (he.below hV) htt)
  obtain ⟨b, hb'⟩ : ∃ b, ndV zs is x t = b := ⟨_, rfl⟩
  rw [hb'] at HNV ⊢
  have d0 := fun o => cell_below hc0 hg ((Below.refl W.heap.size W).alloc (Nat.le_refl _) o)
  have d1 := fun o => cell_below hc1 hg ((Below.refl W.heap.size W).alloc (Nat.le_refl _) o)
  clear ha hb hok he hb'
  go_enter Tryd.func22, Tryd.ntmps22
  go_wp2_with fail
  first
    | (refine (HNV.out W (Below.refl _ _)).mono ?_
       rintro e w1 ⟨rfl, b1⟩
       go_wp2_with fail
       go_ret
       exact ⟨rfl, b1⟩)
    | (refine (HNV.out _ ((Below.refl _ _).alloc (Nat.le_refl _) _)).mono ?_
       rintro e w1 ⟨rfl, b1⟩
       go_wp2_with fail
       go_ret
       exact ⟨rfl, ((Below.refl W.heap.size W).alloc (Nat.le_refl _) _).trans (b1.mono (by simp only [World.size_alloc]; omega))⟩)

set_option maxHeartbeats 2000000 in
set_option maxRecDepth 100000 in
theorem givensValidI_any (A : Option Addr) (n cap : Nat) (zs : List (ByteArray × ByteArray)) (B : Option Addr) (m cap' : Nat) (is : List Ins) (G : Option Addr) (k c : Nat) (gs : List (ByteArray × ByteArray)) (w : World) (hn : n ≤ maxLen) (ha : Prs w A n zs) (hm : m ≤ maxLen) (hb : Inss w B m is) (hok : ∀ i ∈ is, InsOk i) (ht : tot zs ≤ 1048576) (he : WErrs w) (hk : k ≤ 1048576) (hg : Prs w G k gs) (hgz : ∀ z ∈ gs, z.2.size ≤ maxLen) (v : Bool) (hv : Hid (gvV zs is gs = v)) :
    Calls Tryd.prog 9 #[.agg #[.slice A n cap, .slice B m cap'], .slice G k c] w fun e w' => e = .returned (.bool v) ∧ Below w.heap.size w w' := by
  obtain ⟨W, hW⟩ : ∃ W, w.alloc (.cells #[.slice A n cap, .slice B m cap'] 33) = W := ⟨_, rfl⟩
  have hWc := heap_new1 w (.cells #[.slice A n cap, .slice B m cap'] 33)
  rw [hW] at hWc
  have zW : w.heap.size < W.heap.size := by rw [← hW]; simp only [World.size_alloc]; omega
  have hb0 : Below w.heap.size w W := by rw [← hW]; exact (Below.refl _ _).alloc (Nat.le_refl _) _
  have c0 := cell_blk hWc (j := 0) rfl
  have c1 := cell_blk hWc (j := 1) rfl
  have HWV := hid (worldValidI_any A n cap zs B m cap' is W hn (ha.below hb0) hm (hb.below hb0) hok ht (he.below hb0))
  have HCF := hid (fun (V : World) (hV : Below W.heap.size W V) => by
    have hwV := hb0.trans (hV.mono hb0.size)
    exact containsN_any 22 (.pointer (some ⟨w.heap.size, 0, none⟩)) cf_giv G k c gs (fun z => !ndV zs is z.1 z.2) V (by unfold maxLen; omega) (hg.below hwV) fun U x y hmem hU => by
      have hwU := hwV.trans (hU.mono hwV.size)
      have hUc := (hU.block w.heap.size (Nat.lt_of_lt_of_le zW hV.size)).trans ((hV.block w.heap.size zW).trans hWc)
      exact gv1_any A n cap zs B m cap' is x y w.heap.size U hn (ha.below hwU) hm (hb.below hwU) hok ht (he.below hwU) (hgz _ hmem) (Nat.lt_of_lt_of_le zW (Nat.le_trans hV.size hU.size)) (cell_blk hUc (j := 0) rfl) (cell_blk hUc (j := 1) rfl))
  have HLN := hid hg.1
  have HB0 := hid hb0
  have HW := hid hW
  have HFIN := hid (show v = ((!gs.any fun z => !ndV zs is z.1 z.2) && (wdOf zs is && decide (k ≤ 6))) by
    rw [← hv.out, ← hg.1]
    unfold gvV
    congr 1
    rw [Bool.eq_iff_iff]
    simp)
  obtain ⟨b1, e1⟩ : ∃ b, wdOf zs is = b := ⟨_, rfl⟩
  obtain ⟨b2, e2⟩ : ∃ b, (gs.any fun z => !ndV zs is z.1 z.2) = b := ⟨_, rfl⟩
  rw [e1] at HWV HFIN
  rw [e2] at HCF HFIN
  clear ha hb hok he hg hgz hv hWc hb0 hW e1 e2
  go_enter Tryd.func9, Tryd.ntmps9
  cases b1
  · have hv1 : v = false := by rw [HFIN.out]; simp
    subst hv1
    clear HFIN
    go_wp2_with fail
    rw [HW.out]
    refine HWV.out.mono ?_
    rintro e w2 ⟨rfl, h2⟩
    go_wp2_with fail
    go_ret
    exact ⟨rfl, HB0.out.trans (h2.mono HB0.out.size)⟩
  · by_cases h6 : k ≤ 6
    · have hk6 : (k : Int) ≤ 6 := by omega
      have hv1 : v = !b2 := by rw [HFIN.out, decide_eq_true h6]; simp
      subst hv1
      clear HFIN
      go_wp2_with fail
      rw [HW.out]
      refine HWV.out.mono ?_
      rintro e w2 ⟨rfl, h2⟩
      have H2 := hid h2
      clear h2
      go_wp2_with fail
      refine (HCF.out w2 H2.out).mono ?_
      rintro e w3 ⟨rfl, h3⟩
      have H3 := hid (H2.out.trans (h3.mono H2.out.size))
      clear h3
      go_wp2_with fail
      go_ret
      exact ⟨rfl, HB0.out.trans (H3.out.mono HB0.out.size)⟩
    · have hk6 : ¬ (k : Int) ≤ 6 := by omega
      have hv1 : v = false := by rw [HFIN.out, decide_eq_false h6]; simp
      subst hv1
      clear HFIN
      go_wp2_with fail
      rw [HW.out]
      refine HWV.out.mono ?_
      rintro e w2 ⟨rfl, h2⟩
      go_wp2_with fail
      go_ret
      exact ⟨rfl, HB0.out.trans (h2.mono HB0.out.size)⟩

set_option maxHeartbeats 2000000 in
set_option maxRecDepth 100000 in
theorem givensValidS_any (A : Option Addr) (n cap : Nat) (zs : List (ByteArray × ByteArray)) (B : Option Addr) (m cap' : Nat) (is : List Ins) (G : Option Addr) (k c : Nat) (gs : List (ByteArray × ByteArray)) (w : World) (hcap : n ≤ cap) (hcm : cap ≤ maxLen) (ha : Prs w A n zs) (hz : ∀ z ∈ zs, z.2.size ≤ maxLen) (hm : m ≤ maxLen) (hb : Inss w B m is) (hok : ∀ i ∈ is, InsOk i) (hk : k ≤ 1048576) (hg : Prs w G k gs) (hgz : ∀ z ∈ gs, z.2.size ≤ maxLen) (v : Bool) (hv : Hid (gvV zs is gs = v)) :
    Calls Tryd.prog 6 #[.agg #[.slice A n cap, .slice B m cap'], .slice G k c] w fun e w' => e = .returned (.bool v) ∧ Below w.heap.size w w' := by
  obtain ⟨W, hW⟩ : ∃ W, w.alloc (.cells #[.slice A n cap, .slice B m cap'] 33) = W := ⟨_, rfl⟩
  have hWc := heap_new1 w (.cells #[.slice A n cap, .slice B m cap'] 33)
  rw [hW] at hWc
  have zW : w.heap.size < W.heap.size := by rw [← hW]; simp only [World.size_alloc]; omega
  have hb0 : Below w.heap.size w W := by rw [← hW]; exact (Below.refl _ _).alloc (Nat.le_refl _) _
  have HC := hid (fun (V : World) (hV : Below W.heap.size W V) => show V.cell? ⟨w.heap.size, 0, none⟩ = some (.slice A n cap) ∧ V.cell? ⟨w.heap.size, 1, none⟩ = some (.slice B m cap') from
    ⟨cell_blk ((hV.block w.heap.size zW).trans hWc) (j := 0) rfl, cell_blk ((hV.block w.heap.size zW).trans hWc) (j := 1) rfl⟩)
  have HWV := hid (fun (V : World) (hV : Below w.heap.size w V) => worldValidS_any A n cap zs B m cap' is V hcap hcm (ha.below hV) hz hm (hb.below hV) hok)
  have HNV := hid (fun (V : World) (hV : Below w.heap.size w V) (x t : ByteArray) (htt : t.size ≤ maxLen) => needValidS_any A n cap zs B m cap' is x t V hcap hcm (ha.below hV) hz hm (hb.below hV) hok htt)
  have HG := hid (fun (V : World) (hV : Below w.heap.size w V) => hg.below hV)
  have HLN := hid hg.1
  have HB0 := hid hb0
  have HW := hid hW
  have HGZ := hid hgz
  have HV := hid (show v = ((gs.all fun z => ndV zs is z.1 z.2) && (wdOf zs is && decide (k ≤ 6))) by rw [← hv.out, ← hg.1]; rfl)
  clear ha hb hok hg hgz hv hWc hb0 hW
  go_enter Tryd.func6, Tryd.ntmps6
  go_wp2_with fail
  go_loopw [9] (fun i wr => ∃ j : Nat, j ≤ k ∧ i = .int .i64 j ∧ (∀ z ∈ gs.take j, ndV zs is z.1 z.2 = true) ∧ Below W.heap.size W wr) (fun i _ => k - (intOf i).toNat)
  case atStart =>
    rw [HW.out]
    exact ⟨0, Nat.zero_le _, rfl, (fun z hz => by simp at hz), Below.refl _ _⟩
  case round =>
    obtain ⟨j, hj, rfl, hall, hbel⟩ := hrel
    have HALL := hid hall
    have HBEL := hid hbel
    have HWB := hid (HB0.out.trans (hbel.mono HB0.out.size))
    obtain ⟨p0, p1⟩ := HC.out wr hbel
    clear hall
    by_cases hlt : j < k
    · obtain ⟨g, o, rfl, hgl, hca⟩ := (HG.out wr HWB.out).2 (by omega)
      have hx : gs[j]? = some (gs[j]'(by have := HLN.out; omega)) := List.getElem?_eq_getElem _
      obtain ⟨ca, cb⟩ := hca j _ hx
      have hmem := List.mem_of_getElem? hx
      have hsz := HGZ.out _ hmem
      obtain ⟨⟨x, t⟩, ex⟩ : ∃ z, gs[j]'(by have := HLN.out; omega) = z := ⟨_, rfl⟩
      rw [ex] at ca cb hx hsz hmem
      have HX := hid hx
      have HMEM := hid hmem
      obtain ⟨U, hU⟩ : ∃ U, wr.alloc (.cells #[.string x, .string t] 45) = U := ⟨_, rfl⟩
      have hUc := heap_new1 wr (.cells #[.string x, .string t] 45)
      rw [hU] at hUc
      have hbU : Below wr.heap.size wr U := by rw [← hU]; exact (Below.refl _ _).alloc (Nat.le_refl _) _
      have HBU := hid (HBEL.out.trans (hbU.mono HBEL.out.size))
      have HWU := hid (HWB.out.trans (hbU.mono HWB.out.size))
      obtain ⟨r0, r1⟩ := HC.out U HBU.out
      have u0 := cell_blk hUc (j := 0) rfl
      have u1 := cell_blk hUc (j := 1) rfl
      have HN := hid (HNV.out U HWU.out x t hsz)
      obtain ⟨b, hb'⟩ : ∃ b, ndV zs is x t = b := ⟨_, rfl⟩
      rw [hb'] at HN
      have HB := hid hb'
      have HU := hid hU
      have i1 : (0 : Int) ≤ (j : Int) := by omega
      have i2 : (j : Int) < (k : Int) := by omega
      clear hca hx ex hmem hUc hbU hb' hbel
      go_wp2_with fail
      refine HN.out.mono ?_
      rintro e w2 ⟨rfl, h2⟩
      have HB2 := hid (HBU.out.trans (h2.mono HBU.out.size))
      clear h2
      cases b
      · have hv1 : v = false := by
          rw [HV.out]
          have : (gs.all fun z => ndV zs is z.1 z.2) = false := by
            rw [List.all_eq_false]
            exact ⟨(x, t), HMEM.out, by rw [HB.out]; decide⟩
          rw [this]
          rfl
        subst hv1
        clear HV
        go_wp2_with fail
        go_ret
        exact ⟨rfl, HB0.out.trans (HB2.out.mono HB0.out.size)⟩
      · go_wp2_with fail
        go_roundw
        case rel =>
          refine ⟨j + 1, hlt, by go_num, fun z hz => ?_, HB2.out⟩
          rw [List.take_add_one, HX.out] at hz
          rcases List.mem_append.1 hz with hz | hz
          · exact HALL.out z hz
          · simp at hz
            rw [hz]
            exact HB.out
        case measure => simp [intOf]; omega
    · have hjk : j = k := by omega
      subst hjk
      have hall := HALL.out
      rw [List.take_of_length_le (by have := HLN.out; omega)] at hall
      have hv1 : v = (wdOf zs is && decide (j ≤ 6)) := by
        rw [HV.out, List.all_eq_true.2 hall, Bool.true_and]
      have HWD := hid (HWV.out wr HWB.out)
      obtain ⟨b, hb'⟩ : ∃ b, wdOf zs is = b := ⟨_, rfl⟩
      rw [hb'] at HWD hv1
      clear hb' hall HV
      go_wp2_with fail
      refine HWD.out.mono ?_
      rintro e w2 ⟨rfl, h2⟩
      have HB2 := hid (HBEL.out.trans (h2.mono HBEL.out.size))
      clear h2
      subst hv1
      cases b
      · go_wp2_with fail
        go_ret
        exact ⟨rfl, HB0.out.trans (HB2.out.mono HB0.out.size)⟩
      · by_cases h6 : j ≤ 6
        · have hk6 : (j : Int) ≤ 6 := by omega
          go_wp2_with fail
          go_ret
          exact ⟨by simp [h6], HB0.out.trans (HB2.out.mono HB0.out.size)⟩
        · have hk6 : ¬ (j : Int) ≤ 6 := by omega
          go_wp2_with fail
          go_ret
          exact ⟨by simp [h6]; omega, HB0.out.trans (HB2.out.mono HB0.out.size)⟩

end Go.Proofs.YtgbbobjkhpplkaaDoor
