/- Whether a need is one of a world: NeedValid, in the program and in the model. -/
import Derived.Test.YtgbbobjkhpplkaaDoorCh5
import Derived.Test.YtgbbobjkhpplkaaDoorWdX
import Derived.Test.YtgbbobjkhpplkaaDoorKeep
namespace Go.Proofs.YtgbbobjkhpplkaaDoor
open Go.RowKit
set_option linter.unusedVariables false

/-- Two parameters that are laid into blocks of their own. -/
theorem box2 (w : World) (c1 : Array Value) (t1 : TypeId) (c2 : Array Value) (t2 : TypeId) : Below w.heap.size w ((w.alloc (.cells c1 t1)).alloc (.cells c2 t2)) ∧ ((w.alloc (.cells c1 t1)).alloc (.cells c2 t2)).heap.size = w.heap.size + 2 ∧
    ((w.alloc (.cells c1 t1)).alloc (.cells c2 t2)).heap[w.heap.size]? = some (.cells c1 t1 (0, 0)) ∧ ((w.alloc (.cells c1 t1)).alloc (.cells c2 t2)).heap[w.heap.size + 1]? = some (.cells c2 t2 (0, 0)) := by
  have b0 : ∀ o, Below w.heap.size w (w.alloc o) := fun o => (Below.refl _ _).alloc (Nat.le_refl _) o
  refine ⟨(b0 _).alloc (b0 _).size _, by simp only [World.size_alloc], ?_, ?_⟩
  · rw [Below.heap_alloc _ _ _ (by simp only [World.size_alloc]; omega)]
    exact heap_new1 w _
  · have := heap_new1 (w.alloc (.cells c1 t1)) (.cells c2 t2)
    rw [World.size_alloc] at this
    exact this

set_option maxHeartbeats 1000000 in
set_option maxRecDepth 100000 in
theorem needValidI_any (A : Option Addr) (n cap : Nat) (zs : List (ByteArray × ByteArray)) (B : Option Addr) (m cap' : Nat) (is : List Ins) (x t : ByteArray) (w : World) (hn : n ≤ maxLen) (ha : Prs w A n zs) (hm : m ≤ maxLen) (hb : Inss w B m is) (hok : ∀ i ∈ is, InsOk i) (ht : tot zs ≤ 1048576) (he : WErrs w) (htt : t.size ≤ maxLen) :
    Calls Tryd.prog 23 #[.agg #[.slice A n cap, .slice B m cap'], .agg #[.string x, .string t]] w fun e w' => e = .returned (.bool (ndV zs is x t)) ∧ Below w.heap.size w w' := by
  obtain ⟨k0, k1, k2, k3⟩ := box2 w #[.slice A n cap, .slice B m cap'] 33 #[.string x, .string t] 45
  obtain ⟨w1, hw1⟩ : ∃ w1, (w.alloc (.cells #[.slice A n cap, .slice B m cap'] 33)).alloc (.cells #[.string x, .string t] 45) = w1 := ⟨_, rfl⟩
  rw [hw1] at k0 k1 k2 k3
  have K0 := hid k0
  have K3 := hid k3
  have z1 : w.heap.size + 1 < w1.heap.size := by omega
  have HHC := hid (hasClassI_any A n cap zs B m cap' is x w1 hn (ha.below k0) hm (hb.below k0) hok ht (he.below k0))
  have HTV := hid (fun (W : World) => typeValidI_any t W htt)
  have HV := hid (show ndV zs is x t = ((wdOf zs is && hasNm zs x) && (tyOf t.data.toList).isSome) from rfl)
  obtain ⟨b1, e1⟩ : ∃ b, (wdOf zs is && hasNm zs x) = b := ⟨_, rfl⟩
  obtain ⟨b2, e2⟩ : ∃ b, (tyOf t.data.toList).isSome = b := ⟨_, rfl⟩
  rw [e1] at HHC HV
  rw [e2] at HTV HV
  have HW1 := hid hw1
  clear ha hb hok he k0 k1 k2 k3 hw1 e1 e2
  go_enter Tryd.func23, Tryd.ntmps23
  go_wp2_with fail
  rw [HW1.out]
  refine HHC.out.mono ?_
  rintro e w2 ⟨rfl, c2⟩
  have q1 : w2.cell? ⟨w.heap.size + 1, 1, none⟩ = some (.string t) := cell_blk ((c2.block _ z1).trans K3.out) (j := 1) rfl
  have B2 := hid (K0.out.trans (c2.mono K0.out.size))
  clear c2
  cases b1
  · go_wp2_with fail
    go_ret
    exact ⟨by rw [HV.out]; rfl, B2.out⟩
  · go_wp2_with fail
    refine (HTV.out _).mono ?_
    rintro e w3 ⟨rfl, c3⟩
    go_wp2_with fail
    go_ret
    exact ⟨by rw [HV.out]; rfl, B2.out.trans (c3.mono B2.out.size)⟩

set_option maxHeartbeats 1000000 in
set_option maxRecDepth 100000 in
theorem l4NeedS_any (A : Option Addr) (n cap : Nat) (zs : List (ByteArray × ByteArray)) (B : Option Addr) (m cap' : Nat) (x t : ByteArray) (w : World) (hn : n ≤ maxLen) (ha : Prs w A n zs) (htt : t.size ≤ maxLen) :
    Calls Tryd.prog 29 #[.agg #[.slice A n cap, .slice B m cap'], .agg #[.string x, .string t]] w fun e w' => e = .returned (.bool (hasNm zs x && (tyOf t.data.toList).isSome)) ∧ Below w.heap.size w w' := by
  obtain ⟨k0, k1, k2, k3⟩ := box2 w #[.slice A n cap, .slice B m cap'] 33 #[.string x, .string t] 45
  obtain ⟨w1, hw1⟩ : ∃ w1, (w.alloc (.cells #[.slice A n cap, .slice B m cap'] 33)).alloc (.cells #[.string x, .string t] 45) = w1 := ⟨_, rfl⟩
  rw [hw1] at k0 k1 k2 k3
  have K0 := hid k0
  have K3 := hid k3
  have z1 : w.heap.size + 1 < w1.heap.size := by omega
  obtain ⟨ix, hix⟩ : ∃ k, idxC zs x = k := ⟨_, rfl⟩
  have HIX := hid hix
  have hneg := idxC_neg zs x
  rw [hix] at hneg
  have HNEG := hid hneg
  have HLC := hid (l3Class_any A B n cap m cap' zs x w1 hn (ha.below k0) ix HIX)
  have HTV := hid (fun (W : World) => typeValidS_any t W htt)
  obtain ⟨b2, e2⟩ : ∃ b, (tyOf t.data.toList).isSome = b := ⟨_, rfl⟩
  rw [e2] at HTV ⊢
  have HW1 := hid hw1
  clear ha k0 k1 k2 k3 hw1 e2 hix hneg
  go_enter Tryd.func29, Tryd.ntmps29
  go_wp2_with fail
  rw [HW1.out]
  refine HLC.out.mono ?_
  rintro e w2 ⟨rfl, c2⟩
  have q1 : w2.cell? ⟨w.heap.size + 1, 1, none⟩ = some (.string t) := cell_blk ((c2.block _ z1).trans K3.out) (j := 1) rfl
  have B2 := hid (K0.out.trans (c2.mono K0.out.size))
  clear c2
  by_cases h0 : ix < 0
  · have hg : ¬ (0 : Int) ≤ ix := by omega
    go_wp2_with fail
    go_ret
    exact ⟨by rw [HNEG.out.1 h0]; rfl, B2.out⟩
  · have hg : (0 : Int) ≤ ix := by omega
    have HNM := hid (show hasNm zs x = true by rw [← Bool.not_eq_false]; exact fun h => h0 (HNEG.out.2 h))
    go_wp2_with fail
    refine (HTV.out _).mono ?_
    rintro e w3 ⟨rfl, c3⟩
    go_wp2_with fail
    go_ret
    exact ⟨by rw [HNM.out]; rfl, B2.out.trans (c3.mono B2.out.size)⟩

set_option maxHeartbeats 1000000 in
set_option maxRecDepth 100000 in
theorem needValidS_any (A : Option Addr) (n cap : Nat) (zs : List (ByteArray × ByteArray)) (B : Option Addr) (m cap' : Nat) (is : List Ins) (x t : ByteArray) (w : World) (hcap : n ≤ cap) (hcm : cap ≤ maxLen) (ha : Prs w A n zs) (hz : ∀ z ∈ zs, z.2.size ≤ maxLen) (hm : m ≤ maxLen) (hb : Inss w B m is) (hok : ∀ i ∈ is, InsOk i) (htt : t.size ≤ maxLen) :
    Calls Tryd.prog 15 #[.agg #[.slice A n cap, .slice B m cap'], .agg #[.string x, .string t]] w fun e w' => e = .returned (.bool (ndV zs is x t)) ∧ Below w.heap.size w w' := by
  obtain ⟨k0, k1, k2, k3⟩ := box2 w #[.slice A n cap, .slice B m cap'] 33 #[.string x, .string t] 45
  obtain ⟨w1, hw1⟩ : ∃ w1, (w.alloc (.cells #[.slice A n cap, .slice B m cap'] 33)).alloc (.cells #[.string x, .string t] 45) = w1 := ⟨_, rfl⟩
  rw [hw1] at k0 k1 k2 k3
  have K0 := hid k0
  have K2 := hid k2
  have K3 := hid k3
  have z1 : w.heap.size + 1 < w1.heap.size := by omega
  have HWV := hid (worldValidS_any A n cap zs B m cap' is w1 hcap hcm (ha.below k0) hz hm (hb.below k0) hok)
  have HLN := hid (fun (W : World) (hW : Below w.heap.size w W) => l4NeedS_any A n cap zs B m cap' x t W (Nat.le_trans hcap hcm) (ha.below hW) htt)
  have HV := hid (show ndV zs is x t = (wdOf zs is && (hasNm zs x && (tyOf t.data.toList).isSome)) by unfold ndV; rw [Bool.and_assoc])
  obtain ⟨b1, e1⟩ : ∃ b, wdOf zs is = b := ⟨_, rfl⟩
  obtain ⟨b2, e2⟩ : ∃ b, (hasNm zs x && (tyOf t.data.toList).isSome) = b := ⟨_, rfl⟩
  rw [e1] at HWV HV
  rw [e2] at HLN HV
  have HW1 := hid hw1
  clear ha hb hok k0 k1 k2 k3 hw1 e1 e2
  go_enter Tryd.func15, Tryd.ntmps15
  go_wp2_with fail
  rw [HW1.out]
  refine HWV.out.mono ?_
  rintro e w2 ⟨rfl, c2⟩
  have z0 : w.heap.size < w1.heap.size := by omega
  have p0 := cell_blk ((c2.block _ z0).trans K2.out) (j := 0) rfl
  have p1 := cell_blk ((c2.block _ z0).trans K2.out) (j := 1) rfl
  have q0 := cell_blk ((c2.block _ z1).trans K3.out) (j := 0) rfl
  have q1 := cell_blk ((c2.block _ z1).trans K3.out) (j := 1) rfl
  have B2 := hid (K0.out.trans (c2.mono K0.out.size))
  clear c2
  cases b1
  · go_wp2_with fail
    go_ret
    exact ⟨by rw [HV.out]; rfl, B2.out⟩
  · go_wp2_with fail
    refine (HLN.out _ B2.out).mono ?_
    rintro e w3 ⟨rfl, c3⟩
    go_wp2_with fail
    go_ret
    exact ⟨by rw [HV.out]; rfl, B2.out.trans (c3.mono B2.out.size)⟩

end Go.Proofs.YtgbbobjkhpplkaaDoor
