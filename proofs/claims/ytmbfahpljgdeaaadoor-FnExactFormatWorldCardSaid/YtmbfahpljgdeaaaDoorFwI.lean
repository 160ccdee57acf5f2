/- FormatWorld in the program. -/
import Derived.Test.YtmbfahpljgdeaaaDoorFwW
import Derived.Test.YtmbfahpljgdeaaaDoorFwS
import Derived.Test.YtmbfahpljgdeaaaDoorNdI
import Derived.Test.YtmbfahpljgdeaaaDoorCh5
namespace Go.Proofs.YtmbfahpljgdeaaaDoor
open Go.RowKit
set_option linter.unusedVariables false

set_option maxHeartbeats 1000000 in
theorem classText_any (x y : ByteArray) (hx : x.size ≤ 1048576) (hy : y.size ≤ 1048576) (q : ByteArray) (hq : Hid (strOf (clsT (x, y)) = q)) (w : World) :
    Calls Tryd.prog 62 #[.agg #[.string x, .string y]] w fun e w' => e = .returned (.string q) ∧ Below w.heap.size w w' := by
  have b0 := hid (fun o => (Below.refl w.heap.size w).alloc (Nat.le_refl _) o)
  have h := toL_emp y
  by_cases he : y.data.toList = []
  · rw [decide_eq_true he] at h
    have HQ := hid (show x = q by
      rw [← hq.out]
      refine ba_eq ?_
      show x.data.toList = clsT (x, y)
      unfold clsT
      rw [if_pos he, List.append_nil])
    clear he
    go_enter Tryd.func62, Tryd.ntmps62
    go_wp2_with fail
    go_ret
    rw [HQ.out]
    exact ⟨rfl, b0.out _⟩
  · rw [decide_eq_false he] at h
    have HQ := hid (show x.data.toList ++ 60 :: y.data.toList = q.data.toList by
      rw [← hq.out]
      show _ = clsT (x, y)
      unfold clsT
      rw [if_neg he])
    clear he
    go_enter Tryd.func62, Tryd.ntmps62
    go_wp2_with fail
    go_ret
    refine ⟨?_, b0.out _⟩
    show Ending.returned (.string (x ++ ⟨#[60]⟩ ++ y)) = .returned (.string q)
    rw [show (x ++ ⟨#[60]⟩ ++ y : ByteArray) = q from ba_eq (by rw [← HQ.out]; simp [ByteArray.data_append])]

/-- Strings joined in the program. -/
theorem joinS_any (g cap : Nat) (xs : List ByteArray) (sep : ByteArray) (L : List UInt8) (hL : Lib.join (xs.map (·.data.toList)) sep.data.toList = L) (hl : L.length ≤ 140737488355328) (n : Nat) (hn : xs.length = n) (hn2 : n ≤ 140737488355328) (w : World) (hg : g < w.heap.size) (hc : n ≤ cap) (hcell : ∀ (j : Nat) x, xs[j]? = some x → w.cell? ⟨g, j, none⟩ = some (.string x)) :
    Calls Tryd.prog 63 #[.slice (some ⟨g, 0, none⟩) n cap, .string sep] w fun e w' => e = .returned (.string (strOf L)) ∧ Below w.heap.size w w' := by
  subst hL hn
  exact Tryd.strings_Join g 0 cap xs sep w (fun j x hx => by rw [Nat.zero_add]; exact hcell j x hx) hg hn2 hc hl

set_option maxHeartbeats 4000000 in
set_option maxRecDepth 100000 in
theorem formatWorldI_any (A : Option Addr) (n cap : Nat) (zs : List (ByteArray × ByteArray)) (B : Option Addr) (m cap' : Nat) (is : List Ins) (w : World) (ha : Prs w A n zs) (hm : m ≤ maxLen) (hb : Inss w B m is) (hok : ∀ i ∈ is, InsOk i) (hn1 : n ≤ 1048576) (ht1 : tot zs ≤ 1048576) (hm1 : m + inssTot is ≤ 1048576) (he : WErrs w) (v : Bool) (hv : Hid (wdOf zs is = v)) (S : ByteArray) (hS : Hid (fwOf v (wdT zs is) = S)) :
    Calls Tryd.prog 28 #[.agg #[.slice A n cap, .slice B m cap']] w fun e w' => e = .returned (.string S) ∧ Below w.heap.size w w' := by
  have HA := hid ha
  have HB := hid hb
  have HZL := hid ha.1
  have HIL := hid hb.1
  have b0 : ∀ o, Below w.heap.size w (w.alloc o) := fun o => (Below.refl _ _).alloc (Nat.le_refl _) o
  have HC0 := hid (heap_new1 w (.cells #[.slice A n cap, .slice B m cap'] 31))
  have HWV := hid (worldValidI_any A n cap zs B m cap' is _ (by unfold maxLen; omega) (ha.below (b0 (.cells #[.slice A n cap, .slice B m cap'] 31))) hm (hb.below (b0 _)) hok ht1 (he.below (b0 _)))
  rw [hv.out] at HWV
  have HT := hid ht1
  have HM := hid hm1
  have hmm : m ≤ 1048576 := by omega
  obtain ⟨i0, hi0, hz0, hz1, hz2⟩ := info_parts stringInfo
  clear ha hb hok ht1 hm1 he
  go_enter Tryd.func28, Tryd.ntmps28
  go_wp2_with fail
  refine HWV.out.mono ?_
  rintro e w1 ⟨rfl, b1⟩
  have z1 : w.heap.size < w1.heap.size := by have := b1.size; simp only [World.size_alloc] at this; omega
  have B1 := hid ((b0 (.cells #[.slice A n cap, .slice B m cap'] 31)).trans (b1.mono (b0 _).size))
  have E1 := hid ((b1.block w.heap.size (by simp only [World.size_alloc]; omega)).trans HC0.out)
  have q0 := cell_blk E1.out (j := 0) rfl
  clear b1
  cases v
  · have hs : S = ⟨#[]⟩ := hS.out.symm
    subst hs
    go_wp2_with fail
    go_ret
    exact ⟨rfl, B1.out⟩
  · have hs : strOf (wdT zs is) = S := hS.out
    have HS := hid hs
    have hn0 : 0 < n := by
      have h := hv.out
      unfold wdOf clsOf at h
      simp only [Bool.and_eq_true, decide_eq_true_eq] at h
      have := HZL.out
      omega
    clear hs
    go_wp2_with fail
    go_loopw [3, 15] (fun v i wr => ∃ (k : Nat), k ≤ n ∧ i = .int .i64 k ∧ wr.ownsRow (w.heap.size + 1) 9 1 v k ((zs.take k).map fun z => .string (strOf (clsT z))) ∧ Below w.heap.size w wr ∧ w.heap.size < wr.heap.size ∧ wr.heap[w.heap.size]? = some (.cells #[.slice A n cap, .slice B m cap'] 31 (0, 0))) (fun _ i _ => n - (intOf i).toNat)
    case atStart => exact ⟨0, Nat.zero_le _, rfl, ⟨rfl, .inl ⟨rfl, rfl⟩⟩, B1.out, z1, E1.out⟩
    case round =>
      obtain ⟨k, hk, rfl, hown, hbel, hsz, hblk⟩ := hrel
      have HW := hid hown
      have HBLK := hid hblk
      clear hown hblk q0
      by_cases hlt : k < n
      · obtain ⟨g, o, rfl, hg, hca⟩ := HA.out.2 (by omega)
        have hx : zs[k]? = some (zs[k]'(by have := HZL.out; omega)) := List.getElem?_eq_getElem _
        obtain ⟨ca, cb⟩ := hca k _ hx
        have hms := tot_mem (List.mem_of_getElem? hx)
        obtain ⟨⟨x, y⟩, ex⟩ : ∃ z, zs[k]'(by have := HZL.out; omega) = z := ⟨_, rfl⟩
        rw [ex] at ca cb hx hms
        have hxs : x.size + y.size ≤ 1048576 := by have := HT.out; simp only at hms; omega
        have hxs1 : x.size ≤ 1048576 := by omega
        have hys1 : y.size ≤ 1048576 := by omega
        have HTK := hid (show zs.take (k + 1) = zs.take k ++ [(x, y)] by rw [List.take_add_one, hx]; rfl)
        have ca' := cell_below ca hg hbel
        have cb' := cell_below cb hg hbel
        obtain ⟨q, hq⟩ : ∃ q, strOf (clsT (x, y)) = q := ⟨_, rfl⟩
        have HQ := hid hq
        clear hca hx ex ca cb hms hq
        have i1 : (0 : Int) ≤ (k : Int) := by omega
        have i2 : (k : Int) < (n : Int) := by omega
        go_wp2_with fail
        refine (classText_any x y hxs1 hys1 q HQ _).mono ?_
        rintro e w3 ⟨rfl, b3⟩
        have hb3 := (hbel.alloc hbel.size _).trans (b3.mono (by simp only [World.size_alloc]; have := hbel.size; omega))
        have z3 := b3.size
        simp only [World.size_alloc] at z3
        have HW3 := hid (own_keep (w' := w3) HW.out fun g' hg' => (b3.block g' (by have := (HW.out.lt g' hg').2; simp only [World.size_alloc]; omega)).trans (Below.heap_alloc _ _ _ (HW.out.lt g' hg').2))
        have E3 := hid ((b3.block w.heap.size (by simp only [World.size_alloc]; omega)).trans ((Below.heap_alloc _ _ _ hsz).trans HBLK.out))
        go_wp2_with (at_builtin; refine wpList_append_own _ rfl _ _ 87 rfl (w.heap.size + 1) 9 i0 (.string ⟨#[]⟩) 1 16 Tryd.underlying87 hi0 hz0 hz1 hz2 rfl (by decide) _ k _ rfl (HW3.out.alloc _) ⟨w3.heap.size, 0, none⟩ 1 1 [.string q] rfl rfl ?c1 ?c2 ?c3 ?c4 ?c5 ?_)
        case c1 =>
          intro j u hj
          rcases j with _ | j
          · simp only [List.getElem?_cons_zero, Option.some.injEq] at hj
            subst hj
            exact cell_new1 w3 _ _
          · simp at hj
        case c2 => simp [Value.oneCell']
        case c3 => unfold maxLen; omega
        case c4 => omega
        case c5 => simp only [World.size_alloc]; omega
        intro v2 w4 hown2 hg2 hv2
        clear hv2
        have HO2 := hid hown2
        have HG2 := hid hg2
        have z4 := hg2.size
        simp only [World.size_alloc] at z4
        clear hown2 hg2
        go_wp2_with fail
        go_roundw
        case rel =>
          refine ⟨k + 1, hlt, by go_num, ?_, ?_, by omega, ?_⟩
          · rw [HTK.out, List.map_append, List.map_cons, List.map_nil, HQ.out]
            have h := HO2.out
            rw [← List.map_take] at h
            exact h
          · exact (hb3.alloc (by have := hbel.size; omega) _).grown HG2.out (by simp only [World.size_alloc]; omega) (fun k' hk' => by have := (HW.out.lt k' hk').1; omega)
          · rw [HG2.out.block w.heap.size (by simp only [World.size_alloc]; omega) (by intro e; have := (HW.out.lt _ e.symm).1; omega), Below.heap_alloc _ _ _ (by omega)]
            exact E3.out
        case measure => simp [intOf]; omega
      · have hkn : k = n := by omega
        subst hkn
        have hown := HW.out
        rw [List.take_of_length_le (by have := HZL.out; omega)] at hown
        obtain ⟨g, c1, rfl, hg, hgl, hcap1, hcell⟩ := own_row hown (by omega)
        obtain ⟨s0, hs0⟩ : ∃ s, strOf (clL zs) = s := ⟨_, rfl⟩
        have HS0 := hid hs0
        have HJ := hid (joinS_any g c1 (zs.map fun z => strOf (clsT z)) ⟨#[32]⟩ (clL zs) (by unfold clL; rw [List.map_map]; rfl) (by have := clL_len zs; have := HT.out; have := HZL.out; omega) k (by rw [List.length_map]; exact HZL.out) (by omega) wr hgl hcap1 (fun j x hx => by
          rw [List.getElem?_map] at hx
          rcases hz : zs[j]? with _ | z
          · rw [hz] at hx; cases hx
          · rw [hz] at hx
            injection hx with hx
            refine hcell j _ ?_
            rw [List.getElem?_map, hz, ← hx]
            rfl))
        rw [hs0] at HJ
        clear hown hcell hs0
        go_wp2_with fail
        refine HJ.out.mono ?_
        rintro e w5 ⟨rfl, b5⟩
        have z5 := b5.size
        have B5 := hid (hbel.trans (b5.mono hbel.size))
        have E5 := hid ((b5.block _ hsz).trans HBLK.out)
        have q1 : ∀ o, (w5.alloc o).cell? ⟨w.heap.size, 1, none⟩ = some (.slice B m cap') := fun o => cell_blk ((Below.heap_alloc _ _ _ (by omega)).trans E5.out) (j := 1) rfl
        clear b5
        go_wp2_with fail
        go_loopw [6, 31] (fun v i wr2 => ∃ (k2 : Nat), k2 ≤ m ∧ i = .int .i64 k2 ∧ wr2.ownsRow (w.heap.size + 1) 9 1 v (k2 + 1) (.string s0 :: (is.take k2).map fun i => .string (strOf (insL i))) ∧ Below w.heap.size w wr2) (fun _ i _ => m - (intOf i).toNat)
        case atStart => exact ⟨0, Nat.zero_le _, rfl, ⟨by rw [List.take_zero]; rfl, .inr ⟨w5.heap.size, 1, #[.string s0], rfl, by omega, heap_alloc_new w5 _, Nat.le_refl _, by unfold maxLen; omega, rfl, by rw [List.take_zero]; rfl⟩⟩, B5.out.alloc B5.out.size _⟩
        case round =>
          obtain ⟨k2, hk2, rfl, hown2, hbel2⟩ := hrel
          have HW2 := hid hown2
          clear hown2 q1
          by_cases hlt2 : k2 < m
          · obtain ⟨g2, o2, rfl, hg2, hca⟩ := HB.out.2 (by omega)
            have hx : is[k2]? = some (is[k2]'(by have := HIL.out; omega)) := List.getElem?_eq_getElem _
            obtain ⟨ca, cb, D, l, c3, cc, hl, hp⟩ := hca k2 _ hx
            have hms := inssTot_mem (List.mem_of_getElem? hx)
            obtain ⟨⟨p, u, ns⟩, ex⟩ : ∃ z, is[k2]'(by have := HIL.out; omega) = z := ⟨_, rfl⟩
            rw [ex] at ca cb hx hp hms
            have hit : insTot ⟨p, u, ns⟩ ≤ 1048576 := by have := HM.out; omega
            have HTK := hid (show is.take (k2 + 1) = is.take k2 ++ [⟨p, u, ns⟩] by rw [List.take_add_one, hx]; rfl)
            have ca' := cell_below ca hg2 hbel2
            have cb' := cell_below cb hg2 hbel2
            have cc' := cell_below cc hg2 hbel2
            have HP := hid (hp.below hbel2)
            obtain ⟨q, hq⟩ : ∃ q, strOf (insL ⟨p, u, ns⟩) = q := ⟨_, rfl⟩
            have HQ := hid hq
            clear hca hx ex ca cb cc hp hms hq
            have i1 : (0 : Int) ≤ (k2 : Int) := by omega
            have i2 : (k2 : Int) < (m : Int) := by omega
            have HFI := hid (formatInstanceI_any p u D l c3 ns (wr.alloc (.cells #[.string p, .string u, .slice D l c3] 45)) (HP.out.below ((Below.refl _ _).alloc (Nat.le_refl _) _)) hit)
            rw [HQ.out] at HFI
            go_wp2_with fail
            refine HFI.out.mono ?_
            rintro e w6 ⟨rfl, b6⟩
            have z6 := b6.size
            simp only [World.size_alloc] at z6
            have hb6 := (hbel2.alloc hbel2.size _).trans (b6.mono (by simp only [World.size_alloc]; have := hbel2.size; omega))
            have HW6 := hid (own_keep (w' := w6) HW2.out fun g' hg' => (b6.block g' (by have := (HW2.out.lt g' hg').2; simp only [World.size_alloc]; omega)).trans (Below.heap_alloc _ _ _ (HW2.out.lt g' hg').2))
            go_wp2_with (at_builtin; refine wpList_append_own _ rfl _ _ 87 rfl (w.heap.size + 1) 9 i0 (.string ⟨#[]⟩) 1 16 Tryd.underlying87 hi0 hz0 hz1 hz2 rfl (by decide) _ (k2 + 1) _ rfl (HW6.out.alloc _) ⟨w6.heap.size, 0, none⟩ 1 1 [.string q] rfl rfl ?c1 ?c2 ?c3 ?c4 ?c5 ?_)
            case c1 =>
              intro j u hj
              rcases j with _ | j
              · simp only [List.getElem?_cons_zero, Option.some.injEq] at hj
                subst hj
                exact cell_new1 w6 _ _
              · simp at hj
            case c2 => simp [Value.oneCell']
            case c3 => unfold maxLen; omega
            case c4 => omega
            case c5 => simp only [World.size_alloc]; have := hbel2.size; omega
            intro v2 w7 hown7 hg7 hv7
            clear hv7
            have HO7 := hid hown7
            have HG7 := hid hg7
            clear hown7 hg7
            go_wp2_with fail
            go_roundw
            case rel =>
              refine ⟨k2 + 1, hlt2, by go_num, ?_, ?_⟩
              · rw [HTK.out, List.map_append, List.map_cons, List.map_nil, HQ.out]
                have h := HO7.out
                rw [← List.map_take] at h
                exact h
              · exact (hb6.alloc (by have := hbel2.size; omega) _).grown HG7.out (by simp only [World.size_alloc]; have := hbel2.size; omega) (fun k' hk' => by have := (HW2.out.lt k' hk').1; omega)
            case measure => simp [intOf]; omega
          · have hkm : k2 = m := by omega
            subst hkm
            have hown := HW2.out
            rw [List.take_of_length_le (by have := HIL.out; omega)] at hown
            obtain ⟨g2, c2, rfl, hg2, hgl2, hcap2, hcell⟩ := own_row hown (by omega)
            have HJ2 := hid (joinS_any g2 c2 (s0 :: is.map fun i => strOf (insL i)) ⟨#[59]⟩ (wdT zs is) (by
                rw [← wdT_join, ← HS0.out, List.map_cons, List.map_map]
                rfl) (by have := wdT_len zs is; have := HT.out; have := HZL.out; have := HIL.out; have := HM.out; omega) (k2 + 1) (by rw [List.length_cons, List.length_map, HIL.out]) (by omega) wr hgl2 hcap2 (fun j x hx => hcell j _ (by
                have h := congrArg (Option.map Value.string) hx
                rw [← List.getElem?_map, List.map_cons, List.map_map] at h
                exact h)))
            rw [HS.out] at HJ2
            clear hown hcell
            go_wp2_with fail
            refine HJ2.out.mono ?_
            rintro e w8 ⟨rfl, b8⟩
            go_wp2_with fail
            go_ret
            exact ⟨rfl, hbel2.trans (b8.mono hbel2.size)⟩

end Go.Proofs.YtmbfahpljgdeaaaDoor
