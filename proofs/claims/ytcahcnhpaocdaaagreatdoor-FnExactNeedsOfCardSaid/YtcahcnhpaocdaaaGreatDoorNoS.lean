/- Needs of an instance for a type: plain words; applyToNeeds, needsOf, NeedsOf in the program. Needs of an instance for a type, in the model: l4Needs, NeedsOf. -/
import Derived.Test.YtcahcnhpaocdaaaGreatDoorSpS
import Derived.Test.YtcahcnhpaocdaaaGreatDoorMtK
import Derived.Test.YtcahcnhpaocdaaaGreatDoorMtP
import Derived.Test.YtcahcnhpaocdaaaGreatDoorLawK
import Derived.Deep.AppendLies
import Derived.Test.YtcahcnhpaocdaaaGreatDoorMtV
import Derived.Test.YtcahcnhpaocdaaaGreatDoorApT
namespace Go.Proofs.YtcahcnhpaocdaaaGreatDoor
open Go.RowKit
set_option linter.unusedVariables false

/-- A type with the bindings put in, if it is one and not too long. -/
def apG (g : UInt8 → Option Ty) (l : List UInt8) : Option (List UInt8) :=
  match tyOf l with
  | some T => if (T.sub (once g)).text.length ≤ 60 then some (T.sub (once g)).text else none
  | none => none
theorem apG_told {l l' : List UInt8} {g : UInt8 → Option Ty} (h : mtOf l l' = some g) (u : List UInt8) : apOf (told g) u = apG g u := by
  unfold apOf apG
  rw [told_bv (mtOf_tidy h), told_map (mtOf_tidy h)]
  cases tyOf u <;> rfl
theorem apG_bad {g : UInt8 → Option Ty} {l : List UInt8} (h : tyOf l = none) : apG g l = none := by unfold apG; rw [h]
theorem apG_long {g : UInt8 → Option Ty} {l : List UInt8} {T : Ty} (h : tyOf l = some T) (hl : ¬ (T.sub (once g)).text.length ≤ 60) : apG g l = none := by
  unfold apG
  rw [h]
  exact if_neg hl
theorem apG_good {g : UInt8 → Option Ty} {l : List UInt8} {T : Ty} (h : tyOf l = some T) (hl : (T.sub (once g)).text.length ≤ 60) : apG g l = some (T.sub (once g)).text := by
  unfold apG
  rw [h]
  exact if_pos hl
/-- A need with the bindings put in. -/
def ndAp (g : UInt8 → Option Ty) (z : ByteArray × ByteArray) : Option (ByteArray × ByteArray) := (apG g z.2.data.toList).map fun q => (z.1, strOf q)
/-- Needs with the bindings put in. -/
def ndAll (g : UInt8 → Option Ty) : List (ByteArray × ByteArray) → Option (List (ByteArray × ByteArray))
  | [] => some []
  | z :: zs => (ndAp g z).bind fun y => (ndAll g zs).map fun ys => y :: ys
theorem ndAll_append (g : UInt8 → Option Ty) : ∀ xs ys, ndAll g (xs ++ ys) = (ndAll g xs).bind fun a => (ndAll g ys).map fun b => a ++ b
  | [], ys => by
    simp only [List.nil_append, ndAll, Option.bind_some]
    cases ndAll g ys <;> rfl
  | x :: xs, ys => by
    simp only [List.cons_append, ndAll, ndAll_append g xs ys]
    cases ndAp g x with
    | none => rfl
    | some y =>
      cases ndAll g xs with
      | none => rfl
      | some a => cases ndAll g ys <;> rfl
theorem ndAll_snoc {g : UInt8 → Option Ty} {zs : List (ByteArray × ByteArray)} {k : Nat} {z y : ByteArray × ByteArray} {L : List (ByteArray × ByteArray)} (h : zs[k]? = some z) (hL : ndAll g (zs.take k) = some L) (hy : ndAp g z = some y) : ndAll g (zs.take (k + 1)) = some (L ++ [y]) := by
  rw [List.take_add_one, h, ndAll_append, hL]
  simp [ndAll, hy]
theorem ndAll_stop {g : UInt8 → Option Ty} {zs : List (ByteArray × ByteArray)} {k : Nat} {z : ByteArray × ByteArray} (h : zs[k]? = some z) (hy : ndAp g z = none) : ndAll g zs = none := by
  have hk := (List.getElem?_eq_some_iff.1 h)
  obtain ⟨hlt, he⟩ := hk
  have e : zs = zs.take k ++ z :: zs.drop (k + 1) := by
    rw [← he]
    simp
  rw [e, ndAll_append]
  simp only [ndAll, hy, Option.bind_none, Option.map_none]
  cases ndAll g (zs.take k) <;> rfl
theorem ndAll_len {g : UInt8 → Option Ty} : ∀ {zs L : List (ByteArray × ByteArray)}, ndAll g zs = some L → L.length = zs.length
  | [], L, h => by
    simp only [ndAll, Option.some.injEq] at h
    rw [← h]
  | z :: zs, L, h => by
    simp only [ndAll] at h
    rcases hy : ndAp g z with _ | y
    · rw [hy] at h; cases h
    · rw [hy] at h
      rcases hr : ndAll g zs with _ | r
      · rw [hr] at h; cases h
      · rw [hr] at h
        have e : y :: r = L := by simpa using h
        rw [← e, List.length_cons, List.length_cons, ndAll_len hr]
/-- The needs of an instance for a type. -/
def noOf (i : Ins) (l : List UInt8) : Option (List (ByteArray × ByteArray)) := (mtOf i.t.data.toList l).bind fun g => ndAll g i.ns
theorem noOf_len {i : Ins} {l : List UInt8} : ((noOf i l).getD []).length ≤ i.ns.length := by
  unfold noOf
  rcases mtOf i.t.data.toList l with _ | g
  · exact Nat.zero_le _
  · rcases h : ndAll g i.ns with _ | L
    · simp [h]
    · simp [h, ndAll_len h]
/-- The instance at a place. -/
def insAt (is : List Ins) (i : Int) : Option Ins := if 0 ≤ i then is[i.toNat]? else none
theorem insAt_nat {is : List Ins} {k : Nat} : insAt is (k : Int) = is[k]? := by
  unfold insAt
  rw [if_pos (by omega), Int.toNat_natCast]
theorem insAt_out {is : List Ins} {i : Int} (h : ¬ (0 ≤ i ∧ i < (is.length : Int))) : insAt is i = none := by
  unfold insAt
  by_cases h0 : 0 ≤ i
  · rw [if_pos h0, List.getElem?_eq_none (by omega)]
  · rw [if_neg h0]
/-- What NeedsOf answers. -/
def nfR (zs : List (ByteArray × ByteArray)) (is : List Ins) (i : Int) (t : ByteArray) : Option (List (ByteArray × ByteArray)) := if wdOf zs is then (insAt is i).bind fun x => noOf x t.data.toList else none
def nfD (zs : List (ByteArray × ByteArray)) (is : List Ins) (i : Int) (t : ByteArray) : List (ByteArray × ByteArray) := (nfR zs is i t).getD []
def nfB (zs : List (ByteArray × ByteArray)) (is : List Ins) (i : Int) (t : ByteArray) : Bool := (nfR zs is i t).isSome
theorem nfD_len (zs : List (ByteArray × ByteArray)) (is : List Ins) (i : Int) (t : ByteArray) : (nfD zs is i t).length ≤ inssTot is := by
  unfold nfD nfR
  split
  · rcases h : insAt is i with _ | x
    · exact Nat.zero_le _
    · have hm : x ∈ is := by
        unfold insAt at h
        split at h
        · exact List.mem_of_getElem? h
        · cases h
      have h1 := inssTot_mem hm
      have h2 := noOf_len (i := x) (l := t.data.toList)
      unfold insTot at h1
      simp only [Option.bind_some]
      omega
  · exact Nat.zero_le _

theorem none_two {r : Option (List (ByteArray × ByteArray))} {R1 : List (ByteArray × ByteArray)} {R2 : Bool} (h1 : r.getD [] = R1) (h2 : r.isSome = R2) (h : r = none) : R1 = [] ∧ R2 = false := by
  subst h
  exact ⟨h1.symm, h2.symm⟩

set_option maxHeartbeats 4000000 in
set_option maxRecDepth 100000 in
theorem applyToNeeds_any (sb : Nat) (S : Nat → Prop) (g : UInt8 → Option Ty) (hf : Fine g) (A : Option Addr) (n cap : Nat) (ns : List (ByteArray × ByteArray)) (w : World) (hst : Stnd w sb S g) (hS : ∀ k, S k → k < w.heap.size) (ha : Prs w A n ns) (hz : ∀ z ∈ ns, z.1.size ≤ maxLen ∧ z.2.size ≤ maxLen) (hn : n ≤ 1048576) :
    Calls Tryz.prog 92 #[.pointer (some ⟨sb, 0, none⟩), .slice A n cap] w (TwoNd w ((ndAll g ns).getD []) (ndAll g ns).isSome) := by
  obtain ⟨i0, hi0, hz0, hz1, hz2⟩ := info_parts needInfoD
  have hsb : sb < w.heap.size := by obtain ⟨cur, h1, _⟩ := hst; exact (Array.getElem?_eq_some_iff.1 h1).1
  have HA := hid ha
  have HZ := hid hz
  have HST := hid hst
  clear ha hz hst
  obtain ⟨R, hR⟩ : ∃ R, ndAll g ns = R := ⟨_, rfl⟩
  rw [hR]
  have HRR := hid hR
  clear hR
  go_enter Tryz.func92, Tryz.ntmps92
  go_wp2_with fail
  go_loopw [6, 14] (fun v i wr => ∃ (k : Nat) (L : List (ByteArray × ByteArray)), k ≤ n ∧ i = .int .i64 k ∧ ndAll g (ns.take k) = some L ∧ OwnNd wr w.heap.size v L ∧ Below w.heap.size w wr) (fun _ i _ => n - (intOf i).toNat)
  case atStart => exact ⟨0, [], Nat.zero_le _, rfl, rfl, World.ownsRow_nil _ _ _ _, Below.refl _ _⟩
  case round =>
    obtain ⟨k, L, hk, rfl, hL, hown, hbel⟩ := hrel
    have hLk : L.length ≤ k := by rw [ndAll_len hL, List.length_take]; omega
    have HW := hid hown
    have HL := hid hL
    clear hown hL
    by_cases hlt : k < n
    · obtain ⟨h, o, rfl, hh, hca⟩ := HA.out.2 (by omega)
      have hx : ns[k]? = some (ns[k]'(by have := HA.out.1; omega)) := List.getElem?_eq_getElem _
      obtain ⟨ca, cb⟩ := hca k _ hx
      have hzk := HZ.out _ (List.mem_of_getElem? hx)
      obtain ⟨⟨c, t⟩, ex⟩ : ∃ z, ns[k]'(by have := HA.out.1; omega) = z := ⟨_, rfl⟩
      rw [ex] at ca cb hx hzk
      have ca' := cell_below ca hh hbel
      have cb' := cell_below cb hh hbel
      have HX := hid hx
      clear hca hx ex ca cb
      have i1 : (0 : Int) ≤ (k : Int) := by omega
      have i2 : (k : Int) < (n : Int) := by omega
      obtain ⟨U, hU⟩ : ∃ U, wr.alloc (.cells #[.string c, .string t] 41) = U := ⟨_, rfl⟩
      have hUc := heap_new1 wr (.cells #[.string c, .string t] 41)
      rw [hU] at hUc
      have BR := hid (show Below wr.heap.size wr U by rw [← hU]; exact (Below.refl _ _).alloc (Nat.le_refl _) _)
      have BU := hid (hbel.trans (BR.out.mono hbel.size))
      have zU : wr.heap.size < U.heap.size := by rw [← hU]; simp only [World.size_alloc]; omega
      have HU := hid hU
      have HUC := hid hUc
      have n1 := cell_blk hUc (j := 1) rfl
      have hRT := readType_any t U hzk.2
      have HRT := hid hRT
      have hcs := hzk.1
      clear hUc hU hbel hRT hzk
      go_wp2_with fail
      rw [HU.out]
      refine HRT.out.mono ?_
      rintro e w2 ⟨hb2, ⟨hn2, rfl⟩ | ⟨T, T1, b1, hs2, rfl, hrep⟩⟩
      · obtain rfl : R = none := by
          rw [← HRR.out]
          exact ndAll_stop HX.out (by unfold ndAp; rw [apG_bad hn2]; rfl)
        have B2 := hid (BU.out.trans (hb2.mono BU.out.size))
        clear hn2 hb2
        go_wp2_with fail
        exact bodyPost_ret (v := .tuple #[.slice none 0 0, .bool false]) (by simp [results, Tryz.results92, go_sem]) rfl ⟨⟨_, rfl, World.ownsRow_nil _ _ _ _⟩, B2.out⟩
      have z2 := hb2.size
      obtain ⟨et, ot, lt⟩ := tyOf_text hs2
      obtain ⟨ho, hl⟩ := sub_ok hf ot
      have htl : T.text.length ≤ 60 := by rw [← et]; exact lt
      obtain ⟨q, hq⟩ : ∃ q, strOf (T.sub (once g)).text = q := ⟨_, rfl⟩
      have hqs : q.size = (T.sub (once g)).text.length := by rw [← hq, strOf_size]
      have hq4 : (T.sub (once g)).text.length ≤ 4000 := by omega
      have hq5 : q.size ≤ 4000 := by omega
      have hrp := hrep.repP ot
      have HS2 := hid hs2
      have HQ := hid hq
      have HQS := hid hqs
      have HOK := hid ho
      have zw : w.heap.size ≤ U.heap.size := BU.out.size
      have B2 := hid (BU.out.trans (hb2.mono BU.out.size))
      have C2 := hid hb2
      have hst2 : Stnd w2 sb S g := HST.out.keep (B2.out.block sb hsb) fun k hk => ⟨hk, B2.out.block k (hS k hk)⟩
      have HAP := hid (applyOnce_any sb w2 (fun k => U.heap.size ≤ k ∧ k < w2.heap.size) S g hst2 T _ hrp (fun k hk => hk.2) (fun k hk => by have := hS k hk; omega))
      clear hst2 hrp hs2 et hq hqs ho hb2 hrep n1
      go_wp2_with fail
      refine HAP.out.mono ?_
      rintro e w3 ⟨T3, b3, rfl, hr3, hb3⟩
      have z3 := hb3.size
      have hr3' : Rep w3 0 w3.heap.size (T.sub (once g)) (.iface T3 (.pointer (some ⟨b3, 0, none⟩))) := hr3.rep (fun k hk => hk.elim (fun h => ⟨by omega, by omega⟩) fun h => h.elim (fun h => ⟨by omega, by have := hS k h; omega⟩) fun h => ⟨by omega, h.2⟩) HOK.out
      obtain ⟨fn, hm, hcf, hcall⟩ := textBy_any _ 0 w3.heap.size T3 b3 w3 hr3' (Nat.le_refl _) HOK.out (Nat.le_trans hq4 (by decide))
      rw [HQ.out] at hcall
      have HCALL := hid hcall
      have C3 := hid (C2.out.trans (hb3.mono C2.out.size))
      clear hcall hr3 hr3' hb3
      go_wp2_with fail
      refine HCALL.out.mono ?_
      rintro e w4 ⟨rfl, hb4⟩
      have C4 := hid (C3.out.trans (hb4.mono C3.out.size))
      have B4 := hid (BU.out.trans (C4.out.mono BU.out.size))
      have R4 := hid (BR.out.trans (C4.out.mono BR.out.size))
      have z4 := C4.out.size
      have n0 := cell_blk ((C4.out.block _ zU).trans HUC.out) (j := 0) rfl
      have O4 := hid (HW.out.keep R4.out)
      clear hm hcf hb4
      by_cases hlong : (60 : Int) < q.size
      · obtain rfl : R = none := by
          rw [← HRR.out]
          exact ndAll_stop HX.out (by unfold ndAp; rw [apG_long HS2.out (by rw [← HQS.out]; omega)]; rfl)
        go_wp2_with fail
        exact bodyPost_ret (v := .tuple #[.slice none 0 0, .bool false]) (by simp [results, Tryz.results92, go_sem]) rfl ⟨⟨_, rfl, World.ownsRow_nil _ _ _ _⟩, B4.out⟩
      have HY := hid (show ndAp g (c, t) = some (c, q) by unfold ndAp; rw [apG_good HS2.out (by rw [← HQS.out]; omega), ← HQ.out]; rfl)
      go_wp2_with (at_builtin; refine wpList_append_own _ rfl _ _ 47 rfl w.heap.size 41 i0 _ 2 32 Tryz.underlying47 hi0 hz0 hz1 hz2 rfl (by decide) _ L.length _ rfl (World.ownsRow.alloc O4.out _) ⟨w4.heap.size, 0, none⟩ 1 1 [.string c, .string q] rfl rfl ?c1 ?c2 ?c3 ?c4 ?c5 ?_)
      case c1 => exact World.news_of_block (heap_alloc_new w4 _)
      case c2 => simp [Value.oneCell']
      case c3 => unfold maxLen; omega
      case c4 => omega
      case c5 => simp only [World.size_alloc]; omega
      intro v2 w7 hown7 hg7 hv7
      clear hv7
      have HO7 := hid hown7
      have HG7 := hid hg7
      clear hown7 hg7
      go_wp2_with fail
      go_roundw
      case rel =>
        refine ⟨k + 1, L ++ [(c, q)], hlt, by go_num, ndAll_snoc HX.out HL.out HY.out, ?_, ?_⟩
        · unfold OwnNd
          rw [List.length_append, cells2_snoc]
          exact HO7.out
        · exact (B4.out.alloc B4.out.size _).grown HG7.out (by simp only [World.size_alloc]; have := B4.out.size; omega) (fun k' hk' => (O4.out.lt k' hk').1)
      case measure => simp [intOf]; omega
    · have hkn : k = n := by omega
      subst hkn
      have h1 := HL.out
      rw [List.take_of_length_le (by have := HA.out.1; omega), HRR.out] at h1
      subst h1
      obtain ⟨A3, c3, rfl, _⟩ := HW.out.form
      go_wp2_with fail
      refine bodyPost_ret (v := .tuple #[.slice A3 L.length c3, .bool true]) (by simp [results, Tryz.results92, go_sem]) rfl ⟨⟨_, rfl, HW.out⟩, hbel⟩

set_option maxHeartbeats 4000000 in
set_option maxRecDepth 100000 in
theorem needsOfM_any (A : Option Addr) (n cap : Nat) (B : Option Addr) (m cap' : Nat) (is : List Ins) (k : Nat) (x : Ins) (t : ByteArray) (w : World) (hm : m ≤ maxLen) (hb : Inss w B m is) (hx : is[k]? = some x) (hok : InsOk x) (hnn : x.ns.length ≤ 1048576) (htl : t.size ≤ maxLen) :
    Calls Tryz.prog 57 #[.agg #[.slice A n cap, .slice B m cap'], .int .i64 (k : Int), .string t] w (TwoNd w ((noOf x t.data.toList).getD []) (noOf x t.data.toList).isSome) := by
  have hkm : k < m := by have := (List.getElem?_eq_some_iff.1 hx).1; have := hb.1; omega
  obtain ⟨g, o, rfl, hg, hca⟩ := hb.2 (by omega)
  obtain ⟨_, a1, D1, l1, c1, a2, _, hp1⟩ := hca k x hx
  obtain ⟨ic, it, ns⟩ := x
  have i1 : (0 : Int) ≤ (k : Int) := by omega
  have i2 : (k : Int) < (m : Int) := by omega
  obtain ⟨W, hW⟩ : ∃ W, w.alloc (.cells #[.slice A n cap, .slice (some ⟨g, o, none⟩) m cap'] 31) = W := ⟨_, rfl⟩
  have hWc := heap_new1 w (.cells #[.slice A n cap, .slice (some ⟨g, o, none⟩) m cap'] 31)
  rw [hW] at hWc
  have HBW := hid (show Below w.heap.size w W by rw [← hW]; exact (Below.refl _ _).alloc (Nat.le_refl _) _)
  have hWz : w.heap.size < W.heap.size := by rw [← hW]; simp only [World.size_alloc]; omega
  have HH := hid (fun (V : World) (hV : Below W.heap.size W V) => show V.cell? ⟨w.heap.size, 1, none⟩ = some (.slice (some ⟨g, o, none⟩) m cap') ∧ V.cell? ⟨g, o + k * 3 + 1, none⟩ = some (.string it) ∧ V.cell? ⟨g, o + k * 3 + 2, none⟩ = some (.slice D1 l1 c1) ∧ Prs V D1 l1 ns from by
    have h := HBW.out.trans (hV.mono HBW.out.size)
    exact ⟨cell_blk ((hV.block _ hWz).trans hWc) rfl, cell_below a1 hg h, cell_below a2 hg h, hp1.below h⟩)
  obtain ⟨p1, p2, p3, _⟩ := HH.out W (Below.refl _ _)
  have HNS := hid hok.2.2
  have HRT := hid (readTypes_any it t W hok.2.1 htl)
  have hl1 : l1 ≤ 1048576 := by have h1 : ns.length = l1 := hp1.1; have h2 : ns.length ≤ 1048576 := hnn; omega
  obtain ⟨r, hr⟩ : ∃ r, noOf ⟨ic, it, ns⟩ t.data.toList = r := ⟨_, rfl⟩
  rw [hr]
  have HR := hid hr
  obtain ⟨R1, hR1⟩ : ∃ R1, r.getD [] = R1 := ⟨_, rfl⟩
  obtain ⟨R2, hR2⟩ : ∃ R2, r.isSome = R2 := ⟨_, rfl⟩
  rw [hR1, hR2]
  have HR1 := hid hR1
  have HR2 := hid hR2
  clear hR1 hR2
  clear hr hca hb hx hok hnn a1 a2 hp1 hWc
  go_enter Tryz.func57, Tryz.ntmps57
  go_wp2_with fail
  clear hW
  refine HRT.out.mono ?_
  rintro e w1 ⟨hb1, ⟨hn, v, v', rfl⟩ | ⟨P, T, T1, b1, T2, b2, hP, hT, rfl, hr1, hr2⟩⟩
  · have hrn : r = none := by
      rw [← HR.out]
      unfold noOf mtOf
      rcases hn with h | h
      · simp only [h]; rfl
      · simp only [h]
        cases tyOf it.data.toList <;> rfl
    obtain ⟨rfl, rfl⟩ := none_two HR1.out HR2.out hrn
    clear hrn
    have B1 := hid (HBW.out.trans (hb1.mono HBW.out.size))
    clear hn hb1 p1 p2 p3
    go_wp2_with fail
    exact bodyPost_ret (v := .tuple #[.slice none 0 0, .bool false]) (by simp [results, Tryz.results57, go_sem]) rfl ⟨⟨_, rfl, World.ownsRow_nil _ _ _ _⟩, B1.out.alloc B1.out.size _⟩
  · obtain ⟨_, oP, _⟩ := tyOf_text hP
    obtain ⟨eT, oT, lT⟩ := tyOf_text hT
    obtain ⟨mo, hmo⟩ : ∃ mo, mt P T (fun _ => none) = mo := ⟨_, rfl⟩
    have hM : mtOf it.data.toList t.data.toList = mo := by
      unfold mtOf
      rw [hP, hT]
      exact hmo
    have HM := hid hM
    have HO := hid hmo
    have HRA := hid hr1
    have HRB := hid hr2
    have HOP := hid oP
    have HOT := hid oT
    have hlT : T.text.length ≤ 60 := by rw [← eT]; exact lT
    have z1 := hb1.size
    have C1 := hid hb1
    clear hmo hM hr1 hr2 hP hT oP oT eT lT hb1 p1 p2 p3
    go_wp2_with fail
    obtain ⟨W1, hW1⟩ : ∃ W1, w1.alloc (.cells #[.nilIface, .nilIface, .nilIface, .nilIface, .nilIface, .nilIface, .nilIface, .nilIface, .nilIface, .nilIface, .nilIface, .nilIface] 124) = W1 := ⟨_, rfl⟩
    have hst0 := Stnd.new w1
    have hbW : Below w1.heap.size w1 W1 := by rw [← hW1]; exact (Below.refl _ _).alloc (Nat.le_refl _) _
    rw [hW1] at hst0 ⊢
    clear hW1
    have zW := hbW.size
    have hMM := match_any w1.heap.size T1 b1 T2 b2 W1 (fun k => W.heap.size ≤ k ∧ k < w1.heap.size) P T (HRA.out.keep fun k hk => ⟨hk, hbW.block k hk.2⟩) (HRB.out.keep fun k hk => ⟨hk, hbW.block k hk.2⟩) hst0.none (fun h => absurd h.2 (Nat.lt_irrefl _)) (fun k hk => Nat.lt_of_lt_of_le hk.2 zW) HOP.out HOT.out hlT mo HO
    have HMM := hid hMM
    clear hMM hst0
    go_wp2_with fail
    refine HMM.out.mono ?_
    rintro e w2 ⟨hb2, hr⟩
    have C2 := hid (C1.out.trans ((hbW.mono z1).trans (hb2.below' (by omega) z1)))
    have B2 := hid (HBW.out.trans (C2.out.mono HBW.out.size))
    have z2 := C2.out.size
    have z12 : w1.heap.size ≤ w2.heap.size := by have := hb2.size; omega
    clear hb2 hbW
    cases mo with
    | none =>
      obtain rfl : e = .returned (.bool false) := hr
      have hrn : r = none := by rw [← HR.out]; unfold noOf; rw [HM.out]; rfl
      obtain ⟨rfl, rfl⟩ := none_two HR1.out HR2.out hrn
      clear hrn
      go_wp2_with fail
      exact bodyPost_ret (v := .tuple #[.slice none 0 0, .bool false]) (by simp [results, Tryz.results57, go_sem]) rfl ⟨⟨_, rfl, World.ownsRow_nil _ _ _ _⟩, B2.out⟩
    | some g' =>
      obtain ⟨rfl, hst⟩ : e = .returned (.bool true) ∧ Stnd w2 w1.heap.size (fun k => W.heap.size ≤ k ∧ k < w1.heap.size) g' := hr
      have hr' : ndAll g' ns = r := by rw [← HR.out]; unfold noOf; rw [HM.out]; rfl
      obtain ⟨q1, q2, q3, q4⟩ := HH.out w2 C2.out
      have hAP := applyToNeeds_any w1.heap.size (fun k => W.heap.size ≤ k ∧ k < w1.heap.size) g' (mtOf_fine HM.out) D1 l1 c1 ns w2 hst (fun k hk => Nat.lt_of_lt_of_le hk.2 z12) q4 HNS.out hl1
      rw [hr'] at hAP
      have HAP := hid hAP
      clear hAP hst hr' q2 q4
      rw [HR1.out, HR2.out] at HAP
      go_wp2_with fail
      refine HAP.out.mono ?_
      rintro e w3 ⟨⟨v, rfl, ho⟩, b3⟩
      have HO3 := hid (ho.mono (lo := w.heap.size) B2.out.size)
      have B3 := hid (B2.out.trans (b3.mono B2.out.size))
      obtain ⟨A3, c3, rfl, _⟩ := ho.form
      clear ho b3
      go_wp2_with fail
      exact bodyPost_ret (v := .tuple #[.slice A3 R1.length c3, .bool R2]) (by simp [results, Tryz.results57, go_sem]) rfl ⟨⟨_, rfl, HO3.out⟩, B3.out⟩

set_option maxHeartbeats 2000000 in
set_option maxRecDepth 100000 in
theorem needsOfI_any (A : Option Addr) (n cap : Nat) (zs : List (ByteArray × ByteArray)) (B : Option Addr) (m cap' : Nat) (is : List Ins) (i : Int) (t : ByteArray) (w : World) (hn : n ≤ maxLen) (ha : Prs w A n zs) (hm : m ≤ maxLen) (hb : Inss w B m is) (hok : ∀ i ∈ is, InsOk i) (ht : tot zs ≤ 1048576) (he : WErrs w) (htl : t.size ≤ maxLen) :
    Calls Tryz.prog 24 #[.agg #[.slice A n cap, .slice B m cap'], .int .i64 i, .string t] w (TwoNd w (nfD zs is i t) (nfB zs is i t)) := by
  have b0 : ∀ o, Below w.heap.size w (w.alloc o) := fun o => (Below.refl _ _).alloc (Nat.le_refl _) o
  obtain ⟨w1, hw1⟩ : ∃ w1, w.alloc (.cells #[.slice A n cap, .slice B m cap'] 31) = w1 := ⟨_, rfl⟩
  have k0 := b0 (.cells #[.slice A n cap, .slice B m cap'] 31)
  have k2 := heap_new1 w (.cells #[.slice A n cap, .slice B m cap'] 31)
  rw [hw1] at k0 k2
  have z1 : w.heap.size < w1.heap.size := by rw [← hw1]; simp only [World.size_alloc]; omega
  have HC := hid (fun (W : World) (hW : Below w1.heap.size w1 W) => show (W.cell? ⟨w.heap.size, 0, none⟩ = some (.slice A n cap) ∧ W.cell? ⟨w.heap.size, 1, none⟩ = some (.slice B m cap')) ∧ Below w.heap.size w W from
    ⟨⟨cell_blk ((hW.block _ z1).trans k2) rfl, cell_blk ((hW.block _ z1).trans k2) rfl⟩, k0.trans (hW.mono k0.size)⟩)
  have HWV := hid (worldValidI_any A n cap zs B m cap' is w1 hn (ha.below k0) hm (hb.below k0) hok ht (he.below k0))
  have HIL := hid hb.1
  obtain ⟨h1, e1⟩ : ∃ v, (decide (0 ≤ i) && decide (i < (m : Int))) = v := ⟨_, rfl⟩
  have HI1 := hid (fun (W : World) => hasInstanceI_any A n cap B m cap' i W hm h1 (hid e1))
  have HSP := hid (fun (W : World) (hW : Below w.heap.size w W) (k : Nat) (x : Ins) (hk : is[k]? = some x) (hl : x.ns.length ≤ 1048576) => needsOfM_any A n cap B m cap' is k x t W hm (hb.below hW) hk (hok _ (List.mem_of_getElem? hk)) hl htl)
  have E1 := hid e1
  obtain ⟨bw, ew⟩ : ∃ b, wdOf zs is = b := ⟨_, rfl⟩
  have HNS := hid (fun (h : bw = true) (x : Ins) (hx : x ∈ is) => show x.ns.length ≤ 1048576 from by
    have h1 := (wdOf_is (ew.trans h)).2 x hx
    unfold insOk at h1
    simp only [Bool.and_eq_true, decide_eq_true_eq] at h1
    omega)
  obtain ⟨r, hr⟩ : ∃ r, nfR zs is i t = r := ⟨_, rfl⟩
  have HR := hid hr
  have HBW := hid ew
  rw [ew] at HWV
  show Calls _ _ _ _ (TwoNd w ((nfR zs is i t).getD []) (nfR zs is i t).isSome)
  rw [hr]
  obtain ⟨R1, hR1⟩ : ∃ R1, r.getD [] = R1 := ⟨_, rfl⟩
  obtain ⟨R2, hR2⟩ : ∃ R2, r.isSome = R2 := ⟨_, rfl⟩
  rw [hR1, hR2]
  have HR1 := hid hR1
  have HR2 := hid hR2
  clear hR1 hR2
  have HW1 := hid hw1
  clear ha hb hok he k0 k2 hw1 e1 ew hr
  go_enter Tryz.func24, Tryz.ntmps24
  go_wp2_with fail
  rw [HW1.out]
  refine HWV.out.mono ?_
  rintro e w2 ⟨rfl, c2⟩
  have B2 := hid c2
  clear c2
  obtain ⟨⟨p0, p1⟩, bel2⟩ := HC.out w2 B2.out
  cases bw
  · have hrn : r = none := by rw [← HR.out]; unfold nfR; rw [HBW.out]; rfl
    obtain ⟨rfl, rfl⟩ := none_two HR1.out HR2.out hrn
    clear hrn
    go_wp2_with fail
    exact bodyPost_ret (v := .tuple #[.slice none 0 0, .bool false]) (by simp [results, Tryz.results24, go_sem]) rfl ⟨⟨_, rfl, World.ownsRow_nil _ _ _ _⟩, bel2⟩
  · go_wp2_with fail
    refine (HI1.out _).mono ?_
    rintro e w3 ⟨rfl, c3⟩
    have B3 := hid (B2.out.trans (c3.mono B2.out.size))
    clear c3 p0 p1 bel2
    obtain ⟨⟨p0, p1⟩, bel3⟩ := HC.out w3 B3.out
    cases h1
    · have hrn : r = none := by
        rw [← HR.out]
        unfold nfR
        rw [HBW.out, if_pos rfl, insAt_out]
        · rfl
        · have h := E1.out
          have hl := HIL.out
          simp only [Bool.and_eq_false_iff, decide_eq_false_iff_not] at h
          omega
      obtain ⟨rfl, rfl⟩ := none_two HR1.out HR2.out hrn
      clear hrn
      go_wp2_with fail
      exact bodyPost_ret (v := .tuple #[.slice none 0 0, .bool false]) (by simp [results, Tryz.results24, go_sem]) rfl ⟨⟨_, rfl, World.ownsRow_nil _ _ _ _⟩, bel3⟩
    · have hi := E1.out
      simp only [Bool.and_eq_true, decide_eq_true_eq] at hi
      obtain ⟨i', rfl⟩ : ∃ i' : Nat, i = (i' : Int) := ⟨i.toNat, by omega⟩
      have hl := HIL.out
      obtain ⟨a, hi'⟩ : ∃ a, is[i']? = some a := ⟨_, List.getElem?_eq_getElem (by omega)⟩
      have hra : r = noOf a t.data.toList := by
        rw [← HR.out]
        unfold nfR
        rw [HBW.out, if_pos rfl, insAt_nat, hi']
        rfl
      have HS := hid (HSP.out w3 bel3 i' a hi' (HNS.out (by first | rfl | trivial) a (List.mem_of_getElem? hi')))
      rw [← hra, HR1.out, HR2.out] at HS
      clear hra hi' hi hl
      have BL := hid bel3
      clear bel3
      go_wp2_with fail
      refine HS.out.mono ?_
      rintro e w4 ⟨⟨v, rfl, ho⟩, b4⟩
      have HO4 := hid (ho.mono (lo := w.heap.size) BL.out.size)
      have B4 := hid (BL.out.trans (b4.mono BL.out.size))
      obtain ⟨A4, c4, rfl, _⟩ := ho.form
      clear ho b4
      go_wp2_with fail
      exact bodyPost_ret (v := .tuple #[.slice A4 R1.length c4, .bool R2]) (by simp [results, Tryz.results24, go_sem]) rfl ⟨⟨_, rfl, HO4.out⟩, B4.out⟩

end Go.Proofs.YtcahcnhpaocdaaaGreatDoor

namespace Go.Proofs.YtcahcnhpaocdaaaGreatDoor
open Go.RowKit
set_option linter.unusedVariables false

theorem own_new2 (w : World) (T : TypeId) {lo : Nat} (h : lo ≤ w.heap.size) : (w.alloc (.cells #[] T)).ownsRow lo T 2 (.slice (some ⟨w.heap.size, 0, none⟩) 0 0) 0 [] := own_nil2 h T
theorem told_ok {l l' : List UInt8} {g : UInt8 → Option Ty} (h : mtOf l l' = some g) : (told g).length ≤ 6 ∧ ∀ z ∈ told g, z.1.size ≤ maxLen ∧ z.2.size ≤ maxLen := by
  refine ⟨?_, fun z hz => ?_⟩
  · unfold told
    exact Nat.le_trans (List.length_filterMap_le _ _) (by decide)
  · obtain ⟨c, t, _, hc, rfl⟩ := told_mem hz
    have := (mtOf_fine h c t hc).2
    simp only [strOf_size, maxLen]
    exact ⟨by simp, by omega⟩

/-- A round of l4Needs. -/
def NoRel (g : UInt8 → Option Ty) (ns : List (ByteArray × ByteArray)) (B1 : Option Addr) (tn l1 : Nat) (W w1 : World) (v i : Value) (wr : World) : Prop :=
  ∃ (k : Nat) (L : List (ByteArray × ByteArray)) (gv cv : Nat), k ≤ l1 ∧ i = .int .i64 k ∧ v = .slice (some ⟨gv, 0, none⟩) L.length cv ∧ (gv = W.heap.size ∨ w1.heap.size ≤ gv) ∧ ndAll g (ns.take k) = some L ∧ OwnNd wr W.heap.size v L ∧ Prs wr B1 tn (told g) ∧ Below W.heap.size W wr ∧ w1.heap.size ≤ wr.heap.size

set_option maxHeartbeats 4000000 in
set_option maxRecDepth 100000 in
theorem l4NeedsS_any (x : Ins) (D1 : Option Addr) (l1 c1 : Nat) (t : ByteArray) (w : World) (hp : Prs w D1 l1 x.ns) (hok : InsOk x) (hl1 : l1 ≤ 1048576) (htl : t.size ≤ maxLen) :
    Calls Tryz.prog 54 #[.agg #[.string x.c, .string x.t, .slice D1 l1 c1], .string t] w (TwoNd w ((noOf x t.data.toList).getD []) (noOf x t.data.toList).isSome) := by
  obtain ⟨i0, hi0, hz0, hz1, hz2⟩ := info_parts needInfoD
  obtain ⟨ic, it, ns⟩ := x
  obtain ⟨W, hW⟩ : ∃ W, w.alloc (.cells #[.string ic, .string it, .slice D1 l1 c1] 72) = W := ⟨_, rfl⟩
  have hWc := heap_new1 w (.cells #[.string ic, .string it, .slice D1 l1 c1] 72)
  rw [hW] at hWc
  have HBW := hid (show Below w.heap.size w W by rw [← hW]; exact (Below.refl _ _).alloc (Nat.le_refl _) _)
  have hWz : W.heap.size = w.heap.size + 1 := by rw [← hW]; simp only [World.size_alloc]
  have HWZ := hid hWz
  obtain ⟨V, hV⟩ : ∃ V, W.alloc (.cells #[] 41) = V := ⟨_, rfl⟩
  have HBV := hid (show Below W.heap.size W V by rw [← hV]; exact (Below.refl _ _).alloc (Nat.le_refl _) _)
  have HOV := hid (show OwnNd V W.heap.size (.slice (some ⟨W.heap.size, 0, none⟩) 0 0) [] by rw [← hV]; exact own_new2 W _ (Nat.le_refl _))
  have HH := hid (fun (U : World) (hU : Below W.heap.size W U) => show (U.cell? ⟨w.heap.size, 1, none⟩ = some (.string it) ∧ U.cell? ⟨w.heap.size, 2, none⟩ = some (.slice D1 l1 c1)) ∧ Prs U D1 l1 ns ∧ Below w.heap.size w U from by
    have h := HBW.out.trans (hU.mono HBW.out.size)
    have h2 := (hU.block w.heap.size (by omega)).trans hWc
    exact ⟨⟨cell_blk h2 (j := 1) rfl, cell_blk h2 (j := 2) rfl⟩, hp.below h, h⟩)
  obtain ⟨⟨p1, p2⟩, _, _⟩ := HH.out V HBV.out
  have HNS := hid hok.2.2
  have HMT := hid (matchTypeS_any it t V hok.2.1 htl)
  have HWW := hid hW
  have HVV := hid hV
  obtain ⟨r, hr⟩ : ∃ r, noOf ⟨ic, it, ns⟩ t.data.toList = r := ⟨_, rfl⟩
  rw [hr]
  have HR := hid hr
  obtain ⟨R1, hR1⟩ : ∃ R1, r.getD [] = R1 := ⟨_, rfl⟩
  obtain ⟨R2, hR2⟩ : ∃ R2, r.isSome = R2 := ⟨_, rfl⟩
  rw [hR1, hR2]
  have HR1 := hid hR1
  have HR2 := hid hR2
  clear hR1 hR2
  have HNL := hid (show ns.length = l1 from hp.1)
  clear hr hok hp hW hWc hV hWz
  go_enter Tryz.func54, Tryz.ntmps54
  go_wp2_with fail
  rw [HWW.out, HVV.out]
  refine HMT.out.mono ?_
  rintro e w1 ⟨hb1, hm⟩
  have C1 := hid (HBV.out.trans (hb1.mono HBV.out.size))
  have O1 := hid (HOV.out.keep hb1)
  have z1 := C1.out.size
  have zw : w.heap.size < W.heap.size := by have := HWZ.out; omega
  clear hb1 p1 p2
  obtain ⟨mo, hmo⟩ : ∃ mo, mtOf it.data.toList t.data.toList = mo := ⟨_, rfl⟩
  rw [hmo] at hm
  have HMO := hid hmo
  clear hmo
  rcases mo with _ | g
  · obtain ⟨v, rfl, hvo⟩ := hm
    have hrn : r = none := by rw [← HR.out]; unfold noOf; rw [HMO.out]; rfl
    obtain ⟨rfl, rfl⟩ := none_two HR1.out HR2.out hrn
    clear hrn
    obtain ⟨B1, c1', hv, _, _⟩ := own_pairs (zs := []) hvo
    subst hv
    clear hvo
    go_wp2_with fail
    refine bodyPost_ret (v := .tuple #[.slice (some ⟨w.heap.size + 1, 0, none⟩) 0 0, .bool false]) (by simp [results, Tryz.results54, go_sem]) rfl ⟨⟨_, rfl, ?_⟩, (HH.out w1 C1.out).2.2⟩
    rw [← HWZ.out]
    exact O1.out.mono (Nat.le_of_lt zw)
  · obtain ⟨v, rfl, hvo⟩ := hm
    have hr' : ndAll g ns = r := by rw [← HR.out]; unfold noOf; rw [HMO.out]; rfl
    have HRR := hid hr'
    obtain ⟨B1, c1', hv, _, hvp⟩ := own_pairs hvo
    subst hv
    obtain ⟨tn, htn⟩ : ∃ tn, (told g).length = tn := ⟨_, rfl⟩
    obtain ⟨ht6, htz⟩ := told_ok HMO.out
    rw [htn] at hvp ht6
    rw [htn]
    have HP1 := hid hvp
    have HTZ := hid htz
    have HB1 := hid (show ∀ a, B1 = some a → W.heap.size < a.block ∧ a.block < w1.heap.size from by
      intro a ha
      subst ha
      rcases hvo.2 with ⟨h1, _⟩ | ⟨gg, cp, cur, h1, h2, h3, _⟩
      · injection h1 with h1; cases h1
      · injection h1 with h1
        injection h1 with h1
        subst h1
        have := HBV.out.size
        have h4 : V.heap.size = W.heap.size + 1 := by rw [← HVV.out]; simp only [World.size_alloc]
        exact ⟨by show W.heap.size < gg; omega, (Array.getElem?_eq_some_iff.1 h3).1⟩)
    clear hvo hr' hvp htz htn
    obtain ⟨⟨p1, p2⟩, _, _⟩ := HH.out w1 C1.out
    go_wp2_with fail
    go_loopw [6, 28] (fun v i wr => NoRel g ns B1 tn l1 W w1 v i wr) (fun _ i _ => l1 - (intOf i).toNat)
    case atStart =>
      rw [← HWZ.out]
      exact ⟨0, [], W.heap.size, 0, Nat.zero_le _, rfl, rfl, .inl rfl, rfl, O1.out, HP1.out, C1.out, Nat.le_refl _⟩
    case round =>
      obtain ⟨k, L, gv, cv, hk, rfl, rfl, hgv, hL, hown, hpr, hbel, zr1⟩ := hrel
      have hLk : L.length ≤ k := by rw [ndAll_len hL, List.length_take]; omega
      have HW := hid hown
      have HL := hid hL
      have CR := hid hbel
      have HPR := hid hpr
      have hgl : gv < wr.heap.size := (hown.lt gv rfl).2
      clear hown hL hpr p1 p2
      by_cases hlt : k < l1
      · obtain ⟨_, hpn, _⟩ := HH.out wr CR.out
        obtain ⟨h, o, rfl, hh, hca⟩ := hpn.2 (by omega)
        have hx : ns[k]? = some (ns[k]'(by have := HNL.out; omega)) := List.getElem?_eq_getElem _
        obtain ⟨ca, cb⟩ := hca k _ hx
        have hzk := HNS.out _ (List.mem_of_getElem? hx)
        obtain ⟨⟨c, u⟩, ex⟩ : ∃ z, ns[k]'(by have := HNL.out; omega) = z := ⟨_, rfl⟩
        rw [ex] at ca cb hx hzk
        have HX := hid hx
        clear hca hx ex hpn
        have i1 : (0 : Int) ≤ (k : Int) := by omega
        have i2 : (k : Int) < (l1 : Int) := by omega
        obtain ⟨U, hU⟩ : ∃ U, wr.alloc (.cells #[.string c, .string u] 41) = U := ⟨_, rfl⟩
        have hUc := heap_new1 wr (.cells #[.string c, .string u] 41)
        rw [hU] at hUc
        have BR := hid (show Below wr.heap.size wr U by rw [← hU]; exact (Below.refl _ _).alloc (Nat.le_refl _) _)
        have BU := hid (hbel.trans (BR.out.mono hbel.size))
        have zU : wr.heap.size < U.heap.size := by rw [← hU]; simp only [World.size_alloc]; omega
        have HU := hid hU
        have HUC := hid hUc
        have n1 := cell_blk hUc (j := 1) rfl
        obtain ⟨y, hy⟩ : ∃ y, apOf (told g) u.data.toList = y := ⟨_, rfl⟩
        have HAP := hid (apS_any B1 tn c1' (told g) u U (HPR.out.below BR.out) HTZ.out (by omega) hzk.2)
        rw [hy] at HAP
        have hy' : apG g u.data.toList = y := by rw [← apG_told HMO.out]; exact hy
        have HY := hid hy'
        have hcs := hzk.1
        have zr := CR.out.size
        clear hUc hU hzk hy hy'
        go_wp2_with fail
        rw [HU.out]
        refine HAP.out.mono ?_
        rintro e w2 ⟨rfl, hb2⟩
        have B2 := hid (BU.out.trans (hb2.mono BU.out.size))
        have C2 := B2
        have R2 := hid (BR.out.trans (hb2.mono BR.out.size))
        have O2 := hid (HW.out.keep R2.out)
        have P2 := hid (HPR.out.below R2.out)
        have n0 := cell_blk ((hb2.block _ zU).trans HUC.out) (j := 0) rfl
        clear hb2 n1
        rcases y with _ | q
        · have hrn : r = none := by
            rw [← HRR.out]
            exact ndAll_stop HX.out (by unfold ndAp; rw [HY.out]; rfl)
          obtain ⟨rfl, rfl⟩ := none_two HR1.out HR2.out hrn
          clear hrn
          go_wp2_with fail
          refine bodyPost_ret (v := .tuple #[.slice (some ⟨w2.heap.size, 0, none⟩) 0 0, .bool false]) (by simp [results, Tryz.results54, go_sem]) rfl ⟨⟨_, rfl, own_new2 w2 _ (HH.out w2 C2.out).2.2.size⟩, (HH.out w2 C2.out).2.2.alloc (HH.out w2 C2.out).2.2.size _⟩
        have HZ := hid (show ndAp g (c, u) = some (c, strOf q) by unfold ndAp; rw [HY.out]; rfl)
        obtain ⟨s, hs⟩ : ∃ s, strOf q = s := ⟨_, rfl⟩
        rw [hs] at HZ
        have hs' : apS (some q) = s := hs
        rw [hs']
        have zc := C2.out.size
        clear hs hs'
        have zr2 := R2.out.size
        go_wp2_with (at_builtin; refine wpList_append_lies _ rfl _ _ 47 rfl W.heap.size 41 i0 _ 2 32 Tryz.underlying47 hi0 hz0 hz1 hz2 rfl (by decide) _ _ _ rfl (World.ownsRow.alloc O2.out _) ⟨w2.heap.size, 0, none⟩ 1 1 [.string c, .string s] rfl rfl ?c1 ?c2 (by decide) ?c3 ?c4 ?c5 (w2.heap.size + 1) (World.size_alloc _ _) ?_)
        case c1 => exact World.news_of_block (heap_alloc_new w2 _)
        case c2 => simp [Value.oneCell']
        case c3 => unfold maxLen; omega
        case c4 => omega
        case c5 => simp only [World.size_alloc]; omega
        intro g5 cap5 w5 hown5 hg5 hat5 q5
        have HO5 := hid hown5
        have z5 := hg5.size
        simp only [World.size_alloc] at z5
        have hat : g5 = gv ∨ g5 = w2.heap.size + 1 := by
          rcases hat5 with h | h
          · simp only [Value.ownBlock, Option.some.injEq] at h
            exact .inl h.symm
          · exact .inr h
        have HG5 := hid hg5
        clear hown5 hg5 hat5 q5
        go_wp2_with fail
        go_roundw
        case rel =>
          have hblk : ∀ j, j < w2.heap.size → j ≠ gv → w5.heap[j]? = w2.heap[j]? := fun j hj hn => by
            rw [HG5.out.block j (by simp only [World.size_alloc]; omega) (by simp [Value.ownBlock]; omega)]
            exact Below.heap_alloc _ _ _ hj
          refine ⟨k + 1, L ++ [(c, s)], g5, cap5, hlt, by go_num, by rw [List.length_append]; rfl, ?_, ndAll_snoc HX.out HL.out HZ.out, ?_, ?_, ?_, by omega⟩
          · rcases hat with h | h
            · rw [h]; exact hgv
            · exact .inr (by omega)
          · unfold OwnNd
            rw [List.length_append, cells2_snoc]
            exact HO5.out
          · refine P2.out.keep (by omega) fun a ha => ?_
            obtain ⟨h1, h2⟩ := HB1.out a ha
            exact hblk _ (by omega) (by rcases hgv with h | h <;> omega)
          · have h1 := C2.out
            refine ⟨HG5.out.os.trans h1.os, HG5.out.tape.trans h1.tape, HG5.out.output.trans h1.output, by have := h1.size; omega, fun j hj => ?_⟩
            rw [hblk j (by have := h1.size; omega) (by rcases hgv with h | h <;> omega)]
            exact h1.block j hj
        case measure => simp [intOf]; omega
      · have hkn : k = l1 := by omega
        subst hkn
        have h1 := HL.out
        rw [List.take_of_length_le (by have := HNL.out; omega), HRR.out] at h1
        obtain rfl : L = R1 := by rw [← HR1.out, h1]; rfl
        obtain rfl : true = R2 := by rw [← HR2.out, h1]; rfl
        clear h1
        go_wp2_with fail
        exact bodyPost_ret (v := .tuple #[.slice (some ⟨gv, 0, none⟩) L.length cv, .bool true]) (by simp [results, Tryz.results54, go_sem]) rfl ⟨⟨_, rfl, HW.out.mono (Nat.le_of_lt zw)⟩, (HH.out wr CR.out).2.2⟩

set_option maxHeartbeats 2000000 in
set_option maxRecDepth 100000 in
theorem needsOfS_any (A : Option Addr) (n cap : Nat) (zs : List (ByteArray × ByteArray)) (B : Option Addr) (m cap' : Nat) (is : List Ins) (i : Int) (t : ByteArray) (w : World) (hcap : n ≤ cap) (hcm : cap ≤ maxLen) (ha : Prs w A n zs) (hz : ∀ z ∈ zs, z.2.size ≤ maxLen) (hm : m ≤ 1048576) (hb : Inss w B m is) (hok : ∀ i ∈ is, InsOk i) (htl : t.size ≤ maxLen) :
    Calls Tryz.prog 23 #[.agg #[.slice A n cap, .slice B m cap'], .int .i64 i, .string t] w (TwoNd w (nfD zs is i t) (nfB zs is i t)) := by
  have b0 : ∀ o, Below w.heap.size w (w.alloc o) := fun o => (Below.refl _ _).alloc (Nat.le_refl _) o
  obtain ⟨w1, hw1⟩ : ∃ w1, w.alloc (.cells #[.slice A n cap, .slice B m cap'] 31) = w1 := ⟨_, rfl⟩
  have k0 := b0 (.cells #[.slice A n cap, .slice B m cap'] 31)
  have k2 := heap_new1 w (.cells #[.slice A n cap, .slice B m cap'] 31)
  rw [hw1] at k0 k2
  have z1 : w.heap.size < w1.heap.size := by rw [← hw1]; simp only [World.size_alloc]; omega
  have HC := hid (fun (W : World) (hW : Below w1.heap.size w1 W) => show (W.cell? ⟨w.heap.size, 0, none⟩ = some (.slice A n cap) ∧ W.cell? ⟨w.heap.size, 1, none⟩ = some (.slice B m cap')) ∧ Below w.heap.size w W from
    ⟨⟨cell_blk ((hW.block _ z1).trans k2) rfl, cell_blk ((hW.block _ z1).trans k2) rfl⟩, k0.trans (hW.mono k0.size)⟩)
  have HWV := hid (worldValidS_any A n cap zs B m cap' is w1 hcap hcm (ha.below k0) hz (by unfold maxLen; omega) (hb.below k0) hok)
  have HIL := hid hb.1
  have HB := hid hb
  have HOK := hid hok
  obtain ⟨h1, e1⟩ : ∃ v, (decide (0 ≤ i) && decide (i ≤ (m : Int) - 1)) = v := ⟨_, rfl⟩
  have hi1 := fun (W : World) => l1In_any i 0 ((m : Int) - 1) W
  rw [e1] at hi1
  have HI1 := hid hi1
  have E1 := hid e1
  obtain ⟨bw, ew⟩ : ∃ b, wdOf zs is = b := ⟨_, rfl⟩
  have HNS := hid (fun (h : bw = true) (x : Ins) (hx : x ∈ is) => show x.ns.length ≤ 1048576 from by
    have h1 := (wdOf_is (ew.trans h)).2 x hx
    unfold insOk at h1
    simp only [Bool.and_eq_true, decide_eq_true_eq] at h1
    omega)
  obtain ⟨r, hr⟩ : ∃ r, nfR zs is i t = r := ⟨_, rfl⟩
  have HR := hid hr
  have HBW := hid ew
  rw [ew] at HWV
  show Calls _ _ _ _ (TwoNd w ((nfR zs is i t).getD []) (nfR zs is i t).isSome)
  rw [hr]
  obtain ⟨R1, hR1⟩ : ∃ R1, r.getD [] = R1 := ⟨_, rfl⟩
  obtain ⟨R2, hR2⟩ : ∃ R2, r.isSome = R2 := ⟨_, rfl⟩
  rw [hR1, hR2]
  have HR1 := hid hR1
  have HR2 := hid hR2
  clear hR1 hR2
  have HW1 := hid hw1
  have hm1 : IntKind.i64.wrap ((m : Int) - 1) = (m : Int) - 1 := by rw [IntKind.wrap_i64]; omega
  clear ha hb hok k0 k2 hw1 e1 ew hr hi1
  go_enter Tryz.func23, Tryz.ntmps23
  go_wp2_with fail
  rw [HW1.out]
  refine HWV.out.mono ?_
  rintro e w2 ⟨rfl, c2⟩
  have B2 := hid c2
  clear c2
  obtain ⟨⟨p0, p1⟩, bel2⟩ := HC.out w2 B2.out
  have HN2 := hid (own_new2 w2 41 bel2.size)
  have HA2 := hid (bel2.alloc bel2.size (.cells #[] 41))
  cases bw
  · have hrn : r = none := by rw [← HR.out]; unfold nfR; rw [HBW.out]; rfl
    obtain ⟨rfl, rfl⟩ := none_two HR1.out HR2.out hrn
    clear hrn
    go_wp2_with fail
    exact bodyPost_ret (v := .tuple #[.slice (some ⟨w2.heap.size, 0, none⟩) 0 0, .bool false]) (by simp [results, Tryz.results23, go_sem]) rfl ⟨⟨_, rfl, HN2.out⟩, HA2.out⟩
  · go_wp2_with fail
    refine (HI1.out _).mono ?_
    rintro e w3 ⟨rfl, hw3⟩
    obtain rfl := hw3.symm
    cases h1
    · have hrn : r = none := by
        rw [← HR.out]
        unfold nfR
        rw [HBW.out, if_pos rfl, insAt_out]
        · rfl
        · have h := E1.out
          have hl := HIL.out
          simp only [Bool.and_eq_false_iff, decide_eq_false_iff_not] at h
          omega
      obtain ⟨rfl, rfl⟩ := none_two HR1.out HR2.out hrn
      clear hrn
      go_wp2_with fail
      exact bodyPost_ret (v := .tuple #[.slice (some ⟨w2.heap.size, 0, none⟩) 0 0, .bool false]) (by simp [results, Tryz.results23, go_sem]) rfl ⟨⟨_, rfl, HN2.out⟩, HA2.out⟩
    · have hi := E1.out
      simp only [Bool.and_eq_true, decide_eq_true_eq] at hi
      obtain ⟨i', rfl⟩ : ∃ i' : Nat, i = (i' : Int) := ⟨i.toNat, by omega⟩
      have hl := HIL.out
      obtain ⟨a, hi'⟩ : ∃ a, is[i']? = some a := ⟨_, List.getElem?_eq_getElem (by omega)⟩
      have hra : r = noOf a t.data.toList := by
        rw [← HR.out]
        unfold nfR
        rw [HBW.out, if_pos rfl, insAt_nat, hi']
        rfl
      obtain ⟨g, o, rfl, hg, hca⟩ := HB.out.2 (by omega)
      obtain ⟨a0, a1, D1, l1, c1, a2, _, hp1⟩ := hca i' a hi'
      have a0' := cell_below a0 hg bel2
      have a1' := cell_below a1 hg bel2
      have a2' := cell_below a2 hg bel2
      have hns := HNS.out (by first | rfl | trivial) a (List.mem_of_getElem? hi')
      have HS := hid (l4NeedsS_any a D1 l1 c1 t w2 (hp1.below bel2) (HOK.out a (List.mem_of_getElem? hi')) (by have := hp1.1; omega) htl)
      obtain ⟨ac, at', an⟩ := a
      rw [← hra, HR1.out, HR2.out] at HS
      have i1 : (0 : Int) ≤ (i' : Int) := by omega
      have i2 : (i' : Int) < (m : Int) := by omega
      have BL := hid bel2
      clear hra hi' hi hl hca a0 a1 a2 hp1 hns bel2
      go_wp2_with fail
      refine HS.out.mono ?_
      rintro e w4 ⟨⟨v, rfl, ho⟩, b4⟩
      have HO4 := hid (ho.mono (lo := w.heap.size) BL.out.size)
      have B4 := hid (BL.out.trans (b4.mono BL.out.size))
      obtain ⟨A4, c4, rfl, _⟩ := ho.form
      clear ho b4
      go_wp2_with fail
      exact bodyPost_ret (v := .tuple #[.slice A4 R1.length c4, .bool R2]) (by simp [results, Tryz.results23, go_sem]) rfl ⟨⟨_, rfl, HO4.out⟩, B4.out⟩

end Go.Proofs.YtcahcnhpaocdaaaGreatDoor
