/- The program's dictionaries: their texts; readDict. -/
import Derived.Test.YtlpfgiegapelmaaDoorDrI
import Derived.Test.YtlpfgiegapelmaaDoorMarksB
import Derived.Test.YtlpfgiegapelmaaDoorIt
import Derived.Test.YtlpfgiegapelmaaDoorJoin
import Derived.Lib.ItoaMem
namespace Go.Proofs.YtlpfgiegapelmaaDoor
open Go.RowKit
set_option linter.unusedVariables false

theorem partsT_join : ∀ (qs : List Dt) (p : Dt), p.text ++ partsT 1 qs = Lib.join ((p :: qs).map Dt.text) [44]
  | [], p => by simp [partsT_nil, Lib.join, List.intercalate]
  | q :: qs, p => by
    have h := partsT_join qs q
    rw [partsT_cons, partsT_one qs 1, h]
    simp [sepD, Lib.join, List.intercalate]
theorem Dt.text_none (c : UInt8) : (Dt.nd c []).text = [c] := by rw [Dt.text_nd, partsT_nil]; rfl
theorem Dt.text_some (c : UInt8) {ps : List Dt} (h : ps ≠ []) : (Dt.nd c ps).text = c :: 40 :: (Lib.join (ps.map Dt.text) [44] ++ [41]) := by
  rcases ps with _ | ⟨p, qs⟩
  · exact absurd rfl h
  · rw [Dt.text_nd, partsT_cons, partsT_one qs 0, partsT_join]
    rfl

theorem joinAt_any (g o m cap : Nat) (xs : List ByteArray) (w : World) (hm : xs.length = m) (hcells : ∀ (j : Nat) x, xs[j]? = some x → w.cell? ⟨g, o + j, none⟩ = some (.string x)) (hg : g < w.heap.size) (hc : m ≤ cap) (hN : m ≤ 1000000)
    (r : ByteArray) (hr : Hid (strOf (Lib.join (xs.map (·.data.toList)) [44]) = r)) (hl : r.size ≤ 1000000000000) :
    Calls Tryd.prog 69 #[.slice (some ⟨g, o, none⟩) m cap, .string { data := #[44] }] w fun e w' => e = .returned (.string r) ∧ Below w.heap.size w w' := by
  subst hm
  have hl' : (Lib.join (xs.map (·.data.toList)) [44]).length ≤ 1000000000000 := by
    have h := hl
    rw [← hr.out] at h
    exact h
  rw [← hr.out]
  exact Tryd.strings_Join g o cap xs { data := #[44] } w hcells hg (by omega) hc (by exact Nat.le_trans hl' (by decide))

/-- What a head and parts come to. -/
def joinW (hd : ByteArray) (xs : List ByteArray) : ByteArray := if xs = [] then hd else strOf (hd.data.toList ++ 40 :: (Lib.join (xs.map (·.data.toList)) [44] ++ [41]))
set_option maxHeartbeats 400000 in
set_option maxRecDepth 100000 in
theorem joinParts_any (hd : ByteArray) (A : Option Addr) (m cap : Nat) (xs : List ByteArray) (w : World) (ha : Strs w A m xs) (hc : m ≤ cap) (hN : m ≤ 1000000) (hh : hd.size ≤ 1000000000) (hl : (Lib.join (xs.map (·.data.toList)) [44]).length ≤ 1000000000000)
    (r : ByteArray) (hr : Hid (joinW hd xs = r)) :
    Calls Tryd.prog 59 #[.string hd, .slice A m cap] w fun e w' => e = .returned (.string r) ∧ Below w.heap.size w w' := by
  obtain ⟨hm, hcell⟩ := ha
  by_cases h0 : 0 < m
  · obtain ⟨g, o, rfl, hg, hcells⟩ := hcell h0
    obtain ⟨j, hj⟩ : ∃ j, strOf (Lib.join (xs.map (·.data.toList)) [44]) = j := ⟨_, rfl⟩
    have hjs : j.size ≤ 1000000000000 := by rw [← hj, strOf_size]; exact hl
    have HJ := hid hj
    have HC := hid hcells
    have HM := hid hm
    have hf : ((m : Int) == 0) = false := by simp; omega
    have hR : r = strOf (hd.data.toList ++ 40 :: (j.data.toList ++ [41])) := by
      rw [← hr.out, ← hj, strOf_list]
      unfold joinW
      rw [if_neg (by rintro rfl; simp at hm; omega)]
    have HR := hid hR
    clear hcells hm hcell hj hR hr hl
    go_enter Tryd.func59, Tryd.ntmps59
    go_wp2_with fail
    refine (joinAt_any g o m cap xs _ HM.out HC.out hg hc hN j HJ hjs).mono ?_
    rintro e w1 ⟨rfl, hb1⟩
    go_wp2_with fail
    go_ret
    refine ⟨?_, hb1⟩
    rw [HR.out]
    show Ending.returned (.string _) = .returned (.string _)
    congr 2
    exact strOf_eq (by simp [ByteArray.data_append])
  · obtain rfl : m = 0 := by omega
    have hx : xs = [] := List.length_eq_zero_iff.1 hm
    subst hx
    have hR : r = hd := by rw [← hr.out]; rfl
    subst hR
    clear hcell hr hl
    go_enter Tryd.func59, Tryd.ntmps59
    go_wp2_with fail
    go_ret
    exact ⟨rfl, Below.refl _ _⟩

theorem RepD.row {w : World} {S : Nat → Prop} {c : UInt8} {ps : List Dt} {a : Nat} (h : RepD w S (.nd c ps) a) : ∃ A cap, w.heap[a]? = some (.cells #[.int .i64 ((c.toNat - 48 : Nat) : Int), .slice A ps.length cap] 61 (0, 0)) ∧ S a ∧ ps.length ≤ cap ∧
    (0 < ps.length → ∃ g, A = some ⟨g, 0, none⟩ ∧ S g ∧ ∀ (j : Nat) p, ps[j]? = some p → ∃ a', w.cell? ⟨g, j, none⟩ = some (.pointer (some ⟨a', 0, none⟩)) ∧ RepD w S p a') := by
  rw [RepD_nd] at h
  obtain ⟨ha, pv, hc, ⟨rfl, rfl⟩ | ⟨g, cap, rfl, hcap, hg, hr⟩⟩ := h
  · exact ⟨none, 0, hc, ha, Nat.le_refl _, fun h => absurd h (Nat.lt_irrefl 0)⟩
  · rw [RepL_iff] at hr
    exact ⟨_, cap, hc, ha, hcap, fun _ => ⟨g, rfl, hg, fun j p hj => by obtain ⟨a', h1, h2⟩ := hr j p hj; exact ⟨a', by rw [← h1, Nat.zero_add], h2⟩⟩⟩

theorem own_heap' {w w' : World} {base n k : Nat} {T : TypeId} {v : Value} {xs : List Value} (h : w.ownsRow base T k v n xs) (hb : Below w.heap.size w w') : w'.ownsRow base T k v n xs :=
  h.kept (row := none) ⟨hb.os, hb.tape, hb.output, hb.size, fun k hk _ => hb.block k hk⟩ (by rcases hv : v.ownBlock with _ | g; exact .inl rfl; exact .inr (by simp))
theorem own_made' {w : World} {base n : Nat} {v : Value} {ps : List Dt} (h : w.ownsRow base 9 1 v n (ps.map fun p => Value.string (strOf p.text))) : ∃ B c, v = .slice B n c ∧ n ≤ c ∧ Strs w B n (ps.map fun p => strOf p.text) := by
  have hcells : ∀ g, v.ownBlock = some g → ∀ j u, (ps.map fun p => Value.string (strOf p.text))[j]? = some u → w.cell? ((⟨g, 0, none⟩ : Addr).add j) = some u := fun g hg => h.cells hg
  have hl := h.lt
  obtain ⟨h1, ⟨rfl, h0⟩ | ⟨g, cap, cur, rfl, hb, hg, hnc, _⟩⟩ := h
  · exact ⟨none, 0, by rw [h0], by omega, by simpa using h1, fun h => by omega⟩
  · refine ⟨_, cap, rfl, hnc, by simpa using h1, fun _ => ⟨g, 0, rfl, (hl g rfl).2, fun j x hj => ?_⟩⟩
    have := hcells g rfl j (.string x) (by rw [List.getElem?_map] at hj ⊢; rcases hp : ps[j]? with _ | p <;> rw [hp] at hj <;> simp at hj ⊢; exact hj)
    rwa [show (⟨g, 0, none⟩ : Addr).add j = ⟨g, 0 + j, none⟩ by unfold Addr.add; split <;> simp_all] at this

def TextD (d : Dt) : Prop := ∀ (S : Nat → Prop) (a : Nat) (w : World), RepD w S d a → (∀ x, S x → x < w.heap.size) → d.ok → d.text.length ≤ 100000000000 →
  Calls Tryd.prog 81 #[.pointer (some ⟨a, 0, none⟩)] w fun e w' => e = .returned (.string (strOf d.text)) ∧ Below w.heap.size w w'

def PtR (w : World) (ps : List Dt) (n : Nat) (v i : Value) (wr : World) : Prop :=
  ∃ (k : Nat) (xs : List Value), k ≤ n ∧ i = .int .i64 k ∧ xs = (ps.take k).map (fun p => Value.string (strOf p.text)) ∧ wr.ownsRow w.heap.size 9 1 v k xs ∧ Below w.heap.size w wr

set_option maxHeartbeats 1000000 in
set_option maxRecDepth 100000 in
theorem partTextsD_any (c : UInt8) (ps : List Dt) (ih : ∀ p ∈ ps, TextD p) (S : Nat → Prop) (a : Nat) (w : World) (hr : RepD w S (.nd c ps) a) (hS : ∀ x, S x → x < w.heap.size) (hok : ∀ p ∈ ps, p.ok) (hlen : ps.length ≤ 1000000) (hl : ∀ p ∈ ps, p.text.length ≤ 100000000000) :
    Calls Tryd.prog 53 #[.pointer (some ⟨a, 0, none⟩)] w fun e w' => (∃ v, e = .returned v ∧ w'.ownsRow w.heap.size 9 1 v ps.length (ps.map fun p => Value.string (strOf p.text))) ∧ Below w.heap.size w w' := by
  obtain ⟨i0, hi0, hz0, hz1, hz2⟩ := info_parts stringInfo
  obtain ⟨A, cap, hc, ha, hcap, hrow⟩ := hr.row
  have c1 : w.cell? ⟨a, 1, none⟩ = some (.slice A ps.length cap) := cell_blk hc (j := 1) rfl
  obtain ⟨n, hn⟩ : ∃ n, ps.length = n := ⟨_, rfl⟩
  rw [hn] at c1 hlen hrow hcap ⊢
  have HN := hid hn
  have HROW := hid hrow
  have HIH := hid ih
  have HS := hid hS
  have HOK := hid hok
  have HL := hid hl
  clear hn hrow ih hS hok hl hc ha hr
  go_enter Tryd.func53, Tryd.ntmps53
  go_wp2_with fail
  go_loopw [3, 11] (fun v i wr => PtR w ps n v i wr) (fun _ i _ => n - (intOf i).toNat)
  case atStart => exact ⟨0, [], Nat.zero_le _, rfl, rfl, World.ownsRow_nil _ _ _ _, Below.refl _ _⟩
  case round =>
    obtain ⟨k, xs, hk, rfl, hxs, hown, hbel⟩ := hrel
    have HXS := hid hxs
    have HOWN := hid hown
    have HBEL := hid hbel
    have zr := hbel.size
    clear hxs hown
    by_cases hlt : k < n
    · obtain ⟨g, rfl, hg, hcells⟩ := HROW.out (by omega)
      have hpk : k < ps.length := by rw [HN.out]; exact hlt
      obtain ⟨p, hp⟩ : ∃ p, ps[k]? = some p := ⟨_, List.getElem?_eq_getElem hpk⟩
      obtain ⟨a', hca, hrep⟩ := hcells k p hp
      have hmem := List.mem_of_getElem? hp
      have ca : wr.cell? ⟨g, k, none⟩ = some (.pointer (some ⟨a', 0, none⟩)) := cell_below hca (HS.out g hg) hbel
      have HT := hid (HIH.out p hmem S a' wr (RepD.keep (fun x hx => ⟨hx, hbel.block x (HS.out x hx)⟩) p a' hrep) (fun x hx => by have := HS.out x hx; omega) (HOK.out p hmem) (HL.out p hmem))
      have HTK := hid (show (ps.take (k + 1)).map (fun p => Value.string (strOf p.text)) = (ps.take k).map (fun p => Value.string (strOf p.text)) ++ [.string (strOf p.text)] by rw [List.take_add_one, hp]; simp)
      obtain ⟨t, ht⟩ : ∃ t, strOf p.text = t := ⟨_, rfl⟩
      rw [ht] at HT HTK
      have i1 : (0 : Int) ≤ (k : Int) := by omega
      have i2 : (k : Int) < (n : Int) := by omega
      clear hcells hca hrep hmem hp ht hbel
      go_wp2_with fail
      refine HT.out.mono ?_
      rintro e w1 ⟨rfl, hb1⟩
      have z1 := hb1.size
      have HB1 := hid (HBEL.out.trans (hb1.mono zr))
      have HO1 := hid (own_heap' HOWN.out hb1)
      clear hb1
      go_wp2_with (at_builtin; refine wpList_append_own _ rfl _ _ 24 rfl w.heap.size 9 i0 (.string ⟨#[]⟩) 1 16 Tryd.underlying24 hi0 hz0 hz1 hz2 rfl (by decide) _ k _ rfl (World.ownsRow.alloc HO1.out _) ⟨w1.heap.size, 0, none⟩ 1 1 [.string t] rfl rfl (cell_one_new _ _ _) ?c2 ?c3 ?c4 ?c5 ?_)
      case c2 => simp [Value.oneCell']
      case c3 => unfold maxLen; omega
      case c4 => omega
      case c5 => simp only [World.size_alloc]; omega
      intro v2 w7 hown7 hg7 hv7
      clear hv7
      have HO7 := hid hown7
      have HG7 := hid hg7
      clear hown7 hg7
      go_wp2_with fail
      go_roundw
      case rel =>
        refine ⟨k + 1, xs ++ [.string t], by omega, by go_num, ?_, HO7.out, ?_⟩
        · rw [HTK.out, ← HXS.out]
        · exact (HB1.out.alloc HB1.out.size _).grown HG7.out (by simp only [World.size_alloc]; have := HB1.out.size; omega) (fun k' hk' => (HO1.out.lt k' hk').1)
      case measure => simp [intOf]; omega
    · have hkn : k = n := by omega
      subst hkn
      go_wp2_with fail
      go_ret
      have h := HOWN.out
      rw [HXS.out, List.take_of_length_le (by have := HN.out; omega)] at h
      exact ⟨⟨_, rfl, h⟩, hbel⟩


theorem itoa_any (i : Nat) (hi : i < 10) (w : World) (c : UInt8) (hc : Hid (48 + i = c.toNat)) :
    Calls Tryd.prog 60 #[.int .i64 i] w fun e w' => e = .returned (.string (strOf [c])) ∧ w' = w := by
  refine (Tryd.strconv_Itoa_small i (by omega) w).mono ?_
  rintro e w' ⟨rfl, rfl⟩
  refine ⟨?_, rfl⟩
  rw [Lib.decDigits_one hi, hc.out, UInt8.ofNat_toNat]
  rfl

set_option maxHeartbeats 1000000 in
set_option maxRecDepth 100000 in
theorem textD_any (d : Dt) : TextD d := by
  induction d using Dt.ind with
  | h c ps ih =>
    intro S a w hr hS hok hl
    obtain ⟨hdg, hlen, hps⟩ := (Dt.ok_nd c ps).1 hok
    have hls : ∀ p ∈ ps, p.text.length ≤ 100000000000 := fun p hp => by
      have h1 := mem_len (i := 0) hp
      rw [Dt.text_nd] at hl
      simp only [List.length_cons, List.length_append] at hl
      omega
    have HPT := hid (partTextsD_any c ps ih S a w hr hS hps (by omega) hls)
    obtain ⟨A, cap, hc, ha, hcap, hrow⟩ := hr.row
    have hcv := dg_val hdg
    obtain ⟨q, hq⟩ : ∃ q, c.toNat - 48 = q := ⟨_, rfl⟩
    rw [hq] at hc
    have hq9 : q < 10 := by omega
    have HQ := hid (show 48 + q = c.toNat by omega)
    have c0 : w.cell? ⟨a, 0, none⟩ = some (.int .i64 (q : Int)) := cell_blk hc (j := 0) rfl
    obtain ⟨hd, hhd⟩ : ∃ hd, strOf [c] = hd := ⟨_, rfl⟩
    have HIT := hid (itoa_any q hq9 w c HQ)
    rw [hhd] at HIT
    have hds : hd.size ≤ 1 := by rw [← hhd]; exact Nat.le_refl _
    have HHD := hid hhd
    obtain ⟨T, hT⟩ : ∃ T, (Dt.nd c ps).text = T := ⟨_, rfl⟩
    rw [hT] at hl ⊢
    have hjl : (Lib.join (ps.map Dt.text) [44]).length ≤ 100000000000 := by
      by_cases h0 : ps = []
      · subst h0; exact Nat.zero_le _
      · rw [← hT, Dt.text_some c h0] at hl
        simp only [List.length_cons, List.length_append] at hl
        omega
    have hTW : joinW hd (ps.map fun p => strOf p.text) = strOf T := by
      rw [← hT]
      unfold joinW
      by_cases h0 : ps = []
      · subst h0
        rw [← hhd, Dt.text_none]
        rfl
      · rw [if_neg (by simpa using h0), Dt.text_some c h0, ← hhd, strOf_list, List.map_map]
        rfl
    have HTW := hid hTW
    have HJL := hid hjl
    clear hc ha hrow hdg hps hls hhd hq hcv hT hTW hjl ih hr hok
    go_enter Tryd.func81, Tryd.ntmps81
    go_wp2_with (go_at_call 60; refine HIT.out.mono ?_; rintro e w' ⟨rfl, rfl⟩)
    refine HPT.out.mono ?_
    rintro e w1 ⟨⟨v, rfl, hown⟩, hb1⟩
    obtain ⟨B, c2, rfl, hc2, hst⟩ := own_made' hown
    have HST := hid hst
    have HB1 := hid hb1
    clear hown hst hb1
    go_wp2_with fail
    refine (joinParts_any hd B ps.length c2 (ps.map fun p => strOf p.text) _ HST.out hc2 (by omega) (by omega) ?_ (strOf T) HTW).mono ?_
    · have := HJL.out
      rw [List.map_map]
      have e : (ps.map ((fun x : ByteArray => x.data.toList) ∘ fun p => strOf p.text)) = ps.map Dt.text := List.map_congr_left fun p _ => by simp [strOf]
      rw [e]
      omega
    rintro e w2 ⟨rfl, hb2⟩
    go_wp2_with fail
    go_ret
    exact ⟨rfl, HB1.out.trans (hb2.mono HB1.out.size)⟩

/-- What readDict comes to. -/
def DictEnd (w : World) (o : Option Dt) (e : Ending) (w' : World) : Prop :=
  Below w.heap.size w w' ∧ ((o = none ∧ e = .returned (.tuple #[.pointer none, .bool false])) ∨ ∃ d a, o = some d ∧ e = .returned (.tuple #[.pointer (some ⟨a, 0, none⟩), .bool true]) ∧ RepD w' (fun x => w.heap.size ≤ x ∧ x < w'.heap.size) d a)

theorem byteReader_any (s : ByteArray) (w : World) :
    Calls Tryd.prog 80 #[.string s] w fun e w' => e = .returned (.func (.func 89) #[] #[.pointer (some ⟨w.heap.size, 0, none⟩)]) ∧ w' = w.alloc (.cells #[.string s] 9) := by
  go_enter Tryd.func80, Tryd.ntmps80
  go_wp2_with fail
  go_ret
  exact ⟨rfl, rfl⟩

set_option maxHeartbeats 1000000 in
set_option maxRecDepth 100000 in
theorem readDictI_any (s : ByteArray) (w : World) (hs : s.size ≤ maxLen) :
    Calls Tryd.prog 52 #[.string s] w (DictEnd w (dtOf s.data.toList)) := by
  have hsz : s.size = s.data.toList.length := by simp
  have hm := hs
  unfold maxLen at hm
  by_cases hl : s.size ≤ 1200
  · have hl0 : ¬ (1200 : Int) < (s.size : Int) := by omega
    obtain ⟨L, hL⟩ : ∃ L, s.data.toList = L := ⟨_, rfl⟩
    have hbx : Bx (w.alloc (.cells #[.string s] 9)) w.heap.size L := ⟨s, heap_new1 _ _, hL, hs⟩
    have HRD := hid (readD_any (L.length + 1) w.heap.size L _ (Nat.le_succ _) (by rw [← hL, ← hsz]; omega) hbx)
    rw [hL] at hsz ⊢
    have HL := hid hL
    have HSZ := hid hsz
    clear hbx hL hsz
    go_enter Tryd.func52, Tryd.ntmps52
    go_wp2_with (go_at_call 80; refine (byteReader_any s _).mono ?_; rintro e w' ⟨rfl, rfl⟩)
    refine HRD.out.mono ?_
    rintro e w1 ⟨hb1, ⟨hn1, v, rfl⟩ | ⟨d, r, a, hs1, rfl, hrep, hbx1⟩⟩
    · have HB1 := hid (((Below.refl w.heap.size w).alloc (Nat.le_refl _) _).trans (hb1.below' (by simp only [World.size_alloc]; omega) (Nat.le_refl _)))
      have HN := hid (dtOf_none hn1)
      clear hb1 hn1
      go_wp2_with fail
      refine bodyPost_ret (v := .tuple #[.pointer none, .bool false]) (by simp [results, Tryd.results52, go_sem]) rfl ?_
      exact ⟨HB1.out, .inl ⟨HN.out, rfl⟩⟩
    · have z1 := hb1.size
      simp only [World.size_alloc] at z1
      have HB1 := hid (((Below.refl w.heap.size w).alloc (Nat.le_refl _) _).trans (hb1.below' (by simp only [World.size_alloc]; omega) (Nat.le_refl _)))
      obtain ⟨htx, hok⟩ := pD_text _ _ _ _ hs1
      have hdl : d.text.length ≤ 1200 := by
        have := congrArg List.length htx
        rw [List.length_append] at this
        have := HSZ.out
        omega
      have HT := hid (textD_any d _ a w1 hrep (fun x hx => hx.2) hok (by omega))
      have HREP := hid hrep
      have HS1 := hid hs1
      have HTX := hid htx
      obtain ⟨t, ht⟩ : ∃ t, strOf d.text = t := ⟨_, rfl⟩
      rw [ht] at HT
      have HTT := hid ht
      clear hb1 hs1 hrep htx ht
      rcases r with _ | ⟨x, r⟩
      · have hts : t = s := by
          rw [← HTT.out]
          refine (strOf_eq ?_).symm
          rw [HL.out, HTX.out, List.append_nil]
        have HTS := hid hts
        subst hts
        go_wp2_with fail
        refine HT.out.mono ?_
        rintro e w2 ⟨rfl, hb2⟩
        go_wp2_with fail
        refine bodyPost_ret (v := .tuple #[.pointer (some ⟨a, 0, none⟩), .bool true]) (by simp [results, Tryd.results52, go_sem]) rfl ?_
        refine ⟨HB1.out.trans (hb2.mono HB1.out.size), .inr ⟨d, a, dtOf_some HS1.out (by have := HSZ.out; omega), rfl, RepD.keep (fun x hx => ⟨⟨by have := hx.1; simp only [World.size_alloc] at this; omega, by have := hx.2; have := hb2.size; omega⟩, hb2.block x hx.2⟩) d a HREP.out⟩⟩
      · have hne : (t.toList == s.toList) = false := by
          rw [ByteArray.toList_eq, ByteArray.toList_eq, ← HTT.out, strOf_list, HL.out, HTX.out]
          rw [beq_eq_false_iff_ne]
          intro h
          have := congrArg List.length h
          simp at this
        go_wp2_with fail
        refine HT.out.mono ?_
        rintro e w2 ⟨rfl, hb2⟩
        go_wp2_with fail
        refine bodyPost_ret (v := .tuple #[.pointer none, .bool false]) (by simp [results, Tryd.results52, go_sem]) rfl ?_
        exact ⟨HB1.out.trans (hb2.mono HB1.out.size), .inl ⟨dtOf_rest HS1.out, rfl⟩⟩
  · have hl0 : (1200 : Int) < (s.size : Int) := by omega
    have HD := hid (dtOf_long (l := s.data.toList) (by omega))
    clear hsz
    go_enter Tryd.func52, Tryd.ntmps52
    go_wp2_with fail
    refine bodyPost_ret (v := .tuple #[.pointer none, .bool false]) (by simp [results, Tryd.results52, go_sem]) rfl ?_
    exact ⟨Below.refl _ _, .inl ⟨HD.out, rfl⟩⟩

def SizeD (d : Dt) : Prop := ∀ (S : Nat → Prop) (a : Nat) (w : World), RepD w S d a → d.text.length ≤ 100000000000 →
  Calls Tryd.prog 62 #[.pointer (some ⟨a, 0, none⟩)] w fun e w' => e = .returned (.int .i64 (d.size : Int)) ∧ w' = w

set_option maxHeartbeats 1000000 in
set_option maxRecDepth 100000 in
theorem sizeD_any (d : Dt) : SizeD d := by
  induction d using Dt.ind with
  | h c ps ih =>
    intro S a w hr hl
    have hls : ∀ p ∈ ps, p.text.length ≤ 100000000000 := fun p hp => by
      have h1 := mem_len (i := 0) hp
      rw [Dt.text_nd] at hl
      simp only [List.length_cons, List.length_append] at hl
      omega
    have hnb : ps.length ≤ 100000000000 := by
      have := partsT_len ps 0
      rw [Dt.text_nd] at hl
      simp only [List.length_cons, List.length_append] at hl
      omega
    have hsz := (Dt.nd c ps).size_le
    rw [Dt.size_nd] at hsz ⊢
    obtain ⟨A, cap, hc, ha, hcap, hrow⟩ := hr.row
    have c1 : w.cell? ⟨a, 1, none⟩ = some (.slice A ps.length cap) := cell_blk hc (j := 1) rfl
    obtain ⟨n, hn⟩ : ∃ n, ps.length = n := ⟨_, rfl⟩
    rw [hn] at c1 hrow hcap hnb
    obtain ⟨T, hT⟩ : ∃ T, sizeL ps = T := ⟨_, rfl⟩
    rw [hT] at hsz ⊢
    have hTm : T ≤ 100000000000 := by omega
    have HT := hid hT
    have HN := hid hn
    have HROW := hid hrow
    have HIH := hid ih
    have HL := hid hls
    clear hn hrow ih hls hc ha hr hT hsz hl
    go_enter Tryd.func62, Tryd.ntmps62
    go_wp2_with fail
    go_loopw [3, 11] (fun v i wr => ∃ k : Nat, k ≤ n ∧ i = .int .i64 k ∧ v = .int .i64 ((1 + sizeL (ps.take k) : Nat) : Int) ∧ wr = w) (fun _ i _ => n - (intOf i).toNat)
    case atStart => exact ⟨0, Nat.zero_le _, rfl, rfl, rfl⟩
    case round =>
      obtain ⟨k, hk, rfl, rfl, rfl⟩ := hrel
      by_cases hlt : k < n
      · obtain ⟨g, rfl, hg, hcells⟩ := HROW.out (by omega)
        have hpk : k < ps.length := by rw [HN.out]; exact hlt
        obtain ⟨p, hp⟩ : ∃ p, ps[k]? = some p := ⟨_, List.getElem?_eq_getElem hpk⟩
        obtain ⟨a', hca, hrep⟩ := hcells k p hp
        have hmem := List.mem_of_getElem? hp
        have HS := hid (HIH.out p hmem S a' _ hrep (HL.out p hmem))
        have hstep : sizeL (ps.take (k + 1)) = sizeL (ps.take k) + p.size := by rw [List.take_add_one, hp]; exact sizeL_snoc _ _
        have hle : sizeL (ps.take (k + 1)) ≤ T := by
          rw [← HT.out]
          conv => rhs; rw [← List.take_append_drop (k + 1) ps]
          have : ∀ (xs ys : List Dt), sizeL xs ≤ sizeL (xs ++ ys) := by
            intro xs ys
            induction xs with
            | nil => exact Nat.zero_le _
            | cons x xs ih => simp only [List.cons_append, sizeL]; omega
          exact this _ _
        obtain ⟨u, hu⟩ : ∃ u, sizeL (ps.take k) = u := ⟨_, rfl⟩
        obtain ⟨z, hz⟩ : ∃ z, p.size = z := ⟨_, rfl⟩
        rw [hu, hz] at hstep
        rw [hstep] at hle
        rw [hz] at HS
        rw [hu]
        have HST := hid hstep
        have i1 : (0 : Int) ≤ (k : Int) := by omega
        have i2 : (k : Int) < (n : Int) := by omega
        have hw : IntKind.i64.wrap (((1 + u : Nat) : Int) + (z : Int)) = ((1 + (u + z) : Nat) : Int) := by rw [IntKind.wrap_i64]; omega
        have HW := hid hw
        clear hcells hrep hmem hp hstep hu hz
        go_wp2_with fail
        refine HS.out.mono ?_
        rintro e w1 ⟨rfl, rfl⟩
        go_wp2_with fail
        go_roundw
        case rel =>
          refine ⟨k + 1, by omega, by go_num, ?_, trivial⟩
          rw [HST.out]
          congr 1
          omega
        case measure => simp [intOf]; omega
      · have hkn : k = n := by omega
        subst hkn
        go_wp2_with fail
        go_ret
        refine ⟨?_, rfl⟩
        rw [List.take_of_length_le (by have := HN.out; omega), HT.out]
        rfl

end Go.Proofs.YtlpfgiegapelmaaDoor
