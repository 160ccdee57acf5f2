/- The program's functions on dictionaries: DictValid, InstanceOf, SizeOfDict, DepthOfDict, PartsOfDict, InstancesIn, MakeDict. -/
import Derived.Test.YtlpfgiegapelmaaDoorDpI
import Derived.Test.YtlpfgiegapelmaaDoorKeep
namespace Go.Proofs.YtlpfgiegapelmaaDoor
open Go.RowKit
set_option linter.unusedVariables false

def instOf (l : List UInt8) : Int := match dtOf l with
  | some (.nd c _) => ((c.toNat - 48 : Nat) : Int)
  | none => -1
def szOf (l : List UInt8) : Int := match dtOf l with
  | some d => (d.size : Int)
  | none => -1
def depOf (l : List UInt8) : Int := match dtOf l with
  | some d => (d.depth : Int)
  | none => -1
/-- The texts of the parts. -/
def dpsOf (l : List UInt8) : List ByteArray := match dtOf l with
  | some (.nd _ ps) => ps.map fun p => strOf p.text
  | none => []
def dgOf (i : Nat) : UInt8 := UInt8.ofNat (48 + i)
theorem dgOf_nat {i : Nat} (h : i ≤ 9) : 48 + i = (dgOf i).toNat := by
  unfold dgOf
  rw [UInt8.toNat_ofNat']
  omega
theorem dgOf_dg {i : Nat} (h : i ≤ 9) : isDg (dgOf i) = true := by
  have e := dgOf_nat h
  unfold isDg
  rw [Bool.and_eq_true, decide_eq_true_iff, decide_eq_true_iff, UInt8.le_iff_toNat_le, UInt8.le_iff_toNat_le, ← e]
  exact ⟨Nat.le_add_right _ _, by show 48 + i ≤ 57; omega⟩
/-- The instances that stand in a dictionary. -/
def insIn (l : List UInt8) : List Nat := match dtOf l with
  | some d => (List.range 10).filter fun i => d.has (dgOf i)
  | none => []

set_option maxHeartbeats 400000 in
set_option maxRecDepth 100000 in
theorem dictValidI_at (s : ByteArray) (w : World) (hs : s.size ≤ maxLen) (v : Bool) (h : Hid ((dtOf s.data.toList).isSome = v)) :
    Calls Tryd.prog 19 #[.string s] w fun e w' => e = .returned (.bool v) ∧ Below w.heap.size w w' := by
  go_enter Tryd.func19, Tryd.ntmps19
  go_wp2_with fail
  refine (readDictI_any s _ hs).mono ?_
  rintro e w1 ⟨hb, ⟨hn, rfl⟩ | ⟨d, a, hd, rfl, hrep⟩⟩
  · rw [hn] at h
    have hv := h.out
    clear h
    subst hv
    go_wp2_with fail
    go_ret
    exact ⟨rfl, hb⟩
  · rw [hd] at h
    have hv := h.out
    clear h
    subst hv
    go_wp2_with fail
    go_ret
    exact ⟨rfl, hb⟩

set_option maxHeartbeats 400000 in
set_option maxRecDepth 100000 in
theorem instanceOfI_at (s : ByteArray) (w : World) (hs : s.size ≤ maxLen) (v : Int) (h : Hid (instOf s.data.toList = v)) :
    Calls Tryd.prog 15 #[.string s] w fun e w' => e = .returned (.int .i64 v) ∧ Below w.heap.size w w' := by
  go_enter Tryd.func15, Tryd.ntmps15
  go_wp2_with fail
  refine (readDictI_any s _ hs).mono ?_
  rintro e w1 ⟨hb, ⟨hn, rfl⟩ | ⟨d, a, hd, rfl, hrep⟩⟩
  · unfold instOf at h
    rw [hn] at h
    have hv : (-1 : Int) = v := h.out
    clear h
    subst hv
    go_wp2_with fail
    go_ret
    exact ⟨rfl, hb⟩
  · obtain ⟨c, ps⟩ := d
    unfold instOf at h
    rw [hd] at h
    have hv : ((c.toNat - 48 : Nat) : Int) = v := h.out
    obtain ⟨A, cap, hc, _⟩ := hrep.row
    rw [hv] at hc
    have c0 : w1.cell? ⟨a, 0, none⟩ = some (.int .i64 v) := cell_blk hc (j := 0) rfl
    clear h hv hc hrep
    go_wp2_with fail
    go_ret
    exact ⟨rfl, hb⟩

set_option maxHeartbeats 400000 in
set_option maxRecDepth 100000 in
theorem sizeOfDictI_at (s : ByteArray) (w : World) (hs : s.size ≤ maxLen) (v : Int) (h : Hid (szOf s.data.toList = v)) :
    Calls Tryd.prog 27 #[.string s] w fun e w' => e = .returned (.int .i64 v) ∧ Below w.heap.size w w' := by
  go_enter Tryd.func27, Tryd.ntmps27
  go_wp2_with fail
  refine (readDictI_any s _ hs).mono ?_
  rintro e w1 ⟨hb, ⟨hn, rfl⟩ | ⟨d, a, hd, rfl, hrep⟩⟩
  · unfold szOf at h
    rw [hn] at h
    have hv : (-1 : Int) = v := h.out
    clear h
    subst hv
    go_wp2_with fail
    go_ret
    exact ⟨rfl, hb⟩
  · unfold szOf at h
    rw [hd] at h
    have hv : (d.size : Int) = v := h.out
    obtain ⟨htx, _, hl⟩ := dtOf_text hd
    have HS := hid (sizeD_any d _ a w1 hrep (by rw [← htx]; omega))
    rw [hv] at HS
    clear h hv hrep htx hd
    go_wp2_with fail
    refine HS.out.mono ?_
    rintro e w2 ⟨rfl, rfl⟩
    go_wp2_with fail
    go_ret
    exact ⟨rfl, hb⟩

theorem own_base' {w : World} {base base' : Nat} {T : TypeId} {k n : Nat} {v : Value} {xs : List Value} (h : w.ownsRow base T k v n xs) (hb : base' ≤ base) : w.ownsRow base' T k v n xs := by
  obtain ⟨h1, h2⟩ := h
  refine ⟨h1, ?_⟩
  rcases h2 with h2 | ⟨g, cap, cur, e, h3, r⟩
  · exact .inl h2
  · exact .inr ⟨g, cap, cur, e, Nat.le_trans hb h3, r⟩

set_option maxHeartbeats 400000 in
set_option maxRecDepth 100000 in
theorem partsOfDictI_any (s : ByteArray) (w : World) (hs : s.size ≤ maxLen) :
    Calls Tryd.prog 14 #[.string s] w fun e w' => (∃ v, e = .returned v ∧ w'.ownsRow w.heap.size 9 1 v (dpsOf s.data.toList).length ((dpsOf s.data.toList).map Value.string)) ∧ Below w.heap.size w w' := by
  go_enter Tryd.func14, Tryd.ntmps14
  go_wp2_with fail
  refine (readDictI_any s _ hs).mono ?_
  rintro e w1 ⟨hb, ⟨hn, rfl⟩ | ⟨d, a, hd, rfl, hrep⟩⟩
  · have HD := hid (show dpsOf s.data.toList = [] by unfold dpsOf; rw [hn])
    clear hn
    go_wp2_with fail
    go_ret
    rw [HD.out]
    exact ⟨⟨_, rfl, World.ownsRow_nil _ _ _ _⟩, hb⟩
  · obtain ⟨c, ps⟩ := d
    have HD := hid (show dpsOf s.data.toList = ps.map fun p => strOf p.text by unfold dpsOf; rw [hd])
    obtain ⟨htx, hok, hl⟩ := dtOf_text hd
    obtain ⟨_, hl3, hps⟩ := (Dt.ok_nd c ps).1 hok
    have hls : ∀ p ∈ ps, p.text.length ≤ 100000000000 := fun p hp => by
      have h1 := mem_len (i := 0) hp
      rw [htx, Dt.text_nd] at hl
      simp only [List.length_cons, List.length_append] at hl
      omega
    have HP := hid (partTextsD_any c ps (fun p _ => textD_any p) _ a w1 hrep (fun x hx => hx.2) hps (by omega) hls)
    clear hrep htx hd hok hps hls
    go_wp2_with fail
    refine HP.out.mono ?_
    rintro e w2 ⟨⟨v, rfl, hown⟩, hb2⟩
    have HO := hid hown
    clear hown
    go_wp2_with fail
    go_ret
    rw [HD.out, List.map_map, List.length_map]
    exact ⟨⟨v, rfl, own_base' HO.out hb.size⟩, hb.trans (hb2.mono hb.size)⟩

theorem join_lenD (xs : List (List UInt8)) (c : UInt8) (m : Nat) (h : ∀ l ∈ xs, l.length ≤ m) : (Lib.join xs [c]).length ≤ xs.length * (m + 1) := by
  induction xs with
  | nil => simp [Lib.join, List.intercalate]
  | cons a l ih =>
    have h1 := h a (List.mem_cons_self ..)
    have h2 := ih fun x hx => h x (List.mem_cons_of_mem _ hx)
    rw [List.length_cons, Nat.add_mul]
    rcases l with _ | ⟨b, l⟩
    · simp [Lib.join, List.intercalate]
      omega
    · simp only [Lib.join, List.intercalate, List.intersperse, List.flatten_cons, List.length_append, List.length_cons, List.length_nil] at h2 ⊢
      omega

set_option maxHeartbeats 400000 in
set_option maxRecDepth 100000 in
theorem depthOfDictI_at (s : ByteArray) (w : World) (hs : s.size ≤ maxLen) (v : Int) (h : Hid (depOf s.data.toList = v)) :
    Calls Tryd.prog 28 #[.string s] w fun e w' => e = .returned (.int .i64 v) ∧ Below w.heap.size w w' := by
  go_enter Tryd.func28, Tryd.ntmps28
  go_wp2_with fail
  refine (readDictI_any s _ hs).mono ?_
  rintro e w1 ⟨hb, ⟨hn, rfl⟩ | ⟨d, a, hd, rfl, hrep⟩⟩
  · unfold depOf at h
    rw [hn] at h
    have hv : (-1 : Int) = v := h.out
    clear h
    subst hv
    go_wp2_with fail
    go_ret
    exact ⟨rfl, hb⟩
  · unfold depOf at h
    rw [hd] at h
    have hv : (d.depth : Int) = v := h.out
    obtain ⟨htx, _, hl⟩ := dtOf_text hd
    have HS := hid (depthD_any d _ a w1 hrep (by rw [← htx]; omega))
    rw [hv] at HS
    clear h hv hrep htx hd
    go_wp2_with fail
    refine HS.out.mono ?_
    rintro e w2 ⟨rfl, rfl⟩
    go_wp2_with fail
    go_ret
    exact ⟨rfl, hb⟩

set_option maxHeartbeats 1000000 in
set_option maxRecDepth 100000 in
theorem instancesInI_any (s : ByteArray) (w : World) (hs : s.size ≤ maxLen) :
    Calls Tryd.prog 22 #[.string s] w fun e w' => (∃ v, e = .returned v ∧ OwnK w' w.heap.size v (insIn s.data.toList)) ∧ Below w.heap.size w w' := by
  obtain ⟨i0, hi0, hz0, hz1, hz2⟩ := info_parts infoIntK
  go_enter Tryd.func22, Tryd.ntmps22
  go_wp2_with fail
  refine (readDictI_any s _ hs).mono ?_
  rintro e w1 ⟨hb, ⟨hn, rfl⟩ | ⟨d, a, hd, rfl, hrep⟩⟩
  · have HD := hid (show insIn s.data.toList = [] by unfold insIn; rw [hn])
    clear hn
    go_wp2_with fail
    go_ret
    rw [HD.out]
    exact ⟨⟨_, rfl, World.ownsRow_nil _ _ _ _⟩, hb⟩
  · have HD := hid (show insIn s.data.toList = (List.range 10).filter fun i => d.has (dgOf i) by unfold insIn; rw [hd])
    obtain ⟨htx, hok, hl⟩ := dtOf_text hd
    have hdl : d.text.length ≤ 100000000000 := by rw [← htx]; omega
    have HREP := hid hrep
    have HOK := hid hok
    have HB := hid hb
    have z1 := hb.size
    clear hrep htx hd hok hl hb
    go_wp2_with fail
    go_loopw [5, 14] (fun v i wr => ∃ k : Nat, k ≤ 10 ∧ i = .int .i64 k ∧ OwnK wr w1.heap.size v (((List.range 10).take k).filter fun i => d.has (dgOf i)) ∧ Below w1.heap.size w1 wr) (fun _ i _ => 10 - (intOf i).toNat)
    case atStart => exact ⟨0, Nat.zero_le _, rfl, World.ownsRow_nil _ _ _ _, Below.refl _ _⟩
    case round =>
      obtain ⟨k, hk, rfl, hown, hbel⟩ := hrel
      have HW := hid hown
      have hfl := filter_le (List.range 10) (fun i => d.has (dgOf i)) k
      have HBR := hid hbel
      have zr := hbel.size
      clear hown
      by_cases hlt : k < 10
      · have hx : (List.range 10)[k]? = some k := List.getElem?_range hlt
        have HTK := hid (filter_snoc (f := fun i => d.has (dgOf i)) hx)
        have HI := hid (hasD_any (dgOf k) k (dgOf_nat (by omega)) (by omega) d _ a wr (RepD.keep (fun x hx => ⟨hx, hbel.block x hx.2⟩) d a HREP.out) (fun y hy => by have := hy.2; omega) HOK.out hdl)
        clear hx hbel
        have i1 : (0 : Int) ≤ (k : Int) := by omega
        have i2 : (k : Int) < 10 := by omega
        obtain ⟨b, hb⟩ : ∃ b, d.has (dgOf k) = b := ⟨_, rfl⟩
        rw [hb] at HI HTK
        clear hb
        go_wp2_with fail
        refine HI.out.mono ?_
        rintro e w2 ⟨rfl, d1⟩
        have HW1 := hid (HW.out.keep d1)
        have B1 := hid (HBR.out.trans (d1.mono HBR.out.size))
        clear d1
        cases b
        · go_wp2_with fail
          go_roundw
          case rel => exact ⟨k + 1, hlt, by go_num, by rw [HTK.out, if_neg (by decide), List.append_nil]; exact HW1.out, B1.out⟩
          case measure => simp [intOf]; omega
        · obtain ⟨L, hL⟩ : ∃ L, ((List.range 10).take k).filter (fun i => d.has (dgOf i)) = L := ⟨_, rfl⟩
          rw [hL] at HW1 HTK hfl
          have HLL := hid hL
          clear hL
          go_wp2_with (at_builtin; refine wpList_append_own _ rfl _ _ 30 rfl w1.heap.size 3 i0 (.int .i64 0) 1 8 Tryd.underlying30 hi0 hz0 hz1 hz2 rfl (by decide) _ L.length _ rfl (World.ownsRow.alloc HW1.out _) ⟨w2.heap.size, 0, none⟩ 1 1 [.int .i64 (k : Int)] rfl rfl (cell_one_new _ _ _) ?c2 ?c3 ?c4 ?c5 ?_)
          case c2 => simp [Value.oneCell']
          case c3 => unfold maxLen; omega
          case c4 => omega
          case c5 => simp only [World.size_alloc]; have := B1.out.size; omega
          intro v2 w7 hown7 hg7 hv7
          clear hv7
          have HO7 := hid hown7
          have HG7 := hid hg7
          clear hown7 hg7
          go_wp2_with fail
          go_roundw
          case rel =>
            refine ⟨k + 1, hlt, by go_num, ?_, ?_⟩
            · rw [HTK.out, if_pos trivial]
              unfold OwnK
              rw [zOf_append, List.map_append, List.length_append]
              exact HO7.out
            · exact (B1.out.alloc B1.out.size _).grown HG7.out (by simp only [World.size_alloc]; have := B1.out.size; omega) (fun k' hk' => (HW1.out.lt k' hk').1)
          case measure => simp [intOf]; omega
      · have hkn : k = 10 := by omega
        subst hkn
        go_wp2_with fail
        go_ret
        have h := HW.out
        rw [List.take_of_length_le (by simp), ← HD.out] at h
        exact ⟨⟨_, rfl, OwnK.mono h z1⟩, HB.out.trans (hbel.mono z1)⟩

def dtsOf (xs : List ByteArray) : List Dt := xs.filterMap fun x => dtOf x.data.toList
/-- The dictionary of an instance and parts. -/
def mkD (i : Int) (xs : List ByteArray) : Option (List UInt8) :=
  if (0 ≤ i ∧ i ≤ 9) ∧ xs.length ≤ 3 ∧ (xs.all fun x => (dtOf x.data.toList).isSome) = true ∧ (Dt.nd (dgOf i.toNat) (dtsOf xs)).text.length ≤ 1200 then some (Dt.nd (dgOf i.toNat) (dtsOf xs)).text else none
def stO (o : Option (List UInt8)) : ByteArray := strOf (o.getD [])
theorem dtsOf_all {xs : List ByteArray} (h : ∀ x ∈ xs, (dtOf x.data.toList).isSome = true) : (dtsOf xs).map (fun d => strOf d.text) = xs ∧ (dtsOf xs).length = xs.length ∧ ∀ d ∈ dtsOf xs, d.ok := by
  induction xs with
  | nil => exact ⟨rfl, rfl, fun d hd => by cases hd⟩
  | cons x xs ih =>
    obtain ⟨h1, h2, h3⟩ := ih fun y hy => h y (List.mem_cons_of_mem _ hy)
    obtain ⟨d, hd⟩ := Option.isSome_iff_exists.1 (h x (List.mem_cons_self ..))
    obtain ⟨ht, ho, _⟩ := dtOf_text hd
    have e : dtsOf (x :: xs) = d :: dtsOf xs := by unfold dtsOf; simp [hd]
    rw [e]
    refine ⟨?_, by simp [h2], ?_⟩
    · rw [List.map_cons, h1, ← ht, ← strOf_eq rfl]
    · intro y hy
      rcases List.mem_cons.1 hy with rfl | hy
      · exact ho
      · exact h3 y hy
theorem joinW_dt {c : UInt8} {xs : List ByteArray} (h : ∀ x ∈ xs, (dtOf x.data.toList).isSome = true) : joinW (strOf [c]) xs = strOf (Dt.nd c (dtsOf xs)).text := by
  obtain ⟨h1, h2, _⟩ := dtsOf_all h
  unfold joinW
  by_cases h0 : xs = []
  · subst h0
    rw [if_pos rfl, show dtsOf [] = [] from rfl, Dt.text_none]
  · have h0' : dtsOf xs ≠ [] := by
      intro e
      rw [e] at h2
      exact h0 (List.length_eq_zero_iff.1 h2.symm)
    rw [if_neg h0, Dt.text_some c h0', strOf_list]
    have e : xs.map (·.data.toList) = (dtsOf xs).map Dt.text := by
      conv => lhs; rw [← h1]
      rw [List.map_map]
      exact List.map_congr_left fun d _ => by simp [strOf]
    rw [e]
    rfl
theorem mkD_none {i : Int} {xs : List ByteArray} (h : ¬ (0 ≤ i ∧ i ≤ 9) ∨ 3 < xs.length ∨ ∃ x ∈ xs, dtOf x.data.toList = none) : mkD i xs = none := by
  unfold mkD
  rw [if_neg]
  rintro ⟨h1, h2, h3, _⟩
  rcases h with h | h | ⟨x, hx, e⟩
  · exact h h1
  · omega
  · have := List.all_eq_true.1 h3 x hx
    rw [e] at this
    cases this
theorem mkD_all {i : Nat} {xs : List ByteArray} (hi : i ≤ 9) (h2 : xs.length ≤ 3) (h : ∀ x ∈ xs, (dtOf x.data.toList).isSome = true) : mkD (i : Int) xs = if (Dt.nd (dgOf i) (dtsOf xs)).text.length ≤ 1200 then some (Dt.nd (dgOf i) (dtsOf xs)).text else none := by
  unfold mkD
  rw [Int.toNat_natCast]
  by_cases e : (Dt.nd (dgOf i) (dtsOf xs)).text.length ≤ 1200
  · rw [if_pos e, if_pos ⟨⟨by omega, by omega⟩, h2, List.all_eq_true.2 h, e⟩]
  · rw [if_neg e, if_neg fun h => e h.2.2.2]

theorem ret_none {i : Int} {xs : List ByteArray} {r : ByteArray} {b : Bool} (hr : Hid (stO (mkD i xs) = r)) (hb : Hid ((mkD i xs).isSome = b)) (h : mkD i xs = none) : r = { data := #[] } ∧ b = false := by
  rw [h] at hr hb
  exact ⟨hr.out.symm, hb.out.symm⟩

set_option maxHeartbeats 1000000 in
set_option maxRecDepth 100000 in
theorem makeDictI_any (i : Int) (hi : -9223372036854775808 ≤ i ∧ i ≤ 9223372036854775807) (A : Option Addr) (n cap : Nat) (xs : List ByteArray) (w : World) (hn : n ≤ 1048576) (hc : n ≤ cap) (ha : Strs w A n xs) (hz : ∀ x ∈ xs, x.size ≤ maxLen) (r : ByteArray) (b : Bool) (hr : Hid (stO (mkD i xs) = r)) (hb : Hid ((mkD i xs).isSome = b)) :
    Calls Tryd.prog 25 #[.int .i64 i, .slice A n cap] w fun e w' => e = .returned (.tuple #[.string r, .bool b]) ∧ Below w.heap.size w w' := by
  obtain ⟨hi1, hi2⟩ := hi
  by_cases h1 : i < 0
  · obtain ⟨rfl, rfl⟩ := ret_none hr hb (mkD_none (.inl (by omega)))
    clear hr hb ha hz
    go_enter Tryd.func25, Tryd.ntmps25
    go_wp2_with fail
    exact bodyPost_ret (v := .tuple #[.string { data := #[] }, .bool false]) (by simp [results, Tryd.results25, go_sem]) rfl ⟨rfl, Below.refl _ _⟩
  · by_cases h2 : 10 ≤ i
    · obtain ⟨rfl, rfl⟩ := ret_none hr hb (mkD_none (.inl (by omega)))
      clear hr hb ha hz
      go_enter Tryd.func25, Tryd.ntmps25
      go_wp2_with fail
      exact bodyPost_ret (v := .tuple #[.string { data := #[] }, .bool false]) (by simp [results, Tryd.results25, go_sem]) rfl ⟨rfl, Below.refl _ _⟩
    · obtain ⟨q, rfl⟩ : ∃ q : Nat, i = (q : Int) := ⟨i.toNat, by omega⟩
      by_cases h3 : 3 < n
      · obtain ⟨rfl, rfl⟩ := ret_none hr hb (mkD_none (.inr (.inl (by have := ha.1; omega))))
        clear hr hb ha hz
        go_enter Tryd.func25, Tryd.ntmps25
        go_wp2_with fail
        exact bodyPost_ret (v := .tuple #[.string { data := #[] }, .bool false]) (by simp [results, Tryd.results25, go_sem]) rfl ⟨rfl, Below.refl _ _⟩
      · have HA := hid ha
        have HZ := hid hz
        clear ha hz
        have HIT := hid (fun (W : World) => itoa_any q (by omega) W (dgOf q) (hid (dgOf_nat (by omega))))
        obtain ⟨hd, hhd⟩ : ∃ hd, strOf [dgOf q] = hd := ⟨_, rfl⟩
        have hds : hd.size ≤ 1 := by rw [← hhd]; exact Nat.le_refl _
        rw [hhd] at HIT
        have HHD := hid hhd
        clear hhd
        go_enter Tryd.func25, Tryd.ntmps25
        go_wp2_with fail
        go_loopw [22] (fun i wr => ∃ k : Nat, k ≤ n ∧ i = .int .i64 k ∧ (∀ x ∈ xs.take k, (dtOf x.data.toList).isSome = true) ∧ Below w.heap.size w wr) (fun i _ => n - (intOf i).toNat)
        case atStart => exact ⟨0, Nat.zero_le _, rfl, (fun x hx => by simp at hx), Below.refl _ _⟩
        case round =>
          obtain ⟨k, hk, rfl, hall, hbel⟩ := hrel
          have HALL := hid hall
          have HB := hid hbel
          clear hall
          by_cases hlt : k < n
          · obtain ⟨g, o, rfl, hg, hca⟩ := HA.out.2 (by omega)
            have hx : xs[k]? = some (xs[k]'(by have := HA.out.1; omega)) := List.getElem?_eq_getElem _
            have ca := cell_below (hca k _ hx) hg hbel
            have hsz := HZ.out _ (List.mem_of_getElem? hx)
            obtain ⟨x, ex⟩ : ∃ x, xs[k]'(by have := HA.out.1; omega) = x := ⟨_, rfl⟩
            rw [ex] at ca hsz hx
            have HX := hid hx
            obtain ⟨v, hv⟩ : ∃ v, (dtOf x.data.toList).isSome = v := ⟨_, rfl⟩
            have HV := hid hv
            have HD := hid (fun (W : World) => dictValidI_at x W hsz v HV)
            clear hca hx ex hv hbel
            have i1 : (0 : Int) ≤ (k : Int) := by omega
            have i2 : (k : Int) < (n : Int) := by omega
            go_wp2_with fail
            refine (HD.out _).mono ?_
            rintro e w1 ⟨rfl, d1⟩
            have B1 := hid (HB.out.trans (d1.mono HB.out.size))
            clear d1
            cases v
            · obtain ⟨hr1, hb1⟩ := ret_none hr hb (mkD_none (.inr (.inr ⟨x, List.mem_of_getElem? HX.out, by simpa using HV.out⟩)))
              clear hr hb HV HD HX
              subst hr1
              subst hb1
              go_wp2_with fail
              exact bodyPost_ret (v := .tuple #[.string { data := #[] }, .bool false]) (by simp [results, Tryd.results25, go_sem]) rfl ⟨rfl, B1.out⟩
            · go_wp2_with fail
              go_roundw
              case rel =>
                refine ⟨k + 1, hlt, by go_num, fun y hy => ?_, B1.out⟩
                rw [List.take_add_one, HX.out] at hy
                rcases List.mem_append.1 hy with hy | hy
                · exact HALL.out y hy
                · simp at hy
                  rw [hy]
                  exact HV.out
              case measure => simp [intOf]; omega
          · have hkn : k = n := by omega
            subst hkn
            have hall := HALL.out
            rw [List.take_of_length_le (by have := HA.out.1; omega)] at hall
            have hmk := mkD_all (i := q) (by omega) (by have := HA.out.1; omega) hall
            have hjw : joinW hd xs = strOf (Dt.nd (dgOf q) (dtsOf xs)).text := by rw [← HHD.out]; exact joinW_dt hall
            obtain ⟨t, ht⟩ : ∃ t, strOf (Dt.nd (dgOf q) (dtsOf xs)).text = t := ⟨_, rfl⟩
            have hts : t.size = (Dt.nd (dgOf q) (dtsOf xs)).text.length := by rw [← ht, strOf_size]
            have hjl : (Lib.join (xs.map (·.data.toList)) [44]).length ≤ 10000 := by
              have h := join_lenD (xs.map (·.data.toList)) 44 1200 (fun l hl => by
                obtain ⟨x, hx, rfl⟩ := List.mem_map.1 hl
                obtain ⟨d, hd⟩ := Option.isSome_iff_exists.1 (hall x hx)
                exact (dtOf_text hd).2.2)
              rw [List.length_map, HA.out.1] at h
              omega
            rw [ht] at hjw
            have hst := HA.out.below hbel
            have HJ := hid (fun (W : World) (hW : Strs W A k xs) => joinParts_any hd A k cap xs W hW hc (by omega) (by omega) (by omega) t (hid hjw))
            have hm1 := hjl
            have htz : t.size ≤ 100000 := by
              have h := congrArg ByteArray.size hjw
              unfold joinW at h
              split at h
              · omega
              · rw [strOf_size] at h
                have e : hd.size = hd.data.toList.length := by simp
                simp only [List.length_append, List.length_cons, List.length_nil] at h
                omega
            have HST := hid hst
            have HTS := hid hts
            have HTT := hid ht
            have HMK := hid hmk
            clear hall hmk hjw hts ht hjl hst hm1
            by_cases hbig : 1200 < t.size
            · obtain ⟨hr1, hb1⟩ := ret_none hr hb (by rw [HMK.out, if_neg (by have := HTS.out; omega)])
              clear hr hb
              subst hr1
              subst hb1
              go_wp2_with (go_at_call 60; refine (HIT.out _).mono ?_; rintro e w' ⟨rfl, rfl⟩)
              refine (HJ.out _ HST.out).mono ?_
              rintro e w2 ⟨rfl, hb2⟩
              go_wp2_with fail
              exact bodyPost_ret (v := .tuple #[.string { data := #[] }, .bool false]) (by simp [results, Tryd.results25, go_sem]) rfl ⟨rfl, HB.out.trans (hb2.mono HB.out.size)⟩
            · have hms : mkD (q : Int) xs = some (Dt.nd (dgOf q) (dtsOf xs)).text := by rw [HMK.out, if_pos (by have := HTS.out; omega)]
              rw [hms] at hr hb
              have hr1 : t = r := by rw [← hr.out, ← HTT.out]; rfl
              have hb1 : true = b := hb.out
              clear hr hb hms
              subst hr1
              subst hb1
              go_wp2_with (go_at_call 60; refine (HIT.out _).mono ?_; rintro e w' ⟨rfl, rfl⟩)
              refine (HJ.out _ HST.out).mono ?_
              rintro e w2 ⟨rfl, hb2⟩
              go_wp2_with fail
              exact bodyPost_ret (v := .tuple #[.string t, .bool true]) (by simp [results, Tryd.results25, go_sem]) rfl ⟨rfl, HB.out.trans (hb2.mono HB.out.size)⟩

end Go.Proofs.YtlpfgiegapelmaaDoor
