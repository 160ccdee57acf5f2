/- bindingsFrom of the program: a map of texts ranged over, sorted, handed back. -/
import Derived.Test.YtmpmalcjfckemaaGreatDoorSrtI
import Derived.Test.YtmpmalcjfckemaaGreatDoorTxI
import Derived.Test.YtmpmalcjfckemaaGreatDoorMarksB
import Derived.Maps.StringElems
import Derived.Sort.OwnSorted
namespace Go.Proofs.YtmpmalcjfckemaaGreatDoor
open Go.RowKit Go.Maps Go.Sort

/-- Bindings in the order of their letters. -/
def pairs (g : UInt8 → Option (List UInt8)) : List (ByteArray × ByteArray) :=
  ([88, 89, 90, 120, 121, 122] : List UInt8).filterMap fun c => (g c).map fun b => (Go.Proofs.YtmpmalcjfckemaaGreatDoor.strOf [c], Go.Proofs.YtmpmalcjfckemaaGreatDoor.strOf b)
def txt (g : UInt8 → Option (List UInt8)) (c : UInt8) : ByteArray := Go.Proofs.YtmpmalcjfckemaaGreatDoor.strOf ((g c).getD [])
theorem strOf_list' (x : ByteArray) : Go.Proofs.YtmpmalcjfckemaaGreatDoor.strOf x.data.toList = x := by cases x; rfl
/-- The letters met so far. -/
structure Coll (g : UInt8 → Option (List UInt8)) (left : Lit → Bool) (ls : List UInt8) : Prop where
  nodup : ls.Nodup
  mem : ∀ c ∈ ls, (g c).isSome = true ∧ left (.string [c]) = false
  all : ∀ c, (g c).isSome = true → left (.string [c]) = true ∨ c ∈ ls
theorem Coll.start {D : DataW Unit} {g : UInt8 → Option (List UInt8)} (h : Reads D g) : Coll g (has D) [] :=
  ⟨List.nodup_nil, (fun c hc => by cases hc), fun c hc =>
    let ⟨b, hb⟩ := Option.isSome_iff_exists.1 hc
    .inl (h.2.2 c b hb).1⟩
theorem Coll.step {g : UInt8 → Option (List UInt8)} {left : Lit → Bool} {ls : List UInt8} (h : Coll g left ls) {c : UInt8} (hc : (g c).isSome = true) (hl : left (.string [c]) = true) : Coll g (fun z => left z && !z.sameKey (.string [c])) (ls ++ [c]) := by
  refine ⟨?_, fun d hd => ?_, fun d hd => ?_⟩
  · rw [List.nodup_append]
    refine ⟨h.nodup, by simp, fun a ha b hb e => ?_⟩
    simp only [List.mem_singleton] at hb
    subst hb
    subst e
    have := (h.mem _ ha).2
    rw [hl] at this
    cases this
  · rcases List.mem_append.1 hd with hd | hd
    · exact ⟨(h.mem d hd).1, by simp [(h.mem d hd).2]⟩
    · simp only [List.mem_singleton] at hd
      subst hd
      exact ⟨hc, by simp [WideAt.sameKey_self (keyLit [d])]⟩
  · by_cases e : d = c
    · exact .inr (by simp [e])
    · rcases h.all d hd with h1 | h1
      · refine .inl ?_
        have hne : (Lit.string [d]) ≠ .string [c] := by simpa using e
        simp [h1, sameKey_ne hne]
      · exact .inr (List.mem_append_left _ h1)
theorem Coll.sorted {g : UInt8 → Option (List UInt8)} {left : Lit → Bool} {ls : List UInt8} (h : Coll g left ls) (hl : ∀ kl, left kl = false) (hg : ∀ c, (g c).isSome = true → isVarB c = true) : (ls.mergeSort leL).map (pr2 (txt g)) = pairs g := by
  have hv : ∀ c, isVarB c = true → c ∈ ([88, 89, 90, 120, 121, 122] : List UInt8) := fun c => by
    refine u8_all (p := fun c => isVarB c = true → c ∈ ([88, 89, 90, 120, 121, 122] : List UInt8)) ?_ c
    decide +kernel
  have tr : ∀ a b c : UInt8, leL a b = true → leL b c = true → leL a c = true := fun a b c h1 h2 => by simp only [leL, decide_eq_true_eq] at *; exact UInt8.le_trans h1 h2
  have to : ∀ a b : UInt8, (leL a b || leL b a) = true := fun a b => by simp only [leL, Bool.or_eq_true, decide_eq_true_eq]; exact UInt8.le_total a b
  have hs : ls.mergeSort leL = ([88, 89, 90, 120, 121, 122] : List UInt8).filter fun c => (g c).isSome := by
    have hp : (ls.mergeSort leL).Perm (([88, 89, 90, 120, 121, 122] : List UInt8).filter fun c => (g c).isSome) := by
      refine (List.mergeSort_perm ls leL).trans ((List.perm_ext_iff_of_nodup h.nodup ((by decide : ([88, 89, 90, 120, 121, 122] : List UInt8).Nodup).filter _)).2 fun c => ?_)
      constructor
      · intro hc
        exact List.mem_filter.2 ⟨hv c (hg c (h.mem c hc).1), (h.mem c hc).1⟩
      · intro hc
        rcases h.all c (List.mem_filter.1 hc).2 with h1 | h1
        · rw [hl] at h1
          cases h1
        · exact h1
    refine List.Perm.eq_of_pairwise (le := fun a b => leL a b = true) (fun a b _ _ h1 h2 => ?_) (List.pairwise_mergeSort tr to ls) (List.Pairwise.filter _ (by decide)) hp
    simp only [leL, decide_eq_true_eq] at h1 h2
    exact UInt8.le_antisymm h1 h2
  rw [hs]
  unfold pairs
  generalize ([88, 89, 90, 120, 121, 122] : List UInt8) = L
  induction L with
  | nil => rfl
  | cons c L ih =>
    rcases hc : g c with _ | b
    · rw [List.filter_cons_of_neg (by simp [hc]), List.filterMap_cons_none (by simp [hc])]
      exact ih
    · rw [List.filter_cons_of_pos (by simp [hc]), List.filterMap_cons_some (b := (Go.Proofs.YtmpmalcjfckemaaGreatDoor.strOf [c], Go.Proofs.YtmpmalcjfckemaaGreatDoor.strOf b)) (by simp [hc]), List.map_cons, ih]
      congr 1
      simp [pr2, txt, hc]

/-- How bindingsFrom ends. -/
def FromEnd (g : UInt8 → Option (List UInt8)) (w : World) (e : Ending) (w' : World) : Prop :=
  Below w.heap.size w w' ∧ (((∃ c b, g c = some b ∧ 60 < b.length) ∧ e = .returned (.tuple #[.slice none 0 0, .bool false])) ∨
    ((∀ c b, g c = some b → b.length ≤ 60) ∧ ∃ v, e = .returned (.tuple #[v, .bool true]) ∧ w'.ownsRow w.heap.size 176 2 v (pairs g).length (cells2 (pairs g))))

set_option maxHeartbeats 2000000 in
set_option maxRecDepth 100000 in
theorem bindingsFrom_any (mb : Nat) (D : DataW Unit) (g : UInt8 → Option (List UInt8)) (w : World) (hown : w.ownsMap Tryz.prog 9 (plainElem Tryz.prog 9) mb 12 D) (hrd : Reads D g) (hg : ∀ c, (g c).isSome = true → isVarB c = true) :
    Calls Tryz.prog 144 #[.map (some mb)] w (FromEnd g w) := by
  obtain ⟨i0, hi0, hz0, hz1, hz2⟩ := info_parts bindingInfo
  have hmb := hown.lt
  have hsz := hown.size_le
  have HRD := hid hrd
  have HG := hid hg
  have HC0 := hid (Coll.start hrd)
  clear hrd hg
  go_enter Tryz.func144, Tryz.ntmps144
  go_wp2_with (first
    | (at_range; refine wpList_range_own _ rfl _ 194 rfl 9 9 keyS Tryz.underlying194 _ mb 12 D rfl hown ?_; intro w0 hrg0 hg0 hs0)
    | fail)
  go_frame
  go_loopw [4] (fun v wr => ∃ (left : Lit → Bool) (cnt : Nat) (ls : List UInt8), wr.ranges Tryz.prog 9 (plainElem Tryz.prog 9) mb w.heap.size 12 D left cnt ∧ wr.ownsRow w.heap.size 176 2 v ls.length (cells2 (ls.map (pr2 (txt g)))) ∧
      Hid (Coll g left ls) ∧ ls.length + cnt ≤ 12 ∧ Below w.heap.size w wr ∧ Hid (∀ c ∈ ls, ∀ b, g c = some b → b.length ≤ 60)) (fun _ wr => wr.rangeLeft mb w.heap.size)
  case atStart =>
    exact ⟨_, _, [], hrg0, World.ownsRow_nil _ _ _ _, HC0, by simpa using hsz, ⟨hg0.os, hg0.tape, hg0.output, hg0.size, fun k hk => hg0.block k hk (by simp)⟩, fun c hc => by cases hc⟩
  case round =>
    obtain ⟨left, cnt, ls, hrg, hrow, HC, hlen, hbel, HL⟩ := hrel
    have zr := hbel.size
    go_wp2_with (first
      | (at_next; refine wpList_next_ranges _ rfl _ rfl 9 keyS (plainElem Tryz.prog 9) Value.string Value.string (fun key kl hk => by obtain ⟨s, rfl, _⟩ := WideMaps.string_of_keyOf Tryz.underlying9 hk; exact ⟨s, rfl⟩) (fun v y hv => by obtain ⟨c, rfl, _⟩ := plainElem_string_inv Tryz.underlying9 hv; exact ⟨c, rfl⟩) mb w.heap.size 12 _ _ _ rfl hrg ?_ ?_)
      | fail)
    · intro hc0 hl0
      have hperm := HC.out.sorted hl0 HG.out
      have hlp : (pairs g).length = ls.length := by rw [← hperm, List.length_map, List.length_mergeSort]
      have hall : ∀ c b, g c = some b → b.length ≤ 60 := fun c b hb => by
        rcases HC.out.all c (by rw [hb]; rfl) with h1 | h1
        · rw [hl0] at h1
          cases h1
        · exact HL.out c h1 b hb
      have HP := hid hperm
      have HLP := hid hlp
      have HA := hid hall
      clear hperm hlp hall HL HC hrg hc0 hl0
      rcases hrow.2 with ⟨hnil, hk0⟩ | ⟨g0, cap, cur, hv, hbase, hb, h1, h2, h3, h4⟩
      · subst hnil
        have HROW := hid hrow
        have HK0 := hid hk0
        have hS : ∀ W, Calls Tryz.prog 177 #[.slice none 0 0, .func (.func 178) #[] #[]] W fun e w' => e = .returned (.tuple #[]) ∧ w' = W := fun W => AnyF.slices_SortFunc_none Tryz.sortL none 0 _ W
        clear hrow hk0
        go_wp2_with fail
        refine (hS _).mono ?_
        rintro e w' ⟨rfl, rfl⟩
        go_wp2_with fail
        refine bodyPost_ret (v := .tuple #[.slice none 0 0, .bool true]) (by simp [results, Tryz.results144, go_sem]) rfl ⟨hbel, .inr ⟨HA.out, _, rfl, ?_⟩⟩
        have h0 : ls = [] := List.eq_nil_of_length_eq_zero HK0.out
        have h1 : pairs g = [] := List.eq_nil_of_length_eq_zero (by rw [HLP.out, HK0.out])
        rw [h1]
        exact World.ownsRow_nil _ _ _ _
      · subst hv
        have hS := sort_any (txt g) ls w.heap.size g0 cap cur wr hbase hb h1 h2 h3 h4 (by omega)
        rw [HP.out, ← HLP.out] at hS
        have hln : ls.length = (pairs g).length := HLP.out.symm
        rw [hln]
        have HS := hid hS
        clear hS hrow hb h4 hln
        go_wp2_with fail
        refine HS.out.mono ?_
        rintro e w' ⟨rfl, hown2, hgr2⟩
        have HO2 := hid hown2
        clear hown2
        go_wp2_with fail
        exact bodyPost_ret (v := .tuple #[.slice (some ⟨g0, 0, none⟩) (pairs g).length cap, .bool true]) (by simp [results, Tryz.results144, go_sem]) rfl ⟨hbel.grown hgr2 zr (fun k hk => by simp at hk; omega), .inr ⟨HA.out, _, rfl, HO2.out⟩⟩
    · intro x c kl yd yp w1 cnt1 hkey hlk hv hat hrg1 hlt1 hg1 hs1 hen
      obtain ⟨s, es, rfl, _⟩ := WideMaps.string_of_keyOf Tryz.underlying9 hkey
      obtain rfl : x = s := by injection es
      obtain ⟨c', ec, ey, hc60⟩ := plainElem_string_inv Tryz.underlying9 hv
      obtain rfl : yd = .lit (.string c'.data.toList) := congrArg Prod.fst ey
      obtain rfl : c = c' := by injection ec
      obtain ⟨d, b, hd, hb⟩ := HRD.out.2.1 _ (has_true_of_atKey hat)
      have hat2 := (HRD.out.2.2 d b hb).2 (.map [])
      rw [← hd, hat] at hat2
      have hcb : c.data.toList = b := by
        simp only [DataW.lit.injEq, Lit.string.injEq] at hat2
        exact hat2
      rw [hd] at hlk hrg1
      have hcs : c.size = b.length := by rw [← hcb]; simp
      have hxe : Go.Proofs.YtmpmalcjfckemaaGreatDoor.strOf [d] = x := by rw [← hd]; exact strOf_list' x
      have hce : txt g d = c := by unfold txt; rw [hb]; show Go.Proofs.YtmpmalcjfckemaaGreatDoor.strOf b = c; rw [← hcb]; exact strOf_list' c
      have hrow1 := hrow.kept hg1 (by
        cases hob : u4.ownBlock with
        | none => exact Or.inl rfl
        | some k => exact Or.inr (fun e => row_ne_iter hrow hrg (by rw [hob]; exact e.symm)))
      have hm0 : wr.rangeLeft mb w.heap.size = cnt := hrg.left_eq
      have HM0 := hid hm0
      have HB := hid hb
      have HXE := hid hxe
      have HCE := hid hce
      have hb1 : Below w.heap.size w w1 := hbel.grown hg1 zr (fun k hk => by simp at hk; omega)
      have HCS := hid (HC.out.step (c := d) (by rw [hb]; rfl) hlk)
      have z1 := hb1.size
      clear hm0 hb hxe hce hat hat2 hcb hkey hv hlk hrow hrg hs1 hg1 hd hc60 es ec ey
      by_cases hlong : (60 : Int) < c.size
      · go_wp2_with fail
        exact bodyPost_ret (v := .tuple #[.slice none 0 0, .bool false]) (by simp [results, Tryz.results144, go_sem]) rfl ⟨hb1, .inl ⟨⟨d, b, HB.out, by omega⟩, rfl⟩⟩
      · have HRG1 := hid hrg1
        have HRW1 := hid hrow1
        clear hrg1 hrow1
        go_wp2_with (first
          | (at_builtin; refine wpList_append_lies _ rfl _ _ 132 rfl w.heap.size 176 i0 _ 2 32 Tryz.underlying132 hi0 hz0 hz1 hz2 rfl (by decide) _ _ _ rfl (HRW1.out.alloc _) ⟨w1.heap.size, 0, none⟩ 1 1 [.string x, .string c] rfl rfl ?c1 ?c2 (by decide) ?c3 ?c4 ?c5 (w1.heap.size + 1) (World.size_alloc _ _) ?_)
          | fail)
        case c2 => exact ⟨rfl, rfl⟩
        case c3 => unfold maxLen; omega
        case c4 => omega
        case c5 => omega
        intro g3 cap3 w3 hown3 hg3 hat3 q3
        have HO3 := hid hown3
        clear hown3
        go_wp2_with fail
        go_roundw
        case rel =>
          refine ⟨_, cnt1, ls ++ [d], (HRG1.out.alloc _).kept hg3 (row_ne_low HRW1.out hmb) (row_ne_iter HRW1.out HRG1.out), ?_, HCS, by simp; omega, (hb1.alloc z1 _).grown hg3 (by simp only [World.size_alloc]; omega) (fun k hk => by have := HRW1.out.lt k hk; omega), fun a ha b' hb' => ?_⟩
          · have h := HO3.out
            rw [List.map_append, List.length_append]
            show w3.ownsRow _ _ _ _ (ls.length + 1) (cells2 (ls.map (pr2 (txt g)) ++ [(Go.Proofs.YtmpmalcjfckemaaGreatDoor.strOf [d], txt g d)]))
            rw [cells2_snoc, HXE.out, HCE.out]
            exact h
          · rcases List.mem_append.1 ha with ha | ha
            · exact HL.out a ha b' hb'
            · simp only [List.mem_singleton] at ha
              subst ha
              rw [HB.out] at hb'
              injection hb' with hb'
              subst hb'
              omega
        case measure =>
          rw [HM0.out, ((HRG1.out.alloc _).kept hg3 (row_ne_low HRW1.out hmb) (row_ne_iter HRW1.out HRG1.out)).left_eq]
          exact hlt1

end Go.Proofs.YtmpmalcjfckemaaGreatDoor
