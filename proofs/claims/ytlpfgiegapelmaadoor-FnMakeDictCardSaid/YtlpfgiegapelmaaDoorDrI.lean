/- The program's reader of dictionaries: its steps, its recursion; what it builds in memory. -/
import Derived.Test.YtlpfgiegapelmaaDoorArgsB
import Derived.Test.YtlpfgiegapelmaaDoorDt
import Derived.Deep.RegionWith
import Derived.Deep.AppendLies
import Derived.OwnWalk
import Derived.Maps.AppendAt
namespace Go.Proofs.YtlpfgiegapelmaaDoor
open Go.RowKit
set_option linter.unusedVariables false

/-- A text in a box of its own: what is left to read. -/
def Bx (w : World) (b : Nat) (l : List UInt8) : Prop :=
  ∃ s : ByteArray, w.heap[b]? = some (.cells #[.string s] 9 (0, 0)) ∧ s.data.toList = l ∧ s.size ≤ maxLen
theorem Bx.lt {w : World} {b : Nat} {l : List UInt8} (h : Bx w b l) : b < w.heap.size := by
  obtain ⟨s, h, _⟩ := h
  exact (Array.getElem?_eq_some_iff.1 h).1
theorem Bx.keep {w w' : World} {b : Nat} {l : List UInt8} (h : Bx w b l) (e : w'.heap[b]? = w.heap[b]?) : Bx w' b l := by
  obtain ⟨s, h1, h2⟩ := h
  exact ⟨s, e.trans h1, h2⟩
/-- How much is left. -/
def bxLen (w : World) (b : Nat) : Nat := match w.cell? ⟨b, 0, none⟩ with
  | some (.string s) => s.size
  | _ => 0
theorem Bx.len {w : World} {b : Nat} {l : List UInt8} (h : Bx w b l) : bxLen w b = l.length := by
  obtain ⟨s, h, rfl, _⟩ := h
  unfold bxLen
  rw [show w.cell? ⟨b, 0, none⟩ = some (.string s) from cell_blk h (j := 0) rfl]
  simp

theorem ibD (l : List UInt8) (c : UInt8) : (Lib.indexByte l c < 0) ↔ l.contains c = false := by
  induction l with
  | nil => exact ⟨fun _ => rfl, fun _ => (by decide : (-1 : Int) < 0)⟩
  | cons b l ih =>
    have hge := Lib.indexByte_ge l c
    rw [List.contains_cons]
    unfold Lib.indexByte
    by_cases e : b = c
    · subst e; simp
    · have e1 : (b == c) = false := beq_eq_false_iff_ne.2 e
      have e2 : (c == b) = false := beq_eq_false_iff_ne.2 fun h => e h.symm
      rw [e1, e2, Bool.false_or, ← ih]
      simp only [Bool.false_eq_true, if_false]
      split
      · rename_i h
        have h' : Lib.indexByte l c = -1 := by simpa using h
        rw [h']
      · rename_i h
        have h' : Lib.indexByte l c ≠ -1 := by simpa using h
        omega

set_option maxHeartbeats 400000 in
set_option maxRecDepth 100000 in
theorem dIdx_any (s : ByteArray) (c : UInt8) (w : World) (k : Int) (hk : Hid (Lib.indexByte s.data.toList c = k)) :
    Calls Tryd.prog 90 #[.string s, .int .u8 c.toNat] w fun e w' => e = .returned (.int .i64 k) ∧ w' = w := by
  have hc : (c.toNat : Int).toNat.toUInt8 = c := by simp
  have HC := hid hc
  clear hc
  go_enter Tryd.func90, Tryd.ntmps90
  go_wp2_with (go_at_call 96; refine (stringslite_IndexByte_any _ _ _).mono ?_; rintro e w' ⟨rfl, rfl⟩; rw [HC.out, hk.out])
  go_ret
  exact ⟨rfl, rfl⟩

theorem cf_next (args : Array Value) (w : World) : (callFunc 89 args).run Tryd.prog w = .ok (.enter 89 args) w := by kernel_rfl

/-- What does not begin with one of some bytes. -/
def noTake (wt l : List UInt8) : Prop := match l with
  | [] => True
  | c :: _ => wt.contains c = false

set_option maxHeartbeats 400000 in
set_option maxRecDepth 100000 in
theorem nextD_no (b : Nat) (l : List UInt8) (wt : ByteArray) (w : World) (hb : Bx w b l) (hn : noTake wt.data.toList l) :
    Calls Tryd.prog 89 #[.string wt, .pointer (some ⟨b, 0, none⟩)] w fun e w' => e = .returned (.int .u8 0) ∧ w' = w := by
  obtain ⟨s, hb, hl, hs⟩ := hb
  have hc : w.cell? ⟨b, 0, none⟩ = some (.string s) := cell_blk hb (j := 0) rfl
  rcases l with _ | ⟨c, l⟩
  · have h0 : s.toList.isEmpty = true := by rw [ByteArray.toList_eq, hl]; rfl
    clear hb hl
    go_enter Tryd.func89, Tryd.ntmps89
    go_wp2_with fail
    go_ret
    exact ⟨rfl, rfl⟩
  · have h0 : s.toList.isEmpty = false := by rw [ByteArray.toList_eq, hl]; rfl
    have hz : 0 < s.size := by
      have := congrArg List.length hl
      have e : s.size = s.data.toList.length := by simp
      simp only [List.length_cons] at this
      omega
    have hc0 : s[0] = c := by
      have e : s.data.toList[0]? = some c := by rw [hl]; rfl
      have e2 : s.data.toList[0]? = some s[0] := by
        rw [List.getElem?_eq_getElem (by simpa using hz)]
        rfl
      rw [e2] at e
      injection e
    obtain ⟨k, hk⟩ : ∃ k, Lib.indexByte wt.data.toList s[0] = k := ⟨_, rfl⟩
    have hk0 : k < 0 := by
      rw [← hk, hc0]
      exact (ibD _ _).2 hn
    have HK := hid hk
    clear hb hl hk hc0 hn
    unfold maxLen at hs
    go_enter Tryd.func89, Tryd.ntmps89
    go_wp2_with (go_at_call 90; refine (dIdx_any wt _ _ k HK).mono ?_; rintro e w' ⟨rfl, rfl⟩)
    go_ret
    exact ⟨rfl, rfl⟩

set_option maxHeartbeats 400000 in
set_option maxRecDepth 100000 in
theorem nextD_yes (b : Nat) (c : UInt8) (l : List UInt8) (wt : ByteArray) (w : World) (hb : Bx w b (c :: l)) (hn : wt.data.toList.contains c = true) :
    Calls Tryd.prog 89 #[.string wt, .pointer (some ⟨b, 0, none⟩)] w fun e w' => e = .returned (.int .u8 c.toNat) ∧ But w.heap.size b w w' ∧ Bx w' b l := by
  obtain ⟨s, hb, hl, hs⟩ := hb
  have hc : w.cell? ⟨b, 0, none⟩ = some (.string s) := cell_blk hb (j := 0) rfl
  have hf : w.frozen? ⟨b, 0, none⟩ = false := by unfold World.frozen?; rw [show w.heap[(⟨b, 0, none⟩ : Addr).block]? = _ from hb]; simp
  have h0 : s.toList.isEmpty = false := by rw [ByteArray.toList_eq, hl]; rfl
  have hz : 0 < s.size := by
    have := congrArg List.length hl
    have e : s.size = s.data.toList.length := by simp
    simp only [List.length_cons] at this
    omega
  have hc0 : s[0] = c := by
    have e : s.data.toList[0]? = some c := by rw [hl]; rfl
    have e2 : s.data.toList[0]? = some s[0] := by
      rw [List.getElem?_eq_getElem (by simpa using hz)]
      rfl
    rw [e2] at e
    injection e
  obtain ⟨k, hk⟩ : ∃ k, Lib.indexByte wt.data.toList s[0] = k := ⟨_, rfl⟩
  have hk0 : ¬ k < 0 := by
    rw [← hk, hc0]
    intro h
    rw [(ibD _ _).1 h] at hn
    cases hn
  have HK := hid hk
  have HB := hid hb
  have HL := hid hl
  have HC0 := hid hc0
  have HS := hid hs
  clear hb hl hk hc0 hn
  unfold maxLen at hs
  go_enter Tryd.func89, Tryd.ntmps89
  go_wp2_with (go_at_call 90; refine (dIdx_any wt _ _ k HK).mono ?_; rintro e w' ⟨rfl, rfl⟩)
  go_ret
  refine ⟨by rw [HC0.out]; rfl, (But.refl _ _ _).set _ _, s.extract 1 s.size, ?_, ?_, ?_⟩
  · simp [World.setCell, Array.getElem?_modify, HB.out]
  · rw [Lib.extract_to_end, HL.out]; rfl
  · have e : (s.extract 1 s.size).size = (s.extract 1 s.size).data.toList.length := by simp
    have e2 : s.size = s.data.toList.length := by simp
    have := HS.out
    rw [e, Lib.extract_to_end, List.length_drop]
    rw [e2] at this
    omega

/-! What a dictionary is in memory. -/
mutual
/-- Block a is the dictionary; all its memory lies in blocks of S. -/
def RepD (w : World) (S : Nat → Prop) : Dt → Nat → Prop
  | .nd c ps, a => S a ∧ ∃ pv, w.heap[a]? = some (.cells #[.int .i64 ((c.toNat - 48 : Nat) : Int), pv] 61 (0, 0)) ∧
      ((ps = [] ∧ pv = .slice none 0 0) ∨ ∃ g cap, pv = .slice (some ⟨g, 0, none⟩) ps.length cap ∧ ps.length ≤ cap ∧ S g ∧ RepL w S ps g 0)
/-- The parts, at places of block g. -/
def RepL (w : World) (S : Nat → Prop) : List Dt → Nat → Nat → Prop
  | [], _, _ => True
  | p :: ps, g, i => (∃ a, w.cell? ⟨g, i, none⟩ = some (.pointer (some ⟨a, 0, none⟩)) ∧ RepD w S p a) ∧ RepL w S ps g (i + 1)
end
theorem RepD_nd {w : World} {S : Nat → Prop} {c : UInt8} {ps : List Dt} {a : Nat} : RepD w S (.nd c ps) a ↔ (S a ∧ ∃ pv, w.heap[a]? = some (.cells #[.int .i64 ((c.toNat - 48 : Nat) : Int), pv] 61 (0, 0)) ∧
      ((ps = [] ∧ pv = .slice none 0 0) ∨ ∃ g cap, pv = .slice (some ⟨g, 0, none⟩) ps.length cap ∧ ps.length ≤ cap ∧ S g ∧ RepL w S ps g 0)) := by simp only [RepD]
theorem RepL_iff {w : World} {S : Nat → Prop} {g : Nat} {ps : List Dt} : ∀ {i : Nat}, RepL w S ps g i ↔ ∀ (j : Nat) p, ps[j]? = some p → ∃ a, w.cell? ⟨g, i + j, none⟩ = some (.pointer (some ⟨a, 0, none⟩)) ∧ RepD w S p a := by
  induction ps with
  | nil => intro i; simp [RepL]
  | cons q ps ih =>
    intro i
    simp only [RepL, ih]
    constructor
    · rintro ⟨h1, h2⟩ j p hj
      rcases j with _ | j
      · simp only [List.getElem?_cons_zero, Option.some.injEq] at hj
        subst hj
        exact h1
      · rw [List.getElem?_cons_succ] at hj
        obtain ⟨a, h3, h4⟩ := h2 j p hj
        exact ⟨a, by rw [← h3]; congr 2; omega, h4⟩
    · intro h
      refine ⟨h 0 q rfl, fun j p hj => ?_⟩
      obtain ⟨a, h3, h4⟩ := h (j + 1) p hj
      exact ⟨a, by rw [← h3]; congr 2; omega, h4⟩
theorem RepD.keep {w w' : World} {S S' : Nat → Prop} (h3 : ∀ k, S k → S' k ∧ w'.heap[k]? = w.heap[k]?) (d : Dt) : ∀ a, RepD w S d a → RepD w' S' d a := by
  induction d using Dt.ind with
  | h c ps ih =>
    intro a h
    rw [RepD_nd] at h ⊢
    obtain ⟨ha, pv, hc, hp⟩ := h
    refine ⟨(h3 a ha).1, pv, (h3 a ha).2.trans hc, ?_⟩
    rcases hp with h | ⟨g, cap, e, hcap, hg, hr⟩
    · exact .inl h
    · refine .inr ⟨g, cap, e, hcap, (h3 g hg).1, ?_⟩
      rw [RepL_iff] at hr ⊢
      intro j p hj
      obtain ⟨a', h4, h5⟩ := hr j p hj
      exact ⟨a', (World.cell?_of_block (h3 g hg).2).trans h4, ih p (List.mem_of_getElem? hj) a' h5⟩

/-- The parts read so far, as values. -/
def KidsD (w : World) (S : Nat → Prop) (ps : List Dt) (xs : List Value) : Prop :=
  xs.length = ps.length ∧ ∀ (j : Nat) p, ps[j]? = some p → ∃ a, xs[j]? = some (.pointer (some ⟨a, 0, none⟩)) ∧ RepD w S p a
theorem KidsD.keep {w w' : World} {S S' : Nat → Prop} {ps : List Dt} {xs : List Value} (h : KidsD w S ps xs) (h3 : ∀ k, S k → S' k ∧ w'.heap[k]? = w.heap[k]?) : KidsD w' S' ps xs :=
  ⟨h.1, fun j p hj => by obtain ⟨a, h4, h5⟩ := h.2 j p hj; exact ⟨a, h4, RepD.keep h3 p a h5⟩⟩
theorem KidsD.snoc {w : World} {S : Nat → Prop} {ps : List Dt} {xs : List Value} (h : KidsD w S ps xs) {p : Dt} {a : Nat} (hp : RepD w S p a) : KidsD w S (ps ++ [p]) (xs ++ [.pointer (some ⟨a, 0, none⟩)]) := by
  refine ⟨by simp [h.1], fun j q hj => ?_⟩
  by_cases hjl : j < ps.length
  · rw [List.getElem?_append_left hjl] at hj
    rw [List.getElem?_append_left (by rw [h.1]; exact hjl)]
    exact h.2 j q hj
  · have hj' := (List.getElem?_eq_some_iff.1 hj).1
    simp only [List.length_append, List.length_cons, List.length_nil] at hj'
    have e : j = ps.length := by omega
    subst e
    rw [List.getElem?_append_right (Nat.le_refl _), Nat.sub_self] at hj
    simp only [List.getElem?_cons_zero, Option.some.injEq] at hj
    subst hj
    exact ⟨a, by rw [← h.1, List.getElem?_append_right (Nat.le_refl _), Nat.sub_self]; rfl, hp⟩
theorem dictInfo : (Tryd.prog.info? 55).map (fun i => (i.zero, i.size, i.bytes)) = some (some (.pointer none), 1, 8) := by kernel_rfl
/-- The row of the parts, once all are read. -/
theorem RepD.of {w : World} {S : Nat → Prop} {lo2 n : Nat} {c : UInt8} {ps : List Dt} {xs : List Value} {a : Nat} {pv : Value} (hk : KidsD w S ps xs) (ha : S a) (hc : w.heap[a]? = some (.cells #[.int .i64 ((c.toNat - 48 : Nat) : Int), pv] 61 (0, 0)))
    (hr : w.ownsRow lo2 55 1 pv n xs) (hS : ∀ g, lo2 ≤ g → g < w.heap.size → S g) (hn : n = ps.length) : RepD w S (.nd c ps) a := by
  subst hn
  rw [RepD_nd]
  refine ⟨ha, pv, hc, ?_⟩
  have hcells : ∀ g, pv.ownBlock = some g → ∀ j u, xs[j]? = some u → w.cell? ((⟨g, 0, none⟩ : Addr).add j) = some u := fun g hg => hr.cells hg
  have hl := hr.lt
  obtain ⟨h1, ⟨rfl, h0⟩ | ⟨g, cap, cur, rfl, hb, hg, hnc, _⟩⟩ := hr
  · exact .inl ⟨List.length_eq_zero_iff.1 h0, rfl⟩
  · refine .inr ⟨g, cap, rfl, hnc, hS g (hl g rfl).1 (hl g rfl).2, ?_⟩
    rw [RepL_iff]
    intro j p hj
    obtain ⟨a', h3, h4⟩ := hk.2 j p hj
    have := hcells g rfl j _ h3
    rw [show (⟨g, 0, none⟩ : Addr).add j = ⟨g, 0 + j, none⟩ by unfold Addr.add; split <;> simp_all] at this
    exact ⟨a', this, h4⟩

/-! The reader. -/
/-- What a call of the reader comes to. -/
def DEnd (b : Nat) (w : World) (o : Option (Dt × List UInt8)) (e : Ending) (w' : World) : Prop :=
  But w.heap.size b w w' ∧ ((o = none ∧ ∃ v, e = .returned (.tuple #[v, .bool false])) ∨ ∃ d r a, o = some (d, r) ∧ e = .returned (.tuple #[.pointer (some ⟨a, 0, none⟩), .bool true]) ∧ RepD w' (fun x => w.heap.size ≤ x ∧ x < w'.heap.size) d a ∧ Bx w' b r)
def DsAt (n : Nat) : Prop := ∀ (b : Nat) (l : List UInt8) (w : World), l.length ≤ n → l.length ≤ 1000000 → Bx w b l →
  Calls Tryd.prog 79 #[.func (.func 89) #[] #[.pointer (some ⟨b, 0, none⟩)]] w (DEnd b w (pD n l))

def dgB : ByteArray := { data := #[48, 49, 50, 51, 52, 53, 54, 55, 56, 57] }
theorem dg_contains (c : UInt8) : dgB.data.toList.contains c = isDg c := by
  refine u8_all (p := fun c => dgB.data.toList.contains c = isDg c) ?_ c
  decide +kernel
theorem dg_val {c : UInt8} (h : isDg c = true) : 48 ≤ c.toNat ∧ c.toNat ≤ 57 := by
  unfold isDg at h
  rw [Bool.and_eq_true, decide_eq_true_eq, decide_eq_true_eq] at h
  exact ⟨UInt8.le_iff_toNat_le.1 h.1, UInt8.le_iff_toNat_le.1 h.2⟩

/-- The blocks in which parts may lie. -/
def KS (lo hi a : Nat) (pv : Value) (x : Nat) : Prop := lo ≤ x ∧ x < hi ∧ x ≠ a ∧ pv.ownBlock ≠ some x
/-- A round of the loop over the parts: whether there are more. -/
def DR (w : World) (b a n : Nat) (q : Nat) (l0 : List UInt8) (v : Value) (wr : World) : Prop :=
  ∃ (ps : List Dt) (l : List UInt8) (m k : Nat) (xs : List Value) (pv : Value), But w.heap.size b w wr ∧ Bx wr b l ∧ a < wr.heap.size ∧ wr.heap[a]? = some (.cells #[.int .i64 (q : Int), pv] 61 (0, 0)) ∧
    wr.ownsRow (a + 1) 55 1 pv k xs ∧ k = ps.length ∧ k + l.length ≤ l0.length + 1 ∧ l.length ≤ l0.length ∧ KidsD wr (KS w.heap.size wr.heap.size a pv) ps xs ∧
    ((v = .bool true ∧ l.length < m ∧ k + l.length ≤ l0.length ∧ pLs (pD n) (l0.length + 1) l0 = (pLs (pD n) m l).map fun y => (ps ++ y.1, y.2)) ∨ (v = .bool false ∧ 0 < k ∧ pLs (pD n) (l0.length + 1) l0 = some (ps, l)))
def moreLen (v : Value) (wr : World) (b : Nat) : Nat := match v with
  | .bool true => bxLen wr b + 1
  | _ => 0

theorem pLs_stop {P : List UInt8 → Option (Dt × List UInt8)} {l r : List UInt8} {d : Dt} (m : Nat) (h : P l = some (d, r)) (hn : noTake [44] r) : pLs P (m + 1) l = some ([d], r) := by
  unfold pLs
  rw [h]
  rcases r with _ | ⟨c, r⟩
  · rfl
  · have hc : c ≠ 44 := by
      rintro rfl
      exact absurd hn (by simp [noTake])
    show (if c = 44 then _ else _) = _
    rw [if_neg hc]
theorem pLs_go {P : List UInt8 → Option (Dt × List UInt8)} {l r : List UInt8} {d : Dt} (m : Nat) (h : P l = some (d, 44 :: r)) : pLs P (m + 1) l = (pLs P m r).map fun y => (d :: y.1, y.2) := by
  rw [pLs, h]
  show (if (44 : UInt8) = 44 then (pLs P m r).bind (fun y => some (d :: y.1, y.2)) else some ([d], 44 :: r)) = _
  rw [if_pos rfl]
  rcases pLs P m r with _ | y <;> rfl

set_option maxHeartbeats 4000000 in
set_option maxRecDepth 100000 in
theorem readD_step (n : Nat) (ih : DsAt n) : DsAt (n + 1) := by
  intro b l w hn hlm hb
  obtain ⟨i0, hi0, hz0, hz1, hz2⟩ := info_parts dictInfo
  have hcf := cf_next
  have zr := hb.lt
  rw [pD_succ]
  rcases l with _ | ⟨c, l⟩
  · have HN := hid (nextD_no b [] dgB w hb trivial)
    clear hb
    go_enter Tryd.func79, Tryd.ntmps79
    go_wp2_with fail
    refine HN.out.mono ?_
    rintro e w1 ⟨rfl, rfl⟩
    go_wp2_with fail
    refine bodyPost_ret (v := .tuple #[.pointer none, .bool false]) (by simp [results, Tryd.results79, go_sem]) rfl ?_
    exact ⟨But.refl _ _ _, .inl ⟨rfl, _, rfl⟩⟩
  · rw [pN_cons]
    rcases hdg : isDg c with _ | _
    · have HN := hid (nextD_no b (c :: l) dgB w hb (by show dgB.data.toList.contains c = false; rw [dg_contains, hdg]))
      rw [if_neg (by decide)]
      clear hb hdg
      go_enter Tryd.func79, Tryd.ntmps79
      go_wp2_with fail
      refine HN.out.mono ?_
      rintro e w1 ⟨rfl, rfl⟩
      go_wp2_with fail
      refine bodyPost_ret (v := .tuple #[.pointer none, .bool false]) (by simp [results, Tryd.results79, go_sem]) rfl ?_
      exact ⟨But.refl _ _ _, .inl ⟨rfl, _, rfl⟩⟩
    · have HN := hid (nextD_yes b c l dgB w hb (by rw [dg_contains, hdg]))
      rw [if_pos rfl]
      have hcv := dg_val hdg
      obtain ⟨q, hq⟩ : ∃ q, c.toNat - 48 = q := ⟨_, rfl⟩
      have hcq : c.toNat = 48 + q := by omega
      have hq9 : q ≤ 9 := by omega
      have HQ := hid hq
      have hc0 : ((c.toNat : Int) == 0) = false := by simp; omega
      have hw8 : IntKind.u8.wrap ((c.toNat : Int) - 48) = (q : Int) := by rw [IntKind.wrap_u8]; omega
      have hw64 : IntKind.i64.wrap (q : Int) = (q : Int) := by rw [IntKind.wrap_i64]; omega
      have hll : l.length ≤ n := by simpa using hn
      have hlm : l.length ≤ 1000000 := by simp at hlm; omega
      obtain ⟨X, hX⟩ : ∃ X, pB (pD n) c l = X := ⟨_, rfl⟩
      rw [hX]
      have HX := hid hX
      clear hb hdg hcv hq hcq hX hn
      go_enter Tryd.func79, Tryd.ntmps79
      go_wp2_with fail
      refine HN.out.mono ?_
      rintro e w1 ⟨rfl, hbut, hbx⟩
      have z1 := hbut.size
      have B1 := hid hbut
      have X1 := hid (hbx.keep (Below.heap_alloc w1 (.cells #[.int .i64 (q : Int), .slice none 0 0] 61) b hbx.lt))
      clear hbut hbx
      rcases l with _ | ⟨e, l⟩
      · have HN2 := hid (nextD_no b [] { data := #[40] } _ X1.out trivial)
        go_wp2_with fail
        refine HN2.out.mono ?_
        rintro e w2 ⟨rfl, rfl⟩
        go_wp2_with fail
        refine bodyPost_ret (v := .tuple #[.pointer (some ⟨w1.heap.size, 0, none⟩), .bool true]) (by simp [results, Tryd.results79, go_sem]) rfl ?_
        refine ⟨B1.out.alloc z1 _, .inr ⟨.nd c [], [], w1.heap.size, by rw [← HX.out]; rfl, rfl, ?_, X1.out⟩⟩
        rw [RepD_nd, HQ.out]
        exact ⟨⟨z1, by simp only [World.size_alloc]; omega⟩, _, heap_new1 _ _, .inl ⟨rfl, rfl⟩⟩
      · by_cases he : e = 40
        · subst he
          have HN2 := hid (nextD_yes b 40 l { data := #[40] } _ X1.out (by decide))
          have hln : l.length ≤ n := by simp at hll; omega
          have hlm2 : l.length ≤ 999999 := by simp at hlm; omega
          have hX := HX.out
          rw [pB_cons, if_pos rfl] at hX
          have HX2 := hid hX
          clear hX
          go_wp2_with fail
          refine HN2.out.mono ?_
          rintro e w2 ⟨rfl, hbut2, hbx2⟩
          have z2 := hbut2.size
          simp only [World.size_alloc] at z2
          have B2 := hid ((B1.out.alloc z1 (.cells #[.int .i64 (q : Int), .slice none 0 0] 61)).trans (hbut2.mono (by simp only [World.size_alloc]; omega)))
          have hb1 : b < w1.heap.size := by omega
          have HA := hid ((hbut2.block w1.heap.size (by simp only [World.size_alloc]; omega) (by omega)).trans (heap_new1 w1 (.cells #[.int .i64 (q : Int), .slice none 0 0] 61)))
          have X2 := hid hbx2
          clear hbut2 hbx2
          obtain ⟨a, haz⟩ : ∃ a, w1.heap.size = a := ⟨_, rfl⟩
          rw [haz] at HA ⊢
          go_wp2_with fail
          go_loopw [6] (fun v wr => DR w b a n q l v wr) (fun v wr => moreLen v wr b)
          case atStart =>
            exact ⟨[], l, l.length + 1, 0, [], .slice none 0 0, B2.out, X2.out, by omega, HA.out, World.ownsRow_nil _ _ _ _, rfl, by omega, by omega, ⟨rfl, fun j p hj => by cases hj⟩, .inl ⟨rfl, by omega, by omega, by
              rcases pLs (pD n) (l.length + 1) l with _ | ⟨y1, y2⟩ <;> rfl⟩⟩
          case round =>
            obtain ⟨ps, r, m, k, xs, pv, hbut, hbx, hal, hcell, hrow, hk, hkl, hrl, hkids, hcase⟩ := hrel
            have hlen := hbx.len
            have hab : a ≠ b := by omega
            rcases hcase with ⟨rfl, hm, hkl2, hp⟩ | ⟨rfl, hk0, hp⟩
            · obtain ⟨m, rfl⟩ : ∃ m', m = m' + 1 := ⟨m - 1, by omega⟩
              have HIH := hid (ih b r wr (by omega) (by omega) hbx)
              have HBUT := hid hbut
              have HCELL := hid hcell
              have HROW := hid hrow
              have HKIDS := hid hkids
              have HP := hid hp
              have HK := hid hk
              have HLEN := hid hlen
              have zw := hbut.size
              have hpv := hrow.lt
              have HPV := hid hpv
              clear hbut hbx hcell hrow hkids hp hk hlen hpv
              go_wp2_with fail
              refine HIH.out.mono ?_
              rintro e w3 ⟨hb3, ⟨hn3, v3, rfl⟩ | ⟨d, r2, a2, hs3, rfl, hrep, hbx3⟩⟩
              · go_wp2_with fail
                refine bodyPost_ret (v := .tuple #[.pointer none, .bool false]) (by simp [results, Tryd.results79, go_sem]) rfl ?_
                refine ⟨HBUT.out.trans (hb3.mono zw), .inl ⟨?_, _, rfl⟩⟩
                have h1 : pLs (pD n) (m + 1) r = none := by unfold pLs; rw [hn3]; rfl
                have h2 := HP.out
                rw [h1] at h2
                rw [← HX2.out, h2]
                rfl
              · have z3 := hb3.size
                have HC3 := hid ((hb3.block a hal hab).trans HCELL.out)
                have c3 : w3.cell? ⟨a, 1, none⟩ = some pv := cell_blk HC3.out (j := 1) rfl
                have HROW3 := hid (HROW.out.kept (w' := w3) (row := some b) ⟨hb3.os, hb3.tape, hb3.output, hb3.size, fun k hk hn => hb3.block k hk (fun e => hn (by rw [e]))⟩ (by
                  rcases hv : pv.ownBlock with _ | g
                  · exact .inl rfl
                  · refine .inr fun e => ?_
                    have := (HPV.out g hv).1
                    simp only [Option.some.injEq] at e
                    omega))
                have hrs := pD_shorter hs3
                have B3 := hid (HBUT.out.trans (hb3.mono zw))
                have HK3 := hid ((HKIDS.out.keep (S' := KS w.heap.size w3.heap.size a pv) (w' := w3) fun x hx => ⟨⟨hx.1, by have := hx.2.1; omega, hx.2.2⟩, hb3.block x hx.2.1 (by have := hx.1; omega)⟩).snoc (RepD.keep (w' := w3) (S' := KS w.heap.size w3.heap.size a pv) (fun x hx => ⟨⟨by have := hx.1; omega, hx.2, by have := hx.1; omega, fun e => by have := (HPV.out x e).2; have := hx.1; omega⟩, rfl⟩) d a2 hrep))
                have X3 := hid hbx3
                have HS3 := hid hs3
                clear hb3 hrep hbx3 hs3
                go_wp2_with (first
                  | (at_builtin; refine wpList_append_lies _ rfl _ _ 59 rfl (a + 1) 55 i0 _ 1 8 Tryd.underlying59 hi0 hz0 hz1 hz2 rfl (by decide) pv k xs rfl (World.ownsRow.alloc HROW3.out _) ⟨w3.heap.size, 0, none⟩ 1 1 [.pointer (some ⟨a2, 0, none⟩)] rfl rfl ?c1 ?c2 (by decide) ?c3 ?c4 ?c5 (w3.heap.size + 1) (World.size_alloc _ _) ?_)
                  | fail)
                case c1 => exact World.news_of_block (heap_alloc_new w3 _)
                case c2 => simp [Value.oneCell']
                case c3 => unfold maxLen; omega
                case c4 => omega
                case c5 => simp only [World.size_alloc]; omega
                intro g4 cap4 w4 hown4 hg4 hat4 q4
                have z4 := hg4.size
                simp only [World.size_alloc] at z4
                have hna : some a ≠ pv.ownBlock := fun e => by have := (HPV.out a e.symm).1; omega
                have hnb : some b ≠ pv.ownBlock := fun e => by have := (HPV.out b e.symm).1; omega
                have ha4 : w4.heap[a]? = some (.cells #[.int .i64 (q : Int), pv] 61 (0, 0)) := (hg4.block a (by simp only [World.size_alloc]; omega) hna).trans ((Below.heap_alloc _ _ _ (by omega)).trans HC3.out)
                have f4 : w4.frozen? ⟨a, 1, none⟩ = false := by unfold World.frozen?; rw [show w4.heap[(⟨a, 1, none⟩ : Addr).block]? = _ from ha4]; simp
                have HA4 := hid ha4
                have c4 : w4.cell? ⟨a, 1, none⟩ = some pv := cell_blk ha4 (j := 1) rfl
                have X5 := hid (X3.out.keep (w' := w4.setCell ⟨a, 1, none⟩ (.slice (some ⟨g4, 0, none⟩) (k + 1) cap4)) ((Below.heap_setCell _ _ _ _ (by show b ≠ a; omega)).trans ((hg4.block b (by simp only [World.size_alloc]; omega) hnb).trans (Below.heap_alloc _ _ _ (by omega)))))
                have B5 := hid ((B3.out.trans ((But.of_below (((Below.refl w.heap.size w3).alloc (by omega) (.cells #[.pointer (some ⟨a2, 0, none⟩)] 55)).grown hg4 (by simp only [World.size_alloc]; omega) (fun j hj => by have := (HPV.out j hj).1; omega)) : But w.heap.size b w3 w4))).setAt (p := ⟨a, 1, none⟩) (by show w.heap.size ≤ a; omega) (.slice (some ⟨g4, 0, none⟩) (k + 1) cap4))
                have HO5 := hid (ownsRow_setCell_below hown4 (a := ⟨a, 1, none⟩) (by show a < a + 1; omega) (.slice (some ⟨g4, 0, none⟩) (k + 1) cap4))
                have HA5 := hid (show (w4.setCell ⟨a, 1, none⟩ (.slice (some ⟨g4, 0, none⟩) (k + 1) cap4)).heap[a]? = some (.cells #[.int .i64 (q : Int), .slice (some ⟨g4, 0, none⟩) (k + 1) cap4] 61 (0, 0)) by simp [World.setCell, Array.getElem?_modify, ha4])
                have HK5 := hid (HK3.out.keep (S' := KS w.heap.size w4.heap.size a (.slice (some ⟨g4, 0, none⟩) (k + 1) cap4)) (w' := w4.setCell ⟨a, 1, none⟩ (.slice (some ⟨g4, 0, none⟩) (k + 1) cap4)) fun x hx => ⟨⟨hx.1, by have := hx.2.1; omega, hx.2.2.1, fun e => by
                  have e : g4 = x := by simpa [Value.ownBlock] using e
                  subst e
                  rcases hat4 with h | h
                  · exact hx.2.2.2 h
                  · have := hx.2.1; omega⟩, (Below.heap_setCell _ _ _ _ (by show x ≠ a; exact hx.2.2.1)).trans ((hg4.block x (by have := hx.2.1; simp only [World.size_alloc]; omega) (fun e => hx.2.2.2 e.symm)).trans (Below.heap_alloc _ _ _ hx.2.1))⟩)
                have hsz5 : (w4.setCell ⟨a, 1, none⟩ (.slice (some ⟨g4, 0, none⟩) (k + 1) cap4)).heap.size = w4.heap.size := by simp [World.setCell]
                have HSZ5 := hid hsz5
                clear hown4 hg4 ha4 hsz5 c3
                by_cases hnt : noTake [44] r2
                · have HN3 := hid (nextD_no b r2 { data := #[44] } _ X5.out hnt)
                  have HT := hid (pLs_stop m HS3.out hnt)
                  go_wp2_with fail
                  refine HN3.out.mono ?_
                  rintro e w6 ⟨rfl, rfl⟩
                  go_wp2_with fail
                  go_roundw
                  case rel =>
                    refine ⟨ps ++ [d], r2, m, k + 1, xs ++ [.pointer (some ⟨a2, 0, none⟩)], _, B5.out, X5.out, by rw [HSZ5.out]; omega, HA5.out, HO5.out, by rw [List.length_append, ← HK.out]; rfl, by omega, by omega, by rw [HSZ5.out]; exact HK5.out, .inr ⟨rfl, by omega, ?_⟩⟩
                    rw [HP.out, HT.out]
                    rfl
                  case measure =>
                    show moreLen _ _ b < moreLen _ _ b
                    simp only [moreLen]
                    omega
                · obtain ⟨r3, rfl⟩ : ∃ r3, r2 = 44 :: r3 := by
                    rcases r2 with _ | ⟨x, r3⟩
                    · exact absurd trivial hnt
                    · have hx : x = 44 := by
                        by_cases hx : x = 44
                        · exact hx
                        · exact absurd (show [44].contains x = false by simp [hx]) hnt
                      exact ⟨r3, by rw [hx]⟩
                  have HN3 := hid (nextD_yes b 44 r3 { data := #[44] } _ X5.out (by decide))
                  have HT := hid (pLs_go m HS3.out)
                  go_wp2_with fail
                  refine HN3.out.mono ?_
                  rintro e w6 ⟨rfl, hb6, hbx6⟩
                  have z6 := hb6.size
                  have hz5 := HSZ5.out
                  have X6 := hid hbx6
                  have HB6 := hid hb6
                  clear hb6 hbx6
                  go_wp2_with fail
                  go_roundw
                  case rel =>
                    have hb6 := HB6.out
                    refine ⟨ps ++ [d], r3, m, k + 1, xs ++ [.pointer (some ⟨a2, 0, none⟩)], .slice (some ⟨g4, 0, none⟩) (k + 1) cap4, B5.out.trans (hb6.mono (by omega)), X6.out, by omega, (hb6.block a (by omega) (by omega)).trans HA5.out, ?_, by rw [List.length_append, ← HK.out]; rfl, by simp at hrs; omega, by simp at hrs; omega, ?_, .inl ⟨rfl, by simp at hrs; omega, by simp at hrs; omega, ?_⟩⟩
                    · refine own_kept HO5.out (hb6.block g4 (by omega) ?_)
                      have := (HO5.out.lt g4 rfl).1
                      omega
                    · refine HK5.out.keep fun x hx => ⟨⟨hx.1, by have := hx.2.1; omega, hx.2.2⟩, hb6.block x (by have := hx.2.1; omega) (by have := hx.1; omega)⟩
                    · rw [HP.out, HT.out]
                      rcases pLs (pD n) m r3 with _ | y
                      · rfl
                      · show some (ps ++ d :: y.1, y.2) = some (ps ++ [d] ++ y.1, y.2)
                        rw [List.append_assoc]
                        rfl
                  case measure =>
                    show moreLen _ _ b < moreLen _ _ b
                    have := X6.out.len
                    simp only [moreLen, HLEN.out, X6.out.len]
                    simp at hrs
                    omega
            · have zw := hbut.size
              have HCELL := hid hcell
              have hpv := hrow.lt
              rw [hp] at HX2
              have HROW := hid hrow
              have HKIDS := hid hkids
              have HBUT := hid hbut
              have HK := hid hk
              obtain ⟨g, cap, rfl, hg1, hg2⟩ := hrow.form hk0
              have HBX := hid hbx
              by_cases hnt : noTake [41] r
              · have hXn : X = none := by
                  rw [← HX2.out]
                  rcases r with _ | ⟨x, r⟩
                  · rfl
                  · have hx : x ≠ 41 := by
                      rintro rfl
                      exact absurd hnt (by simp [noTake])
                    show (if x = 41 ∧ _ then _ else _) = _
                    rw [if_neg (fun h => hx h.1)]
                subst hXn
                clear hbut hbx hcell hrow hkids hp hk hlen hpv
                go_wp2_with fail
                first | (go_region_with (refine (nextD_no b r { data := #[41] } wr.drew (HBX.out.keep rfl) hnt).mono ?_; rintro e w6 ⟨rfl, rfl⟩)) | fail
                all_goals
                  go_wp2_with fail
                  refine bodyPost_ret (v := .tuple #[.pointer (some ⟨a, 0, none⟩), .bool false]) (by simp [results, Tryd.results79, go_sem]) rfl ?_
                  exact ⟨HBUT.out.drew, .inl ⟨rfl, _, rfl⟩⟩
              · obtain ⟨r3, rfl⟩ : ∃ r3, r = 41 :: r3 := by
                  rcases r with _ | ⟨x, r3⟩
                  · exact absurd trivial hnt
                  · have hx : x = 41 := by
                      by_cases hx : x = 41
                      · exact hx
                      · exact absurd (show [41].contains x = false by simp [hx]) hnt
                    exact ⟨r3, by rw [hx]⟩
                have HPS := hid (show X = if ps.length ≤ 3 then some (.nd c ps, r3) else none by
                  rw [← HX2.out]
                  show (if (41 : UInt8) = 41 ∧ ps.length ≤ 3 then _ else _) = _
                  by_cases h3 : ps.length ≤ 3
                  · rw [if_pos h3, if_pos ⟨rfl, h3⟩]
                  · rw [if_neg h3, if_neg (fun h => h3 h.2)])
                clear hbut hbx hcell hrow hkids hp hk hlen hpv hnt
                go_wp2_with fail
                by_cases h3 : k ≤ 3
                · have hk3 : (k : Int) ≤ 3 := by omega
                  go_region_with (refine (nextD_yes b 41 r3 { data := #[41] } wr.drew (HBX.out.keep rfl) (by decide)).mono ?_; rintro e w6 ⟨rfl, hb6, hbx6⟩; have HB6 : Hid (But wr.heap.size b wr w6) := ⟨hb6.os, hb6.tape, hb6.output, hb6.size, hb6.block⟩; have c6 : w6.cell? ⟨a, 1, none⟩ = some (.slice (some ⟨g, 0, none⟩) k cap) := cell_blk ((HB6.out.block a hal hab).trans HCELL.out) (j := 1) rfl; clear hb6)
                  all_goals
                    go_wp2_with fail
                    refine bodyPost_ret (v := .tuple #[.pointer (some ⟨a, 0, none⟩), .bool true]) (by simp [results, Tryd.results79, go_sem]) rfl ?_
                    have hb6 := HB6.out
                    have z6 := hb6.size
                    refine ⟨HBUT.out.trans (hb6.mono zw), .inr ⟨.nd c ps, r3, a, by rw [HPS.out, if_pos (by have := HK.out; omega)], rfl, ?_, hbx6⟩⟩
                    refine RepD.of (lo2 := a + 1) (HKIDS.out.keep fun x hx => ⟨⟨hx.1, by have := hx.2.1; omega⟩, hb6.block x hx.2.1 (by have := hx.1; omega)⟩) ⟨by omega, by omega⟩ ?_ (own_kept HROW.out (hb6.block g hg2 (by omega))) (fun x h1 h2 => ⟨by omega, h2⟩) HK.out
                    rw [HQ.out]
                    exact (hb6.block a hal hab).trans HCELL.out
                · have hk3 : ¬ (k : Int) ≤ 3 := by omega
                  go_region_with (refine (nextD_yes b 41 r3 { data := #[41] } wr.drew (HBX.out.keep rfl) (by decide)).mono ?_; rintro e w6 ⟨rfl, hb6, hbx6⟩; have HB6 : Hid (But wr.heap.size b wr w6) := ⟨hb6.os, hb6.tape, hb6.output, hb6.size, hb6.block⟩; have c6 : w6.cell? ⟨a, 1, none⟩ = some (.slice (some ⟨g, 0, none⟩) k cap) := cell_blk ((HB6.out.block a hal hab).trans HCELL.out) (j := 1) rfl; clear hb6)
                  all_goals
                    go_wp2_with fail
                    refine bodyPost_ret (v := .tuple #[.pointer (some ⟨a, 0, none⟩), .bool false]) (by simp [results, Tryd.results79, go_sem]; omega) rfl ?_
                    exact ⟨HBUT.out.trans (HB6.out.mono zw), .inl ⟨by rw [HPS.out, if_neg (by have := HK.out; omega)], _, rfl⟩⟩
        · have HN2 := hid (nextD_no b (e :: l) { data := #[40] } _ X1.out (show [40].contains e = false by simp [he]))
          go_wp2_with fail
          refine HN2.out.mono ?_
          rintro e' w2 ⟨rfl, rfl⟩
          go_wp2_with fail
          refine bodyPost_ret (v := .tuple #[.pointer (some ⟨w1.heap.size, 0, none⟩), .bool true]) (by simp [results, Tryd.results79, go_sem]) rfl ?_
          refine ⟨B1.out.alloc z1 _, .inr ⟨.nd c [], e :: l, w1.heap.size, by rw [← HX.out, pB_cons, if_neg he], rfl, ?_, X1.out⟩⟩
          rw [RepD_nd, HQ.out]
          exact ⟨⟨z1, by simp only [World.size_alloc]; omega⟩, _, heap_new1 _ _, .inl ⟨rfl, rfl⟩⟩

theorem readD_zero : DsAt 0 := by
  intro b l w hn hlm hb
  have hl : l = [] := List.length_eq_zero_iff.1 (by omega)
  subst hl
  have hcf := cf_next
  have HN := hid (nextD_no b [] dgB w hb trivial)
  go_enter Tryd.func79, Tryd.ntmps79
  go_wp2_with fail
  refine HN.out.mono ?_
  rintro e w1 ⟨rfl, rfl⟩
  go_wp2_with fail
  refine bodyPost_ret (v := .tuple #[.pointer none, .bool false]) (by simp [results, Tryd.results79, go_sem]) rfl ?_
  exact ⟨But.refl _ _ _, .inl ⟨rfl, _, rfl⟩⟩
theorem readD_any (n : Nat) : DsAt n := by
  induction n with
  | zero => exact readD_zero
  | succ n ih => exact readD_step n ih

end Go.Proofs.YtlpfgiegapelmaaDoor
