/- The model's reader of dictionaries: its steps, its recursion; l6Read. -/
import Derived.Test.YtlpfgiegapelmaaDoorDrI
import Derived.Deep.LoopGhost
import Derived.Test.YtlpfgiegapelmaaDoorLoose
import Derived.Deep.Cut
namespace Go.Proofs.YtlpfgiegapelmaaDoor
open Go.RowKit
set_option linter.unusedVariables false

/-- The model's reader at block rb: its text, how far it is, whether it has failed. -/
def R6 (w : World) (rb : Nat) (s : ByteArray) (k : Nat) (bad : Bool) : Prop :=
  w.heap[rb]? = some (.cells #[.string s, .int .i64 k, .bool bad] 96 (0, 0))
theorem R6.lt {w : World} {rb : Nat} {s : ByteArray} {k : Nat} {bad : Bool} (h : R6 w rb s k bad) : rb < w.heap.size := (Array.getElem?_eq_some_iff.1 h).1
theorem R6.keep {w w' : World} {rb : Nat} {s : ByteArray} {k : Nat} {bad : Bool} (h : R6 w rb s k bad) (e : w'.heap[rb]? = w.heap[rb]?) : R6 w' rb s k bad := e.trans h
theorem R6.c0 {w : World} {rb : Nat} {s : ByteArray} {k : Nat} {bad : Bool} (h : R6 w rb s k bad) : w.cell? ⟨rb, 0, none⟩ = some (.string s) := cell_blk h (j := 0) rfl
theorem R6.c1 {w : World} {rb : Nat} {s : ByteArray} {k : Nat} {bad : Bool} (h : R6 w rb s k bad) : w.cell? ⟨rb, 1, none⟩ = some (.int .i64 k) := cell_blk h (j := 1) rfl
theorem R6.c2 {w : World} {rb : Nat} {s : ByteArray} {k : Nat} {bad : Bool} (h : R6 w rb s k bad) : w.cell? ⟨rb, 2, none⟩ = some (.bool bad) := cell_blk h (j := 2) rfl
theorem R6.f {w : World} {rb : Nat} {s : ByteArray} {k : Nat} {bad : Bool} (h : R6 w rb s k bad) (o : Nat) : w.frozen? ⟨rb, o, none⟩ = false := by
  unfold World.frozen?; rw [show w.heap[(⟨rb, o, none⟩ : Addr).block]? = _ from h]; simp
theorem R6.step {w : World} {rb : Nat} {s : ByteArray} {k k' : Nat} {bad : Bool} (h : R6 w rb s k bad) (e : ((k' : Nat) : Int) = (k : Int) + 1) : R6 (w.setCell ⟨rb, 1, none⟩ (.int .i64 ((k : Int) + 1))) rb s k' bad := by
  unfold R6 at h ⊢
  simp [World.setCell, Array.getElem?_modify, h, e]
theorem R6.fail {w : World} {rb : Nat} {s : ByteArray} {k : Nat} {bad : Bool} (h : R6 w rb s k bad) (b : Bool) : R6 (w.setCell ⟨rb, 2, none⟩ (.bool b)) rb s k b := by
  unfold R6 at h ⊢
  simp [World.setCell, Array.getElem?_modify, h]
theorem drop_cons {s : ByteArray} {k : Nat} {c : UInt8} {l : List UInt8} (h : s.data.toList.drop k = c :: l) : ∃ hk : k < s.size, s[k] = c ∧ s.data.toList.drop (k + 1) = l := by
  have hz : s.size = s.data.toList.length := by simp
  have hk : k < s.data.toList.length := by
    have := congrArg List.length h
    rw [List.length_drop] at this
    simp only [List.length_cons] at this
    omega
  rw [List.drop_eq_getElem_cons hk] at h
  injection h with h1 h2
  exact ⟨by omega, h1, h2⟩
theorem drop_nil {s : ByteArray} {k : Nat} (h : s.data.toList.drop k = []) : s.size ≤ k := by
  have hz : s.size = s.data.toList.length := by simp
  have := congrArg List.length h
  rw [List.length_drop] at this
  simp only [List.length_nil] at this
  omega

/-- The same memory. -/
def Sm (w W : World) : Prop := W.heap = w.heap ∧ W.os = w.os ∧ W.tape = w.tape ∧ W.output = w.output
theorem Sm.refl (w : World) : Sm w w := ⟨rfl, rfl, rfl, rfl⟩
theorem Sm.drew {w W : World} (h : Sm w W) : Sm w W.drew := h
theorem Sm.keepR {w W : World} (h : Sm w W) {rb : Nat} {s : ByteArray} {k : Nat} {bad : Bool} (hr : R6 w rb s k bad) : R6 W rb s k bad := hr.keep (by rw [h.1])
theorem Sm.but {w W : World} (h : Sm w W) (B rb : Nat) : But B rb w W := ⟨h.2.1, h.2.2.1, h.2.2.2, by rw [h.1]; exact Nat.le_refl _, fun k _ _ => by rw [h.1]⟩
theorem Sm.size {w W : World} (h : Sm w W) : W.heap.size = w.heap.size := by rw [h.1]
theorem Sm.trans {a b c : World} (h : Sm a b) (k : Sm b c) : Sm a c := ⟨k.1.trans h.1, k.2.1.trans h.2.1, k.2.2.1.trans h.2.2.1, k.2.2.2.trans h.2.2.2⟩

set_option maxHeartbeats 400000 in
theorem isS_no (rb : Nat) (s : ByteArray) (k : Nat) (bad : Bool) (c : UInt8) (w : World) (hr : R6 w rb s k bad) (hs : s.size ≤ maxLen) (hn : noTake [c] (s.data.toList.drop k)) :
    Calls Tryd.prog 91 #[.pointer (some ⟨rb, 0, none⟩), .int .u8 c.toNat] w fun e w' => e = .returned (.bool false) ∧ Sm w w' := by
  obtain ⟨C, HCl⟩ : ∃ C : World → Prop, Hid (∀ W, C W ↔ Sm w W) := ⟨_, hid fun _ => Iff.rfl⟩
  have HCC := hid (fun (W : World) (hW : C W) => show W.cell? ⟨rb, 0, none⟩ = some (.string s) ∧ W.cell? ⟨rb, 1, none⟩ = some (.int .i64 k) from by
    have h := ((HCl.out W).1 hW).keepR hr
    exact ⟨h.c0, h.c1⟩)
  have HC1 := hid ((HCl.out w.drew).2 (Sm.refl w).drew)
  clear hr
  unfold maxLen at hs
  rcases hd : s.data.toList.drop k with _ | ⟨x, l⟩
  · have hk := drop_nil hd
    have hki : decide (k < s.size) = false := decide_eq_false (by omega)
    clear hn hd
    go_enter Tryd.func91, Tryd.ntmps91
    go_wp2_with fail
    refine wp_region_loose (C := C) 22 (by kernel_rfl) (by kernel_rfl) HC1.out ?_
    simp only [List.take_succ_cons, List.take_zero]
    refine walk_by fun W hnil hval hcall hany hskip => ?_
    iterate 22 (first
      | (refine hval _ _ _ _ (fun _ => by rfl) ⟨_, fun q hq w' hw' => by
           obtain ⟨x0, x1⟩ := HCC.out w' hw'
           first | (go_simp; done) | (go_simp; rfl), ?_⟩
         simp only [Act.put, List.setIfInBounds_toArray, List.set_cons_zero, List.set_cons_succ])
      | (refine hskip _ _ _ _ (fun _ => by rfl) ?_
         simp only [Act.put, List.setIfInBounds_toArray, List.set_cons_zero, List.set_cons_succ]))
    refine hnil _ _ ?_
    intro qv hqv w' hw'
    simp only [List.drop_succ_cons, List.drop_zero]
    have HW := hid ((HCl.out w').1 hw')
    clear hnil hval hcall hany hskip HCC hw'
    go_wp2_with fail
    go_ret
    exact ⟨rfl, HW.out⟩
  · obtain ⟨hk, hx, _⟩ := drop_cons hd
    rw [hd] at hn
    have hne : ((s[k].toNat : Int) == (c.toNat : Int)) = false := by
      rw [beq_eq_false_iff_ne]
      intro e
      have : x = c := by rw [← hx]; exact UInt8.toNat_inj.1 (by omega)
      subst this
      revert hn
      simp [noTake]
    have hki : decide (k < s.size) = true := decide_eq_true hk
    clear hn hd hx
    go_enter Tryd.func91, Tryd.ntmps91
    go_wp2_with fail
    refine wp_region_loose (C := C) 22 (by kernel_rfl) (by kernel_rfl) HC1.out ?_
    simp only [List.take_succ_cons, List.take_zero]
    refine walk_by fun W hnil hval hcall hany hskip => ?_
    iterate 22 (first
      | (refine hval _ _ _ _ (fun _ => by rfl) ⟨_, fun q hq w' hw' => by
           obtain ⟨x0, x1⟩ := HCC.out w' hw'
           first | (go_simp; done) | (go_simp; rfl), ?_⟩
         simp only [Act.put, List.setIfInBounds_toArray, List.set_cons_zero, List.set_cons_succ])
      | (refine hskip _ _ _ _ (fun _ => by rfl) ?_
         simp only [Act.put, List.setIfInBounds_toArray, List.set_cons_zero, List.set_cons_succ]))
    refine hnil _ _ ?_
    intro qv hqv w' hw'
    simp only [List.drop_succ_cons, List.drop_zero]
    have HW := hid ((HCl.out w').1 hw')
    clear hnil hval hcall hany hskip HCC hw'
    go_wp2_with fail
    go_ret
    exact ⟨rfl, HW.out⟩

set_option maxHeartbeats 400000 in
theorem isS_yes (rb : Nat) (s : ByteArray) (k : Nat) (bad : Bool) (c : UInt8) (l : List UInt8) (w : World) (hr : R6 w rb s k bad) (hs : s.size ≤ maxLen) (hd : s.data.toList.drop k = c :: l) :
    Calls Tryd.prog 91 #[.pointer (some ⟨rb, 0, none⟩), .int .u8 c.toNat] w fun e w' => e = .returned (.bool true) ∧ But w.heap.size rb w w' ∧ R6 w' rb s (k + 1) bad := by
  obtain ⟨C, HCl⟩ : ∃ C : World → Prop, Hid (∀ W, C W ↔ Sm w W) := ⟨_, hid fun _ => Iff.rfl⟩
  have HCC := hid (fun (W : World) (hW : C W) => show W.cell? ⟨rb, 0, none⟩ = some (.string s) ∧ W.cell? ⟨rb, 1, none⟩ = some (.int .i64 k) from by
    have h := ((HCl.out W).1 hW).keepR hr
    exact ⟨h.c0, h.c1⟩)
  have HC1 := hid ((HCl.out w.drew).2 (Sm.refl w).drew)
  have HR := hid hr
  clear hr
  unfold maxLen at hs
  obtain ⟨hk, hx, _⟩ := drop_cons hd
  have hne : ((s[k].toNat : Int) == (c.toNat : Int)) = true := by rw [hx]; simp
  have hki : decide (k < s.size) = true := decide_eq_true hk
  clear hd hx
  go_enter Tryd.func91, Tryd.ntmps91
  go_wp2_with fail
  refine wp_region_loose (C := C) 22 (by kernel_rfl) (by kernel_rfl) HC1.out ?_
  simp only [List.take_succ_cons, List.take_zero]
  refine walk_by fun W hnil hval hcall hany hskip => ?_
  iterate 22 (first
    | (refine hval _ _ _ _ (fun _ => by rfl) ⟨_, fun q hq w' hw' => by
         obtain ⟨x0, x1⟩ := HCC.out w' hw'
         first | (go_simp; done) | (go_simp; rfl), ?_⟩
       simp only [Act.put, List.setIfInBounds_toArray, List.set_cons_zero, List.set_cons_succ])
    | (refine hskip _ _ _ _ (fun _ => by rfl) ?_
       simp only [Act.put, List.setIfInBounds_toArray, List.set_cons_zero, List.set_cons_succ]))
  refine hnil _ _ ?_
  intro qv hqv w' hw'
  simp only [List.drop_succ_cons, List.drop_zero]
  have HW := hid ((HCl.out w').1 hw')
  have HR2 := hid (HW.out.keepR HR.out)
  have h1 := HR2.out.c1
  have f1 := HR2.out.f 1
  clear hnil hval hcall hany hskip HCC hw'
  go_wp2_with fail
  go_ret
  refine ⟨rfl, ?_, ?_⟩
  · exact (HW.out.but _ _).set _ _
  · exact HR2.out.step (by omega)

set_option maxHeartbeats 400000 in
theorem l1InD_any (n lo hi : Int) (w : World) : Calls Tryd.prog 61 #[.int .i64 n, .int .i64 lo, .int .i64 hi] w fun e w' => e = .returned (.bool (decide (lo ≤ n) && decide (n ≤ hi))) ∧ w' = w := by
  by_cases h1 : lo ≤ n
  · by_cases h2 : n ≤ hi
    · go_enter Tryd.func61, Tryd.ntmps61
      go_wp2_with fail
      go_ret
      exact ⟨by rw [decide_eq_true h1, decide_eq_true h2]; rfl, rfl⟩
    · go_enter Tryd.func61, Tryd.ntmps61
      go_wp2_with fail
      go_ret
      exact ⟨by rw [decide_eq_false (show ¬ n ≤ hi by omega)]; simp, rfl⟩
  · go_enter Tryd.func61, Tryd.ntmps61
    go_wp2_with fail
    go_ret
    exact ⟨by rw [decide_eq_false (show ¬ lo ≤ n by omega)]; rfl, rfl⟩
theorem l1InD_at (n lo hi : Int) (w : World) (v : Bool) (h : Hid ((decide (lo ≤ n) && decide (n ≤ hi)) = v)) : Calls Tryd.prog 61 #[.int .i64 n, .int .i64 lo, .int .i64 hi] w fun e w' => e = .returned (.bool v) ∧ w' = w := by
  rw [← h.out]; exact l1InD_any n lo hi w

/-! What a dictionary of the model is in memory. -/
mutual
/-- (h, p) are the two fields of the dictionary; its memory lies in blocks of S. -/
def RepM (w : World) (S : Nat → Prop) : Dt → Value → Value → Prop
  | .nd c ps, h, p => h = .int .i64 ((c.toNat - 48 : Nat) : Int) ∧ ∃ A cap, p = .slice A ps.length cap ∧ ps.length ≤ cap ∧ (ps = [] ∨ ∃ g, A = some ⟨g, 0, none⟩ ∧ S g ∧ RepML w S ps g 0)
def RepML (w : World) (S : Nat → Prop) : List Dt → Nat → Nat → Prop
  | [], _, _ => True
  | p :: ps, g, i => (∃ x y, w.cell? ⟨g, i * 2, none⟩ = some x ∧ w.cell? ⟨g, i * 2 + 1, none⟩ = some y ∧ RepM w S p x y) ∧ RepML w S ps g (i + 1)
end
theorem RepM_nd {w : World} {S : Nat → Prop} {c : UInt8} {ps : List Dt} {h p : Value} : RepM w S (.nd c ps) h p ↔ (h = .int .i64 ((c.toNat - 48 : Nat) : Int) ∧ ∃ A cap, p = .slice A ps.length cap ∧ ps.length ≤ cap ∧ (ps = [] ∨ ∃ g, A = some ⟨g, 0, none⟩ ∧ S g ∧ RepML w S ps g 0)) := by simp only [RepM]
theorem RepML_iff {w : World} {S : Nat → Prop} {g : Nat} {ps : List Dt} : ∀ {i : Nat}, RepML w S ps g i ↔ ∀ (j : Nat) p, ps[j]? = some p → ∃ x y, w.cell? ⟨g, (i + j) * 2, none⟩ = some x ∧ w.cell? ⟨g, (i + j) * 2 + 1, none⟩ = some y ∧ RepM w S p x y := by
  induction ps with
  | nil => intro i; simp [RepML]
  | cons q ps ih =>
    intro i
    simp only [RepML, ih]
    constructor
    · rintro ⟨h1, h2⟩ j p hj
      rcases j with _ | j
      · simp only [List.getElem?_cons_zero, Option.some.injEq] at hj
        subst hj
        exact h1
      · rw [List.getElem?_cons_succ] at hj
        obtain ⟨x, y, h3, h4, h5⟩ := h2 j p hj
        exact ⟨x, y, by rw [← h3]; congr 3; omega, by rw [← h4]; congr 4; omega, h5⟩
    · intro h
      refine ⟨h 0 q rfl, fun j p hj => ?_⟩
      obtain ⟨x, y, h3, h4, h5⟩ := h (j + 1) p hj
      exact ⟨x, y, by rw [← h3]; congr 3; omega, by rw [← h4]; congr 4; omega, h5⟩
theorem RepM.keep {w w' : World} {S S' : Nat → Prop} (h3 : ∀ k, S k → S' k ∧ w'.heap[k]? = w.heap[k]?) (d : Dt) : ∀ h p, RepM w S d h p → RepM w' S' d h p := by
  induction d using Dt.ind with
  | h c ps ih =>
    intro h p hr
    rw [RepM_nd] at hr ⊢
    obtain ⟨hh, A, cap, e, hcap, hp⟩ := hr
    refine ⟨hh, A, cap, e, hcap, ?_⟩
    rcases hp with h | ⟨g, e, hg, hr⟩
    · exact .inl h
    · refine .inr ⟨g, e, (h3 g hg).1, ?_⟩
      rw [RepML_iff] at hr ⊢
      intro j p hj
      obtain ⟨x, y, h4, h5, h6⟩ := hr j p hj
      exact ⟨x, y, (World.cell?_of_block (h3 g hg).2).trans h4, (World.cell?_of_block (h3 g hg).2).trans h5, ih p (List.mem_of_getElem? hj) x y h6⟩
/-- The parts read so far, as values, two cells each. -/
def KidsM (w : World) (S : Nat → Prop) (ps : List Dt) (xs : List Value) : Prop :=
  xs.length = ps.length * 2 ∧ ∀ (j : Nat) p, ps[j]? = some p → ∃ x y, xs[j * 2]? = some x ∧ xs[j * 2 + 1]? = some y ∧ RepM w S p x y
theorem KidsM.keep {w w' : World} {S S' : Nat → Prop} {ps : List Dt} {xs : List Value} (h : KidsM w S ps xs) (h3 : ∀ k, S k → S' k ∧ w'.heap[k]? = w.heap[k]?) : KidsM w' S' ps xs :=
  ⟨h.1, fun j p hj => by obtain ⟨x, y, h4, h5, h6⟩ := h.2 j p hj; exact ⟨x, y, h4, h5, RepM.keep h3 p x y h6⟩⟩
theorem KidsM.snoc {w : World} {S : Nat → Prop} {ps : List Dt} {xs : List Value} (h : KidsM w S ps xs) {p : Dt} {x y : Value} (hp : RepM w S p x y) : KidsM w S (ps ++ [p]) (xs ++ [x, y]) := by
  refine ⟨by simp [h.1]; omega, fun j q hj => ?_⟩
  by_cases hjl : j < ps.length
  · rw [List.getElem?_append_left hjl] at hj
    rw [List.getElem?_append_left (by rw [h.1]; omega), List.getElem?_append_left (by rw [h.1]; omega)]
    exact h.2 j q hj
  · have hj' := (List.getElem?_eq_some_iff.1 hj).1
    simp only [List.length_append, List.length_cons, List.length_nil] at hj'
    have e : j = ps.length := by omega
    subst e
    rw [List.getElem?_append_right (Nat.le_refl _), Nat.sub_self] at hj
    simp only [List.getElem?_cons_zero, Option.some.injEq] at hj
    subst hj
    refine ⟨x, y, ?_, ?_, hp⟩
    · rw [← h.1, List.getElem?_append_right (Nat.le_refl _), Nat.sub_self]; rfl
    · rw [← h.1, List.getElem?_append_right (by omega), show xs.length + 1 - xs.length = 1 by omega]; rfl
theorem node6Info : (Tryd.prog.info? 64).map (fun i => (i.zero, i.size, i.bytes)) = some (some (.agg #[.int .i64 0, .slice none 0 0]), 2, 32) := by kernel_rfl
theorem RepM.of {w : World} {S : Nat → Prop} {lo2 m g cap : Nat} {c : UInt8} {ps : List Dt} {xs : List Value} (hk : KidsM w S ps xs)
    (hr : w.ownsRow lo2 64 2 (.slice (some ⟨g, 0, none⟩) m cap) m xs) (hS : S g) (hn : m = ps.length) : RepM w S (.nd c ps) (.int .i64 ((c.toNat - 48 : Nat) : Int)) (.slice (some ⟨g, 0, none⟩) m cap) := by
  subst hn
  rw [RepM_nd]
  refine ⟨rfl, _, cap, rfl, ?_, ?_⟩
  · rcases hr.2 with ⟨h, _⟩ | ⟨g', cap', cur, h, _, _, h2, _⟩
    · cases h
    · injection h with _ _ h
      omega
  · refine .inr ⟨g, rfl, hS, ?_⟩
    rw [RepML_iff]
    intro j p hj
    obtain ⟨x, y, h3, h4, h5⟩ := hk.2 j p hj
    have e3 := own_cells hr h3
    have e4 := own_cells hr h4
    exact ⟨x, y, by rw [Nat.zero_add]; exact e3, by rw [Nat.zero_add]; exact e4, h5⟩

/-- What a call of the model's reader comes to. -/
def NE (rb : Nat) (s : ByteArray) (w : World) (o : Option (Dt × List UInt8)) (e : Ending) (w' : World) : Prop :=
  But w.heap.size rb w w' ∧ ∃ (q : Int) (A : Option Addr) (m cap k : Nat), e = .returned (.agg #[.int .i64 q, .slice A m cap]) ∧ k ≤ s.size ∧
    ((o = none ∧ R6 w' rb s k true) ∨ ∃ d r, o = some (d, r) ∧ s.data.toList.drop k = r ∧ R6 w' rb s k false ∧ RepM w' (fun x => w.heap.size ≤ x ∧ x < w'.heap.size) d (.int .i64 q) (.slice A m cap))
def NsD (s : ByteArray) (n : Nat) : Prop := ∀ (rb k : Nat) (w : World), k ≤ s.size → s.size < k + n → R6 w rb s k false →
  Calls Tryd.prog 82 #[.pointer (some ⟨rb, 0, none⟩)] w (NE rb s w (pD n (s.data.toList.drop k)))

/-- What parts read so far and what is left come to. -/
def contD (P : List UInt8 → Option (Dt × List UInt8)) (m : Nat) (ps : List Dt) (l : List UInt8) : Option (List Dt × List UInt8) := match l with
  | [] => some (ps, [])
  | c :: r => if c = 44 then (pLs P m r).map fun y => (ps ++ y.1, y.2) else some (ps, c :: r)
theorem contD_no {P : List UInt8 → Option (Dt × List UInt8)} {m : Nat} {ps : List Dt} {l : List UInt8} (h : noTake [44] l) : contD P m ps l = some (ps, l) := by
  rcases l with _ | ⟨c, r⟩
  · rfl
  · have hc : c ≠ 44 := by rintro rfl; exact absurd h (by simp [noTake])
    show (if c = 44 then _ else _) = _
    rw [if_neg hc]
theorem pLs_cont {P : List UInt8 → Option (Dt × List UInt8)} {l r : List UInt8} {d : Dt} (m : Nat) (h : P l = some (d, r)) (ps : List Dt) : ((pLs P (m + 1) l).map fun y => (ps ++ y.1, y.2)) = contD P m (ps ++ [d]) r := by
  rw [pLs, h]
  rcases r with _ | ⟨c, r⟩
  · rfl
  · show Option.map _ (if c = 44 then _ else _) = if c = 44 then _ else _
    by_cases hc : c = 44
    · rw [if_pos hc, if_pos hc]
      rcases pLs P m r with _ | y
      · rfl
      · simp
    · rw [if_neg hc, if_neg hc]
      rfl

theorem contD_go (P : List UInt8 → Option (Dt × List UInt8)) (m : Nat) (ps : List Dt) (r : List UInt8) : contD P m ps (44 :: r) = (pLs P m r).map fun y => (ps ++ y.1, y.2) := by
  show (if (44 : UInt8) = 44 then (pLs P m r).map (fun y => (ps ++ y.1, y.2)) else some (ps, 44 :: r)) = _
  rw [if_pos rfl]
/-- A round of the loop over the parts. -/
def SR (w : World) (rb n nb : Nat) (q : Nat) (s : ByteArray) (l0 : List UInt8) (gk : Nat) (wr : World) : Prop :=
  ∃ (k m g cap fu : Nat) (bad : Bool) (xs : List Value) (ps : List Dt), R6 wr rb s k bad ∧ k ≤ s.size ∧ nb < wr.heap.size ∧ wr.heap[nb]? = some (.cells #[.int .i64 (q : Int), .slice (some ⟨g, 0, none⟩) m cap] 64 (0, 0)) ∧
    wr.ownsRow (w.heap.size + 1) 64 2 (.slice (some ⟨g, 0, none⟩) m cap) m xs ∧ g ≠ nb ∧ But w.heap.size rb w wr ∧ wr.heap[w.heap.size]? = some (.cells #[.int .i64 0, .slice none 0 0] 64 (0, 0)) ∧
    ((bad = true ∧ pLs (pD n) (l0.length + 1) l0 = none) ∨ (bad = false ∧ s.size - k < gk ∧ s.size - k < fu ∧ m = ps.length ∧ m + (s.size - k) ≤ s.size ∧ s.size < k + n ∧ KidsM wr (fun x => w.heap.size + 1 ≤ x ∧ x < wr.heap.size ∧ x ≠ nb ∧ x ≠ g) ps xs ∧ pLs (pD n) (l0.length + 1) l0 = contD (pD n) fu ps (s.data.toList.drop k)))

theorem frz6 {w : World} {g o : Nat} {cur : Array Value} {T : TypeId} (h : w.heap[g]? = some (.cells cur T (0, 0))) : w.frozen? ⟨g, o, none⟩ = false := by
  unfold World.frozen?; rw [show w.heap[(⟨g, o, none⟩ : Addr).block]? = _ from h]; simp

theorem NE.open {rb : Nat} {s : ByteArray} {w : World} {o : Option (Dt × List UInt8)} {e : Ending} {w' : World} (h : NE rb s w o e w') : ∃ (q : Int) (A : Option Addr) (m cap k : Nat), e = .returned (.agg #[.int .i64 q, .slice A m cap]) ∧ But w.heap.size rb w w' ∧ k ≤ s.size ∧
    Hid ((o = none ∧ R6 w' rb s k true) ∨ ∃ d r, o = some (d, r) ∧ s.data.toList.drop k = r ∧ R6 w' rb s k false ∧ RepM w' (fun x => w.heap.size ≤ x ∧ x < w'.heap.size) d (.int .i64 q) (.slice A m cap)) := by
  obtain ⟨h1, q, A, m, cap, k, h2, h3, h4⟩ := h
  exact ⟨q, A, m, cap, k, h2, h1, h3, h4⟩

/-- Behind a part that is put to the others. -/
theorem after6 {w W w4 w5 : World} {rb nb g m cap gg cap5 : Nat} {q : Int} {o : Obj} {ys : List Value} (FB : But w.heap.size rb w W) (FN : W.heap[nb]? = some (.cells #[.int .i64 q, .slice (some ⟨g, 0, none⟩) m cap] 64 (0, 0))) (FR : W.heap[w.heap.size]? = some (.cells #[.int .i64 0, .slice none 0 0] 64 (0, 0)))
    (hnb : w.heap.size < nb) (hnb2 : nb < W.heap.size) (hrb : rb < w.heap.size) (hg1 : w.heap.size + 1 ≤ g) (hg2 : g < W.heap.size) (hgn : g ≠ nb) (hb4 : But W.heap.size rb W w4) (hg5 : (w4.alloc o).grownBy w5 (Value.slice (some ⟨g, 0, none⟩) m cap).ownBlock)
    (hat5 : (Value.slice (some ⟨g, 0, none⟩) m cap).ownBlock = some gg ∨ gg = w4.heap.size + 1) (hown5 : w5.ownsRow (w.heap.size + 1) 64 2 (.slice (some ⟨gg, 0, none⟩) (m + 1) cap5) (m + 1) ys) :
    (w5.setCell ⟨nb, 1, none⟩ (.slice (some ⟨gg, 0, none⟩) (m + 1) cap5)).heap[nb]? = some (.cells #[.int .i64 q, .slice (some ⟨gg, 0, none⟩) (m + 1) cap5] 64 (0, 0)) ∧
    (w5.setCell ⟨nb, 1, none⟩ (.slice (some ⟨gg, 0, none⟩) (m + 1) cap5)).ownsRow (w.heap.size + 1) 64 2 (.slice (some ⟨gg, 0, none⟩) (m + 1) cap5) (m + 1) ys ∧ gg ≠ nb ∧
    But w.heap.size rb w (w5.setCell ⟨nb, 1, none⟩ (.slice (some ⟨gg, 0, none⟩) (m + 1) cap5)) ∧
    (w5.setCell ⟨nb, 1, none⟩ (.slice (some ⟨gg, 0, none⟩) (m + 1) cap5)).heap[w.heap.size]? = some (.cells #[.int .i64 0, .slice none 0 0] 64 (0, 0)) ∧
    (∀ j, j < w4.heap.size → j ≠ g → j ≠ nb → (w5.setCell ⟨nb, 1, none⟩ (.slice (some ⟨gg, 0, none⟩) (m + 1) cap5)).heap[j]? = w4.heap[j]?) ∧ w4.heap.size + 1 ≤ (w5.setCell ⟨nb, 1, none⟩ (.slice (some ⟨gg, 0, none⟩) (m + 1) cap5)).heap.size ∧ (gg = g ∨ gg = w4.heap.size + 1) ∧ W.heap.size ≤ w4.heap.size := by
  have zb5 : w4.heap.size + 1 ≤ w5.heap.size := by have := hg5.size; simpa only [World.size_alloc] using this
  have z4 := hb4.size
  have hgg : gg = g ∨ gg = w4.heap.size + 1 := by
    rcases hat5 with h | h
    · left; simpa [Value.ownBlock] using h.symm
    · exact .inr h
  have hggn : gg ≠ nb := by rcases hgg with h | h <;> omega
  have hk5 : ∀ j, j < w4.heap.size → j ≠ g → j ≠ nb → (w5.setCell ⟨nb, 1, none⟩ (.slice (some ⟨gg, 0, none⟩) (m + 1) cap5)).heap[j]? = w4.heap[j]? := fun j h1 h2 h3 => by
    rw [Below.heap_setCell _ _ _ _ h3, hg5.block _ (by simp only [World.size_alloc]; omega) (by simp [Value.ownBlock]; omega), Below.heap_alloc _ _ _ h1]
  have e5 : w5.heap[nb]? = some (.cells #[.int .i64 q, .slice (some ⟨g, 0, none⟩) m cap] 64 (0, 0)) := by
    rw [hg5.block _ (by simp only [World.size_alloc]; omega) (by simp [Value.ownBlock]; omega), Below.heap_alloc _ _ _ (by omega), hb4.block _ hnb2 (by omega)]
    exact FN
  have zF := FB.size
  refine ⟨by simp [World.setCell, Array.getElem?_modify, e5], own_kept hown5 (Below.heap_setCell _ _ _ _ hggn), hggn, ?_, ?_, hk5, by simp only [World.setCell, Array.size_modify]; omega, hgg, z4⟩
  · refine (((FB.trans (hb4.mono zF)).alloc (by omega) o).trans (But.of_below ((Below.refl _ _).grown hg5 (by simp only [World.size_alloc]; omega) (by intro k hk; simp [Value.ownBlock] at hk; omega)))).setAt (by show w.heap.size ≤ nb; omega) _
  · rw [hk5 _ (by omega) (by omega) (by omega), hb4.block _ (by omega) (by omega)]
    exact FR

/-- Behind the making of the dictionary: its empty row at block g0, itself at block nb. -/
def St5 (w : World) (rb : Nat) (s : ByteArray) (k q : Nat) (V : World) (g0 nb : Nat) : Prop :=
  But w.heap.size rb w V ∧ R6 V rb s k false ∧ V.heap[w.heap.size]? = some (.cells #[.int .i64 0, .slice none 0 0] 64 (0, 0)) ∧ V.heap[g0]? = some (.cells #[] 64 (0, 0)) ∧
    V.heap[nb]? = some (.cells #[.int .i64 (q : Int), .slice (some ⟨g0, 0, none⟩) 0 0] 64 (0, 0)) ∧ V.heap.size = w.heap.size + 3 ∧ w.heap.size < g0 ∧ g0 < w.heap.size + 3 ∧ w.heap.size < nb ∧ nb < w.heap.size + 3 ∧ g0 ≠ nb
theorem st5A {w w1 : World} {rb : Nat} {s : ByteArray} {k q : Nat} (hb : But w.heap.size rb w w1) (hr : R6 w1 rb s k false) (hz : w1.heap[w.heap.size]? = some (.cells #[.int .i64 0, .slice none 0 0] 64 (0, 0))) (hs : w1.heap.size = w.heap.size + 1) (hrb : rb < w.heap.size) :
    St5 w rb s k q ((w1.alloc (.cells #[] 64)).alloc (.cells #[.int .i64 (q : Int), .slice (some ⟨w.heap.size + 1, 0, none⟩) 0 0] 64)).drew (w.heap.size + 1) (w.heap.size + 1 + 1) := by
  have old : ∀ j, j < w.heap.size + 1 → ((w1.alloc (.cells #[] 64)).alloc (.cells #[.int .i64 (q : Int), .slice (some ⟨w.heap.size + 1, 0, none⟩) 0 0] 64)).heap[j]? = w1.heap[j]? := fun j hj => by
    rw [Below.heap_alloc _ _ _ (by simp only [World.size_alloc]; omega), Below.heap_alloc _ _ _ (by omega)]
  refine ⟨((hb.alloc (by omega) _).alloc (by simp only [World.size_alloc]; omega) _).drew, hr.keep (old rb (by omega)), (old _ (by omega)).trans hz, ?_, ?_, ?_, by omega, by omega, by omega, by omega, by omega⟩
  · show ((w1.alloc _).alloc _).heap[_]? = _
    rw [Below.heap_alloc _ _ _ (by simp only [World.size_alloc]; omega), ← hs]
    exact heap_new1 _ _
  · have h := heap_new1 (w1.alloc (.cells #[] 64)) (.cells #[.int .i64 (q : Int), .slice (some ⟨w.heap.size + 1, 0, none⟩) 0 0] 64)
    rw [World.size_alloc, hs] at h
    exact h
  · show ((w1.alloc _).alloc _).heap.size = _
    simp only [World.size_alloc]; omega
theorem st5B {w w1 : World} {rb : Nat} {s : ByteArray} {k q : Nat} (hb : But w.heap.size rb w w1) (hr : R6 w1 rb s k false) (hz : w1.heap[w.heap.size]? = some (.cells #[.int .i64 0, .slice none 0 0] 64 (0, 0))) (hs : w1.heap.size = w.heap.size + 1) (hrb : rb < w.heap.size) :
    St5 w rb s k q ((w1.alloc (.cells #[.int .i64 (q : Int), .slice (some ⟨w.heap.size + 1 + 1, 0, none⟩) 0 0] 64)).alloc (.cells #[] 64)).drew (w.heap.size + 1 + 1) (w.heap.size + 1) := by
  have old : ∀ j, j < w.heap.size + 1 → ((w1.alloc (.cells #[.int .i64 (q : Int), .slice (some ⟨w.heap.size + 1 + 1, 0, none⟩) 0 0] 64)).alloc (.cells #[] 64)).heap[j]? = w1.heap[j]? := fun j hj => by
    rw [Below.heap_alloc _ _ _ (by simp only [World.size_alloc]; omega), Below.heap_alloc _ _ _ (by omega)]
  refine ⟨((hb.alloc (by omega) _).alloc (by simp only [World.size_alloc]; omega) _).drew, hr.keep (old rb (by omega)), (old _ (by omega)).trans hz, ?_, ?_, ?_, by omega, by omega, by omega, by omega, by omega⟩
  · have h := heap_new1 (w1.alloc (.cells #[.int .i64 (q : Int), .slice (some ⟨w.heap.size + 1 + 1, 0, none⟩) 0 0] 64)) (.cells #[] 64)
    rw [World.size_alloc, hs] at h
    exact h
  · show ((w1.alloc _).alloc _).heap[_]? = _
    rw [Below.heap_alloc _ _ _ (by simp only [World.size_alloc]; omega), ← hs]
    exact heap_new1 _ _
  · show ((w1.alloc _).alloc _).heap.size = _
    simp only [World.size_alloc]; omega

set_option maxHeartbeats 4000000 in
set_option maxRecDepth 100000 in
theorem nodeD_step (s : ByteArray) (hs : s.size ≤ 1000000) (n : Nat) (ih : NsD s n) : NsD s (n + 1) := by
  intro rb k w hk hn hr
  have hsm : s.size ≤ maxLen := by unfold maxLen; omega
  have zr := hr.lt
  have hr0 : R6 (w.alloc (.cells #[.int .i64 0, .slice none 0 0] 64)) rb s k false := hr.keep (Below.heap_alloc _ _ _ zr)
  have hres : (w.alloc (.cells #[.int .i64 0, .slice none 0 0] 64)).heap[w.heap.size]? = some (.cells #[.int .i64 0, .slice none 0 0] 64 (0, 0)) := heap_new1 _ _
  have hbw : But w.heap.size rb w (w.alloc (.cells #[.int .i64 0, .slice none 0 0] 64)) := But.alloc (But.refl _ _ _) (Nat.le_refl _) _
  obtain ⟨W, hW⟩ : ∃ W, w.alloc (.cells #[.int .i64 0, .slice none 0 0] 64) = W := ⟨_, rfl⟩
  have zW : W.heap.size = w.heap.size + 1 := by rw [← hW]; exact World.size_alloc _ _
  rw [hW] at hr0 hres hbw
  obtain ⟨C, HCl⟩ : ∃ C : World → Prop, Hid (∀ W', C W' ↔ Sm W W') := ⟨_, hid fun _ => Iff.rfl⟩
  have HCC := hid (fun (W' : World) (hW' : C W') => show W'.cell? ⟨rb, 0, none⟩ = some (.string s) ∧ W'.cell? ⟨rb, 1, none⟩ = some (.int .i64 k) from by
    have h := ((HCl.out W').1 hW').keepR hr0
    exact ⟨h.c0, h.c1⟩)
  have HC1 := hid ((HCl.out W.drew).2 (Sm.refl W).drew)
  have HR0 := hid hr0
  have HRES := hid hres
  have HBW := hid hbw
  have HW := hid hW
  have dr : rb ≠ w.heap.size := by omega
  rw [pD_succ]
  clear hr hr0 hres hbw hW
  rcases hd : s.data.toList.drop k with _ | ⟨c, l⟩
  · have hk2 := drop_nil hd
    have hdk : decide (s.size ≤ k) = true := decide_eq_true hk2
    clear hd
    go_enter Tryd.func82, Tryd.ntmps82
    go_wp2_with fail
    rw [HW.out]
    refine wp_region_loose (C := C) 23 (by kernel_rfl) (by kernel_rfl) HC1.out ?_
    simp only [List.take_succ_cons, List.take_zero]
    refine walk_by fun WK hnil hval hcall hany hskip => ?_
    iterate 23 (first
      | (refine hval _ _ _ _ (fun _ => by rfl) ⟨_, fun q hq w' hw' => by
           obtain ⟨x0, x1⟩ := HCC.out w' hw'
           first | (go_simp; done) | (go_simp; rfl), ?_⟩
         simp only [Act.put, List.setIfInBounds_toArray, List.set_cons_zero, List.set_cons_succ])
      | (refine hskip _ _ _ _ (fun _ => by rfl) ?_
         simp only [Act.put, List.setIfInBounds_toArray, List.set_cons_zero, List.set_cons_succ]))
    refine hnil _ _ ?_
    intro qv hqv w' hw'
    simp only [List.drop_succ_cons, List.drop_zero]
    have HS := hid ((HCl.out w').1 hw')
    have HR1 := hid (HS.out.keepR HR0.out)
    have HE1 := hid ((show w'.heap[w.heap.size]? = W.heap[w.heap.size]? by rw [HS.out.1]).trans HRES.out)
    have HB1 := hid (HBW.out.trans (HS.out.but w.heap.size rb))
    clear hnil hval hcall hany hskip HCC hw'
    have c2 := HR1.out.c2
    have f2 := HR1.out.f 2
    obtain ⟨r0, r1, rf⟩ := two_cells HE1.out
    go_wp2_with fail
    exact bodyPost_ret (v := .agg #[.int .i64 0, .slice none 0 0]) (by simp [results, Tryd.results82, go_sem, r0, r1]) rfl
      ⟨((HB1.out.set _ _).setAt (Nat.le_refl _) _).setAt (Nat.le_refl _) _, 0, none, 0, 0, k, rfl, hk, .inl ⟨rfl, ((HR1.out.fail true).keep (Below.heap_setCell _ _ _ _ dr)).keep (Below.heap_setCell _ _ _ _ dr)⟩⟩
  · obtain ⟨hks, hsk, hd1⟩ := drop_cons hd
    have hcl : c.toNat < 256 := c.toNat_lt
    have hdk : decide (s.size ≤ k) = false := decide_eq_false (by omega)
    have hw1 : IntKind.i64.wrap (s[k].toNat : Int) = (s[k].toNat : Int) := by rw [IntKind.wrap_i64, hsk]; omega
    rw [pN_cons]
    rcases hdg : isDg c with _ | _
    · have HIN := hid (show (decide ((48 : Int) ≤ (s[k].toNat : Int)) && decide ((s[k].toNat : Int) ≤ 57)) = false by
        rw [hsk]
        unfold isDg at hdg
        rw [Bool.and_eq_false_iff, decide_eq_false_iff_not, decide_eq_false_iff_not, UInt8.le_iff_toNat_le, UInt8.le_iff_toNat_le] at hdg
        rw [Bool.and_eq_false_iff, decide_eq_false_iff_not, decide_eq_false_iff_not]
        have e1 : (48 : UInt8).toNat = 48 := rfl
        have e2 : (57 : UInt8).toNat = 57 := rfl
        omega)
      rw [if_neg (by decide)]
      clear hd hd1 hsk hdg
      go_enter Tryd.func82, Tryd.ntmps82
      go_wp2_with fail
      rw [HW.out]
      refine wp_region_loose (C := C) 23 (by kernel_rfl) (by kernel_rfl) HC1.out ?_
      simp only [List.take_succ_cons, List.take_zero]
      refine walk_by fun WK hnil hval hcall hany hskip => ?_
      iterate 23 (first
        | (refine hval _ _ _ _ (fun _ => by rfl) ⟨_, fun q hq w' hw' => by
             obtain ⟨x0, x1⟩ := HCC.out w' hw'
             first | (go_simp; done) | (go_simp; rfl), ?_⟩
           simp only [Act.put, List.setIfInBounds_toArray, List.set_cons_zero, List.set_cons_succ])
        | (refine hcall _ _ _ _ (fun _ => by rfl) ⟨61, _, .bool false, fun q hq w' hw' => ⟨by first | (go_simp; done) | (go_simp; rfl), (l1InD_at _ _ _ _ false HIN).mono fun e w'' h => ⟨h.1, by rw [h.2]; exact hw'⟩⟩, ?_⟩
           simp only [Act.put, List.setIfInBounds_toArray, List.set_cons_zero, List.set_cons_succ])
        | (refine hskip _ _ _ _ (fun _ => by rfl) ?_
           simp only [Act.put, List.setIfInBounds_toArray, List.set_cons_zero, List.set_cons_succ]))
      refine hnil _ _ ?_
      intro qv hqv w' hw'
      simp only [List.drop_succ_cons, List.drop_zero]
      have HS := hid ((HCl.out w').1 hw')
      have HR1 := hid (HS.out.keepR HR0.out)
      have HE1 := hid ((show w'.heap[w.heap.size]? = W.heap[w.heap.size]? by rw [HS.out.1]).trans HRES.out)
      have HB1 := hid (HBW.out.trans (HS.out.but w.heap.size rb))
      clear hnil hval hcall hany hskip HCC hw'
      have c2 := HR1.out.c2
      have f2 := HR1.out.f 2
      obtain ⟨r0, r1, rf⟩ := two_cells HE1.out
      go_wp2_with fail
      exact bodyPost_ret (v := .agg #[.int .i64 0, .slice none 0 0]) (by simp [results, Tryd.results82, go_sem, r0, r1]) rfl
        ⟨((HB1.out.set _ _).setAt (Nat.le_refl _) _).setAt (Nat.le_refl _) _, 0, none, 0, 0, k, rfl, hk, .inl ⟨rfl, ((HR1.out.fail true).keep (Below.heap_setCell _ _ _ _ dr)).keep (Below.heap_setCell _ _ _ _ dr)⟩⟩
    · have hcv := dg_val hdg
      have HIN := hid (show (decide ((48 : Int) ≤ (s[k].toNat : Int)) && decide ((s[k].toNat : Int) ≤ 57)) = true by
        rw [hsk, Bool.and_eq_true, decide_eq_true_eq, decide_eq_true_eq]
        omega)
      rw [if_pos rfl]
      obtain ⟨q, hq⟩ : ∃ q, c.toNat - 48 = q := ⟨_, rfl⟩
      have HQ := hid hq
      have hw2 : IntKind.i64.wrap ((s[k].toNat : Int) - 48) = (q : Int) := by rw [IntKind.wrap_i64, hsk]; omega
      have hll : s.size ≤ (k + 1) + n := by omega
      obtain ⟨X, hX⟩ : ∃ X, pB (pD n) c l = X := ⟨_, rfl⟩
      rw [hX]
      have HX := hid hX
      have HD1 := hid hd1
      clear hd hd1 hsk hdg hX hq hcv
      go_enter Tryd.func82, Tryd.ntmps82
      go_wp2_with fail
      rw [HW.out]
      refine wp_region_loose (C := C) 23 (by kernel_rfl) (by kernel_rfl) HC1.out ?_
      simp only [List.take_succ_cons, List.take_zero]
      refine walk_by fun WK hnil hval hcall hany hskip => ?_
      iterate 23 (first
        | (refine hval _ _ _ _ (fun _ => by rfl) ⟨_, fun q hq w' hw' => by
             obtain ⟨x0, x1⟩ := HCC.out w' hw'
             first | (go_simp; done) | (go_simp; rfl), ?_⟩
           simp only [Act.put, List.setIfInBounds_toArray, List.set_cons_zero, List.set_cons_succ])
        | (refine hcall _ _ _ _ (fun _ => by rfl) ⟨61, _, .bool true, fun q hq w' hw' => ⟨by first | (go_simp; done) | (go_simp; rfl), (l1InD_at _ _ _ _ true HIN).mono fun e w'' h => ⟨h.1, by rw [h.2]; exact hw'⟩⟩, ?_⟩
           simp only [Act.put, List.setIfInBounds_toArray, List.set_cons_zero, List.set_cons_succ])
        | (refine hskip _ _ _ _ (fun _ => by rfl) ?_
           simp only [Act.put, List.setIfInBounds_toArray, List.set_cons_zero, List.set_cons_succ]))
      refine hnil _ _ ?_
      intro qv hqv w' hw'
      simp only [List.drop_succ_cons, List.drop_zero]
      have HS := hid ((HCl.out w').1 hw')
      have HR1 := hid (HS.out.keepR HR0.out)
      have HE1 := hid ((show w'.heap[w.heap.size]? = W.heap[w.heap.size]? by rw [HS.out.1]).trans HRES.out)
      have HB1 := hid (HBW.out.trans (HS.out.but w.heap.size rb))
      have z4 := HS.out.size
      have c0 := HR1.out.c0
      have c1 := HR1.out.c1
      have zrb := HR1.out.lt
      have c0a : ∀ o, (w'.alloc o).cell? ⟨rb, 0, none⟩ = some (.string s) := fun o => (World.cell?_alloc_lt _ _ _ zrb).trans HR1.out.c0
      have c1a : ∀ o, (w'.alloc o).cell? ⟨rb, 1, none⟩ = some (.int .i64 k) := fun o => (World.cell?_alloc_lt _ _ _ zrb).trans HR1.out.c1
      have c0b : ∀ o o', ((w'.alloc o).alloc o').cell? ⟨rb, 0, none⟩ = some (.string s) := fun o o' => (World.cell?_alloc_lt _ _ _ (by simp only [World.size_alloc]; show rb < w'.heap.size + 1; omega)).trans (c0a o)
      have c1b : ∀ o o', ((w'.alloc o).alloc o').cell? ⟨rb, 1, none⟩ = some (.int .i64 k) := fun o o' => (World.cell?_alloc_lt _ _ _ (by simp only [World.size_alloc]; show rb < w'.heap.size + 1; omega)).trans (c1a o)
      clear hnil hval hcall hany hskip HCC hw'
      go_wp2_with fail
      refine (fun (key4 : Hid (∀ (V5 : World) (g0 nb : Nat), St5 w rb s k q V5 g0 nb → (?pp4 : World → Nat → Nat → Prop) V5 g0 nb)) => ?main4) ?kk4
      case main4 =>
        go_region_law (fail)
        all_goals first
          | (obtain ⟨V5, hV5⟩ : ∃ V5, ((w'.alloc (.cells #[] 64)).alloc (.cells #[.int .i64 (q : Int), .slice (some ⟨w.heap.size + 1, 0, none⟩) 0 0] 64)).drew = V5 := ⟨_, rfl⟩
             rw [hV5]
             obtain ⟨nb, hnb⟩ : ∃ nb, w.heap.size + 1 + 1 = nb := ⟨_, rfl⟩
             rw [hnb]
             obtain ⟨g0, hg0⟩ : ∃ g0, w.heap.size + 1 = g0 := ⟨_, rfl⟩
             rw [hg0]
             exact key4.out V5 g0 nb (by rw [← hV5, ← hnb, ← hg0]; exact st5A HB1.out HR1.out HE1.out (by omega) zr))
          | (obtain ⟨V5, hV5⟩ : ∃ V5, ((w'.alloc (.cells #[.int .i64 (q : Int), .slice (some ⟨w.heap.size + 1 + 1, 0, none⟩) 0 0] 64)).alloc (.cells #[] 64)).drew = V5 := ⟨_, rfl⟩
             rw [hV5]
             obtain ⟨g0, hg0⟩ : ∃ g0, w.heap.size + 1 + 1 = g0 := ⟨_, rfl⟩
             rw [hg0]
             obtain ⟨nb, hnb⟩ : ∃ nb, w.heap.size + 1 = nb := ⟨_, rfl⟩
             rw [hnb]
             exact key4.out V5 g0 nb (by rw [← hV5, ← hg0, ← hnb]; exact st5B HB1.out HR1.out HE1.out (by omega) zr))
      case kk4 =>
      show Hid _
      refine hid (fun V5 g0 nb hst => ?_)
      obtain ⟨B5, R5, E5, G5, N5, z5, hg01, hg02, hnb1, hnb2, hgn⟩ := hst
      have c1 := R5.c1
      have f1 := R5.f 1
      have hkk : IntKind.i64.wrap ((k : Int) + 1) = (k : Int) + 1 := by rw [IntKind.wrap_i64]; omega
      have FG := hid G5
      have FN5 := hid N5
      have FB5 := hid B5
      have FR5 := hid R5
      have FE5 := hid E5
      clear G5 N5 B5 R5 E5 HB1 HR1 HE1 HS c0 c0a c1a c0b c1b
      go_upto_region 6 with fail
      obtain ⟨V, hV⟩ : ∃ V, V5.setCell ⟨rb, 1, none⟩ (.int .i64 ((k : Int) + 1)) = V := ⟨_, rfl⟩
      have oldV : ∀ j, j ≠ rb → V.heap[j]? = V5.heap[j]? := fun j hj => by rw [← hV]; exact Below.heap_setCell _ _ _ _ hj
      have zV : V.heap.size = w.heap.size + 3 := by rw [← hV]; simp only [World.setCell, Array.size_modify]; exact z5
      have R6' : R6 V rb s (k + 1) false := by rw [← hV]; exact FR5.out.step (by omega)
      have B6 : But w.heap.size rb w V := by rw [← hV]; exact FB5.out.set _ _
      have FRV := hid R6'
      have FBV := hid B6
      have FNV := hid ((oldV nb (by omega)).trans FN5.out)
      have FGV := hid ((oldV g0 (by omega)).trans FG.out)
      have FZV := hid ((oldV w.heap.size (by omega)).trans FE5.out)
      rw [hV]
      clear hV oldV R6' B6 FG FN5 FB5 FR5 FE5 c1 f1
      by_cases hnt : noTake [40] l
      · have HXL := hid (show X = some (.nd c [], l) by
          rw [← HX.out]
          rcases l with _ | ⟨e, l⟩
          · rfl
          · have he : e ≠ 40 := by rintro rfl; exact absurd hnt (by simp [noTake])
            rw [pB_cons, if_neg he])
        have HNO := hid (isS_no rb s (k + 1) false 40 V FRV.out hsm (by rw [HD1.out]; exact hnt))
        clear hnt
        go_wp2_with fail
        refine HNO.out.mono ?_
        rintro e w7 ⟨rfl, hs7⟩
        have n0 := cell_blk ((show w7.heap[nb]? = V.heap[nb]? by rw [hs7.1]).trans FNV.out) (j := 0) rfl
        have n1 := cell_blk ((show w7.heap[nb]? = V.heap[nb]? by rw [hs7.1]).trans FNV.out) (j := 1) rfl
        obtain ⟨r0, r1, rf⟩ := two_cells ((show w7.heap[w.heap.size]? = V.heap[w.heap.size]? by rw [hs7.1]).trans FZV.out)
        have HS7 := hid hs7
        clear hs7
        go_wp2_with fail
        refine bodyPost_ret (v := .agg #[.int .i64 (q : Int), .slice (some ⟨g0, 0, none⟩) 0 0]) (by simp [results, Tryd.results82, go_sem, r0, r1]) rfl
          ⟨(((FBV.out.trans (HS7.out.but _ _))).setAt (Nat.le_refl _) _).setAt (Nat.le_refl _) _, (q : Int), _, 0, 0, k + 1, rfl, by omega, .inr ⟨.nd c [], l, HXL.out, HD1.out, (((HS7.out.keepR FRV.out)).keep (Below.heap_setCell _ _ _ _ dr)).keep (Below.heap_setCell _ _ _ _ dr), ?_⟩⟩
        rw [RepM_nd, HQ.out]
        exact ⟨rfl, _, 0, rfl, Nat.le_refl _, .inl rfl⟩
      · obtain ⟨l0, rfl⟩ : ∃ l0, l = 40 :: l0 := by
          rcases l with _ | ⟨x, l0⟩
          · exact absurd trivial hnt
          · have hx : x = 40 := by
              by_cases hx : x = 40
              · exact hx
              · exact absurd (show [40].contains x = false by simp [hx]) hnt
            exact ⟨l0, by rw [hx]⟩
        have hX := HX.out
        rw [pB_cons, if_pos rfl] at hX
        have HX2 := hid hX
        have HYES := hid (isS_yes rb s (k + 1) false 40 l0 V FRV.out hsm HD1.out)
        obtain ⟨hk1s, _, hd2⟩ := drop_cons HD1.out
        have HD2 := hid hd2
        clear hnt hX hd2
        obtain ⟨i0, hi0, hz0, hz1, hz2⟩ := info_parts node6Info
        go_wp2_with fail
        refine HYES.out.mono ?_
        rintro e w7 ⟨rfl, hb7, hr7⟩
        have z7 := hb7.size
        have FR := hid hr7
        have FB := hid (FBV.out.trans (hb7.mono (by omega)))
        have FN := hid ((hb7.block nb (by omega) (by omega)).trans FNV.out)
        have FZ := hid ((hb7.block w.heap.size (by omega) (by omega)).trans FZV.out)
        have hG7 := (hb7.block g0 (by omega) (by omega)).trans FGV.out
        have FO := hid (show w7.ownsRow (w.heap.size + 1) 64 2 (.slice (some ⟨g0, 0, none⟩) 0 0) 0 [] from ⟨rfl, .inr ⟨g0, 0, #[], rfl, by omega, hG7, Nat.le_refl _, Nat.zero_le _, rfl, rfl⟩⟩)
        clear hb7 hr7 hG7
        go_upto_region 8 with fail
        have HIH := hid (ih rb (k + 1 + 1) w7.drew (by omega) (by omega) FR.out)
        have HK4 := hid (fun (w8 : World) (hb8 : But w7.drew.heap.size rb w7.drew w8) => show w7.heap.size ≤ w8.heap.size ∧ w8.cell? ⟨nb, 1, none⟩ = some (.slice (some ⟨g0, 0, none⟩) 0 0) ∧ (∀ o, (w8.alloc o).cell? ⟨nb, 1, none⟩ = some (.slice (some ⟨g0, 0, none⟩) 0 0)) ∧ w8.ownsRow (w.heap.size + 1) 64 2 (.slice (some ⟨g0, 0, none⟩) 0 0) 0 [] ∧
            w8.heap[nb]? = some (.cells #[.int .i64 (q : Int), .slice (some ⟨g0, 0, none⟩) 0 0] 64 (0, 0)) from by
          have z8 : w7.heap.size ≤ w8.heap.size := hb8.size
          have e8 := (hb8.block nb (show nb < w7.heap.size by omega) (by omega)).trans FN.out
          exact ⟨z8, cell_blk e8 (j := 1) rfl, fun o => (World.cell?_alloc_lt _ _ _ (by show nb < _; omega)).trans (cell_blk e8 (j := 1) rfl), own_kept FO.out (hb8.block g0 (show g0 < w7.heap.size by omega) (by omega)), e8⟩)
        have HG5 := hid (fun (w8 w9 : World) (o : Obj) (hg : (w8.alloc o).grownBy w9 (Value.slice (some ⟨g0, 0, none⟩) 0 0).ownBlock) (z8 : w7.heap.size ≤ w8.heap.size) (e8 : w8.heap[nb]? = some (.cells #[.int .i64 (q : Int), .slice (some ⟨g0, 0, none⟩) 0 0] 64 (0, 0))) => show w9.heap[nb]? = some (.cells #[.int .i64 (q : Int), .slice (some ⟨g0, 0, none⟩) 0 0] 64 (0, 0)) from by
          rw [hg.block _ (by simp only [World.size_alloc]; omega) (by simp [Value.ownBlock]; omega), Below.heap_alloc _ _ _ (by omega)]
          exact e8)
        have t1 := cell_blk FN.out (j := 1) rfl
        go_region_law
          (first
            | (refine step_append_lies _ (by rfl) _ _ _ (by rfl) (w.heap.size + 1) 64 i0 _ 2 32 Tryd.underlying62 hi0 hz0 hz1 hz2 rfl (by omega) (.slice (some ⟨g0, 0, none⟩) 0 0) 0 [] (by rfl) (hown8.alloc _)
                 ⟨w8.heap.size, 0, none⟩ 1 1 [.int .i64 q8, .slice A8 m8 cap8] (by rfl) (by rfl) (World.news_of_block (cs := #[.int .i64 q8, .slice A8 m8 cap8]) (t := 64) (fr := (0, 0)) (heap_alloc_new w8 _)) (by simp [Value.oneCell'])
                 (by omega) (by simp only [maxLen]; omega) (by omega) (by simp only [World.size_alloc]; omega) (w8.heap.size + 1) (by simp) ?_
               intro gg cap9 w9 hown9 hg9 hat9 hlt9
               have e9 := HG5.out w8 w9 _ hg9 z8 E8.out
               have c9 := cell_blk e9 (j := 1) rfl
               have f9 := frz6 (o := 1) e9
               have HO9 := hid hown9
               clear e9 hown9)
            | (go_simp
               go_at_call 82
               refine HIH.out.mono ?_
               intro e w8 hend
               obtain ⟨q8, A8, m8, cap8, k8, rfl, hb8, hk8, HC8⟩ := hend.open
               obtain ⟨z8, t8, t8', hown8, e8⟩ := HK4.out w8 hb8
               have E8 := hid e8
               clear e8))

        all_goals
          obtain ⟨F1, F2, F3, F4, F5, F6, F7, F8, F9⟩ := after6 (nb := nb) (m := 0) (q := (q : Int)) FB.out FN.out FZ.out hnb1 (by omega) zr (by omega) (by omega) hgn hb8.undrew hg9 hat9 HO9.out
          simp only [Nat.zero_add] at F1 F2 F4 F5 F6 F7
          obtain ⟨V9, hV9⟩ : ∃ V9, w9.setCell ⟨nb, 1, none⟩ (.slice (some ⟨gg, 0, none⟩) 1 cap9) = V9 := ⟨_, rfl⟩
          rw [hV9] at F1 F2 F4 F5 F6 F7 ⊢
          have hSR : SR w rb n nb q s l0 (s.size + 1) V9 := by
            have hld : l0.length = s.size - (k + 1 + 1) := by rw [← HD2.out, List.length_drop]; simp
            have hz8 := hb8.size
            have hz8' : w7.heap.size ≤ w8.heap.size := hz8
            rcases HC8.out with ⟨hn8, hr8⟩ | ⟨d, r, hs8, hdr8, hr8, hrep8⟩
            · refine ⟨k8, 1, gg, cap9, 0, true, _, [], hr8.keep (F6 rb (by omega) (by omega) (by omega)), hk8, by omega, F1, F2, F3, F4, F5, .inl ⟨rfl, ?_⟩⟩
              rw [HD2.out] at hn8
              rw [pLs, hn8]
              rfl
            · rw [HD2.out] at hs8
              have hsh := pD_shorter hs8
              have hrl : r.length = s.size - k8 := by rw [← hdr8, List.length_drop]; simp
              refine ⟨k8, 1, gg, cap9, l0.length, false, _, [d], hr8.keep (F6 rb (by omega) (by omega) (by omega)), hk8, by omega, F1, F2, F3, F4, F5, .inr ⟨rfl, by omega, by omega, rfl, by omega, by omega, ?_, ?_⟩⟩
              · have h0 : KidsM V9 (fun x => w.heap.size + 1 ≤ x ∧ x < V9.heap.size ∧ x ≠ nb ∧ x ≠ gg) [] [] := ⟨rfl, fun j p hj => by cases hj⟩
                refine h0.snoc (RepM.keep (fun x hx => ?_) d _ _ hrep8)
                have hx1 : w7.heap.size ≤ x := hx.1
                have hx2 := hx.2
                exact ⟨⟨by omega, by omega, by omega, by omega⟩, F6 x hx2 (by omega) (by omega)⟩
              · have h := pLs_cont l0.length hs8 []
                rw [hdr8, ← List.nil_append [d], ← h]
                rcases pLs (pD n) (l0.length + 1) l0 with _ | y <;> rfl
          have HSR := hid hSR
          clear hSR F1 F2 F3 F4 F5 F6 F7 F8 F9 hV9 HC8 hb8 hg9 hat9 HO9 HK4 HG5 HIH FB FN FZ FO FR E8 t1 t8 t8' z8 hown8 c9 f9 hk8 hlt9 hend
          go_wp2_with fail
          go_loopg [] (s.size + 1) (fun gk wr => SR w rb n nb q s l0 gk wr)
          case atStart => exact HSR.out
          case round =>
            obtain ⟨k', m, g, cap, fu, bad, xs, ps, hr, hks', hnbw, hN, hO, hgnb, hB, hZ, hcase⟩ := hrel
            have z' := hB.size
            have hgb := hO.lt g rfl
            have HR := hid hr
            have HN := hid hN
            have HO := hid hO
            have HB := hid hB
            have HZ := hid hZ
            rcases hcase with ⟨rfl, htot⟩ | ⟨rfl, hgk, hfu, hm, hmk, hkn, hkids, htot⟩
            · have b2 := hr.c2
              have f2 := hr.f 2
              have n0 := cell_blk hN (j := 0) rfl
              have n1 := cell_blk hN (j := 1) rfl
              obtain ⟨r0, r1, rf⟩ := two_cells hZ
              have HX3 := hid (show X = none by rw [← HX2.out, htot]; rfl)
              clear hr hN hO hB hZ htot HSR
              go_wp2_with fail
              exact bodyPost_ret (v := .agg #[.int .i64 (q : Int), .slice (some ⟨g, 0, none⟩) m cap]) (by simp [results, Tryd.results82, go_sem, r0, r1]) rfl
                ⟨((HB.out.set _ _).setAt (Nat.le_refl _) _).setAt (Nat.le_refl _) _, (q : Int), _, m, cap, k', rfl, hks', .inl ⟨HX3.out, ((HR.out.fail true).keep (Below.heap_setCell _ _ _ _ dr)).keep (Below.heap_setCell _ _ _ _ dr)⟩⟩
            · have HM := hid hm
              have HK := hid hkids
              by_cases h44 : noTake [44] (s.data.toList.drop k')
              · have HT := hid (show pLs (pD n) (l0.length + 1) l0 = some (ps, s.data.toList.drop k') by rw [htot, contD_no h44])
                have HNO := hid (isS_no rb s k' false 44 wr hr hsm h44)
                have b2 := hr.c2
                clear hr hN hO hB hZ htot HSR hm hkids h44
                go_wp2_with fail
                refine HNO.out.mono ?_
                rintro e w5 ⟨rfl, hs5⟩
                have HS5 := hid hs5
                have HR5 := hid (hs5.keepR HR.out)
                have HN5 := hid ((show w5.heap[nb]? = wr.heap[nb]? by rw [hs5.1]).trans HN.out)
                have HZ5 := hid ((show w5.heap[w.heap.size]? = wr.heap[w.heap.size]? by rw [hs5.1]).trans HZ.out)
                have HB5 := hid (HB.out.trans (hs5.but w.heap.size rb))
                have b5 := HR5.out.c2
                have z5' := hs5.size
                clear hs5 b2
                by_cases h41 : noTake [41] (s.data.toList.drop k')
                · have HNO2 := hid (isS_no rb s k' false 41 w5 HR5.out hsm h41)
                  have HX3 := hid (show X = none by
                    rw [← HX2.out, HT.out]
                    rcases hdd : s.data.toList.drop k' with _ | ⟨x, r⟩
                    · rfl
                    · rw [hdd] at h41
                      have hx : x ≠ 41 := by rintro rfl; exact absurd h41 (by simp [noTake])
                      show (if x = 41 ∧ _ then _ else _) = _
                      rw [if_neg (fun h => hx h.1)])
                  clear h41
                  go_wp2_with fail
                  refine HNO2.out.mono ?_
                  rintro e w6 ⟨rfl, hs6⟩
                  have HR6 := hid (hs6.keepR HR5.out)
                  have HB6 := hid (HB5.out.trans (hs6.but w.heap.size rb))
                  have hN6 := (show w6.heap[nb]? = w5.heap[nb]? by rw [hs6.1]).trans HN5.out
                  have n0 := cell_blk hN6 (j := 0) rfl
                  have n1 := cell_blk hN6 (j := 1) rfl
                  have c2 := HR6.out.c2
                  have f2 := HR6.out.f 2
                  obtain ⟨r0, r1, rf⟩ := two_cells ((show w6.heap[w.heap.size]? = w5.heap[w.heap.size]? by rw [hs6.1]).trans HZ5.out)
                  clear hs6 hN6 b5
                  go_wp2_with fail
                  exact bodyPost_ret (v := .agg #[.int .i64 (q : Int), .slice (some ⟨g, 0, none⟩) m cap]) (by simp [results, Tryd.results82, go_sem, r0, r1]) rfl
                    ⟨((HB6.out.set _ _).setAt (Nat.le_refl _) _).setAt (Nat.le_refl _) _, (q : Int), _, m, cap, k', rfl, hks', .inl ⟨HX3.out, ((HR6.out.fail true).keep (Below.heap_setCell _ _ _ _ dr)).keep (Below.heap_setCell _ _ _ _ dr)⟩⟩
                · obtain ⟨r3, hr3⟩ : ∃ r3, s.data.toList.drop k' = 41 :: r3 := by
                    rcases hdd : s.data.toList.drop k' with _ | ⟨x, r3⟩
                    · rw [hdd] at h41; exact absurd trivial h41
                    · have hx : x = 41 := by
                        by_cases hx : x = 41
                        · exact hx
                        · rw [hdd] at h41; exact absurd (show [41].contains x = false by simp [hx]) h41
                      exact ⟨r3, by rw [hx]⟩
                  have HY := hid (isS_yes rb s k' false 41 r3 w5 HR5.out hsm hr3)
                  have HXP := hid (show X = if ps.length ≤ 3 then some (.nd c ps, r3) else none by
                    rw [← HX2.out, HT.out, hr3]
                    show (if (41 : UInt8) = 41 ∧ ps.length ≤ 3 then _ else _) = _
                    by_cases h3 : ps.length ≤ 3
                    · rw [if_pos h3, if_pos ⟨rfl, h3⟩]
                    · rw [if_neg h3, if_neg (fun h => h3 h.2)])
                  obtain ⟨hk1s', _, hd3⟩ := drop_cons hr3
                  have HD3 := hid hd3
                  clear h41 hr3 hd3
                  by_cases h3 : m ≤ 3
                  · have hdm : decide (3 < m) = false := decide_eq_false (by omega)
                    have hdi : decide ((3 : Int) < (m : Int)) = false := decide_eq_false (by omega)
                    go_wp2_with fail
                    refine HY.out.mono ?_
                    rintro e w6 ⟨rfl, hb6, hr6⟩
                    have z6 := hb6.size
                    have HR6 := hid hr6
                    have HBB := hid hb6
                    have HB6 := hid (HB5.out.trans (hb6.mono (by omega)))
                    have hN6 := (hb6.block nb (by omega) (by omega)).trans HN5.out
                    have n0 := cell_blk hN6 (j := 0) rfl
                    have n1 := cell_blk hN6 (j := 1) rfl
                    have c2 := HR6.out.c2
                    have f2 := HR6.out.f 2
                    obtain ⟨r0, r1, rf⟩ := two_cells ((hb6.block w.heap.size (by omega) (by omega)).trans HZ5.out)
                    clear hb6 hr6 hN6 b5
                    go_wp2_with fail
                    refine bodyPost_ret (v := .agg #[.int .i64 (q : Int), .slice (some ⟨g, 0, none⟩) m cap]) (by simp [results, Tryd.results82, go_sem, r0, r1]) rfl
                      ⟨((HB6.out.set _ _).setAt (Nat.le_refl _) _).setAt (Nat.le_refl _) _, (q : Int), _, m, cap, k' + 1, rfl, by omega, .inr ⟨.nd c ps, r3, by rw [HXP.out, if_pos (by have := HM.out; omega)], HD3.out, ((HR6.out.fail false).keep (Below.heap_setCell _ _ _ _ dr)).keep (Below.heap_setCell _ _ _ _ dr), ?_⟩⟩
                    have hk6 : ∀ x, x < wr.heap.size → x ≠ rb → x ≠ w.heap.size → (((w6.setCell ⟨rb, 2, none⟩ (.bool false)).setCell ⟨w.heap.size, 0, none⟩ (.int .i64 (q : Int))).setCell ⟨w.heap.size, 1, none⟩ (.slice (some ⟨g, 0, none⟩) m cap)).heap[x]? = wr.heap[x]? := fun x h1 h2 h3 => by
                      rw [Below.heap_setCell _ _ _ _ h3, Below.heap_setCell _ _ _ _ h3, Below.heap_setCell _ _ _ _ h2, HBB.out.block x (by omega) h2, HS5.out.1]
                    have hzz : wr.heap.size ≤ (((w6.setCell ⟨rb, 2, none⟩ (.bool false)).setCell ⟨w.heap.size, 0, none⟩ (.int .i64 (q : Int))).setCell ⟨w.heap.size, 1, none⟩ (.slice (some ⟨g, 0, none⟩) m cap)).heap.size := by simp only [World.setCell, Array.size_modify]; omega
                    rw [← HQ.out] at hk6 hzz ⊢
                    exact RepM.of (lo2 := w.heap.size + 1) (HK.out.keep fun x hx => ⟨⟨by have := hx.1; omega, by have := hx.2.1; omega⟩, hk6 x hx.2.1 (by have := hx.1; omega) (by have := hx.1; omega)⟩) (own_kept HO.out (hk6 g hgb.2 (by omega) (by omega))) ⟨by omega, by omega⟩ HM.out
                  · have hdm : decide (3 < m) = true := decide_eq_true (by omega)
                    have hdi : decide ((3 : Int) < (m : Int)) = true := decide_eq_true (by omega)
                    go_wp2_with fail
                    refine HY.out.mono ?_
                    rintro e w6 ⟨rfl, hb6, hr6⟩
                    have z6 := hb6.size
                    have HR6 := hid hr6
                    have HB6 := hid (HB5.out.trans (hb6.mono (by omega)))
                    have hN6 := (hb6.block nb (by omega) (by omega)).trans HN5.out
                    have n0 := cell_blk hN6 (j := 0) rfl
                    have n1 := cell_blk hN6 (j := 1) rfl
                    have c2 := HR6.out.c2
                    have f2 := HR6.out.f 2
                    obtain ⟨r0, r1, rf⟩ := two_cells ((hb6.block w.heap.size (by omega) (by omega)).trans HZ5.out)
                    clear hb6 hr6 hN6 b5
                    go_wp2_with fail
                    exact bodyPost_ret (v := .agg #[.int .i64 (q : Int), .slice (some ⟨g, 0, none⟩) m cap]) (by simp [results, Tryd.results82, go_sem, r0, r1]) rfl
                      ⟨((HB6.out.set _ _).setAt (Nat.le_refl _) _).setAt (Nat.le_refl _) _, (q : Int), _, m, cap, k' + 1, rfl, by omega, .inl ⟨by rw [HXP.out, if_neg (by have := HM.out; omega)], ((HR6.out.fail true).keep (Below.heap_setCell _ _ _ _ dr)).keep (Below.heap_setCell _ _ _ _ dr)⟩⟩
              · obtain ⟨r2, hr2⟩ : ∃ r2, s.data.toList.drop k' = 44 :: r2 := by
                  rcases hdd : s.data.toList.drop k' with _ | ⟨x, r3⟩
                  · rw [hdd] at h44; exact absurd trivial h44
                  · have hx : x = 44 := by
                      by_cases hx : x = 44
                      · exact hx
                      · rw [hdd] at h44; exact absurd (show [44].contains x = false by simp [hx]) h44
                    exact ⟨r3, by rw [hx]⟩
                have HYES2 := hid (isS_yes rb s k' false 44 r2 wr hr hsm hr2)
                obtain ⟨gk', rfl⟩ : ∃ g', gk = g' + 1 := ⟨gk - 1, by omega⟩
                obtain ⟨fu', rfl⟩ : ∃ g', fu = g' + 1 := ⟨fu - 1, by omega⟩
                have HTT := hid (show pLs (pD n) (l0.length + 1) l0 = (pLs (pD n) (fu' + 1) r2).map fun y => (ps ++ y.1, y.2) by
                  rw [htot, hr2, contD_go])
                obtain ⟨hk1s', _, hd3⟩ := drop_cons hr2
                have HD3 := hid hd3
                have b2 := hr.c2
                clear hr hN hO hB hZ htot HSR hm hkids h44 hr2 hd3
                go_wp2_with fail
                refine HYES2.out.mono ?_
                rintro e w7' ⟨rfl, hb7, hr7⟩
                have z7' := hb7.size
                have FR := hid hr7
                have FB := hid (HB.out.trans (hb7.mono (by omega)))
                have FN := hid ((hb7.block nb (by omega) (by omega)).trans HN.out)
                have FZ := hid ((hb7.block w.heap.size (by omega) (by omega)).trans HZ.out)
                have FO := hid (own_kept HO.out (hb7.block g (by omega) (by omega)))
                have FK := hid (HK.out.keep (S' := fun x => w.heap.size + 1 ≤ x ∧ x < w7'.heap.size ∧ x ≠ nb ∧ x ≠ g) (w' := w7') fun x hx => ⟨⟨hx.1, by have := hx.2.1; omega, hx.2.2⟩, hb7.block x hx.2.1 (by have := hx.1; omega)⟩)
                clear hb7 hr7 b2
                go_upto_region 10 with fail
                have HIH := hid (ih rb (k' + 1) w7'.drew (by omega) (by omega) FR.out)
                have HK4 := hid (fun (w8 : World) (hb8 : But w7'.drew.heap.size rb w7'.drew w8) => show w7'.heap.size ≤ w8.heap.size ∧ w8.cell? ⟨nb, 1, none⟩ = some (.slice (some ⟨g, 0, none⟩) m cap) ∧ (∀ o, (w8.alloc o).cell? ⟨nb, 1, none⟩ = some (.slice (some ⟨g, 0, none⟩) m cap)) ∧ w8.ownsRow (w.heap.size + 1) 64 2 (.slice (some ⟨g, 0, none⟩) m cap) m xs ∧
                    w8.heap[nb]? = some (.cells #[.int .i64 (q : Int), .slice (some ⟨g, 0, none⟩) m cap] 64 (0, 0)) from by
                  have z8 : w7'.heap.size ≤ w8.heap.size := hb8.size
                  have e8 := (hb8.block nb (show nb < w7'.heap.size by omega) (by omega)).trans FN.out
                  exact ⟨z8, cell_blk e8 (j := 1) rfl, fun o => (World.cell?_alloc_lt _ _ _ (by show nb < _; omega)).trans (cell_blk e8 (j := 1) rfl), own_kept FO.out (hb8.block g (show g < w7'.heap.size by omega) (by omega)), e8⟩)
                have HG5 := hid (fun (w8 w9 : World) (o : Obj) (hg : (w8.alloc o).grownBy w9 (Value.slice (some ⟨g, 0, none⟩) m cap).ownBlock) (z8 : w7'.heap.size ≤ w8.heap.size) (e8 : w8.heap[nb]? = some (.cells #[.int .i64 (q : Int), .slice (some ⟨g, 0, none⟩) m cap] 64 (0, 0))) => show w9.heap[nb]? = some (.cells #[.int .i64 (q : Int), .slice (some ⟨g, 0, none⟩) m cap] 64 (0, 0)) from by
                  rw [hg.block _ (by simp only [World.size_alloc]; omega) (by simp [Value.ownBlock]; omega), Below.heap_alloc _ _ _ (by omega)]
                  exact e8)
                have t1 := cell_blk FN.out (j := 1) rfl
                go_region_law
                  (first
                    | (refine step_append_lies _ (by rfl) _ _ _ (by rfl) (w.heap.size + 1) 64 i0 _ 2 32 Tryd.underlying62 hi0 hz0 hz1 hz2 rfl (by omega) (.slice (some ⟨g, 0, none⟩) m cap) m xs (by rfl) (hown8.alloc _)
                         ⟨w8.heap.size, 0, none⟩ 1 1 [.int .i64 q8, .slice A8 m8 cap8] (by rfl) (by rfl) (World.news_of_block (cs := #[.int .i64 q8, .slice A8 m8 cap8]) (t := 64) (fr := (0, 0)) (heap_alloc_new w8 _)) (by simp [Value.oneCell'])
                         (by omega) (by simp only [maxLen]; omega) (by omega) (by simp only [World.size_alloc]; omega) (w8.heap.size + 1) (by simp) ?_
                       intro gg cap9 w9 hown9 hg9 hat9 hlt9
                       have e9 := HG5.out w8 w9 _ hg9 z8 E8.out
                       have c9 := cell_blk e9 (j := 1) rfl
                       have f9 := frz6 (o := 1) e9
                       have HO9 := hid hown9
                       clear e9 hown9)
                    | (go_simp
                       go_at_call 82
                       refine HIH.out.mono ?_
                       intro e w8 hend
                       obtain ⟨q8, A8, m8, cap8, k8, rfl, hb8, hk8, HC8⟩ := hend.open
                       obtain ⟨z8, t8, t8', hown8, e8⟩ := HK4.out w8 hb8
                       have E8 := hid e8
                       clear e8))

                all_goals
                  go_wp2_with fail
                  go_roundg gk'
                  case measure => omega
                  case rel =>
                    obtain ⟨F1, F2, F3, F4, F5, F6, F7, F8, F9⟩ := after6 (nb := nb) (q := (q : Int)) FB.out FN.out FZ.out hnb1 (by omega) zr (by omega) (by omega) hgnb hb8.undrew hg9 hat9 HO9.out
                    have hld : r2.length = s.size - (k' + 1) := by rw [← HD3.out, List.length_drop]; simp
                    rcases HC8.out with ⟨hn8, hr8⟩ | ⟨d, r, hs8, hdr8, hr8, hrep8⟩
                    · refine ⟨k8, m + 1, gg, cap9, 0, true, _, [], hr8.keep (F6 rb (by omega) (by omega) (by omega)), hk8, by omega, F1, F2, F3, F4, F5, .inl ⟨rfl, ?_⟩⟩
                      rw [HD3.out] at hn8
                      rw [HTT.out, pLs, hn8]
                      rfl
                    · rw [HD3.out] at hs8
                      have hsh := pD_shorter hs8
                      have hrl : r.length = s.size - k8 := by rw [← hdr8, List.length_drop]; simp
                      refine ⟨k8, m + 1, gg, cap9, fu', false, _, ps ++ [d], hr8.keep (F6 rb (by omega) (by omega) (by omega)), hk8, by omega, F1, F2, F3, F4, F5, .inr ⟨rfl, by omega, by omega, by rw [List.length_append, ← HM.out]; rfl, by omega, by omega, ?_, ?_⟩⟩
                      · refine (FK.out.keep fun x hx => ?_).snoc (RepM.keep (fun x hx => ?_) d _ _ hrep8)
                        · have h1 := hx.1
                          have h2 := hx.2.1
                          exact ⟨⟨by omega, by omega, hx.2.2.1, by rcases F8 with h | h; rw [h]; exact hx.2.2.2; omega⟩, (F6 x (by omega) hx.2.2.2 hx.2.2.1).trans (hb8.undrew.block x h2 (by omega))⟩
                        · have hx1 : w7'.heap.size ≤ x := hx.1
                          have hx2 := hx.2
                          exact ⟨⟨by omega, by omega, by omega, by rcases F8 with h | h <;> omega⟩, F6 x hx2 (by omega) (by omega)⟩
                      · rw [HTT.out, hdr8, pLs_cont fu' hs8 ps]

theorem nodeD_any (s : ByteArray) (hs : s.size ≤ 1000000) (n : Nat) : NsD s n := by
  induction n with
  | zero => intro rb k w hk hn hr; omega
  | succ n ih => exact nodeD_step s hs n ih

/-- What the model's l6Read comes to. -/
def MEnd (w : World) (o : Option Dt) (e : Ending) (w' : World) : Prop :=
  Below w.heap.size w w' ∧ ((o = none ∧ e = .returned (.tuple #[.agg #[.int .i64 0, .slice none 0 0], .bool false])) ∨
    ∃ (d : Dt) (q : Int) (A : Option Addr) (m cap : Nat), o = some d ∧ e = .returned (.tuple #[.agg #[.int .i64 q, .slice A m cap], .bool true]) ∧ RepM w' (fun g => w.heap.size ≤ g ∧ g < w'.heap.size) d (.int .i64 q) (.slice A m cap))

set_option maxHeartbeats 1000000 in
set_option maxRecDepth 100000 in
theorem l6Read_any (s : ByteArray) (w : World) (hs : s.size ≤ maxLen) :
    Calls Tryd.prog 54 #[.string s] w (MEnd w (dtOf s.data.toList)) := by
  have hsz : s.size = s.data.toList.length := by simp
  by_cases hl : s.size ≤ 1200
  · have hl0 : ¬ (1200 : Int) < (s.size : Int) := by omega
    have hz0 : (0 : Int) = ((0 : Nat) : Int) := rfl
    have hr0 : R6 ((w.alloc (.cells #[.int .i64 0, .slice none 0 0] 64)).alloc (.cells #[.string s, .int .i64 0, .bool false] 96)) (w.heap.size + 1) s 0 false := by
      have := heap_new1 (w.alloc (.cells #[.int .i64 0, .slice none 0 0] 64)) (.cells #[.string s, .int .i64 0, .bool false] 96)
      rwa [World.size_alloc] at this
    have hnode := nodeD_any s (by omega) (s.data.toList.length + 1) (w.heap.size + 1) 0 _ (Nat.zero_le _) (by omega) hr0
    rw [List.drop_zero] at hnode
    have HN := hid hnode
    have HSZ := hid hsz
    clear hnode hz0 hr0 hsz
    go_enter Tryd.func54, Tryd.ntmps54
    go_wp2_with fail
    refine HN.out.mono ?_
    rintro e w1 hend
    obtain ⟨q, A, m, cap, k, rfl, hb1, hk, hcase⟩ := hend.open
    have z1 := hb1.size
    simp only [World.size_alloc] at z1
    have hres : w1.heap[w.heap.size]? = some (.cells #[.int .i64 0, .slice none 0 0] 64 (0, 0)) := by
      rw [hb1.block _ (by simp only [World.size_alloc]; omega) (by omega), Below.heap_alloc _ _ _ (by simp only [World.size_alloc]; omega)]
      exact heap_new1 _ _
    have hbel : Below w.heap.size w w1 := (((Below.refl _ _).alloc (Nat.le_refl _) _).alloc (by simp only [World.size_alloc]; omega) _).trans (hb1.below' (by simp only [World.size_alloc]; omega) (by omega))
    obtain ⟨r0, r1, rf⟩ := two_cells hres
    have g0 : ∀ o, (w1.alloc o).cell? ⟨w.heap.size, 0, none⟩ = some (.int .i64 0) := fun o => (World.cell?_alloc_lt _ _ _ (by show w.heap.size < _; omega)).trans r0
    have g1 : ∀ o, (w1.alloc o).cell? ⟨w.heap.size, 1, none⟩ = some (.slice none 0 0) := fun o => (World.cell?_alloc_lt _ _ _ (by show w.heap.size < _; omega)).trans r1
    have gf : ∀ o k, (w1.alloc o).frozen? ⟨w.heap.size, k, none⟩ = false := fun o k => (World.frozen?_alloc_old _ _ _ (by show w.heap.size ≠ _; omega)).trans (rf k)
    clear r0 r1 rf hend hb1
    rcases hcase.out with ⟨hn1, hr1⟩ | ⟨d, r, hs1, hd1, hr1, hrep⟩
    · have b0 : ∀ o, (w1.alloc o).cell? ⟨w.heap.size + 1, 2, none⟩ = some (.bool true) := fun o => (World.cell?_alloc_lt _ _ _ (by show w.heap.size + 1 < _; omega)).trans hr1.c2
      have HD := hid (dtOf_none hn1)
      clear hn1 hr1 hcase
      go_wp2_with fail
      exact bodyPost_ret (v := .tuple #[.agg #[.int .i64 0, .slice none 0 0], .bool false]) (by simp [results, Tryd.results54, go_sem, g0, g1]) rfl
        ⟨((hbel.alloc (by omega) _).setCell (Nat.le_refl _) _).setCell (Nat.le_refl _) _, .inl ⟨HD.out, rfl⟩⟩
    · have b0 : ∀ o, (w1.alloc o).cell? ⟨w.heap.size + 1, 2, none⟩ = some (.bool false) := fun o => (World.cell?_alloc_lt _ _ _ (by show w.heap.size + 1 < _; omega)).trans hr1.c2
      have b1 : ∀ o, (w1.alloc o).cell? ⟨w.heap.size + 1, 1, none⟩ = some (.int .i64 k) := fun o => (World.cell?_alloc_lt _ _ _ (by show w.heap.size + 1 < _; omega)).trans hr1.c1
      by_cases hks : k = s.size
      · have hd : ((k : Int) != (s.size : Int)) = false := by simp [hks]
        have hrn : r = [] := by
          rw [← hd1, hks]
          exact List.drop_eq_nil_of_le (by simp)
        have HD := hid (show dtOf s.data.toList = some d by rw [hrn] at hs1; exact dtOf_some hs1 (by have := HSZ.out; omega))
        have HREP := hid hrep
        clear hks hd1 hrn hs1 hr1 hcase hrep
        go_wp2_with fail
        refine bodyPost_ret (v := .tuple #[.agg #[.int .i64 q, .slice A m cap], .bool true]) (by simp [results, Tryd.results54, go_sem, g0, g1]) rfl
          ⟨((hbel.alloc (by omega) _).setCell (Nat.le_refl _) _).setCell (Nat.le_refl _) _, .inr ⟨d, q, A, m, cap, HD.out, rfl, RepM.keep (fun x hx => ?_) d _ _ HREP.out⟩⟩
        obtain ⟨hx1, hx2⟩ := hx
        simp only [World.size_alloc] at hx1
        refine ⟨⟨by omega, by simp [World.setCell]; omega⟩, ?_⟩
        rw [Below.heap_setCell _ _ _ _ (by show x ≠ w.heap.size; omega), Below.heap_setCell _ _ _ _ (by show x ≠ w.heap.size; omega), Below.heap_alloc _ _ _ hx2]
      · have hd : ((k : Int) != (s.size : Int)) = true := by simp; omega
        have HD := hid (show dtOf s.data.toList = none by
          rcases r with _ | ⟨x, r⟩
          · exact absurd (by
              have h := congrArg List.length hd1
              rw [List.length_drop] at h
              have e : s.size = s.data.toList.length := by simp
              simp at h
              omega) hks
          · exact dtOf_rest hs1)
        clear hks hd1 hs1 hr1 hcase hrep
        go_wp2_with fail
        exact bodyPost_ret (v := .tuple #[.agg #[.int .i64 0, .slice none 0 0], .bool false]) (by simp [results, Tryd.results54, go_sem, g0, g1]) rfl
          ⟨((hbel.alloc (by omega) _).setCell (Nat.le_refl _) _).setCell (Nat.le_refl _) _, .inl ⟨HD.out, rfl⟩⟩
  · have hl0 : (1200 : Int) < (s.size : Int) := by omega
    have HD := hid (dtOf_long (l := s.data.toList) (by omega))
    have h0 := heap_new1 w (.cells #[.int .i64 0, .slice none 0 0] 64)
    obtain ⟨r0, r1, rf⟩ := two_cells h0
    clear hsz h0
    go_enter Tryd.func54, Tryd.ntmps54
    go_wp2_with fail
    exact bodyPost_ret (v := .tuple #[.agg #[.int .i64 0, .slice none 0 0], .bool false]) (by simp [results, Tryd.results54, go_sem, r0, r1]) rfl
      ⟨(Below.refl _ _).alloc (Nat.le_refl _) _, .inl ⟨HD.out, rfl⟩⟩

theorem RepM.row {w : World} {S : Nat → Prop} {c : UInt8} {ps : List Dt} {h p : Value} (hr : RepM w S (.nd c ps) h p) : h = .int .i64 ((c.toNat - 48 : Nat) : Int) ∧ ∃ A cap, p = .slice A ps.length cap ∧ ps.length ≤ cap ∧
    (0 < ps.length → ∃ g, A = some ⟨g, 0, none⟩ ∧ S g ∧ ∀ (j : Nat) p, ps[j]? = some p → ∃ x y, w.cell? ⟨g, j * 2, none⟩ = some x ∧ w.cell? ⟨g, j * 2 + 1, none⟩ = some y ∧ RepM w S p x y) := by
  rw [RepM_nd] at hr
  obtain ⟨hh, A, cap, e, hcap, hp⟩ := hr
  refine ⟨hh, A, cap, e, hcap, fun h0 => ?_⟩
  rcases hp with rfl | ⟨g, e, hg, hr⟩
  · exact absurd h0 (Nat.lt_irrefl 0)
  · rw [RepML_iff] at hr
    exact ⟨g, e, hg, fun j p hj => by obtain ⟨x, y, h1, h2, h3⟩ := hr j p hj; exact ⟨x, y, by rw [← h1, Nat.zero_add], by rw [← h2, Nat.zero_add], h3⟩⟩
theorem RepM.form {w : World} {S : Nat → Prop} {d : Dt} {h p : Value} (hr : RepM w S d h p) : ∃ q A m cap, h = .int .i64 q ∧ p = .slice A m cap := by
  obtain ⟨c, ps⟩ := d
  obtain ⟨rfl, A, cap, rfl, _⟩ := hr.row
  exact ⟨_, _, _, _, rfl, rfl⟩

def SizeM (d : Dt) : Prop := ∀ (S : Nat → Prop) (h p : Value) (w : World), RepM w S d h p → (∀ x, S x → x < w.heap.size) → d.text.length ≤ 100000000000 →
  Calls Tryd.prog 76 #[.agg #[h, p]] w fun e w' => e = .returned (.int .i64 (d.size : Int)) ∧ Below w.heap.size w w'

set_option maxHeartbeats 1000000 in
set_option maxRecDepth 100000 in
theorem sizeM_any (d : Dt) : SizeM d := by
  induction d using Dt.ind with
  | h c ps ih =>
    intro S h p w hr hS hl
    have hls : ∀ p ∈ ps, p.text.length ≤ 100000000000 := fun p hp => by
      have h1 := mem_len (i := 0) hp
      rw [Dt.text_nd] at hl
      simp only [List.length_cons, List.length_append] at hl
      omega
    have hnb : ps.length ≤ 100000000000 := by
      have := partsT_len ps 0
      rw [Dt.text_nd] at hl
      simp only [List.length_cons, List.length_append] at hl
      omega
    have hsz := (Dt.nd c ps).size_le
    rw [Dt.size_nd] at hsz ⊢
    obtain ⟨rfl, A, cap, rfl, hcap, hrow⟩ := hr.row
    obtain ⟨n, hn⟩ : ∃ n, ps.length = n := ⟨_, rfl⟩
    rw [hn] at hrow hcap hnb ⊢
    obtain ⟨T, hT⟩ : ∃ T, sizeL ps = T := ⟨_, rfl⟩
    rw [hT] at hsz ⊢
    have hTm : T ≤ 100000000000 := by omega
    have HT := hid hT
    have HN := hid hn
    have HROW := hid hrow
    have HIH := hid ih
    have HL := hid hls
    have HS := hid hS
    obtain ⟨q, hq⟩ : ∃ q, c.toNat - 48 = q := ⟨_, rfl⟩
    rw [hq]
    have hW := heap_new1 w (.cells #[.int .i64 (q : Int), .slice A n cap] 64)
    have c1 := cell_blk hW (j := 1) rfl
    clear hn hrow ih hls hr hT hsz hl hS hW hq
    go_enter Tryd.func76, Tryd.ntmps76
    go_wp2_with fail
    go_loopw [3, 9] (fun v i wr => ∃ k : Nat, k ≤ n ∧ i = .int .i64 k ∧ v = .int .i64 ((1 + sizeL (ps.take k) : Nat) : Int) ∧ Below w.heap.size w wr) (fun _ i _ => n - (intOf i).toNat)
    case atStart => exact ⟨0, Nat.zero_le _, rfl, rfl, (Below.refl _ _).alloc (Nat.le_refl _) _⟩
    case round =>
      obtain ⟨k, hk, rfl, rfl, hbel⟩ := hrel
      have zr := hbel.size
      have HBEL := hid hbel
      by_cases hlt : k < n
      · obtain ⟨g, rfl, hg, hcells⟩ := HROW.out (by omega)
        have hpk : k < ps.length := by rw [HN.out]; exact hlt
        obtain ⟨p, hp⟩ : ∃ p, ps[k]? = some p := ⟨_, List.getElem?_eq_getElem hpk⟩
        obtain ⟨x, y, hca, hcb, hrep⟩ := hcells k p hp
        have hmem := List.mem_of_getElem? hp
        obtain ⟨q', A', m', cap', rfl, rfl⟩ := hrep.form
        have ca := cell_below hca (HS.out g hg) hbel
        have cb := cell_below hcb (HS.out g hg) hbel
        have HZ := hid (HIH.out p hmem S _ _ (wr.alloc (.cells #[.int .i64 q', .slice A' m' cap'] 64)) (RepM.keep (fun x hx => ⟨hx, by rw [Below.heap_alloc _ _ _ (by have := HS.out x hx; omega)]; exact hbel.block x (HS.out x hx)⟩) p _ _ hrep) (fun x hx => by have := HS.out x hx; simp only [World.size_alloc]; omega) (HL.out p hmem))
        have hstep : sizeL (ps.take (k + 1)) = sizeL (ps.take k) + p.size := by rw [List.take_add_one, hp]; exact sizeL_snoc _ _
        have hle : sizeL (ps.take (k + 1)) ≤ T := by
          rw [← HT.out]
          conv => rhs; rw [← List.take_append_drop (k + 1) ps]
          have : ∀ (xs ys : List Dt), sizeL xs ≤ sizeL (xs ++ ys) := by
            intro xs ys
            induction xs with
            | nil => exact Nat.zero_le _
            | cons x xs ih => simp only [List.cons_append, sizeL]; omega
          exact this _ _
        obtain ⟨u, hu⟩ : ∃ u, sizeL (ps.take k) = u := ⟨_, rfl⟩
        obtain ⟨z, hz⟩ : ∃ z, p.size = z := ⟨_, rfl⟩
        rw [hu, hz] at hstep
        rw [hstep] at hle
        rw [hz] at HZ
        rw [hu]
        have HST := hid hstep
        have i1 : (0 : Int) ≤ (k : Int) := by omega
        have i2 : (k : Int) < (n : Int) := by omega
        have hw : IntKind.i64.wrap (((1 + u : Nat) : Int) + (z : Int)) = ((1 + (u + z) : Nat) : Int) := by rw [IntKind.wrap_i64]; omega
        clear hcells hrep hmem hp hstep hu hz hca hcb hbel
        go_wp2_with fail
        refine HZ.out.mono ?_
        rintro e w1 ⟨rfl, hb1⟩
        have HB1 := hid ((HBEL.out.alloc zr _).trans (hb1.mono (by simp only [World.size_alloc]; omega)))
        clear hb1
        go_wp2_with fail
        go_roundw
        case rel =>
          refine ⟨k + 1, by omega, by go_num, ?_, HB1.out⟩
          rw [HST.out]
          congr 1
          omega
        case measure => simp [intOf]; omega
      · have hkn : k = n := by omega
        subst hkn
        go_wp2_with fail
        go_ret
        refine ⟨?_, hbel⟩
        rw [List.take_of_length_le (by have := HN.out; omega), HT.out]
        rfl

end Go.Proofs.YtlpfgiegapelmaaDoor
