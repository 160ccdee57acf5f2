/- The program's reader of worlds: upTo, skips, expect, need, end. -/
import Derived.Test.YtjpdiahbnhemoaaGreatDoorIxA
import Derived.Test.YtjpdiahbnhemoaaGreatDoorPrW
import Derived.Test.YtjpdiahbnhemoaaGreatDoorCh5
namespace Go.Proofs.YtjpdiahbnhemoaaGreatDoor
open Go.RowKit
set_option linter.unusedVariables false

/-- The reader at block rb: the rest, and whether something was wrong. -/
def Rw (w : World) (rb : Nat) (s : ByteArray) (b : Bool) : Prop := ∃ v, IsErr v b ∧ w.heap[rb]? = some (.cells #[.string s, v] 36 (0, 0))
theorem Rw.lt {w : World} {rb : Nat} {s : ByteArray} {b : Bool} (h : Rw w rb s b) : rb < w.heap.size := by
  obtain ⟨v, _, h⟩ := h
  exact (Array.getElem?_eq_some_iff.1 h).1
theorem Rw.keep {w w' : World} {rb : Nat} {s : ByteArray} {b : Bool} (h : Rw w rb s b) (e : w'.heap[rb]? = w.heap[rb]?) : Rw w' rb s b := by
  obtain ⟨v, h1, h2⟩ := h
  exact ⟨v, h1, e.trans h2⟩

theorem indexAny_split {m : List UInt8} : ∀ (l : List UInt8), (Lib.indexAny l m = -1 ∧ l.takeWhile (noB m) = l ∧ l.dropWhile (noB m) = []) ∨ ∃ k : Nat, Lib.indexAny l m = (k : Int) ∧ k < l.length ∧ l.takeWhile (noB m) = l.take k ∧ l.dropWhile (noB m) = l.drop k
  | [] => .inl ⟨rfl, rfl, rfl⟩
  | c :: l => by
    have ih := indexAny_split (m := m) l
    rcases hc : m.contains c with _ | _
    · have hn : noB m c = true := by unfold noB; rw [hc]; rfl
      rcases ih with ⟨h1, h2, h3⟩ | ⟨k, h1, hk, h2, h3⟩
      · refine .inl ⟨Lib.indexAny_none ?_, ?_, ?_⟩
        · intro j b hj hb
          rcases j with _ | j
          · simp at hb; rw [← hb]; exact hc
          · have hb' : l[j]? = some b := by simpa using hb
            rcases hcb : m.contains b with _ | _
            · rfl
            · exfalso
              have hmem : b ∈ l.takeWhile (noB m) := by rw [h2]; exact List.mem_of_getElem? hb'
              have : noB m b = true := List.all_eq_true.1 (List.all_takeWhile (p := noB m) (l := l)) b hmem
              unfold noB at this
              rw [hcb] at this
              cases this
        · rw [List.takeWhile_cons, hn, if_pos rfl, h2]
        · rw [List.dropWhile_cons, hn, if_pos rfl, h3]
      · have hhit : ∃ x, l[k]? = some x ∧ m.contains x = true := by
          refine ⟨l[k], List.getElem?_eq_getElem hk, ?_⟩
          have e : l.dropWhile (noB m) = l[k] :: l.drop (k + 1) := by rw [h3, List.drop_eq_getElem_cons hk]
          rcases dropWhile_ends (m := m) l with h | ⟨c', r, h, hh⟩
          · rw [h] at e; cases e
          · rw [h] at e
            injection e with e1 _
            rw [← e1]
            unfold noB at hh
            simpa using hh
        obtain ⟨x, hx1, hx2⟩ := hhit
        refine .inr ⟨k + 1, Lib.indexAny_hit (x := x) ?_ (by simpa using hx1) hx2, by simp; omega, ?_, ?_⟩
        · intro j b hj hb
          rcases j with _ | j
          · simp at hb; rw [← hb]; exact hc
          · have hb' : l[j]? = some b := by simpa using hb
            rcases hcb : m.contains b with _ | _
            · rfl
            · exfalso
              have hmem : b ∈ l.takeWhile (noB m) := by
                rw [h2]
                exact List.mem_of_getElem? (i := j) (by rw [List.getElem?_take, if_pos (by omega)]; exact hb')
              have : noB m b = true := List.all_eq_true.1 (List.all_takeWhile (p := noB m) (l := l)) b hmem
              unfold noB at this
              rw [hcb] at this
              cases this
        · rw [List.takeWhile_cons, hn, if_pos rfl, h2, List.take_succ_cons]
        · rw [List.dropWhile_cons, hn, if_pos rfl, h3, List.drop_succ_cons]
    · have hn : noB m c = false := by unfold noB; rw [hc]; rfl
      refine .inr ⟨0, Lib.indexAny_hit (x := c) (Lib.NoAny.zero _ _) rfl hc, by simp, ?_, ?_⟩
      · rw [List.takeWhile_cons, hn]; rfl
      · rw [List.dropWhile_cons, hn]; rfl

theorem extract_take (s : ByteArray) (k : Nat) : (s.extract 0 k).data.toList = s.data.toList.take k := by
  rw [ByteArray.data_extract, Array.toList_extract, List.extract_eq_take_drop]
  simp
theorem extract_drop (s : ByteArray) (k : Nat) : (s.extract k s.size).data.toList = s.data.toList.drop k := by
  rw [ByteArray.data_extract, Array.toList_extract, List.extract_eq_take_drop]
  have : s.data.toList.length = s.size := by simp
  rw [List.take_of_length_le (by rw [List.length_drop]; omega)]

theorem rw_set0 {w : World} {rb : Nat} {s : ByteArray} {v : Value} (h : w.heap[rb]? = some (.cells #[.string s, v] 36 (0, 0))) (r : ByteArray) : (w.setCell ⟨rb, 0, none⟩ (.string r)).heap[rb]? = some (.cells #[.string r, v] 36 (0, 0)) := by
  simp [World.setCell, Array.getElem?_modify, h]
theorem rw_set1 {w : World} {rb : Nat} {s : ByteArray} {v : Value} (h : w.heap[rb]? = some (.cells #[.string s, v] 36 (0, 0))) (u : Value) : (w.setCell ⟨rb, 1, none⟩ u).heap[rb]? = some (.cells #[.string s, u] 36 (0, 0)) := by
  simp [World.setCell, Array.getElem?_modify, h]
theorem drop_all (s : ByteArray) : (s.extract s.size s.size).data.toList = [] := by
  rw [extract_drop]
  exact List.drop_eq_nil_of_le (by simp)

set_option maxHeartbeats 2000000 in
set_option maxRecDepth 100000 in
theorem upTo_any (m : ByteArray) (hm2 : 2 ≤ m.size) (hm64 : m.size ≤ 64) (hm : Asc m) (rb : Nat) (s : ByteArray) (b : Bool) (w : World) (hs : s.size ≤ 1048576) (hr : Rw w rb s b) :
    Calls Tryz.prog 40 #[.pointer (some ⟨rb, 0, none⟩), .string m] w fun e w' => (∃ p r, e = .returned (.string p) ∧ p.data.toList = s.data.toList.takeWhile (noB m.data.toList) ∧ r.data.toList = s.data.toList.dropWhile (noB m.data.toList) ∧ Rw w' rb r b) ∧ But w.heap.size rb w w' := by
  obtain ⟨v, hv, hb⟩ := hr
  have hlt : rb < w.heap.size := (Array.getElem?_eq_some_iff.1 hb).1
  have HV := hid hv
  have HB := hid hb
  have q0 := cell_blk hb (j := 0) rfl
  have HIA := hid (fun (W : World) => indexAny_any s m hm2 hm64 hm hs W)
  clear hv hb
  obtain ⟨k, hk⟩ : ∃ k, Lib.indexAny s.data.toList m.data.toList = k := ⟨_, rfl⟩
  have hsp := indexAny_split (m := m.data.toList) s.data.toList
  rw [hk] at HIA hsp
  have HSP := hid hsp
  clear hk hsp
  go_enter Tryz.func40, Tryz.ntmps40
  go_wp2_with fail
  refine (HIA.out w).mono ?_
  rintro e w1 ⟨rfl, b1⟩
  have HB1 := hid ((b1.block rb hlt).trans HB.out)
  have BB1 := hid b1
  have r0 := cell_blk HB1.out (j := 0) rfl
  have f0 := frz_blk HB1.out
  clear b1 q0
  rcases HSP.out with ⟨hk, h1, h2⟩ | ⟨j, hk, hj, h1, h2⟩
  · subst hk
    have H1 := hid h1
    have H2 := hid h2
    clear h1 h2
    go_wp2_with fail
    go_ret
    exact ⟨⟨s, _, rfl, H1.out.symm, by rw [H2.out]; first | exact drop_all s | rfl, v, HV.out, rw_set0 HB1.out _⟩, (But.of_below BB1.out).set _ _⟩
  · subst hk
    have hjs : (j : Int) ≤ (s.size : Int) := by
      have : s.data.toList.length = s.size := by simp
      omega
    have hj0 : ¬ (j : Int) < 0 := by omega
    have H1 := hid h1
    have H2 := hid h2
    clear h1 h2
    go_wp2_with fail
    go_ret
    exact ⟨⟨_, _, rfl, by rw [extract_take]; exact H1.out.symm, by rw [extract_drop]; exact H2.out.symm, v, HV.out, rw_set0 HB1.out _⟩, (But.of_below BB1.out).set _ _⟩

theorem hasPrefix_one (l : List UInt8) (m : UInt8) : Lib.hasPrefix l [m] = skB m l := by
  rcases l with _ | ⟨c, l⟩
  · rfl
  · unfold skB
    show (Lib.hasPrefix (c :: l) [m]) = (some c == some m)
    rw [show (some c == some m) = (c == m) from rfl]
    show (m == c && true) = (c == m)
    rw [Bool.and_true, Bool.eq_iff_iff, beq_iff_eq, beq_iff_eq]
    exact ⟨fun h => h.symm, fun h => h.symm⟩
theorem trimPrefix_one (l : List UInt8) (m : UInt8) : Lib.trimPrefix l [m] = skR m l := by
  unfold Lib.trimPrefix skR
  rw [hasPrefix_one]
  rcases h : skB m l with _ | _
  · rfl
  · simp

set_option maxHeartbeats 2000000 in
set_option maxRecDepth 100000 in
theorem skips_any (m : UInt8) (rb : Nat) (s : ByteArray) (b : Bool) (w : World) (hr : Rw w rb s b) :
    Calls Tryz.prog 26 #[.pointer (some ⟨rb, 0, none⟩), .string ⟨#[m]⟩] w fun e w' => (∃ r, e = .returned (.bool (skB m s.data.toList)) ∧ r.data.toList = skR m s.data.toList ∧ Rw w' rb r b) ∧ But w.heap.size rb w w' := by
  obtain ⟨v, hv, hb⟩ := hr
  have hlt : rb < w.heap.size := (Array.getElem?_eq_some_iff.1 hb).1
  have HV := hid hv
  have HB := hid hb
  have q0 := cell_blk hb (j := 0) rfl
  have f0 := frz_blk hb
  have HCP := hid (Tryz.strings_CutPrefix s ⟨#[m]⟩)
  rw [show (⟨#[m]⟩ : ByteArray).data.toList = [m] from rfl, hasPrefix_one, trimPrefix_one] at HCP
  obtain ⟨r, hr⟩ : ∃ r : ByteArray, (⟨(skR m s.data.toList).toArray⟩ : ByteArray) = r := ⟨_, rfl⟩
  have HR := hid (show r.data.toList = skR m s.data.toList by rw [← hr])
  rw [hr] at HCP
  obtain ⟨f, hf⟩ : ∃ f, skB m s.data.toList = f := ⟨_, rfl⟩
  rw [hf] at HCP ⊢
  clear hv hb hr hf
  go_enter Tryz.func26, Tryz.ntmps26
  go_wp2_with fail
  refine (HCP.out w).mono ?_
  rintro e w1 ⟨rfl, rfl⟩
  go_wp2_with fail
  go_ret
  exact ⟨⟨r, rfl, HR.out, v, HV.out, rw_set0 HB.out _⟩, (But.refl _ _ _).set _ _⟩

set_option maxHeartbeats 2000000 in
set_option maxRecDepth 100000 in
theorem expect_any (well : Bool) (t : TypeId) (a : Addr) (rb : Nat) (s : ByteArray) (b : Bool) (w : World) (hr : Rw w rb s b) :
    Calls Tryz.prog 28 #[.pointer (some ⟨rb, 0, none⟩), .bool well, .iface t (.pointer (some a))] w fun e w' => e = .returned (.tuple #[]) ∧ Rw w' rb s (b || !well) ∧ But w.heap.size rb w w' := by
  obtain ⟨v, hv, hb⟩ := hr
  have hlt : rb < w.heap.size := (Array.getElem?_eq_some_iff.1 hb).1
  have HV := hid hv
  have HB := hid hb
  have q0 := cell_blk hb (j := 1) rfl
  clear hv hb
  cases well
  · rcases HV.out.form with rfl | ⟨T1, P1, rfl⟩
    all_goals
      go_enter Tryz.func28, Tryz.ntmps28
      go_wp2_with (first
        | (go_at_call 12
           refine (joinNew2 _ _ _ _ _ HV.out (IsErr.some t a)).mono ?_
           rintro e w5 ⟨⟨v5, rfl, hv5⟩, b5⟩
           obtain ⟨T5, P5, rfl⟩ := IsErr.true (show IsErr v5 true by simpa using hv5)
           have HV5 := hid hv5
           have HB5 := hid ((b5.block rb hlt).trans HB.out)
           have BB5 := hid b5
           have f0 := frz_blk HB5.out
           have q5 := cell_blk HB5.out (j := 1) rfl
           clear hv5 b5)
        | fail)
      go_end0
      exact ⟨rfl, ⟨_, by simpa using HV5.out, rw_set1 HB5.out _⟩, (But.of_below BB5.out).set _ _⟩
  · go_enter Tryz.func28, Tryz.ntmps28
    go_wp2_with fail
    go_end0
    exact ⟨rfl, ⟨v, by simpa using HV.out, HB.out⟩, But.refl _ _ _⟩

theorem ErrAt.but {w w' : World} {k rb B : Nat} (h : ErrAt w k) (hB : w.heap.size ≤ B) (hb : But B rb w w') (hne : k ≠ rb) : ErrAt w' k := by
  obtain ⟨t, a, hc, hk⟩ := h
  refine ⟨t, a, ?_, Nat.lt_of_lt_of_le hk hb.size⟩
  rw [World.cell?_of_block (w := w) (w' := w') (a := ⟨k, 0, none⟩) (hb.block k (by omega) hne)]
  exact hc
/-- The errors that reading tells. -/
structure TErrs (w : World) : Prop where
  name : ErrAt w 4
  type : ErrAt w 5
  text : ErrAt w 0
/-- The reader lies at none of the program's variables. -/
def Off (rb : Nat) : Prop := 4 ≠ rb ∧ 5 ≠ rb ∧ 0 ≠ rb
theorem TErrs.but {w w' : World} {rb B : Nat} (h : TErrs w) (hB : w.heap.size ≤ B) (hb : But B rb w w') (hne : Off rb) : TErrs w' := ⟨h.name.but hB hb hne.1, h.type.but hB hb hne.2.1, h.text.but hB hb hne.2.2⟩
theorem TErrs.below {w w' : World} (h : TErrs w) (hb : Below w.heap.size w w') : TErrs w' := ⟨h.name.below hb, h.type.below hb, h.text.below hb⟩
theorem But.step {rb : Nat} {a b c : World} (h : But a.heap.size rb a b) (k : But b.heap.size rb b c) : But a.heap.size rb a c := h.trans (k.mono h.size)
theorem But.drew1 {rb : Nat} {a b : World} (h : But a.heap.size rb a b) : But a.heap.size rb a b.drew := h.trans ⟨rfl, rfl, rfl, Nat.le_refl _, fun _ _ _ => rfl⟩

set_option maxHeartbeats 2000000 in
set_option maxRecDepth 100000 in
theorem end_any (rb : Nat) (s : ByteArray) (b : Bool) (w : World) (hr : Rw w rb s b) (he : TErrs w) :
    Calls Tryz.prog 13 #[.pointer (some ⟨rb, 0, none⟩)] w fun e w' => (∃ v, e = .returned v ∧ IsErr v (b || !s.data.toList.isEmpty)) ∧ But w.heap.size rb w w' := by
  obtain ⟨t1, a1, k1, g1⟩ := he.text
  have hlt := hr.lt
  have HR := hid hr
  have HC0 := hid (fun (W : World) (hW : Below w.heap.size w W) => show W.cell? ⟨rb, 0, none⟩ = some (.string s) ∧ W.cell? ⟨0, 0, none⟩ = some (.iface t1 (.pointer (some a1))) from by
    obtain ⟨v, _, hb⟩ := HR.out
    exact ⟨cell_below (cell_blk hb (j := 0) rfl) hlt hW, cell_below k1 g1 hW⟩)
  clear hr he k1
  obtain ⟨C, HC⟩ : ∃ C : World → Prop, Hid (∀ w', C w' ↔ Below w.heap.size w w') := ⟨_, hid fun _ => Iff.rfl⟩
  have HCC := hid (fun (W : World) (hW : C W) => HC0.out W ((HC.out W).1 hW))
  have HC1 := hid ((HC.out w.drew).2 (Below.refl _ _).drew)
  have hiso : s.data.toList.isEmpty = s.toList.isEmpty := by rw [ByteArray.toList_eq]
  obtain ⟨f, hf⟩ : ∃ f, s.toList.isEmpty = f := ⟨_, rfl⟩
  rw [hiso, hf]
  have hf2 : (s.toList == []) = f := by rw [← hf]; cases s.toList <;> rfl
  clear hiso
  go_enter Tryz.func13, Tryz.ntmps13
  go_wp2_with fail
  refine wp_region_loose (C := C) 7 (by kernel_rfl) (by kernel_rfl) HC1.out ?_
  simp only [List.take_succ_cons, List.take_zero]
  refine walk_by fun W hnil hval hcall hany hskip => ?_
  iterate 7 (first
    | (refine hval _ _ _ _ (fun _ => by rfl) ⟨_, fun q hq w' hw' => by
         obtain ⟨x0, x1⟩ := HCC.out w' hw'
         first | (go_simp; done) | (go_simp; rfl), ?_⟩
       simp only [Act.put, List.setIfInBounds_toArray, List.set_cons_zero, List.set_cons_succ]))
  refine hnil _ _ ?_
  intro qv hqv w' hw'
  simp only [List.drop_succ_cons, List.drop_zero]
  have hb' := (HC.out w').1 hw'
  have HR2 := hid (HR.out.keep (hb'.block rb hlt))
  clear hnil hval hcall hany
  go_wp2_with fail
  refine (expect_any f t1 a1 rb s b w' HR2.out).mono ?_
  rintro e w2 ⟨rfl, hr2, b2⟩
  obtain ⟨v2, hv2, hb2⟩ := hr2
  have q1 := cell_blk hb2 (j := 1) rfl
  have BB := hid ((But.of_below hb').step (b2.mono (Nat.le_refl _)))
  have HV2 := hid hv2
  clear hb2 hv2 b2
  go_wp2_with fail
  go_ret
  exact ⟨⟨v2, rfl, HV2.out⟩, BB.out⟩

theorem set2_other {w : World} {k rb : Nat} (hne : rb ≠ k) (x y : Value) : ((w.setCell ⟨k, 0, none⟩ x).setCell ⟨k, 1, none⟩ y).heap[rb]? = w.heap[rb]? := by
  simp [World.setCell, Array.getElem?_modify, Ne.symm hne]
theorem set2_but {w : World} {k rb B : Nat} (hk : B ≤ k) (x y : Value) : But B rb w ((w.setCell ⟨k, 0, none⟩ x).setCell ⟨k, 1, none⟩ y) :=
  ⟨rfl, rfl, rfl, by simp [World.setCell], fun j hj _ => set2_other (by omega) x y⟩
/-- How far the reading of a need has come. -/
structure Nst (w : World) (rb : Nat) (W : World) : Prop where
  bt : But w.heap.size rb w W
  lt : w.heap.size < W.heap.size
  bk : W.heap[w.heap.size]? = some (.cells #[.string ⟨#[]⟩, .string ⟨#[]⟩] 49 (0, 0))
  er : TErrs W
theorem Nst.step {w W W' : World} {rb : Nat} (h : Nst w rb W) (hlt : rb < w.heap.size) (hoff : Off rb) (b : But W.heap.size rb W W') : Nst w rb W' :=
  ⟨h.bt.step b, Nat.lt_of_lt_of_le h.lt b.size, (b.block _ h.lt (by omega)).trans h.bk, h.er.but (Nat.le_refl _) b hoff⟩
theorem Nst.below {w W W' : World} {rb : Nat} (h : Nst w rb W) (hlt : rb < w.heap.size) (hoff : Off rb) (b : Below W.heap.size W W') : Nst w rb W' := h.step hlt hoff (But.of_below b)
theorem skR_len (m : UInt8) (l : List UInt8) : (skR m l).length ≤ l.length := by
  unfold skR
  split
  · rw [List.length_tail]; omega
  · exact Nat.le_refl _
theorem ndY_len (l : List UInt8) : (ndY l).length ≤ l.length :=
  Nat.le_trans (List.Sublist.length_le (List.takeWhile_sublist _)) (Nat.le_trans (skR_len _ _) (List.Sublist.length_le (List.dropWhile_sublist _)))

set_option maxHeartbeats 4000000 in
set_option maxRecDepth 100000 in
theorem need_any (rb : Nat) (s : ByteArray) (b : Bool) (w : World) (hs : s.size ≤ 1048576) (hr : Rw w rb s b) (he : TErrs w) (hoff : Off rb) :
    Calls Tryz.prog 42 #[.pointer (some ⟨rb, 0, none⟩)] w fun e w' => (∃ c t r, e = .returned (.agg #[.string c, .string t]) ∧ c.data.toList = ndC s.data.toList ∧ t.data.toList = ndY s.data.toList ∧ r.data.toList = ndR s.data.toList ∧ Rw w' rb r (b || !ndF s.data.toList)) ∧ But w.heap.size rb w w' := by
  have hlt := hr.lt
  have HR := hid hr
  have HE := hid he
  have HOFF := hid hoff
  have asc4 : Asc ⟨#[32, 58, 38, 59]⟩ := by
    intro j b hb
    have hj : j < 4 := (List.getElem?_eq_some_iff.1 hb).1
    match j, hj with
    | 0, _ => injection hb with hb; rw [← hb]; decide
    | 1, _ => injection hb with hb; rw [← hb]; decide
    | 2, _ => injection hb with hb; rw [← hb]; decide
    | 3, _ => injection hb with hb; rw [← hb]; decide
  have asc3 : Asc ⟨#[58, 38, 59]⟩ := by
    intro j b hb
    have hj : j < 3 := (List.getElem?_eq_some_iff.1 hb).1
    match j, hj with
    | 0, _ => injection hb with hb; rw [← hb]; decide
    | 1, _ => injection hb with hb; rw [← hb]; decide
    | 2, _ => injection hb with hb; rw [← hb]; decide
  have A4 := hid asc4
  have A3 := hid asc3
  obtain ⟨w1, hw1⟩ : ∃ w1, w.alloc (.cells #[.string ⟨#[]⟩, .string ⟨#[]⟩] 49) = w1 := ⟨_, rfl⟩
  have n1 : Nst w rb w1 := by
    rw [← hw1]
    exact ⟨But.of_below ((Below.refl _ _).alloc (Nat.le_refl _) _), by simp only [World.size_alloc]; omega, heap_new1 w _, he.below ((Below.refl _ _).alloc (Nat.le_refl _) _)⟩
  have N1 := hid n1
  have R1 := hid (show Rw w1 rb s b by rw [← hw1]; exact hr.keep (Below.heap_alloc _ _ _ hlt))
  have HW1 := hid hw1
  clear hr he hoff asc4 asc3 hw1 n1
  go_enter Tryz.func42, Tryz.ntmps42
  go_wp2_with fail
  rw [HW1.out]
  refine (upTo_any ⟨#[32, 58, 38, 59]⟩ (by decide) (by decide) A4.out rb s b w1 hs R1.out).mono ?_
  rintro e w2 ⟨⟨p, r1, rfl, hp, hr1, R2⟩, b2⟩
  have N2 := hid (N1.out.step hlt HOFF.out b2)
  have HP := hid hp
  have HR1 := hid hr1
  have R2' := hid R2
  obtain ⟨t2, a2, k2, g2⟩ := N2.out.er.name
  clear b2 R2 hp hr1
  obtain ⟨C2, HC2⟩ : ∃ C : World → Prop, Hid (∀ w', C w' ↔ Below w2.heap.size w2 w') := ⟨_, hid fun _ => Iff.rfl⟩
  have HCC2 := hid (fun (W : World) (hW : C2 W) => show W.cell? ⟨4, 0, none⟩ = some (.iface t2 (.pointer (some a2))) from cell_below k2 g2 ((HC2.out W).1 hW))
  have HCB := hid (fun (W W' : World) (hW : C2 W) (hb : Below W.heap.size W W') => show C2 W' from (HC2.out W').2 (((HC2.out W).1 hW).trans (hb.mono ((HC2.out W).1 hW).size)))
  have HC1 := hid ((HC2.out w2.drew).2 (Below.refl _ _).drew)
  obtain ⟨f1, hf1⟩ : ∃ f, isNm p.data.toList = f := ⟨_, rfl⟩
  have HIN := hid (fun (W : World) => isName_any p W)
  rw [hf1] at HIN
  have HF1 := hid hf1
  clear hf1 k2
  go_wp2_with fail
  refine wp_region_loose (C := C2) 4 (by kernel_rfl) (by kernel_rfl) HC1.out ?_
  simp only [List.take_succ_cons, List.take_zero]
  refine walk_by fun W hnil hval hcall hany hskip => ?_
  iterate 4 (first
    | (refine hval _ _ _ _ (fun _ => by rfl) ⟨_, fun q hq w' hw' => by
         have x0 := HCC2.out w' hw'
         first | (go_simp; done) | (go_simp; rfl), ?_⟩
       simp only [Act.put, List.setIfInBounds_toArray, List.set_cons_zero, List.set_cons_succ])
    | (refine hcall _ _ _ _ (fun _ => by rfl) ⟨60, _, _, fun q hq w' hw' => ⟨by first | (go_simp; done) | (go_simp; rfl), (HIN.out w').mono fun e w'' h => ⟨h.1, by rw [h.2]; exact hw'⟩⟩, ?_⟩
       simp only [Act.put, List.setIfInBounds_toArray, List.set_cons_zero, List.set_cons_succ]))
  refine hnil _ _ ?_
  intro qv hqv w' hw'
  simp only [List.drop_succ_cons, List.drop_zero]
  clear hnil hval hcall hany
  have N3 := hid (N2.out.below hlt HOFF.out ((HC2.out w').1 hw'))
  have R3 := hid (R2'.out.keep (((HC2.out w').1 hw').block rb (Nat.lt_trans hlt N2.out.lt)))
  have y0 := HCC2.out w' hw'
  go_wp2_with fail
  refine (expect_any f1 t2 a2 rb r1 b w' R3.out).mono ?_
  rintro e w4 ⟨rfl, hr4, b4⟩
  have N4 := hid (N3.out.step hlt HOFF.out b4)
  have R4 := hid hr4
  clear hr4 b4 y0 hw'
  obtain ⟨t4, a4, k4, g4⟩ := N4.out.er.text
  obtain ⟨f2, hf2⟩ : ∃ f, skB 32 r1.data.toList = f := ⟨_, rfl⟩
  have HSK := hid (fun (W : World) (hW : Below w4.heap.size w4 W) => skips_any 32 rb r1 (b || !f1) W (R4.out.keep (hW.block rb R4.out.lt)))
  rw [hf2] at HSK
  have HF2 := hid hf2
  clear hf2
  go_wp2_with fail
  go_region_with (first
    | (go_at_call 26
       refine (HSK.out _ (by first | exact Below.refl _ _ | exact (Below.refl _ _).drew | exact (Below.refl _ _).drew.drew)).mono ?_
       rintro e w5 ⟨⟨r2, rfl, hr2, R5⟩, b5⟩
       have b5' : But w4.heap.size rb w4 w5 := ((But.refl _ _ _).drew1.step b5)
       have N5 := hid (N4.out.step hlt HOFF.out b5')
       have HR2 := hid hr2
       have R5' := hid R5
       have k5 : w5.cell? ⟨0, 0, none⟩ = some (.iface t4 (.pointer (some a4))) := by
         rw [World.cell?_of_block (w := w4) (w' := w5) (a := ⟨0, 0, none⟩) (b5'.block _ g4 HOFF.out.2.2)]
         exact k4
       clear b5 b5' R5 hr2)
    | (go_at_call 28
       refine (expect_any f2 t4 a4 rb r2 (b || !f1) w5 R5'.out).mono ?_
       rintro e w6 ⟨rfl, hr6, b6⟩
       have N6 := hid (N5.out.step hlt HOFF.out b6)
       have R6 := hid hr6
       clear hr6 b6 k5))
  all_goals
    have hsz2 : r2.size ≤ 1048576 := by
      have e2 : r2.size = r2.data.toList.length := by simp
      have e0 : s.size = s.data.toList.length := by simp
      rw [e2, HR2.out]
      refine Nat.le_trans (skR_len _ _) ?_
      rw [HR1.out]
      exact Nat.le_trans (List.Sublist.length_le (List.dropWhile_sublist _)) (by omega)
    go_wp2_with fail
    refine (upTo_any ⟨#[58, 38, 59]⟩ (by decide) (by decide) A3.out rb r2 _ w6 hsz2 R6.out).mono ?_
    rintro e w7 ⟨⟨q, r3, rfl, hq, hr3, R7⟩, b7⟩
    have N7 := hid (N6.out.step hlt HOFF.out b7)
    have HQ := hid hq
    have HR3 := hid hr3
    have R7' := hid R7
    obtain ⟨t7, a7, k7, g7⟩ := N7.out.er.type
    clear b7 R7 hq hr3 k4
    obtain ⟨C7, HC7⟩ : ∃ C : World → Prop, Hid (∀ w', C w' ↔ Below w7.heap.size w7 w') := ⟨_, hid fun _ => Iff.rfl⟩
    have HCC7 := hid (fun (W : World) (hW : C7 W) => show W.cell? ⟨5, 0, none⟩ = some (.iface t7 (.pointer (some a7))) from cell_below k7 g7 ((HC7.out W).1 hW))
    have HCB := hid (fun (W W' : World) (hW : C7 W) (hb : Below W.heap.size W W') => show C7 W' from (HC7.out W').2 (((HC7.out W).1 hW).trans (hb.mono ((HC7.out W).1 hW).size)))
    have HC1 := hid ((HC7.out w7.drew).2 (Below.refl _ _).drew)
    obtain ⟨f3, hf3⟩ : ∃ f, (tyOf q.data.toList).isSome = f := ⟨_, rfl⟩
    have hqy : q.data.toList = ndY s.data.toList := by rw [HQ.out, HR2.out, HR1.out]; rfl
    have hqz : q.size ≤ maxLen := by
      have e2 : q.size = q.data.toList.length := by simp
      have e0 : s.size = s.data.toList.length := by simp
      rw [e2, hqy]
      refine Nat.le_trans (ndY_len _) ?_
      unfold maxLen
      omega
    have HTV := hid (fun (W : World) => typeValidI_at q W hqz f3 (hid hf3))
    have HF3 := hid hf3
    have HQY := hid hqy
    clear hf3 k7 hqy hqz hsz2
    go_wp2_with fail
    refine wp_region_loose (C := C7) 4 (by kernel_rfl) (by kernel_rfl) HC1.out ?_
    simp only [List.take_succ_cons, List.take_zero]
    refine walk_by fun W hnil hval hcall hany hskip => ?_
    iterate 4 (first
      | (refine hval _ _ _ _ (fun _ => by rfl) ⟨_, fun q hq w' hw' => by
           have x0 := HCC7.out w' hw'
           first | (go_simp; done) | (go_simp; rfl), ?_⟩
         simp only [Act.put, List.setIfInBounds_toArray, List.set_cons_zero, List.set_cons_succ])
      | (refine hcall _ _ _ _ (fun _ => by rfl) ⟨61, _, _, fun q hq w' hw' => ⟨by first | (go_simp; done) | (go_simp; rfl), (HTV.out w').mono fun e w'' h => ⟨h.1, HCB.out _ _ hw' h.2⟩⟩, ?_⟩
         simp only [Act.put, List.setIfInBounds_toArray, List.set_cons_zero, List.set_cons_succ]))
    refine hnil _ _ ?_
    intro qv hqv w' hw'
    simp only [List.drop_succ_cons, List.drop_zero]
    clear hnil hval hcall hany
    have N8 := hid (N7.out.below hlt HOFF.out ((HC7.out w').1 hw'))
    have R8 := hid (R7'.out.keep (((HC7.out w').1 hw').block rb (Nat.lt_trans hlt N7.out.lt)))
    have y0 := HCC7.out w' hw'
    go_wp2_with fail
    refine (expect_any f3 t7 a7 rb r3 _ w' R8.out).mono ?_
    rintro e w9 ⟨rfl, hr9, b9⟩
    have N9 := hid (N8.out.step hlt HOFF.out b9)
    have R9 := hid hr9
    clear hr9 b9 y0 hw'
    have c0 := cell_blk N9.out.bk (j := 0) rfl
    have c1 := cell_blk N9.out.bk (j := 1) rfl
    have cf := frz_blk N9.out.bk
    have HFF := hid (show (b || !f1 || !f2 || !f3) = (b || !ndF s.data.toList) by
      unfold ndF
      rw [← HQY.out, HF3.out]
      unfold ndC ndK
      have e1 := HP.out
      have e2 := HR1.out
      rw [show ms4 = (⟨#[32, 58, 38, 59]⟩ : ByteArray).data.toList from rfl, ← e1, ← e2, HF1.out, HF2.out]
      cases b <;> cases f1 <;> cases f2 <;> cases f3 <;> rfl)
    go_wp2_with fail
    refine bodyPost_ret (v := .agg #[.string p, .string q]) (by simp [results, Tryz.results42, go_sem, c0, c1]) rfl ⟨⟨p, q, r3, rfl, HP.out, HQY.out, by rw [HR3.out, HR2.out, HR1.out]; rfl, ?_⟩, ?_⟩
    · rw [← HFF.out]
      exact R9.out.keep (set2_other (by omega) _ _)
    · exact N9.out.bt.trans (set2_but (Nat.le_refl _) _ _)

end Go.Proofs.YtjpdiahbnhemoaaGreatDoor
