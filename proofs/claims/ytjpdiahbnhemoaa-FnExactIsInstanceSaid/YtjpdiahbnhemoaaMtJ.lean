/- The walk of matching in the program: its closure, and match. match of the program. -/
import Derived.Test.YtjpdiahbnhemoaaWalkJ
import Derived.Test.YtjpdiahbnhemoaaMtW
namespace Go.Proofs.Ytjpdiahbnhemoaa
open Go.RowKit

theorem cf_match1 (args : Array Value) (w : World) : (callFunc 100 args).run Try.prog w = .ok (.enter 100 args) w := by kernel_rfl
theorem cf_match2 (args : Array Value) (w : World) : (callFunc 101 args).run Try.prog w = .ok (.enter 101 args) w := by kernel_rfl

/-- How the walk ends. -/
def MtEnd (w : World) (sb : Nat) (S : Nat → Prop) (r : Option (UInt8 → Option Ty)) (e : Ending) (w' : World) : Prop :=
  But w.heap.size sb w w' ∧ match r with
    | none => e = .panicked noBindC
    | some g => e = .returned (.tuple #[]) ∧ Stnd w' sb S g
theorem mtEnd_or {w : World} {sb : Nat} {S : Nat → Prop} {r : Option (UInt8 → Option Ty)} {e : Ending} {w' : World} (h : MtEnd w sb S r e w') : e = .returned (.tuple #[]) ∨ e = .panicked noBindC := by
  obtain ⟨_, h⟩ := h
  cases r with
  | none => exact .inr h
  | some g => exact .inl h.1
/-- The walk's own variable and that of the standings. -/
structure Walking (fn : Nat) (w : World) (p1 p2 sb : Nat) : Prop where
  c1 : w.cell? ⟨p1, 0, none⟩ = some (.func (.func fn) #[] #[.pointer (some ⟨p1, 0, none⟩), .pointer (some ⟨p2, 0, none⟩)])
  c2 : w.cell? ⟨p2, 0, none⟩ = some (.pointer (some ⟨sb, 0, none⟩))
  l1 : p1 < w.heap.size
  l2 : p2 < w.heap.size
  n1 : p1 ≠ sb
  n2 : p2 ≠ sb
theorem Walking.keep {fn : Nat} {w w' : World} {p1 p2 sb : Nat} (h : Walking fn w p1 p2 sb) (hb : But w.heap.size sb w w') : Walking fn w' p1 p2 sb :=
  ⟨(World.cell?_of_block (w := w) (w' := w') (a := ⟨p1, 0, none⟩) (hb.block p1 h.l1 h.n1)).trans h.c1, (World.cell?_of_block (w := w) (w' := w') (a := ⟨p2, 0, none⟩) (hb.block p2 h.l2 h.n2)).trans h.c2, Nat.lt_of_lt_of_le h.l1 hb.size, Nat.lt_of_lt_of_le h.l2 hb.size, h.n1, h.n2⟩

set_option maxHeartbeats 400000 in
set_option maxRecDepth 100000 in
theorem match1_parts (T1 b1 T2 b2 p1 p2 sb : Nat) (w : World) (R : Ending → World → Prop) (hw : Walking 100 w p1 p2 sb)
    (ta : (Instr.typeAssert (.iface T1 (.pointer (some ⟨b1, 0, none⟩))) 66 105 true).run Try.prog w = .ok (.tuple #[.pointer none, .bool false]) w)
    (HC : Calls Try.prog 68 #[.iface T1 (.pointer (some ⟨b1, 0, none⟩)), .iface T2 (.pointer (some ⟨b2, 0, none⟩)), .func (.func 100) #[] #[.pointer (some ⟨p1, 0, none⟩), .pointer (some ⟨p2, 0, none⟩)]] w R)
    (hR : ∀ e w', R e w' → e = .returned (.tuple #[]) ∨ e = .panicked noBindC) :
    Calls Try.prog 100 #[.iface T1 (.pointer (some ⟨b1, 0, none⟩)), .iface T2 (.pointer (some ⟨b2, 0, none⟩)), .pointer (some ⟨p1, 0, none⟩), .pointer (some ⟨p2, 0, none⟩)] w R := by
  have c1 := hw.c1
  have HCC := hid HC
  have HR := hid hR
  clear HC hR hw
  go_enter Try.func100, Try.ntmps100
  go_wp2_with fail
  refine HCC.out.mono ?_
  intro e w1 hr
  rcases HR.out e w1 hr with rfl | rfl
  · have HRR := hid hr
    clear hr
    go_wp2_with fail
    go_end0
    exact HRR.out
  · have HRR := hid hr
    clear hr
    go_wp2
    exact ⟨rfl, HRR.out⟩

set_option maxHeartbeats 400000 in
set_option maxRecDepth 100000 in
theorem match1_free (c : UInt8) (vb T2 b2 p1 p2 sb : Nat) (w : World) (S : Nat → Prop) (f : UInt8 → Option Ty) (t : Ty) (hc : isVarX c = true) (hv : w.heap[vb]? = some (.cells #[.int .u8 c.toNat] 125 (0, 0))) (h : Stnd w sb S f) (hs : ¬ S sb) (hr : RepP w S t (.iface T2 (.pointer (some ⟨b2, 0, none⟩)))) (hf : f c = none)
    (hw : Walking 100 w p1 p2 sb) :
    Calls Try.prog 100 #[.iface 105 (.pointer (some ⟨vb, 0, none⟩)), .iface T2 (.pointer (some ⟨b2, 0, none⟩)), .pointer (some ⟨p1, 0, none⟩), .pointer (some ⟨p2, 0, none⟩)] w (MtEnd w sb S (some (bindT f c t))) := by
  have c2 := hw.c2
  have HV := hid hv
  have HS := hid h
  have HR := hid hr
  have hn := h
  obtain ⟨cur, g1, g2, g3⟩ := hn
  have g4 := g3 c hc
  rw [hf] at g4
  have G1 := hid g1
  have G4 := hid (show cur[idxX c]? = some .nilIface from g4)
  have ta := ta_var_var vb w
  clear hv h hr g1 g3 g4 hw
  go_enter Try.func100, Try.ntmps100
  go_wp2_with fail
  refine (of_nil sb vb c w hc HV.out cur G1.out G4.out).mono ?_
  rintro e w1 ⟨rfl, m, rfl⟩
  go_wp2_with fail
  refine (set_stnd sb vb c (w.drewN m) S f t _ hc HV.out (HS.out.keep rfl fun k hk => ⟨hk, rfl⟩) hs (HR.out.keep fun k hk => ⟨hk, rfl⟩)).mono ?_
  rintro e w2 ⟨rfl, hst, hb, hz⟩
  have HST := hid hst
  clear hst
  go_wp2_with fail
  go_end0
  exact ⟨((But.refl _ _ w).drewN m).trans hb, rfl, HST.out⟩

theorem bytes_ne {a b : ByteArray} (h : ¬ a = b) : (a.toList == b.toList) = false := by
  rw [ByteArray.toList_eq, ByteArray.toList_eq, beq_eq_false_iff_ne]
  exact fun e => h (WideShapes.bytes_inj e)
theorem str_inj {l l' : List UInt8} (h : strOf l = strOf l') : l = l' := by
  have := congrArg (fun b : ByteArray => b.data.toList) h
  simpa [strOf_list] using this

set_option maxHeartbeats 400000 in
set_option maxRecDepth 100000 in
theorem match1_bound (c : UInt8) (vb T2 b2 p1 p2 sb : Nat) (w : World) (S : Nat → Prop) (f : UInt8 → Option Ty) (t u : Ty) (hc : isVarX c = true) (hv : w.heap[vb]? = some (.cells #[.int .u8 c.toNat] 125 (0, 0))) (h : Stnd w sb S f) (hSl : ∀ k, S k → k < w.heap.size) (hr : RepP w S t (.iface T2 (.pointer (some ⟨b2, 0, none⟩)))) (hf : f c = some u)
    (ho : t.ok) (hl : t.text.length ≤ 60) (huo : u.ok) (hul : u.text.length ≤ 60) (hw : Walking 100 w p1 p2 sb) (o : Option (UInt8 → Option Ty)) (hoo : Hid (o = if u.text = t.text then some f else none)) :
    Calls Try.prog 100 #[.iface 105 (.pointer (some ⟨vb, 0, none⟩)), .iface T2 (.pointer (some ⟨b2, 0, none⟩)), .pointer (some ⟨p1, 0, none⟩), .pointer (some ⟨p2, 0, none⟩)] w (MtEnd w sb S o) := by
  have c2 := hw.c2
  have HV := hid hv
  have HS := hid h
  have HR := hid hr
  have HSL := hid hSl
  have HO := hid ho
  have HUO := hid huo
  have hn := h
  have hsb : sb < w.heap.size := by obtain ⟨cur, h1, _⟩ := h; exact (Array.getElem?_eq_some_iff.1 h1).1
  obtain ⟨cur, g1, g2, g3⟩ := hn
  have g4 := g3 c hc
  rw [hf] at g4
  obtain ⟨v, g5, g6⟩ := g4
  obtain ⟨T, b', rfl, _⟩ := g6.form
  have G1 := hid g1
  have G5 := hid g5
  have G6 := hid g6
  have ta := ta_var_var vb w
  clear hv h hr g1 g3 g5 g6 hw hSl ho huo
  go_enter Try.func100, Try.ntmps100
  go_wp2_with fail
  refine (of_some sb vb c w hc HV.out cur G1.out T b' G5.out).mono ?_
  rintro e w1 ⟨rfl, m, rfl⟩
  go_wp2_with fail
  refine (of_some sb vb c (w.drewN m) hc HV.out cur G1.out T b' G5.out).mono ?_
  rintro e w2 ⟨rfl, m2, rfl⟩
  obtain ⟨W2, hW2⟩ : ∃ W2, (w.drewN m).drewN m2 = W2 := ⟨_, rfl⟩
  have hb2 : Below w.heap.size w W2 := by rw [← hW2]; exact below_drewN' (below_drewN' (Below.refl _ _) m) m2
  rw [hW2]
  clear hW2
  obtain ⟨fn1, hm1, hf1, hk1⟩ := textBy_any u 0 w.heap.size T b' W2 ((G6.out.keep (S' := S) fun k hk => ⟨hk, hb2.block k (HSL.out k hk)⟩).rep (fun k hk => ⟨Nat.zero_le _, HSL.out k hk⟩) HUO.out) hb2.size HUO.out (by omega)
  obtain ⟨q1, hq1⟩ : ∃ q, strOf u.text = q := ⟨_, rfl⟩
  rw [hq1] at hk1
  have HK1 := hid hk1
  have HQ1 := hid hq1
  clear hk1 hq1
  go_wp2_with fail
  refine HK1.out.mono ?_
  rintro e w3 ⟨rfl, hb3⟩
  have hb13 : Below w.heap.size w w3 := hb2.trans (hb3.mono hb2.size)
  obtain ⟨fn2, hm2, hf2, hk2⟩ := textBy_any t 0 w.heap.size T2 b2 w3 ((HR.out.keep (S' := S) fun k hk => ⟨hk, hb13.block k (HSL.out k hk)⟩).rep (fun k hk => ⟨Nat.zero_le _, HSL.out k hk⟩) HO.out) hb13.size HO.out (by omega)
  obtain ⟨q2, hq2⟩ : ∃ q, strOf t.text = q := ⟨_, rfl⟩
  rw [hq2] at hk2
  have HK2 := hid hk2
  have HQ2 := hid hq2
  clear hk2 hq2 hm1 hf1
  have hst3 : Stnd w3 sb S f := HS.out.keep (hb13.block sb hsb) fun k hk => ⟨hk, hb13.block k (HSL.out k hk)⟩
  have HST := hid hst3
  clear hst3
  by_cases he : q1 = q2
  · subst he
    have hte : u.text = t.text := str_inj (HQ1.out.trans HQ2.out.symm)
    have HTE := hid hte
    clear hte
    go_wp2_with fail
    refine HK2.out.mono ?_
    rintro e w4 ⟨rfl, hb4⟩
    go_wp2_with fail
    go_end0
    have hb14 := hb13.trans (hb4.mono hb13.size)
    rw [hoo.out, if_pos HTE.out]
    exact ⟨But.of_below hb14, rfl, HST.out.keep (hb4.block sb (Nat.lt_of_lt_of_le hsb hb13.size)) fun k hk => ⟨hk, hb4.block k (Nat.lt_of_lt_of_le (HSL.out k hk) hb13.size)⟩⟩
  · have hte : ¬ u.text = t.text := fun h => he (by rw [← HQ1.out, ← HQ2.out, h])
    have HTE := hid hte
    have hne := bytes_ne he
    clear hte he
    go_wp2_with fail
    refine HK2.out.mono ?_
    rintro e w4 ⟨rfl, hb4⟩
    go_wp2
    have hb14 := hb13.trans (hb4.mono hb13.size)
    refine ⟨rfl, ?_⟩
    rw [hoo.out, if_neg HTE.out]
    exact ⟨But.of_below hb14, rfl⟩

/-- What the walk does of a pattern. -/
def MatchBy (P : Ty) : Prop := ∀ (t : Ty) (f : UInt8 → Option Ty) (w : World) (v1 v2 : Value) (sb p1 p2 : Nat) (S : Nat → Prop), RepP w S P v1 → RepP w S t v2 → Stnd w sb S f → Walking 100 w p1 p2 sb → ¬ S sb → (∀ k, S k → k < w.heap.size) →
  Fine f → P.ok → t.ok → t.text.length ≤ 60 → Calls Try.prog 100 #[v1, v2, .pointer (some ⟨p1, 0, none⟩), .pointer (some ⟨p2, 0, none⟩)] w (MtEnd w sb S (mt P t f))
theorem ar_top {t : Ty} (h : t.ok) : ar t.top = match t with | .lf _ => 0 | .un _ _ => 1 | .bi _ _ _ => 2 := by
  cases t with
  | lf c => exact h
  | un c a => exact h.1
  | bi c a b => exact h.1
theorem mtEnd_none {w : World} {sb : Nat} {S : Nat → Prop} {e : Ending} {w' : World} (h : e = .panicked noBindC ∧ w' = w) : MtEnd w sb S none e w' := by
  obtain ⟨rfl, rfl⟩ := h
  exact ⟨But.refl _ _ _, rfl⟩

theorem mt_free {c : UInt8} {t : Ty} {f : UInt8 → Option Ty} (hc : isVarX c = true) (hf : f c = none) : mt (.lf c) t f = some (bindT f c t) := by
  unfold mt
  rw [if_pos hc, hf]
theorem mt_bound {c : UInt8} {t u : Ty} {f : UInt8 → Option Ty} (hc : isVarX c = true) (hf : f c = some u) : mt (.lf c) t f = if u.text = t.text then some f else none := by
  unfold mt
  rw [if_pos hc, hf]

theorem mt_con {c : UInt8} {f : UInt8 → Option Ty} (hc : isVarX c = false) (t : Ty) : mt (.lf c) t f = match t with | .lf d => if c = d then some f else none | _ => none := by
  unfold mt
  rw [if_neg (by rw [hc]; decide)]
  cases t <;> rfl
theorem mt_clash {P t : Ty} {f : UInt8 → Option Ty} (hv : ∀ c, P = .lf c → isVarX c = false) (h : P.top ≠ t.top) : mt P t f = none := by
  cases P with
  | lf c =>
    rw [mt_con (hv c rfl)]
    cases t with
    | lf d => exact if_neg h
    | un d a => rfl
    | bi d a a' => rfl
  | un c a =>
    cases t with
    | lf d => rfl
    | un d a => exact if_neg h
    | bi d a a' => rfl
  | bi c a a' =>
    cases t with
    | lf d => rfl
    | un d a => rfl
    | bi d y y' => exact if_neg h

set_option maxHeartbeats 400000 in
theorem matchBy_any (P : Ty) : MatchBy P := by
  induction P with
  | lf c =>
    intro t f w v1 v2 sb p1 p2 S hr1 hr2 hst hwk hsb hSl hf hP ht hl
    obtain ⟨T2, b2, rfl, _⟩ := hr2.form
    have hr1' := hr1
    obtain ⟨b, hSb, ⟨hc, rfl, hb⟩ | ⟨hc, rfl, hb⟩⟩ := hr1
    · rcases hfc : f c with _ | u
      · have hm : mt (.lf c) t f = some (bindT f c t) := mt_free hc hfc
        rw [hm]
        exact match1_free c b T2 b2 p1 p2 sb w S f t hc hb hst hsb hr2 hfc hwk
      · have hm : mt (.lf c) t f = if u.text = t.text then some f else none := mt_bound hc hfc
        exact match1_bound c b T2 b2 p1 p2 sb w S f t u hc hb hst hSl hr2 hfc ht hl (hf c u hfc).1 (hf c u hfc).2 hwk _ (hid hm)
    · refine match1_parts _ b T2 b2 p1 p2 sb w _ hwk (ta_con_var b w) ?_ fun e w' h => mtEnd_or h
      by_cases htop : c = t.top
      · cases t with
        | lf d =>
          obtain rfl : c = d := htop
          have hm : mt (.lf c) (.lf c) f = some f := (mt_con hc _).trans (if_pos rfl)
          rw [hm]
          refine (walk_con S c _ _ _ w hr1' hr2).mono ?_
          rintro e w' ⟨rfl, rfl⟩
          exact ⟨But.refl _ _ _, rfl, hst⟩
        | un d a =>
          have h1 : ar c = 0 := hP
          have h2 : ar d = 1 := ht.1
          rw [show c = d from htop, h2] at h1
          cases h1
        | bi d a a' =>
          have h1 : ar c = 0 := hP
          have h2 : ar d = 2 := ht.1
          rw [show c = d from htop, h2] at h1
          cases h1
      · have hm : mt (.lf c) t f = none := mt_clash (fun d hd => by injection hd with hd; rw [← hd]; exact hc) htop
        rw [hm]
        exact (walk_clash S (.lf c) t _ _ _ w hr1' hr2 htop).mono fun e w' h => mtEnd_none h
  | un c a ih =>
    intro t f w v1 v2 sb p1 p2 S hr1 hr2 hst hwk hsb hSl hf hP ht hl
    obtain ⟨T2, b2, rfl, _⟩ := hr2.form
    have hr1' := hr1
    obtain ⟨b, g, cap, x, hSb, hSg, rfl, hb, hx, hra⟩ := hr1
    refine match1_parts _ b T2 b2 p1 p2 sb w _ hwk (ta_cst_var b w) ?_ fun e w' h => mtEnd_or h
    by_cases htop : c = t.top
    · cases t with
      | un d a' =>
        obtain rfl : c = d := htop
        have hm : mt (.un c a) (.un c a') f = mt a a' f := if_pos rfl
        rw [hm]
        exact walk_un S c a a' _ _ _ _ _ cf_match1 w hr1' hr2 _ (fun x y hx hy => ih a' f w x y sb p1 p2 S hx hy hst hwk hsb hSl hf hP.2 ht.2 (by simp [Ty.text] at hl; omega)) fun e w' h => mtEnd_or h
      | lf d =>
        have h1 : ar c = 1 := hP.1
        have h2 : ar d = 0 := ht
        rw [show c = d from htop, h2] at h1
        cases h1
      | bi d a1 a' =>
        have h1 : ar c = 1 := hP.1
        have h2 : ar d = 2 := ht.1
        rw [show c = d from htop, h2] at h1
        cases h1
    · have hm : mt (.un c a) t f = none := mt_clash (fun d hd => by cases hd) htop
      rw [hm]
      exact (walk_clash S (.un c a) t _ _ _ w hr1' hr2 htop).mono fun e w' h => mtEnd_none h
  | bi c a a' iha ihb =>
    intro t f w v1 v2 sb p1 p2 S hr1 hr2 hst hwk hsb hSl hf hP ht hl
    obtain ⟨T2, b2, rfl, _⟩ := hr2.form
    have hr1' := hr1
    obtain ⟨b, g, cap, x, x', hSb, hSg, rfl, hb, hx, hx', hra, hra'⟩ := hr1
    refine match1_parts _ b T2 b2 p1 p2 sb w _ hwk (ta_cst_var b w) ?_ fun e w' h => mtEnd_or h
    by_cases htop : c = t.top
    · cases t with
      | bi d y y' =>
        obtain rfl : c = d := htop
        have hm : mt (.bi c a a') (.bi c y y') f = match mt a y f with | some g => mt a' y' g | none => none := by
          show (if c = c then (match mt a y f with | some g => mt a' y' g | none => none) else none) = _
          rw [if_pos rfl]
        have hl1 : y.text.length ≤ 60 := by simp [Ty.text] at hl; omega
        have hl2 : y'.text.length ≤ 60 := by simp [Ty.text] at hl; omega
        refine walk_bi S c a a' y y' _ _ _ _ _ cf_match1 w hr1' hr2 _ (fun w1 => ∃ g, mt a y f = some g ∧ But w.heap.size sb w w1 ∧ Stnd w1 sb S g) (fun u v hu hv => ?_) (fun w1 hq k hk => ?_) (fun w1 u v hq hu hv => ?_) fun e w' h => mtEnd_or h
        · refine (iha y f w u v sb p1 p2 S hu hv hst hwk hsb hSl hf hP.2.1 ht.2.1 hl1).mono ?_
          rintro e w1 ⟨hb1, h⟩
          rcases hm1 : mt a y f with _ | g
          · rw [hm1] at h
            exact .inl ⟨h, by rw [hm, hm1]; exact ⟨hb1, h⟩⟩
          · rw [hm1] at h
            exact .inr ⟨h.1, g, rfl, hb1, h.2⟩
        · obtain ⟨g, _, hb1, _⟩ := hq
          exact hb1.block k (hSl k hk) (by rintro rfl; exact hsb hk)
        · obtain ⟨g, hg, hb1, hst1⟩ := hq
          refine (ihb y' g w1 u v sb p1 p2 S hu hv hst1 (hwk.keep hb1) hsb (fun k hk => Nat.lt_of_lt_of_le (hSl k hk) hb1.size) (mt_fine a y f g hf ht.2.1 hl1 hg) hP.2.2 ht.2.2 hl2).mono ?_
          rintro e w2 ⟨hb2, h⟩
          rw [hm, hg]
          exact ⟨hb1.trans (hb2.mono hb1.size), h⟩
      | lf d =>
        have h1 : ar c = 2 := hP.1
        have h2 : ar d = 0 := ht
        rw [show c = d from htop, h2] at h1
        cases h1
      | un d a1 =>
        have h1 : ar c = 2 := hP.1
        have h2 : ar d = 1 := ht.1
        rw [show c = d from htop, h2] at h1
        cases h1
    · have hm : mt (.bi c a a') t f = none := mt_clash (fun d hd => by cases hd) htop
      rw [hm]
      exact (walk_clash S (.bi c a a') t _ _ _ w hr1' hr2 htop).mono fun e w' h => mtEnd_none h

set_option maxHeartbeats 400000 in
set_option maxRecDepth 100000 in
theorem match2_any (T1 b1 T2 b2 q0 q1 q2 : Nat) (k1 k2 : Value) (w : World) (R : Ending → World → Prop) (c0 : w.cell? ⟨q0, 0, none⟩ = some (.func (.func 100) #[] #[k1, k2])) (c1 : w.cell? ⟨q1, 0, none⟩ = some (.iface T1 (.pointer (some ⟨b1, 0, none⟩)))) (c2 : w.cell? ⟨q2, 0, none⟩ = some (.iface T2 (.pointer (some ⟨b2, 0, none⟩))))
    (HC : Calls Try.prog 100 #[.iface T1 (.pointer (some ⟨b1, 0, none⟩)), .iface T2 (.pointer (some ⟨b2, 0, none⟩)), k1, k2] w R) (hR : ∀ e w', R e w' → e = .returned (.tuple #[]) ∨ e = .panicked noBindC) :
    Calls Try.prog 101 #[.pointer (some ⟨q0, 0, none⟩), .pointer (some ⟨q1, 0, none⟩), .pointer (some ⟨q2, 0, none⟩)] w R := by
  have cf := cf_match1
  have HCC := hid HC
  have HR := hid hR
  clear HC hR
  go_enter Try.func101, Try.ntmps101
  go_wp2_with fail
  refine HCC.out.mono ?_
  intro e w1 hr
  rcases HR.out e w1 hr with rfl | rfl
  · have HRR := hid hr
    clear hr
    go_wp2_with fail
    go_end0
    exact HRR.out
  · have HRR := hid hr
    clear hr
    go_wp2
    exact ⟨rfl, HRR.out⟩

end Go.Proofs.Ytjpdiahbnhemoaa

namespace Go.Proofs.Ytjpdiahbnhemoaa
open Go.RowKit

/-- How match ends. -/
def MtOk (w : World) (sb : Nat) (S : Nat → Prop) (r : Option (UInt8 → Option Ty)) (e : Ending) (w' : World) : Prop :=
  But w.heap.size sb w w' ∧ match r with
    | none => e = .returned (.bool false)
    | some g => e = .returned (.bool true) ∧ Stnd w' sb S g

theorem walking_start (fn sb : Nat) (i1 i2 : Value) (w : World) (hs : sb < w.heap.size) (W : World) (hW : (((w.alloc (.cells #[.pointer (some ⟨sb, 0, none⟩)] 69)).alloc (.cells #[i1] 66)).alloc (.cells #[i2] 66)).alloc (.cells #[.func (.func fn) #[] #[.pointer (some ⟨w.heap.size + 1 + 1 + 1, 0, none⟩), .pointer (some ⟨w.heap.size, 0, none⟩)]] 104) = W) :
    Below w.heap.size w W ∧ W.heap.size = w.heap.size + 4 ∧ Walking fn W (w.heap.size + 1 + 1 + 1) w.heap.size sb ∧ W.cell? ⟨w.heap.size + 1, 0, none⟩ = some i1 ∧ W.cell? ⟨w.heap.size + 1 + 1, 0, none⟩ = some i2 := by
  subst hW
  have hb : Below w.heap.size w ((((w.alloc (.cells #[.pointer (some ⟨sb, 0, none⟩)] 69)).alloc (.cells #[i1] 66)).alloc (.cells #[i2] 66)).alloc (.cells #[.func (.func fn) #[] #[.pointer (some ⟨w.heap.size + 1 + 1 + 1, 0, none⟩), .pointer (some ⟨w.heap.size, 0, none⟩)]] 104)) :=
    ((((Below.refl _ _).alloc (Nat.le_refl _) _).alloc (by simp only [World.size_alloc]; omega) _).alloc (by simp only [World.size_alloc]; omega) _).alloc (by simp only [World.size_alloc]; omega) _
  have q3 := cell_new1 (((w.alloc (.cells #[.pointer (some ⟨sb, 0, none⟩)] 69)).alloc (.cells #[i1] 66)).alloc (.cells #[i2] 66)) (.func (.func fn) #[] #[.pointer (some ⟨w.heap.size + 1 + 1 + 1, 0, none⟩), .pointer (some ⟨w.heap.size, 0, none⟩)]) 104
  have q2 := cell_new1 ((w.alloc (.cells #[.pointer (some ⟨sb, 0, none⟩)] 69)).alloc (.cells #[i1] 66)) i2 66
  have q1 := cell_new1 (w.alloc (.cells #[.pointer (some ⟨sb, 0, none⟩)] 69)) i1 66
  have q0 := cell_new1 w (.pointer (some ⟨sb, 0, none⟩)) 69
  simp only [World.size_alloc] at q1 q2 q3
  refine ⟨hb, by simp only [World.size_alloc], ⟨q3, ?_, ?_, ?_, by omega, by omega⟩, ?_, ?_⟩
  · rw [World.cell?_alloc_lt _ _ _ (by simp only [World.size_alloc]; omega), World.cell?_alloc_lt _ _ _ (by simp only [World.size_alloc]; omega), World.cell?_alloc_lt _ _ _ (by simp only [World.size_alloc]; omega)]
    exact q0
  · simp only [World.size_alloc]; omega
  · simp only [World.size_alloc]; omega
  · rw [World.cell?_alloc_lt _ _ _ (by simp only [World.size_alloc]; omega), World.cell?_alloc_lt _ _ _ (by simp only [World.size_alloc]; omega)]
    exact q1
  · rw [World.cell?_alloc_lt _ _ _ (by simp only [World.size_alloc]; omega)]
    exact q2

set_option maxHeartbeats 400000 in
set_option maxRecDepth 100000 in
theorem match_any (sb T1 b1 T2 b2 : Nat) (w : World) (S : Nat → Prop) (P t : Ty) (hr1 : RepP w S P (.iface T1 (.pointer (some ⟨b1, 0, none⟩)))) (hr2 : RepP w S t (.iface T2 (.pointer (some ⟨b2, 0, none⟩)))) (hst : Stnd w sb S (fun _ => none)) (hsb : ¬ S sb) (hSl : ∀ k, S k → k < w.heap.size) (hP : P.ok) (ht : t.ok) (hl : t.text.length ≤ 60)
    (o : Option (UInt8 → Option Ty)) (ho : Hid (mt P t (fun _ => none) = o)) :
    Calls Try.prog 79 #[.pointer (some ⟨sb, 0, none⟩), .iface T1 (.pointer (some ⟨b1, 0, none⟩)), .iface T2 (.pointer (some ⟨b2, 0, none⟩))] w (MtOk w sb S o) := by
  have hmf : ∀ (fn : Fn) (first cap : Array Value) (w : World), (Instr.makeFunc fn first cap).run Try.prog w = .ok (.func fn first cap) w := fun _ _ _ _ => rfl
  have hsf : ∀ (p : Addr) (m : Mode) (w : World) (fn : Fn) (x y : Array Value), (store p (.func fn x y) m).run Try.prog w = stored Try.prog w p (.func fn x y) m := fun p m w fn x y => run_store _ w p _ m rfl
  have HR1 := hid hr1
  have HR2 := hid hr2
  have HST := hid hst
  have HSL := hid hSl
  have hs : sb < w.heap.size := by obtain ⟨cur, h1, _⟩ := hst; exact (Array.getElem?_eq_some_iff.1 h1).1
  clear hr1 hr2 hst hSl
  go_enter Try.func79, Try.ntmps79
  go_wp2_with fail
  obtain ⟨W, hW⟩ : ∃ W, (((w.alloc (.cells #[.pointer (some ⟨sb, 0, none⟩)] 69)).alloc (.cells #[.iface T1 (.pointer (some ⟨b1, 0, none⟩))] 66)).alloc (.cells #[.iface T2 (.pointer (some ⟨b2, 0, none⟩))] 66)).alloc (.cells #[.func (.func 100) #[] #[.pointer (some ⟨w.heap.size + 1 + 1 + 1, 0, none⟩), .pointer (some ⟨w.heap.size, 0, none⟩)]] 104) = W := ⟨_, rfl⟩
  obtain ⟨hbW, hzW, hwk, c1, c2⟩ := walking_start _ sb _ _ w hs W hW
  rw [hW]
  clear hW
  have hbA : Below W.heap.size W (W.alloc (.cells #[.bool false] 4)) := (Below.refl _ _).alloc (Nat.le_refl _) _
  have zA : (W.alloc (.cells #[.bool false] 4)).heap.size = W.heap.size + 1 := by simp only [World.size_alloc]
  have nA := heap_new1 W (.cells #[.bool false] 4)
  obtain ⟨W5, hW5⟩ : ∃ W5, W.alloc (.cells #[.bool false] 4) = W5 := ⟨_, rfl⟩
  rw [hW5] at hbA zA nA
  have hb5 : Below w.heap.size w W5 := hbW.trans (hbA.mono hbW.size)
  have hwk5 : Walking _ W5 _ _ sb := hwk.keep (But.of_below hbA)
  have c15 := cell_below c1 (by omega) hbA
  have c25 := cell_below c2 (by omega) hbA
  have hst5 : Stnd W5 sb S (fun _ => none) := HST.out.keep (hb5.block sb hs) fun k hk => ⟨hk, hb5.block k (HSL.out k hk)⟩
  have hk := matchBy_any P t (fun _ => none) W5 _ _ sb _ _ S (HR1.out.keep fun k hk => ⟨hk, hb5.block k (HSL.out k hk)⟩) (HR2.out.keep fun k hk => ⟨hk, hb5.block k (HSL.out k hk)⟩) hst5 hwk5 hsb (fun k hk => Nat.lt_of_lt_of_le (HSL.out k hk) hb5.size) none_fine hP ht hl
  rw [ho.out] at hk
  have HE := endsWell_any 101 (.pointer (some ⟨w.heap.size + 1 + 1 + 1, 0, none⟩)) (.pointer (some ⟨w.heap.size + 1, 0, none⟩)) (.pointer (some ⟨w.heap.size + 1 + 1, 0, none⟩)) cf_match2 W (MtEnd W5 sb S o)
    (by rw [hW5]; exact match2_any T1 b1 T2 b2 _ _ _ _ _ W5 _ hwk5.c1 c15 c25 hk fun e w' h => mtEnd_or h) (fun e w1 h => ⟨mtEnd_or h, (h.1.block W.heap.size (by omega) (by omega)).trans nA⟩)
  have HEE := hid HE
  have HZW := hid hzW
  clear HE hk hwk hwk5 c1 c2 c15 c25 hW5 nA hzW zA
  go_wp2_with fail
  refine HEE.out.mono ?_
  rintro e w' ⟨w1, r, rfl, rfl, hr⟩
  have HRR := hid hr
  clear hr
  go_wp2_with fail
  go_ret
  have hzW := HZW.out
  have hbut : But w.heap.size sb w (w1.setCell ⟨W.heap.size, 0, none⟩ (.bool r)) := ((But.of_below hb5).trans (HRR.out.1.mono hb5.size)).trans (But.of_below ((Below.refl _ _).setCell (by show w.heap.size ≤ W.heap.size; omega) _))
  refine ⟨hbut, ?_⟩
  have h2 := HRR.out.2
  cases o with
  | none =>
    cases r with
    | true => cases h2
    | false => rfl
  | some g =>
    cases r with
    | true =>
      refine ⟨rfl, h2.2.keep (Below.heap_setCell _ _ _ _ (by show sb ≠ W.heap.size; omega)) fun k hk => ⟨hk, Below.heap_setCell _ _ _ _ (by have := HSL.out k hk; show k ≠ W.heap.size; omega)⟩⟩
    | false => cases h2.1

end Go.Proofs.Ytjpdiahbnhemoaa
