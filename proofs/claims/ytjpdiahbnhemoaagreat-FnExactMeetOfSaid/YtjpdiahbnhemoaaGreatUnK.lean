/- Unification in the program: variables bound, the walk, unify. -/
import Derived.Test.YtjpdiahbnhemoaaGreatUnJ
namespace Go.Proofs.YtjpdiahbnhemoaaGreat
open Go.RowKit

/-- The program binds the variable whose byte comes first. -/
def ltB (c d : UInt8) : Bool := decide (c < d)

set_option maxHeartbeats 800000 in
set_option maxRecDepth 100000 in
theorem bindVars_any (sb vb vb' : Nat) (c d : UInt8) (S : Nat → Prop) (f : UInt8 → Option Ty) (w : World) (hst : Stnd w sb S f) (hS : ¬ S sb) (hSl : ∀ k, S k → k < w.heap.size) (hc : isVarX c = true) (hd : isVarX d = true) (hb : w.heap[vb]? = some (.cells #[.int .u8 c.toNat] 88 (0, 0))) (hb' : w.heap[vb']? = some (.cells #[.int .u8 d.toNat] 88 (0, 0))) (s1 : S vb) (s2 : S vb')
    (o : UInt8 → Option Ty) (ho : Hid (o = if c = d then f else if ltB c d = true then bindU f c (.lf d) else bindU f d (.lf c))) :
    Calls Tryz.prog 34 #[.pointer (some ⟨sb, 0, none⟩), .pointer (some ⟨vb, 0, none⟩), .pointer (some ⟨vb', 0, none⟩)] w fun e w' => e = .returned (.tuple #[]) ∧ But w.heap.size sb w w' ∧ Stnd w' sb S o := by
  have n0 : w.cell? ⟨vb, 0, none⟩ = some (.int .u8 c.toNat) := cell_blk hb rfl
  have n1 : w.cell? ⟨vb', 0, none⟩ = some (.int .u8 d.toNat) := cell_blk hb' rfl
  have HST := hid hst
  have HB := hid hb
  have HB' := hid hb'
  have HSL := hid hSl
  have hr1 : RepP w S (.lf c) (.iface 75 (.pointer (some ⟨vb, 0, none⟩))) := ⟨vb, s1, .inl ⟨hc, rfl, hb⟩⟩
  have hr2 : RepP w S (.lf d) (.iface 75 (.pointer (some ⟨vb', 0, none⟩))) := ⟨vb', s2, .inl ⟨hd, rfl, hb'⟩⟩
  have HR1 := hid hr1
  have HR2 := hid hr2
  clear hst hb hb' hSl hr1 hr2
  by_cases h1 : (c.toNat : Int) < d.toNat
  · have hlt : c < d := UInt8.lt_iff_toNat_lt.2 (by omega)
    have hne : ¬ c = d := fun e => by subst e; omega
    have HO := hid (show o = bindU f c (.lf d) by rw [ho.out, if_neg hne, if_pos (by simp [ltB, hlt])])
    clear ho hlt hne
    go_enter Tryz.func34, Tryz.ntmps34
    go_wp2_with fail
    go_region_with fail
    all_goals
      go_wp2_with fail
      refine (set_stnd sb vb c w.drew S f (.lf d) _ hc HB.out (stnd_heap HST.out rfl) hS (repP_heap HR2.out rfl)).mono ?_
      rintro e w2 ⟨rfl, hst2, hb2, hz2⟩
      have HS2 := hid hst2
      clear hst2 hz2
      go_wp2_with fail
      go_end0
      rw [HO.out]
      exact ⟨rfl, ((But.refl _ _ w).drewN 1).trans hb2, HS2.out⟩
  · by_cases h2 : (d.toNat : Int) < c.toNat
    · have hlt : ¬ c < d := fun h => h1 (by have := UInt8.lt_iff_toNat_lt.1 h; omega)
      have hne : ¬ c = d := fun e => by subst e; omega
      have HO := hid (show o = bindU f d (.lf c) by rw [ho.out, if_neg hne, if_neg (by simp [ltB, hlt])])
      clear ho hlt hne
      go_enter Tryz.func34, Tryz.ntmps34
      go_wp2_with fail
      go_region_with fail
      all_goals
        go_wp2_with fail
        go_region_with fail
        all_goals
          go_wp2_with fail
          refine (set_stnd sb vb' d w.drew.drew S f (.lf c) _ hd HB'.out (stnd_heap HST.out rfl) hS (repP_heap HR1.out rfl)).mono ?_
          rintro e w2 ⟨rfl, hst2, hb2, hz2⟩
          have HS2 := hid hst2
          clear hst2 hz2
          go_wp2_with fail
          go_end0
          rw [HO.out]
          exact ⟨rfl, ((But.refl _ _ w).drewN 2).trans hb2, HS2.out⟩
    · have hce : c = d := UInt8.toNat_inj.1 (by omega)
      have HO := hid (show o = f by rw [ho.out, if_pos hce])
      clear ho hce
      go_enter Tryz.func34, Tryz.ntmps34
      go_wp2_with fail
      go_region_with fail
      all_goals
        go_wp2_with fail
        go_region_with fail
        all_goals
          go_wp2_with fail
          go_end0
          rw [HO.out]
          exact ⟨rfl, (But.refl _ _ w).drewN 2, stnd_heap HST.out rfl⟩

set_option maxHeartbeats 800000 in
set_option maxRecDepth 100000 in
theorem bind_any {f : UInt8 → Option Ty} {c : UInt8} {n : Ty} {r : Bool} (h : Occ isVarX f c n r) (sb vb T b : Nat) (S : Nat → Prop) (w : World) (hst : Stnd w sb S f) (hS : ¬ S sb) (hSl : ∀ k, S k → k < w.heap.size) (hc : isVarX c = true) (hb : w.heap[vb]? = some (.cells #[.int .u8 c.toNat] 88 (0, 0))) (hr : RepP w S n (.iface T (.pointer (some ⟨b, 0, none⟩))))
    (o : Option (UInt8 → Option Ty)) (ho : Hid (o = if r = true then none else some (bindU f c n))) :
    Calls Tryz.prog 35 #[.pointer (some ⟨sb, 0, none⟩), .pointer (some ⟨vb, 0, none⟩), .iface T (.pointer (some ⟨b, 0, none⟩))] w (MtEnd w sb S o) := by
  have hs : sb < w.heap.size := by obtain ⟨cur, h1, _⟩ := hst; exact (Array.getElem?_eq_some_iff.1 h1).1
  have hvl : vb < w.heap.size := (Array.getElem?_eq_some_iff.1 hb).1
  have HI := hid (standsIn_any h sb vb S _ w hst hr hSl hb)
  have HST := hid hst
  have HB := hid hb
  have HR := hid hr
  have HSL := hid hSl
  clear hst hb hr hSl h
  cases r
  · have HO := hid (show o = some (bindU f c n) by rw [ho.out]; rfl)
    clear ho
    go_enter Tryz.func35, Tryz.ntmps35
    go_wp2_with fail
    refine HI.out.mono ?_
    rintro e w1 ⟨rfl, hb1⟩
    have hkS : ∀ k, S k → S k ∧ w1.heap[k]? = w.heap[k]? := fun k hk => ⟨hk, hb1.block k (HSL.out k hk)⟩
    have HS := hid (set_stnd sb vb c w1 S f n _ hc ((hb1.block vb hvl).trans HB.out) (HST.out.keep (hb1.block sb hs) hkS) hS (HR.out.keep hkS))
    clear hkS
    go_wp2_with fail
    refine HS.out.mono ?_
    rintro e w2 ⟨rfl, hst2, hb2, hz2⟩
    have HS2 := hid hst2
    clear hst2 hz2
    go_wp2_with fail
    go_end0
    rw [HO.out]
    exact ⟨(But.of_below hb1).trans (hb2.mono hb1.size), rfl, HS2.out⟩
  · have HO := hid (show o = none by rw [ho.out]; rfl)
    clear ho
    go_enter Tryz.func35, Tryz.ntmps35
    go_wp2_with fail
    refine HI.out.mono ?_
    rintro e w1 ⟨rfl, hb1⟩
    go_wp2
    refine ⟨rfl, ?_⟩
    rw [HO.out]
    exact ⟨But.of_below hb1, rfl⟩

theorem cf_unify1 (args : Array Value) (w : World) : (callFunc 32 args).run Tryz.prog w = .ok (.enter 32 args) w := by kernel_rfl
theorem cf_unify2 (args : Array Value) (w : World) : (callFunc 38 args).run Tryz.prog w = .ok (.enter 38 args) w := by kernel_rfl

/-- The walk's own variable and that of the standings, for unify. -/
structure WalkingU (w : World) (p1 p2 sb : Nat) : Prop where
  c1 : w.cell? ⟨p1, 0, none⟩ = some (.pointer (some ⟨sb, 0, none⟩))
  c2 : w.cell? ⟨p2, 0, none⟩ = some (.func (.func 32) #[] #[.pointer (some ⟨p1, 0, none⟩), .pointer (some ⟨p2, 0, none⟩)])
  l1 : p1 < w.heap.size
  l2 : p2 < w.heap.size
  n1 : p1 ≠ sb
  n2 : p2 ≠ sb
theorem WalkingU.keep {w w' : World} {p1 p2 sb : Nat} (h : WalkingU w p1 p2 sb) (hb : But w.heap.size sb w w') : WalkingU w' p1 p2 sb :=
  ⟨(World.cell?_of_block (w := w) (w' := w') (a := ⟨p1, 0, none⟩) (hb.block p1 h.l1 h.n1)).trans h.c1, (World.cell?_of_block (w := w) (w' := w') (a := ⟨p2, 0, none⟩) (hb.block p2 h.l2 h.n2)).trans h.c2, Nat.lt_of_lt_of_le h.l1 hb.size, Nat.lt_of_lt_of_le h.l2 hb.size, h.n1, h.n2⟩

/-- What a call does that hangs on the memory alone. -/
def Yields (fn : Nat) (args : Array Value) (v : Value) (w : World) : Prop := ∀ W : World, W.heap = w.heap → Calls Tryz.prog fn args W fun e w' => e = .returned v ∧ w'.heap = W.heap ∧ Below W.heap.size W w'

theorem cell_heap {w W : World} {a : Addr} {v : Value} (e : W.heap = w.heap) (h : w.cell? a = some v) : W.cell? a = some v := by
  rw [World.cell?_of_block (w := w) (by rw [e])]
  exact h

set_option maxHeartbeats 1600000 in
set_option maxRecDepth 100000 in
theorem unify1_00 (sb p1 p2 Ta ba Tb bb Ka ka Kb kb : Nat) (w : World) (R : Ending → World → Prop) (hw : WalkingU w p1 p2 sb)
    (Ya : Yields 33 #[.pointer (some ⟨sb, 0, none⟩), .iface Ta (.pointer (some ⟨ba, 0, none⟩))] (.iface Ka (.pointer (some ⟨ka, 0, none⟩))) w)
    (Yb : Yields 33 #[.pointer (some ⟨sb, 0, none⟩), .iface Tb (.pointer (some ⟨bb, 0, none⟩))] (.iface Kb (.pointer (some ⟨kb, 0, none⟩))) w)
    (ta : ∀ W : World, (Instr.typeAssert (.iface Ka (.pointer (some ⟨ka, 0, none⟩))) 48 75 true).run Tryz.prog W = .ok (.tuple #[.pointer none, .bool false]) W) (tb : ∀ W : World, (Instr.typeAssert (.iface Kb (.pointer (some ⟨kb, 0, none⟩))) 48 75 true).run Tryz.prog W = .ok (.tuple #[.pointer none, .bool false]) W)
    (HT : ∀ W : World, W.heap = w.heap → Below w.heap.size w W → Calls Tryz.prog 36 #[.iface Ka (.pointer (some ⟨ka, 0, none⟩)), .iface Kb (.pointer (some ⟨kb, 0, none⟩)), .func (.func 32) #[] #[.pointer (some ⟨p1, 0, none⟩), .pointer (some ⟨p2, 0, none⟩)]] W R) (hR : ∀ e w', R e w' → e = .returned (.tuple #[]) ∨ e = .panicked noBindC) :
    Calls Tryz.prog 32 #[.iface Ta (.pointer (some ⟨ba, 0, none⟩)), .iface Tb (.pointer (some ⟨bb, 0, none⟩)), .pointer (some ⟨p1, 0, none⟩), .pointer (some ⟨p2, 0, none⟩)] w R := by
  unfold Yields at Ya Yb
  have c1 := hw.c1
  have HW := hid hw
  have YA := hid Ya
  have YB := hid Yb
  have HTT := hid HT
  have HR := hid hR
  have hd : w.drew.heap = w.heap := rfl
  have hD := hid hd
  clear hw Ya Yb HT hR hd
  go_enter Tryz.func32, Tryz.ntmps32
  go_wp2_with fail
  go_region_with (go_at_call 33; first
    | (with_reducible refine (YA.out w.drew hD.out).mono ?_; rintro e w1 ⟨rfl, hh1, hb1⟩; have c11 := cell_heap (hh1.trans hD.out) c1; have G1 := hid (hh1.trans hD.out); clear hh1)
    | (with_reducible refine (YB.out w.drew hD.out).mono ?_; rintro e w1 ⟨rfl, hh1, hb1⟩; have c11 := cell_heap (hh1.trans hD.out) c1; have G1 := hid (hh1.trans hD.out); clear hh1)
    | (with_reducible refine (YA.out w1 G1.out).mono ?_; rintro e w2 ⟨rfl, hh2, hb2⟩; have G2 := hid (hh2.trans G1.out); clear hh2)
    | (with_reducible refine (YB.out w1 G1.out).mono ?_; rintro e w2 ⟨rfl, hh2, hb2⟩; have G2 := hid (hh2.trans G1.out); clear hh2))
  all_goals
    have c12 := cell_heap G2.out HW.out.c1
    have c22 := cell_heap G2.out HW.out.c2
    have hB : Below w.heap.size w w2 := (((Below.refl _ w).drew).trans hb1).trans (hb2.mono (by show w.drew.heap.size ≤ _; exact hb1.size))
    go_wp2_with fail
    refine (HTT.out w2 G2.out hB).mono ?_
    intro e w3 hr
    rcases HR.out e w3 hr with rfl | rfl
    · have HRR := hid hr
      clear hr
      go_wp2_with fail
      go_end0
      exact HRR.out
    · have HRR := hid hr
      clear hr
      go_wp2
      exact ⟨rfl, HRR.out⟩

set_option maxHeartbeats 1600000 in
set_option maxRecDepth 100000 in
theorem unify1_01 (sb p1 p2 Ta ba Tb bb Ka ka Kb kb : Nat) (w : World) (R : Ending → World → Prop) (hw : WalkingU w p1 p2 sb)
    (Ya : Yields 33 #[.pointer (some ⟨sb, 0, none⟩), .iface Ta (.pointer (some ⟨ba, 0, none⟩))] (.iface Ka (.pointer (some ⟨ka, 0, none⟩))) w)
    (Yb : Yields 33 #[.pointer (some ⟨sb, 0, none⟩), .iface Tb (.pointer (some ⟨bb, 0, none⟩))] (.iface Kb (.pointer (some ⟨kb, 0, none⟩))) w)
    (ta : ∀ W : World, (Instr.typeAssert (.iface Ka (.pointer (some ⟨ka, 0, none⟩))) 48 75 true).run Tryz.prog W = .ok (.tuple #[.pointer none, .bool false]) W) (tb : ∀ W : World, (Instr.typeAssert (.iface Kb (.pointer (some ⟨kb, 0, none⟩))) 48 75 true).run Tryz.prog W = .ok (.tuple #[.pointer (some ⟨kb, 0, none⟩), .bool true]) W)
    (HT : ∀ W : World, W.heap = w.heap → Below w.heap.size w W → Calls Tryz.prog 35 #[.pointer (some ⟨sb, 0, none⟩), .pointer (some ⟨kb, 0, none⟩), .iface Ka (.pointer (some ⟨ka, 0, none⟩))] W R) (hR : ∀ e w', R e w' → e = .returned (.tuple #[]) ∨ e = .panicked noBindC) :
    Calls Tryz.prog 32 #[.iface Ta (.pointer (some ⟨ba, 0, none⟩)), .iface Tb (.pointer (some ⟨bb, 0, none⟩)), .pointer (some ⟨p1, 0, none⟩), .pointer (some ⟨p2, 0, none⟩)] w R := by
  unfold Yields at Ya Yb
  have c1 := hw.c1
  have HW := hid hw
  have YA := hid Ya
  have YB := hid Yb
  have HTT := hid HT
  have HR := hid hR
  have hd : w.drew.heap = w.heap := rfl
  have hD := hid hd
  clear hw Ya Yb HT hR hd
  go_enter Tryz.func32, Tryz.ntmps32
  go_wp2_with fail
  go_region_with (go_at_call 33; first
    | (with_reducible refine (YA.out w.drew hD.out).mono ?_; rintro e w1 ⟨rfl, hh1, hb1⟩; have c11 := cell_heap (hh1.trans hD.out) c1; have G1 := hid (hh1.trans hD.out); clear hh1)
    | (with_reducible refine (YB.out w.drew hD.out).mono ?_; rintro e w1 ⟨rfl, hh1, hb1⟩; have c11 := cell_heap (hh1.trans hD.out) c1; have G1 := hid (hh1.trans hD.out); clear hh1)
    | (with_reducible refine (YA.out w1 G1.out).mono ?_; rintro e w2 ⟨rfl, hh2, hb2⟩; have G2 := hid (hh2.trans G1.out); clear hh2)
    | (with_reducible refine (YB.out w1 G1.out).mono ?_; rintro e w2 ⟨rfl, hh2, hb2⟩; have G2 := hid (hh2.trans G1.out); clear hh2))
  all_goals
    have c12 := cell_heap G2.out HW.out.c1
    have c22 := cell_heap G2.out HW.out.c2
    have hB : Below w.heap.size w w2 := (((Below.refl _ w).drew).trans hb1).trans (hb2.mono (by show w.drew.heap.size ≤ _; exact hb1.size))
    go_wp2_with fail
    refine (HTT.out w2 G2.out hB).mono ?_
    intro e w3 hr
    rcases HR.out e w3 hr with rfl | rfl
    · have HRR := hid hr
      clear hr
      go_wp2_with fail
      go_end0
      exact HRR.out
    · have HRR := hid hr
      clear hr
      go_wp2
      exact ⟨rfl, HRR.out⟩

set_option maxHeartbeats 1600000 in
set_option maxRecDepth 100000 in
theorem unify1_10 (sb p1 p2 Ta ba Tb bb Ka ka Kb kb : Nat) (w : World) (R : Ending → World → Prop) (hw : WalkingU w p1 p2 sb)
    (Ya : Yields 33 #[.pointer (some ⟨sb, 0, none⟩), .iface Ta (.pointer (some ⟨ba, 0, none⟩))] (.iface Ka (.pointer (some ⟨ka, 0, none⟩))) w)
    (Yb : Yields 33 #[.pointer (some ⟨sb, 0, none⟩), .iface Tb (.pointer (some ⟨bb, 0, none⟩))] (.iface Kb (.pointer (some ⟨kb, 0, none⟩))) w)
    (ta : ∀ W : World, (Instr.typeAssert (.iface Ka (.pointer (some ⟨ka, 0, none⟩))) 48 75 true).run Tryz.prog W = .ok (.tuple #[.pointer (some ⟨ka, 0, none⟩), .bool true]) W) (tb : ∀ W : World, (Instr.typeAssert (.iface Kb (.pointer (some ⟨kb, 0, none⟩))) 48 75 true).run Tryz.prog W = .ok (.tuple #[.pointer none, .bool false]) W)
    (HT : ∀ W : World, W.heap = w.heap → Below w.heap.size w W → Calls Tryz.prog 35 #[.pointer (some ⟨sb, 0, none⟩), .pointer (some ⟨ka, 0, none⟩), .iface Kb (.pointer (some ⟨kb, 0, none⟩))] W R) (hR : ∀ e w', R e w' → e = .returned (.tuple #[]) ∨ e = .panicked noBindC) :
    Calls Tryz.prog 32 #[.iface Ta (.pointer (some ⟨ba, 0, none⟩)), .iface Tb (.pointer (some ⟨bb, 0, none⟩)), .pointer (some ⟨p1, 0, none⟩), .pointer (some ⟨p2, 0, none⟩)] w R := by
  unfold Yields at Ya Yb
  have c1 := hw.c1
  have HW := hid hw
  have YA := hid Ya
  have YB := hid Yb
  have HTT := hid HT
  have HR := hid hR
  have hd : w.drew.heap = w.heap := rfl
  have hD := hid hd
  clear hw Ya Yb HT hR hd
  go_enter Tryz.func32, Tryz.ntmps32
  go_wp2_with fail
  go_region_with (go_at_call 33; first
    | (with_reducible refine (YA.out w.drew hD.out).mono ?_; rintro e w1 ⟨rfl, hh1, hb1⟩; have c11 := cell_heap (hh1.trans hD.out) c1; have G1 := hid (hh1.trans hD.out); clear hh1)
    | (with_reducible refine (YB.out w.drew hD.out).mono ?_; rintro e w1 ⟨rfl, hh1, hb1⟩; have c11 := cell_heap (hh1.trans hD.out) c1; have G1 := hid (hh1.trans hD.out); clear hh1)
    | (with_reducible refine (YA.out w1 G1.out).mono ?_; rintro e w2 ⟨rfl, hh2, hb2⟩; have G2 := hid (hh2.trans G1.out); clear hh2)
    | (with_reducible refine (YB.out w1 G1.out).mono ?_; rintro e w2 ⟨rfl, hh2, hb2⟩; have G2 := hid (hh2.trans G1.out); clear hh2))
  all_goals
    have c12 := cell_heap G2.out HW.out.c1
    have c22 := cell_heap G2.out HW.out.c2
    have hB : Below w.heap.size w w2 := (((Below.refl _ w).drew).trans hb1).trans (hb2.mono (by show w.drew.heap.size ≤ _; exact hb1.size))
    go_wp2_with fail
    refine (HTT.out w2 G2.out hB).mono ?_
    intro e w3 hr
    rcases HR.out e w3 hr with rfl | rfl
    · have HRR := hid hr
      clear hr
      go_wp2_with fail
      go_end0
      exact HRR.out
    · have HRR := hid hr
      clear hr
      go_wp2
      exact ⟨rfl, HRR.out⟩

set_option maxHeartbeats 1600000 in
set_option maxRecDepth 100000 in
theorem unify1_11 (sb p1 p2 Ta ba Tb bb Ka ka Kb kb : Nat) (w : World) (R : Ending → World → Prop) (hw : WalkingU w p1 p2 sb)
    (Ya : Yields 33 #[.pointer (some ⟨sb, 0, none⟩), .iface Ta (.pointer (some ⟨ba, 0, none⟩))] (.iface Ka (.pointer (some ⟨ka, 0, none⟩))) w)
    (Yb : Yields 33 #[.pointer (some ⟨sb, 0, none⟩), .iface Tb (.pointer (some ⟨bb, 0, none⟩))] (.iface Kb (.pointer (some ⟨kb, 0, none⟩))) w)
    (ta : ∀ W : World, (Instr.typeAssert (.iface Ka (.pointer (some ⟨ka, 0, none⟩))) 48 75 true).run Tryz.prog W = .ok (.tuple #[.pointer (some ⟨ka, 0, none⟩), .bool true]) W) (tb : ∀ W : World, (Instr.typeAssert (.iface Kb (.pointer (some ⟨kb, 0, none⟩))) 48 75 true).run Tryz.prog W = .ok (.tuple #[.pointer (some ⟨kb, 0, none⟩), .bool true]) W)
    (HT : ∀ W : World, W.heap = w.heap → Below w.heap.size w W → Calls Tryz.prog 34 #[.pointer (some ⟨sb, 0, none⟩), .pointer (some ⟨ka, 0, none⟩), .pointer (some ⟨kb, 0, none⟩)] W R) (hR : ∀ e w', R e w' → e = .returned (.tuple #[]) ∨ e = .panicked noBindC) :
    Calls Tryz.prog 32 #[.iface Ta (.pointer (some ⟨ba, 0, none⟩)), .iface Tb (.pointer (some ⟨bb, 0, none⟩)), .pointer (some ⟨p1, 0, none⟩), .pointer (some ⟨p2, 0, none⟩)] w R := by
  unfold Yields at Ya Yb
  have c1 := hw.c1
  have HW := hid hw
  have YA := hid Ya
  have YB := hid Yb
  have HTT := hid HT
  have HR := hid hR
  have hd : w.drew.heap = w.heap := rfl
  have hD := hid hd
  clear hw Ya Yb HT hR hd
  go_enter Tryz.func32, Tryz.ntmps32
  go_wp2_with fail
  go_region_with (go_at_call 33; first
    | (with_reducible refine (YA.out w.drew hD.out).mono ?_; rintro e w1 ⟨rfl, hh1, hb1⟩; have c11 := cell_heap (hh1.trans hD.out) c1; have G1 := hid (hh1.trans hD.out); clear hh1)
    | (with_reducible refine (YB.out w.drew hD.out).mono ?_; rintro e w1 ⟨rfl, hh1, hb1⟩; have c11 := cell_heap (hh1.trans hD.out) c1; have G1 := hid (hh1.trans hD.out); clear hh1)
    | (with_reducible refine (YA.out w1 G1.out).mono ?_; rintro e w2 ⟨rfl, hh2, hb2⟩; have G2 := hid (hh2.trans G1.out); clear hh2)
    | (with_reducible refine (YB.out w1 G1.out).mono ?_; rintro e w2 ⟨rfl, hh2, hb2⟩; have G2 := hid (hh2.trans G1.out); clear hh2))
  all_goals
    have c12 := cell_heap G2.out HW.out.c1
    have c22 := cell_heap G2.out HW.out.c2
    have hB : Below w.heap.size w w2 := (((Below.refl _ w).drew).trans hb1).trans (hb2.mono (by show w.drew.heap.size ≤ _; exact hb1.size))
    go_wp2_with fail
    refine (HTT.out w2 G2.out hB).mono ?_
    intro e w3 hr
    rcases HR.out e w3 hr with rfl | rfl
    · have HRR := hid hr
      clear hr
      go_wp2_with fail
      go_end0
      exact HRR.out
    · have HRR := hid hr
      clear hr
      go_wp2
      exact ⟨rfl, HRR.out⟩

end Go.Proofs.YtjpdiahbnhemoaaGreat
