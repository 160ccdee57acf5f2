/- Bindings applied again and again, in the program: applyAll. The texts of what variables come to, in the program. -/
import Derived.Test.YtjpdiahbnhemoaaGreatUnF
import Derived.Test.YtjpdiahbnhemoaaGreatApW
import Derived.Test.YtjpdiahbnhemoaaGreatMtK
namespace Go.Proofs.YtjpdiahbnhemoaaGreat
open Go.RowKit

/-- Blocks in which no other variable lies than those of a type. -/
def OnlyT (w : World) (S : Nat → Prop) (u : Ty) (k : Nat) : Prop := S k ∧ ∀ c, isVarX c = true → w.heap[k]? = some (.cells #[.int .u8 c.toNat] 88 (0, 0)) → u.hasL c = true
theorem repP_onlyT {w : World} {S : Nat → Prop} {u t : Ty} : ∀ {v : Value}, (∀ c, t.hasL c = true → u.hasL c = true) → RepP w S t v → RepP w (OnlyT w S u) t v := by
  have row : ∀ (g : Nat) (x : Value) (T b : Nat), x = .iface T (.pointer (some ⟨b, 0, none⟩)) → w.cell? ⟨g, 0, none⟩ = some x → ∀ c, isVarX c = true → w.heap[g]? = some (.cells #[.int .u8 c.toNat] 88 (0, 0)) → u.hasL c = true := by
    intro g x T b hx hg c _ hb
    rw [cell_blk hb (j := 0) rfl] at hg
    rw [hx] at hg
    cases hg
  induction t with
  | lf c =>
    rintro v hu ⟨b, hS, ⟨hc, rfl, hb⟩ | ⟨hc, rfl, hb⟩⟩
    · refine ⟨b, ⟨hS, fun d _ hd => ?_⟩, .inl ⟨hc, rfl, hb⟩⟩
      rw [hb] at hd
      simp only [Option.some.injEq, Obj.cells.injEq, Array.mk.injEq, List.cons.injEq, Value.int.injEq, true_and, and_true] at hd
      have : c = d := UInt8.toNat_inj.1 (by omega)
      rw [← this]
      exact hu c (by simp [Ty.hasL])
    · refine ⟨b, ⟨hS, fun d _ hd => ?_⟩, .inr ⟨hc, rfl, hb⟩⟩
      rw [hb] at hd
      simp at hd
  | un c a ih =>
    rintro v hu ⟨b, g, cap, x, hS, hg, rfl, hb, hx, hr⟩
    obtain ⟨T, b', hxe, _⟩ := hr.form
    refine ⟨b, g, cap, x, ⟨hS, fun d _ hd => ?_⟩, ⟨hg, row g x T b' hxe hx⟩, rfl, hb, hx, ih (fun d hd => hu d hd) hr⟩
    rw [hb] at hd
    simp at hd
  | bi c a a' iha ihb =>
    rintro v hu ⟨b, g, cap, x, x', hS, hg, rfl, hb, hx, hx', hr, hr'⟩
    obtain ⟨T, b', hxe, _⟩ := hr.form
    refine ⟨b, g, cap, x, x', ⟨hS, fun d _ hd => ?_⟩, ⟨hg, row g x T b' hxe hx⟩, rfl, hb, hx, hx', iha (fun d hd => hu d (by simp [Ty.hasL, hd])) hr, ihb (fun d hd => hu d (by simp [Ty.hasL, hd])) hr'⟩
    rw [hb] at hd
    simp at hd

/-- The contract of applyAll at a type. -/
def AllAt (sb : Nat) (f : UInt8 → Option Ty) (t u : Ty) : Prop := ∀ (S : Nat → Prop) (v : Value) (w : World), Stnd w sb S f → RepP w S t v → (∀ k, S k → k < w.heap.size) →
  Calls Tryz.prog 22 #[.pointer (some ⟨sb, 0, none⟩), v] w fun e w' => ∃ T b, e = .returned (.iface T (.pointer (some ⟨b, 0, none⟩))) ∧ RepP w' (fun k => S k ∨ (w.heap.size ≤ k ∧ k < w'.heap.size)) u (.iface T (.pointer (some ⟨b, 0, none⟩))) ∧ Below w.heap.size w w'
theorem cf_all (args : Array Value) (w : World) : (callFunc 22 args).run Tryz.prog w = .ok (.enter 22 args) w := by kernel_rfl

set_option maxHeartbeats 400000 in
set_option maxRecDepth 100000 in
theorem gives_all (w0 : World) (sb p1 p2 : Nat) (S : Nat → Prop) (f : UInt8 → Option Ty) (σ : UInt8 → Ty) (t : Ty) (h : Stnd w0 sb S f) (h1 : w0.cell? ⟨p1, 0, none⟩ = some (.pointer (some ⟨sb, 0, none⟩))) (h2 : w0.cell? ⟨p2, 0, none⟩ = some (.func (.func 22) #[.pointer (some ⟨sb, 0, none⟩)] #[]))
    (hp1 : p1 < w0.heap.size) (hp2 : p2 < w0.heap.size) (hsb : sb < w0.heap.size) (hS : ∀ k, S k → k < w0.heap.size) (hfree : ∀ c, isVarX c = true → f c = none → σ c = .lf c) (hall : ∀ c u, t.hasL c = true → isVarX c = true → f c = some u → AllAt sb f u (σ c)) :
    Gives 60 #[.pointer (some ⟨p1, 0, none⟩), .pointer (some ⟨p2, 0, none⟩)] w0 (OnlyT w0 S t) S σ := by
  intro w b c hw hSb hc hb
  have hb0 : w0.heap[b]? = some (.cells #[.int .u8 c.toNat] 88 (0, 0)) := (hw.block b (hS b hSb.1)).symm.trans hb
  have hin := hSb.2 c hc hb0
  have hst : Stnd w sb S f := h.keep (hw.block sb hsb) fun k hk => ⟨hk, hw.block k (hS k hk)⟩
  have q1 := cell_below h1 hp1 hw
  have q2 := cell_below h2 hp2 hw
  have HB := hid hb
  have HST := hid hst
  have HS := hid (fun k hk => Nat.lt_of_lt_of_le (hS k hk) hw.size)
  obtain ⟨cur, g1, g2, g3⟩ := hst
  have g4 := g3 c hc
  have G1 := hid g1
  clear g1 g3 hb h h1 h2
  show Calls Tryz.prog 60 #[.pointer (some ⟨b, 0, none⟩), .pointer (some ⟨p1, 0, none⟩), .pointer (some ⟨p2, 0, none⟩)] w _
  rcases hfc : f c with _ | u
  · rw [hfc] at g4
    have G4 := hid (show cur[idxX c]? = some .nilIface from g4)
    have HE := hid (hfree c hc hfc)
    clear g4 hfc hfree hall
    go_enter Tryz.func60, Tryz.ntmps60
    go_wp2_with fail
    refine (of_nil sb b c w hc HB.out cur G1.out G4.out).mono ?_
    rintro e w1 ⟨rfl, m, rfl⟩
    go_wp2_with fail
    go_ret
    refine ⟨_, b, rfl, ?_, below_drewN' (Below.refl _ _) m⟩
    rw [HE.out]
    exact ⟨b, .inl hSb.1, .inl ⟨hc, rfl, HB.out⟩⟩
  · rw [hfc] at g4
    obtain ⟨v, g5, g6⟩ := g4
    obtain ⟨T, b', rfl, _⟩ := g6.form
    have G5 := hid g5
    have HALL := hid (fun (n : Nat) => hall c u hin hc hfc S (.iface T (.pointer (some ⟨b', 0, none⟩))) (w.drewN n) (HST.out.keep rfl fun k hk => ⟨hk, rfl⟩) (g6.keep fun k hk => ⟨hk, rfl⟩) (fun k hk => HS.out k hk))
    clear g5 g6 hfc hfree hall
    have cs := cf_all
    go_enter Tryz.func60, Tryz.ntmps60
    go_wp2_with fail
    refine (of_some sb b c w hc HB.out cur G1.out T b' G5.out).mono ?_
    rintro e w1 ⟨rfl, m, rfl⟩
    go_wp2_with fail
    go_region_with (first | (go_at_call 53; refine (of_some sb b c (w.drewN (m + 1)) hc HB.out cur G1.out T b' G5.out).mono ?_; rintro e w2 ⟨rfl, m2, rfl⟩) | (go_at_call 22; refine (HALL.out _).mono ?_; rintro e w3 ⟨T3, b3, rfl, hr3, hb3⟩))
    all_goals
      go_wp2_with fail
      go_ret
      refine ⟨T3, b3, rfl, hr3, ?_⟩
      exact ⟨hb3.os, hb3.tape, hb3.output, hb3.size, hb3.block⟩

set_option maxHeartbeats 400000 in
set_option maxRecDepth 100000 in
theorem applyAll_step (sb : Nat) (f : UInt8 → Option Ty) (σ : UInt8 → Ty) (t : Ty) (hfree : ∀ c, isVarX c = true → f c = none → σ c = .lf c) (hall : ∀ c u, t.hasL c = true → isVarX c = true → f c = some u → AllAt sb f u (σ c)) : AllAt sb f t (t.subV isVarX σ) := by
  intro S v w h hr hS
  rw [← sub_subV]
  have hmf : ∀ (fn : Fn) (first cap : Array Value) (w : World), (Instr.makeFunc fn first cap).run Tryz.prog w = .ok (.func fn first cap) w := fun _ _ _ _ => rfl
  have hsf : ∀ (p : Addr) (m : Mode) (w : World) (fn : Fn) (x y : Array Value), (store p (.func fn x y) m).run Tryz.prog w = stored Tryz.prog w p (.func fn x y) m := fun p m w fn x y => run_store _ w p _ m rfl
  obtain ⟨T, b, rfl, _⟩ := hr.form
  have HR := hid hr
  have HST := hid h
  have HF := hid hfree
  have HA := hid hall
  clear hr h hfree hall
  go_enter Tryz.func22, Tryz.ntmps22
  go_wp2_with (go_at_call 43; go_in)
  obtain ⟨W, hW⟩ : ∃ W, (w.alloc (.cells #[.pointer (some ⟨sb, 0, none⟩)] 51)).alloc (.cells #[.func (.func 22) #[.pointer (some ⟨sb, 0, none⟩)] #[]] 59) = W := ⟨_, rfl⟩
  have hbW : Below w.heap.size w W := by rw [← hW]; exact ((Below.refl _ _).alloc (Nat.le_refl _) _).alloc (by simp only [World.size_alloc]; omega) _
  have hzW : W.heap.size = w.heap.size + 2 := by rw [← hW]; simp only [World.size_alloc]
  have hsb : sb < w.heap.size := by obtain ⟨cur, h1, _⟩ := HST.out; exact (Array.getElem?_eq_some_iff.1 h1).1
  have c1 : W.cell? ⟨w.heap.size, 0, none⟩ = some (.pointer (some ⟨sb, 0, none⟩)) := by
    rw [← hW, World.cell?_alloc_lt _ _ _ (by simp only [World.size_alloc]; omega)]
    exact cell_new1 _ _ _
  have c2 : W.cell? ⟨w.heap.size + 1, 0, none⟩ = some (.func (.func 22) #[.pointer (some ⟨sb, 0, none⟩)] #[]) := by
    have := cell_new1 (w.alloc (.cells #[.pointer (some ⟨sb, 0, none⟩)] 51)) (.func (.func 22) #[.pointer (some ⟨sb, 0, none⟩)] #[]) 59
    rw [World.size_alloc] at this
    rw [← hW]
    exact this
  rw [hW]
  have hst : Stnd W sb S f := HST.out.keep (hbW.block sb hsb) fun k hk => ⟨hk, hbW.block k (hS k hk)⟩
  have hrW : RepP W S t (.iface T (.pointer (some ⟨b, 0, none⟩))) := HR.out.keep fun k hk => ⟨hk, hbW.block k (hS k hk)⟩
  have hSW : ∀ k, S k → k < W.heap.size := fun k hk => by have := hS k hk; omega
  refine (replace_any σ _ _ cf_apply1 W (OnlyT W S t) S (gives_all W sb w.heap.size (w.heap.size + 1) S f σ t hst c1 c2 (by omega) (by omega) (by omega) hSW HF.out HA.out) (fun k hk => hSW k hk.1) hSW t _ W (Below.refl _ _) (repP_onlyT (fun _ h => h) hrW)).mono ?_
  rintro e w2 ⟨T2, b2, rfl, hr2, hb2⟩
  clear hW c1 c2 hst hrW
  have HR2 := hid hr2
  clear hr2
  go_wp2_with fail
  go_ret
  refine ⟨T2, b2, rfl, HR2.out.keep fun k hk => ⟨?_, rfl⟩, hbW.trans (hb2.mono hbW.size)⟩
  rcases hk with hk | hk | hk
  · exact .inl hk.1
  · exact .inl hk
  · exact .inr ⟨by omega, hk.2⟩

theorem applyAll_any (sb : Nat) {f : UInt8 → Option Ty} {σ : UInt8 → Ty} {ρ : UInt8 → Nat} {M : Nat} (hI : Inv isVarX f σ ρ M) : ∀ t : Ty, AllAt sb f t (t.subV isVarX σ) := by
  have key : ∀ (n : Nat) (t : Ty), (∀ c, isVarX c = true → t.hasL c = true → ρ c < n) → AllAt sb f t (t.subV isVarX σ) := by
    intro n
    induction n with
    | zero => exact fun t ht => applyAll_step sb f σ t (fun c hc hn => hI.free c hc hn) fun c u h1 h2 _ => absurd (ht c h2 h1) (Nat.not_lt_zero _)
    | succ n ih =>
      refine fun t ht => applyAll_step sb f σ t (fun c hc hn => hI.free c hc hn) fun c u h1 h2 h3 => ?_
      rw [(hI.bound c u h3).2.2]
      exact ih u fun d hd he => by
        have := hI.rank c u d h3 hd he
        have := ht c h2 h1
        omega
  exact fun t => key M t fun c _ _ => hI.lim c

end Go.Proofs.YtjpdiahbnhemoaaGreat

namespace Go.Proofs.YtjpdiahbnhemoaaGreat
open Go.RowKit Go.Maps

set_option maxHeartbeats 800000 in
set_option maxRecDepth 100000 in
theorem texts_all (sb : Nat) (w : World) (S : Nat → Prop) (f h : UInt8 → Option Ty) (hst : Stnd w sb S f) (hSl : ∀ k, S k → k < w.heap.size) (hK : Known isVarX f h) :
    Calls Tryz.prog 21 #[.pointer (some ⟨sb, 0, none⟩), .func (.func 22) #[.pointer (some ⟨sb, 0, none⟩)] #[]] w fun e w' => ∃ D, e = .returned (.map (some w.heap.size)) ∧ w'.ownsMap Tryz.prog 9 (plainElem Tryz.prog 9) w.heap.size 12 D ∧ Reads D (upto h 12) ∧ Below w.heap.size w w' := by
  obtain ⟨σ, ρ, M, hI, hh⟩ := hK.inv
  have HALL := hid (fun t => applyAll_any sb hI t)
  have HH := hid hh
  have HLIM := hid hK.lim
  have HST := hid hst
  have HSL := hid hSl
  have hs : sb < w.heap.size := by obtain ⟨cur, h1, _⟩ := hst; exact (Array.getElem?_eq_some_iff.1 h1).1
  obtain ⟨cur, g1, g2, g3⟩ := hst
  have hmm := @run_makeMap Tryz.prog
  obtain ⟨x0, x1, x2, x3, x4, x5, x6, x7, x8, x9, x10, x11, rfl⟩ : ∃ x0 x1 x2 x3 x4 x5 x6 x7 x8 x9 x10 x11, cur = #[x0, x1, x2, x3, x4, x5, x6, x7, x8, x9, x10, x11] := by
    obtain ⟨l⟩ := cur
    match l, g2 with
    | [x0, x1, x2, x3, x4, x5, x6, x7, x8, x9, x10, x11], _ => exact ⟨x0, x1, x2, x3, x4, x5, x6, x7, x8, x9, x10, x11, rfl⟩
  have q0 : w.cell? ⟨sb, 0, none⟩ = some x0 := cell_blk g1 rfl
  have q1 : w.cell? ⟨sb, 1, none⟩ = some x1 := cell_blk g1 rfl
  have q2 : w.cell? ⟨sb, 2, none⟩ = some x2 := cell_blk g1 rfl
  have q3 : w.cell? ⟨sb, 3, none⟩ = some x3 := cell_blk g1 rfl
  have q4 : w.cell? ⟨sb, 4, none⟩ = some x4 := cell_blk g1 rfl
  have q5 : w.cell? ⟨sb, 5, none⟩ = some x5 := cell_blk g1 rfl
  have q6 : w.cell? ⟨sb, 6, none⟩ = some x6 := cell_blk g1 rfl
  have q7 : w.cell? ⟨sb, 7, none⟩ = some x7 := cell_blk g1 rfl
  have q8 : w.cell? ⟨sb, 8, none⟩ = some x8 := cell_blk g1 rfl
  have q9 : w.cell? ⟨sb, 9, none⟩ = some x9 := cell_blk g1 rfl
  have q10 : w.cell? ⟨sb, 10, none⟩ = some x10 := cell_blk g1 rfl
  have q11 : w.cell? ⟨sb, 11, none⟩ = some x11 := cell_blk g1 rfl
  have G3 := hid g3
  clear hSl g3 g2 g1 hI hh hK
  go_enter Tryz.func21, Tryz.ntmps21
  go_wp2_with fail
  clear q0 q1 q2 q3 q4 q5 q6 q7 q8 q9 q10 q11
  have HM0 := hid (World.ownsMap_made w Tryz.prog 9 (plainElem (H := Unit) Tryz.prog 9))
  go_loopw [13] (fun i wr => ∃ (k : Nat) (D : DataW Unit), k ≤ 12 ∧ i = .int .i64 k ∧ wr.ownsMap Tryz.prog 9 (plainElem Tryz.prog 9) w.heap.size k D ∧ Reads D (upto h k) ∧ Below w.heap.size w wr) (fun i _ => 12 - (intOf i).toNat)
  case atStart =>
    refine ⟨0, _, Nat.zero_le _, rfl, HM0.out, reads_skip reads_start (upto_zero h), (Below.refl _ _).alloc (Nat.le_refl _) _⟩
  case round =>
    obtain ⟨k, D, hk, rfl, hown, hrd, hbel⟩ := hrel
    have HRD := hid hrd
    clear hrd
    by_cases hlt : k < 12
    · have i1 : (0 : Int) ≤ (k : Int) := by omega
      have i2 : (k : Int) < 12 := by omega
      obtain ⟨x, hx, hix⟩ := index12 x0 x1 x2 x3 x4 x5 x6 x7 x8 x9 x10 x11 k hlt
      have his := indexS k hlt
      obtain ⟨hv, hi, ha⟩ := letX_var k hlt
      obtain ⟨c, hc⟩ : ∃ c, letX k = c := ⟨_, rfl⟩
      rw [hc] at hv hi ha his
      have g4 := G3.out c hv
      rw [hi, hx] at g4
      obtain ⟨hu1, hu2⟩ := upto_step (h := h) hv hi
      have HU1 := hid hu1
      have HU2 := hid hu2
      clear hx hc hu1 hu2 hi
      rcases hfc : f c with _ | t
      · rw [hfc] at g4
        obtain rfl : x = .nilIface := by injection g4
        have HFC := hid (show h c = none by rw [HH.out c, hfc]; rfl)
        clear g4 hfc his
        go_wp2_with fail
        go_roundw
        case rel =>
          refine ⟨k + 1, D, hlt, by go_num, hown.mono (by omega), reads_skip HRD.out fun d => ?_, hbel⟩
          by_cases e : d = c
          · subst e
            rw [HU1.out, HFC.out]
            unfold upto
            rw [HFC.out]
            split <;> rfl
          · exact HU2.out d e
        case measure => simp [intOf]; omega
      · rw [hfc] at g4
        obtain ⟨v, e4, g6⟩ := g4
        obtain rfl : x = v := by injection e4
        obtain ⟨T, b, rfl, _⟩ := g6.form
        have hfu : h c = some (t.subV isVarX σ) := by rw [HH.out c, hfc]; rfl
        obtain ⟨u, hu⟩ : ∃ u, t.subV isVarX σ = u := ⟨_, rfl⟩
        have hall := HALL.out t
        rw [hu] at hfu hall
        obtain ⟨_, hok, hlen⟩ := HLIM.out c u hfu
        have HFC := hid hfu
        have HOK := hid hok
        have zr := hbel.size
        have HCA := hid (hall S _ wr (HST.out.keep (hbel.block sb hs) fun j hj => ⟨hj, hbel.block j (HSL.out j hj)⟩) (g6.keep (S' := S) (w' := wr) fun j hj => ⟨hj, hbel.block j (HSL.out j hj)⟩) (fun j hj => Nat.lt_of_lt_of_le (HSL.out j hj) zr))
        clear e4 g6 hfc hok hu hall hfu
        obtain ⟨q, hq⟩ : ∃ q, strOf u.text = q := ⟨_, rfl⟩
        have hqs : q.size ≤ 46656000000 := by rw [← hq, strOf_size]; exact hlen
        have hql : q.data.toList = u.text := by rw [← hq, strOf_list]
        have HQ := hid hq
        have HQL := hid hql
        have HLEN := hid hlen
        have cs := cf_all
        have kc : keyOf Tryz.prog 9 (.string (strOf [c])) = some (.string [c]) := by
          rw [WideMaps.keyOf_string_mk Tryz.underlying9 (by rw [strOf_size]; unfold maxLen; simp), strOf_list]
        have pe : plainElem (H := Unit) Tryz.prog 9 (.string q) = some (.lit (.string q.data.toList), []) := plainElem_string Tryz.underlying9 (by unfold maxLen; omega)
        rw [hql] at pe
        obtain ⟨lc, hlc⟩ : ∃ lc, strOf [c] = lc := ⟨_, rfl⟩
        have HLC := hid (fun W => letterText_any c ha W)
        simp only [hlc] at HLC kc
        clear hq hql hlc hlen
        go_wp2_with fail
        refine (HLC.out _).mono ?_
        rintro e w1 ⟨rfl, rfl⟩
        go_wp2_with fail
        refine HCA.out.mono ?_
        rintro e w2 ⟨T2, b2, rfl, hr2, hb2⟩
        obtain ⟨fn, hm, hcf, hcall⟩ := textBy_any u 0 w2.heap.size T2 b2 w2 (hr2.rep (fun j hj => ⟨Nat.zero_le _, by
          rcases hj with hj | hj
          · have := HSL.out j hj
            have := hb2.size
            omega
          · exact hj.2⟩) HOK.out) (Nat.le_refl _) HOK.out (by have := HLEN.out; omega)
        rw [HQ.out] at hcall
        have HCALL := hid hcall
        clear hcall hr2 cs
        go_wp2_with fail
        refine HCALL.out.mono ?_
        rintro e w3 ⟨rfl, hb3⟩
        have hb23 := hb2.trans (hb3.mono hb2.size)
        have hown2 := hown.kept (w' := w3) (row := none) ⟨hb23.os, hb23.tape, hb23.output, hb23.size, fun i hi _ => hb23.block i hi⟩ (by simp)
        clear hm hcf
        go_wp2_with (first
          | (at_mapUpdate; refine wpList_mapUpdate_own _ rfl _ _ _ 57 rfl 9 9 keyS Tryz.underlying57 _ w.heap.size k _ rfl hown2 (by unfold maxLen; omega) _ _ _ rfl rfl kc _ [] pe ?_; intro w4 hown3 hgrow3)
          | fail)
        go_roundw
        case rel =>
          refine ⟨k + 1, _, hlt, by go_num, hown3, reads_put HRD.out (by rw [HU1.out, HFC.out]; rfl) HU2.out, ?_⟩
          exact (hbel.trans (hb23.mono zr)).grown hgrow3 (by have := hb23.size; omega) (by intro j hj; simp at hj; omega)
        case measure => simp [intOf]; omega
    · obtain rfl : k = 12 := by omega
      go_wp2_with fail
      go_ret
      exact ⟨D, rfl, hown, HRD.out, hbel⟩

end Go.Proofs.YtjpdiahbnhemoaaGreat
