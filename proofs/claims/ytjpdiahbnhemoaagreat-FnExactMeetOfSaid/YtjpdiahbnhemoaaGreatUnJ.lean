/- Variables followed, and whether a variable stands in a type, in the program. Whether a variable stands in a type, in the program; variables bound. -/
import Derived.Test.YtjpdiahbnhemoaaGreatMtJ
import Derived.Test.YtjpdiahbnhemoaaGreatUnF
namespace Go.Proofs.YtjpdiahbnhemoaaGreat
open Go.RowKit

theorem stnd_heap {w W : World} {sb : Nat} {S : Nat → Prop} {f : UInt8 → Option Ty} (h : Stnd w sb S f) (e : W.heap = w.heap) : Stnd W sb S f := h.keep (by rw [e]) fun k hk => ⟨hk, by rw [e]⟩
theorem repP_heap {w W : World} {S : Nat → Prop} {t : Ty} {v : Value} (h : RepP w S t v) (e : W.heap = w.heap) : RepP W S t v := h.keep fun k hk => ⟨hk, by rw [e]⟩
theorem ta_of {w : World} {S : Nat → Prop} {t : Ty} {v : Value} (h : RepP w S t v) (hn : NoVar isVarX t) : ∀ W : World, (Instr.typeAssert v 48 75 true).run Tryz.prog W = .ok (.tuple #[.pointer none, .bool false]) W := by
  intro W
  cases t with
  | lf c =>
    obtain ⟨b, _, ⟨hc, rfl, _⟩ | ⟨_, rfl, _⟩⟩ := h
    · have := hn c rfl
      rw [hc] at this
      cases this
    · exact ta_con_var b W
  | un c a =>
    obtain ⟨b, g, cap, x, _, _, rfl, _⟩ := h
    exact ta_cst_var b W
  | bi c a b =>
    obtain ⟨b, g, cap, x, x', _, _, rfl, _⟩ := h
    exact ta_cst_var b W

set_option maxHeartbeats 400000 in
set_option maxRecDepth 100000 in
theorem through_stay (sb T b : Nat) (W : World) (ta : (Instr.typeAssert (.iface T (.pointer (some ⟨b, 0, none⟩))) 48 75 true).run Tryz.prog W = .ok (.tuple #[.pointer none, .bool false]) W) :
    Calls Tryz.prog 33 #[.pointer (some ⟨sb, 0, none⟩), .iface T (.pointer (some ⟨b, 0, none⟩))] W fun e w' => e = .returned (.iface T (.pointer (some ⟨b, 0, none⟩))) ∧ w' = W := by
  go_enter Tryz.func33, Tryz.ntmps33
  go_wp2_with fail
  go_ret
  exact ⟨rfl, rfl⟩
set_option maxHeartbeats 400000 in
set_option maxRecDepth 100000 in
theorem through_free (sb vb : Nat) (c : UInt8) (W : World) (hc : isVarX c = true) (hv : W.heap[vb]? = some (.cells #[.int .u8 c.toNat] 88 (0, 0))) (cur : Array Value) (hs : W.heap[sb]? = some (.cells cur 54 (0, 0))) (hu : cur[idxX c]? = some .nilIface) :
    Calls Tryz.prog 33 #[.pointer (some ⟨sb, 0, none⟩), .iface 75 (.pointer (some ⟨vb, 0, none⟩))] W fun e w' => e = .returned (.iface 75 (.pointer (some ⟨vb, 0, none⟩))) ∧ ∃ m, w' = W.drewN m := by
  have HV := hid hv
  have HS := hid hs
  have HU := hid hu
  have ta := ta_var_var vb W
  clear hv hs hu
  go_enter Tryz.func33, Tryz.ntmps33
  go_wp2_with fail
  refine (of_nil sb vb c W hc HV.out cur HS.out HU.out).mono ?_
  rintro e w1 ⟨rfl, m, rfl⟩
  go_wp2_with fail
  go_ret
  exact ⟨rfl, m, rfl⟩
set_option maxHeartbeats 400000 in
set_option maxRecDepth 100000 in
theorem through_step (sb vb : Nat) (c : UInt8) (W : World) (hc : isVarX c = true) (hv : W.heap[vb]? = some (.cells #[.int .u8 c.toNat] 88 (0, 0))) (cur : Array Value) (hs : W.heap[sb]? = some (.cells cur 54 (0, 0))) (T b : Nat) (hu : cur[idxX c]? = some (.iface T (.pointer (some ⟨b, 0, none⟩))))
    (T' b' : Nat) (HI : ∀ W' : World, W'.heap = W.heap → Calls Tryz.prog 33 #[.pointer (some ⟨sb, 0, none⟩), .iface T (.pointer (some ⟨b, 0, none⟩))] W' fun e w' => e = .returned (.iface T' (.pointer (some ⟨b', 0, none⟩))) ∧ w'.heap = W'.heap ∧ Below W'.heap.size W' w') :
    Calls Tryz.prog 33 #[.pointer (some ⟨sb, 0, none⟩), .iface 75 (.pointer (some ⟨vb, 0, none⟩))] W fun e w' => e = .returned (.iface T' (.pointer (some ⟨b', 0, none⟩))) ∧ w'.heap = W.heap ∧ Below W.heap.size W w' := by
  have HV := hid hv
  have HS := hid hs
  have HU := hid hu
  have HII := hid HI
  have ta := ta_var_var vb W
  clear hv hs hu HI
  go_enter Tryz.func33, Tryz.ntmps33
  go_wp2_with fail
  refine (of_some sb vb c W hc HV.out cur HS.out T b HU.out).mono ?_
  rintro e w1 ⟨rfl, m, rfl⟩
  go_wp2_with fail
  refine (of_some sb vb c (W.drewN m) hc HV.out cur HS.out T b HU.out).mono ?_
  rintro e w2 ⟨rfl, m2, rfl⟩
  go_wp2_with fail
  refine (HII.out (W.drewN (m + m2)) rfl).mono ?_
  rintro e w3 ⟨rfl, hh, hb⟩
  have HH := hid hh
  clear hh
  go_wp2_with fail
  go_ret
  exact ⟨rfl, HH.out, (below_drewN' (Below.refl _ _) (m + m2)).trans hb⟩

/-- Variables followed, by the program: what comes out hangs on the memory alone. -/
theorem through_any {f : UInt8 → Option Ty} {a b : Ty} (h : Thr isVarX f a b) (sb : Nat) (S : Nat → Prop) (w : World) (hst : Stnd w sb S f) : ∀ v, RepP w S a v → ∃ T b', RepP w S b (.iface T (.pointer (some ⟨b', 0, none⟩))) ∧
    ∀ W : World, W.heap = w.heap → Calls Tryz.prog 33 #[.pointer (some ⟨sb, 0, none⟩), v] W fun e w' => e = .returned (.iface T (.pointer (some ⟨b', 0, none⟩))) ∧ w'.heap = W.heap ∧ Below W.heap.size W w' := by
  induction h with
  | @stay a hs =>
    intro v hr
    obtain ⟨T, b', rfl, _⟩ := hr.form
    refine ⟨T, b', hr, fun W hW => ?_⟩
    by_cases hv : ∃ c, a = .lf c ∧ isVarX c = true
    · obtain ⟨c, rfl, hc⟩ := hv
      have hfc := hs c rfl hc
      obtain ⟨cur, g1, g2, g3⟩ := stnd_heap hst hW
      have g4 := g3 c hc
      rw [hfc] at g4
      obtain ⟨b, hSb, ⟨_, e, hb⟩ | ⟨hc', _, _⟩⟩ := repP_heap hr hW
      · simp only [Value.iface.injEq, Value.pointer.injEq, Option.some.injEq, Addr.mk.injEq, and_true] at e
        obtain ⟨rfl, rfl⟩ := e
        refine (through_free sb b' c W hc hb cur g1 g4).mono ?_
        rintro e w' ⟨rfl, m, rfl⟩
        exact ⟨rfl, rfl, below_drewN' (Below.refl _ _) m⟩
      · rw [hc] at hc'
        cases hc'
    · have hn : NoVar isVarX a := fun c hc => by
        rcases h : isVarX c with _ | _
        · rfl
        · exact absurd ⟨c, hc, h⟩ hv
      refine (through_stay sb T b' W (ta_of hr hn W)).mono ?_
      rintro e w' ⟨rfl, rfl⟩
      exact ⟨rfl, rfl, Below.refl _ _⟩
  | @step c t b hc hfc _ ih =>
    intro v hr
    have hst' := hst
    obtain ⟨cur, g1, g2, g3⟩ := hst'
    have g4 := g3 c hc
    rw [hfc] at g4
    obtain ⟨u, g5, g6⟩ := g4
    obtain ⟨T', b', hrb, hI⟩ := ih u g6
    obtain ⟨Tu, bu, rfl, _⟩ := g6.form
    refine ⟨T', b', hrb, fun W hW => ?_⟩
    obtain ⟨b, hSb, ⟨_, rfl, hb⟩ | ⟨hc', _, _⟩⟩ := repP_heap hr hW
    · exact through_step sb b c W hc hb cur (by rw [hW]; exact g1) Tu bu g5 T' b' fun W' hW' => hI W' (hW'.trans hW)
    · rw [hc] at hc'
      cases hc'

theorem cf_in1 (args : Array Value) (w : World) : (callFunc 67 args).run Tryz.prog w = .ok (.enter 67 args) w := by kernel_rfl

set_option maxHeartbeats 400000 in
set_option maxRecDepth 100000 in
theorem index0 (fv : Value) (w : World) : Calls Tryz.prog 81 #[.slice none 0 0, fv] w fun e w' => e = .returned (.int .i64 (-1)) ∧ w' = w := by
  go_enter Tryz.func81, Tryz.ntmps81
  go_wp2_with fail
  refine wp_loop_rounds 1 ?_
  rw [rounds_succ]
  go_wp2_with fail
  go_ret
  exact ⟨rfl, rfl⟩

/-- What a closure says of a part. -/
def Says (fn : Nat) (k1 k2 x : Value) (r : Bool) (w : World) : Prop := Calls Tryz.prog fn #[x, k1, k2] w fun e w' => e = .returned (.bool r) ∧ Below w.heap.size w w'

set_option maxHeartbeats 400000 in
set_option maxRecDepth 100000 in
theorem index1 (fn : Nat) (k1 k2 : Value) (hcf : ∀ args w, (callFunc fn args).run Tryz.prog w = .ok (.enter fn args) w) (g cap T b : Nat) (r : Bool) (w : World) (hx : w.cell? ⟨g, 0, none⟩ = some (.iface T (.pointer (some ⟨b, 0, none⟩)))) (HC : Says fn k1 k2 (.iface T (.pointer (some ⟨b, 0, none⟩))) r w) :
    Calls Tryz.prog 81 #[.slice (some ⟨g, 0, none⟩) 1 cap, .func (.func fn) #[] #[k1, k2]] w fun e w' => e = .returned (.int .i64 (if r = true then 0 else -1)) ∧ Below w.heap.size w w' := by
  have HCC := hid HC
  clear HC
  go_enter Tryz.func81, Tryz.ntmps81
  go_wp2_with fail
  refine wp_loop_rounds 2 ?_
  rw [rounds_succ]
  go_wp2_with fail
  refine HCC.out.mono ?_
  rintro e w1 ⟨rfl, hb⟩
  cases r
  · go_wp2_with fail
    rw [rounds_succ]
    go_wp2_with fail
    go_ret
    exact ⟨rfl, hb⟩
  · go_wp2_with fail
    go_ret
    exact ⟨rfl, hb⟩

set_option maxHeartbeats 400000 in
set_option maxRecDepth 100000 in
theorem index2 (fn : Nat) (k1 k2 : Value) (hcf : ∀ args w, (callFunc fn args).run Tryz.prog w = .ok (.enter fn args) w) (g cap T b T' b' : Nat) (r r' : Bool) (w : World) (hg : g < w.heap.size) (hx : w.cell? ⟨g, 0, none⟩ = some (.iface T (.pointer (some ⟨b, 0, none⟩)))) (hx' : w.cell? ⟨g, 1, none⟩ = some (.iface T' (.pointer (some ⟨b', 0, none⟩)))) (HC : Says fn k1 k2 (.iface T (.pointer (some ⟨b, 0, none⟩))) r w)
    (HC' : r = false → ∀ w1, Below w.heap.size w w1 → Says fn k1 k2 (.iface T' (.pointer (some ⟨b', 0, none⟩))) r' w1) :
    Calls Tryz.prog 81 #[.slice (some ⟨g, 0, none⟩) 2 cap, .func (.func fn) #[] #[k1, k2]] w fun e w' => e = .returned (.int .i64 (if r = true then 0 else if r' = true then 1 else -1)) ∧ Below w.heap.size w w' := by
  have HCC := hid HC
  have HC2 := hid HC'
  clear HC HC'
  go_enter Tryz.func81, Tryz.ntmps81
  go_wp2_with fail
  refine wp_loop_rounds 3 ?_
  rw [rounds_succ]
  go_wp2_with fail
  refine HCC.out.mono ?_
  rintro e w1 ⟨rfl, hb⟩
  have hx1 := cell_below hx' hg hb
  cases r
  · go_wp2_with fail
    rw [rounds_succ]
    go_wp2_with fail
    refine (HC2.out trivial w1 hb).mono ?_
    rintro e w2 ⟨rfl, hb2⟩
    cases r'
    · go_wp2_with fail
      rw [rounds_succ]
      go_wp2_with fail
      go_ret
      exact ⟨rfl, hb.trans (hb2.mono hb.size)⟩
    · go_wp2_with fail
      go_ret
      exact ⟨rfl, hb.trans (hb2.mono hb.size)⟩
  · go_wp2_with fail
    go_ret
    exact ⟨rfl, hb⟩

set_option maxHeartbeats 400000 in
set_option maxRecDepth 100000 in
theorem contains_by (p fv : Value) (r : Bool) (q : Int) (hq : (decide (0 ≤ q)) = r) (w : World) (HC : Calls Tryz.prog 81 #[p, fv] w fun e w' => e = .returned (.int .i64 q) ∧ Below w.heap.size w w') :
    Calls Tryz.prog 66 #[p, fv] w fun e w' => e = .returned (.bool r) ∧ Below w.heap.size w w' := by
  have HCC := hid HC
  subst hq
  clear HC
  go_enter Tryz.func66, Tryz.ntmps66
  go_wp2_with fail
  refine HCC.out.mono ?_
  rintro e w1 ⟨rfl, hb⟩
  go_wp2_with fail
  go_ret
  exact ⟨by simp, hb⟩

end Go.Proofs.YtjpdiahbnhemoaaGreat

namespace Go.Proofs.YtjpdiahbnhemoaaGreat
open Go.RowKit

theorem box2U (w : World) (o1 o2 : Value) (T1 T2 : TypeId) (W : World) (hW : (w.alloc (.cells #[o1] T1)).alloc (.cells #[o2] T2) = W) :
    Below w.heap.size w W ∧ W.heap.size = w.heap.size + 2 ∧ W.cell? ⟨w.heap.size, 0, none⟩ = some o1 ∧ W.cell? ⟨w.heap.size + 1, 0, none⟩ = some o2 := by
  subst hW
  have q1 := cell_new1 (w.alloc (.cells #[o1] T1)) o2 T2
  simp only [World.size_alloc] at q1
  refine ⟨((Below.refl _ _).alloc (Nat.le_refl _) _).alloc (by simp only [World.size_alloc]; omega) _, by simp only [World.size_alloc], ?_, q1⟩
  rw [World.cell?_alloc_lt _ _ _ (by simp only [World.size_alloc]; omega)]
  exact cell_new1 _ _ _
theorem u8_eqb (c d : UInt8) : ((c.toNat : Int) == (d.toNat : Int)) = (c == d) := by
  by_cases h : c = d
  · subst h; simp
  · have h1 : ¬ (c.toNat : Int) = d.toNat := fun e => h (UInt8.toNat_inj.1 (by omega))
    rw [beq_eq_false_iff_ne.2 h1, beq_eq_false_iff_ne.2 h]

/-- The contract of standsIn at a type. -/
def StandsBy (f : UInt8 → Option Ty) (vl : UInt8) (n : Ty) (r : Bool) : Prop := ∀ (sb vb : Nat) (S : Nat → Prop) (v : Value) (w : World), Stnd w sb S f → RepP w S n v → (∀ k, S k → k < w.heap.size) → w.heap[vb]? = some (.cells #[.int .u8 vl.toNat] 88 (0, 0)) →
  Calls Tryz.prog 54 #[.pointer (some ⟨sb, 0, none⟩), .pointer (some ⟨vb, 0, none⟩), v] w fun e w' => e = .returned (.bool r) ∧ Below w.heap.size w w'

set_option maxHeartbeats 400000 in
set_option maxRecDepth 100000 in
theorem stands1 {f : UInt8 → Option Ty} {vl : UInt8} {n : Ty} {r : Bool} (h : StandsBy f vl n r) (sb vb p1 p2 : Nat) (S : Nat → Prop) (v : Value) (w : World) (hst : Stnd w sb S f) (hr : RepP w S n v) (hS : ∀ k, S k → k < w.heap.size) (hv : w.heap[vb]? = some (.cells #[.int .u8 vl.toNat] 88 (0, 0)))
    (c1 : w.cell? ⟨p1, 0, none⟩ = some (.pointer (some ⟨sb, 0, none⟩))) (c2 : w.cell? ⟨p2, 0, none⟩ = some (.pointer (some ⟨vb, 0, none⟩))) :
    Says 67 (.pointer (some ⟨p1, 0, none⟩)) (.pointer (some ⟨p2, 0, none⟩)) v r w := by
  have HC := hid (h sb vb S v w hst hr hS hv)
  obtain ⟨T, b, rfl, _⟩ := hr.form
  clear hr hst hv h
  unfold Says
  go_enter Tryz.func67, Tryz.ntmps67
  go_wp2_with fail
  refine HC.out.mono ?_
  rintro e w1 ⟨rfl, hb⟩
  go_wp2_with fail
  go_ret
  exact ⟨rfl, hb⟩

set_option maxHeartbeats 800000 in
set_option maxRecDepth 100000 in
theorem standsIn_var {f : UInt8 → Option Ty} {vl c : UInt8} {n : Ty} (ht : Thr isVarX f n (.lf c)) (hc : isVarX c = true) : StandsBy f vl n (c == vl) := by
  intro sb vb S v w hst hr hS hv
  have hs : sb < w.heap.size := by obtain ⟨cur, h1, _⟩ := hst; exact (Array.getElem?_eq_some_iff.1 h1).1
  have hvl : vb < w.heap.size := (Array.getElem?_eq_some_iff.1 hv).1
  obtain ⟨T, b, rfl, _⟩ := hr.form
  obtain ⟨W, hW⟩ : ∃ W, (w.alloc (.cells #[.pointer (some ⟨sb, 0, none⟩)] 51)).alloc (.cells #[.pointer (some ⟨vb, 0, none⟩)] 75) = W := ⟨_, rfl⟩
  obtain ⟨hbW, hzW, q1, q2⟩ := box2U w _ _ _ _ W hW
  obtain ⟨T', b', hrb, hI⟩ := through_any ht sb S W (hst.keep (hbW.block sb hs) fun k hk => ⟨hk, hbW.block k (hS k hk)⟩) _ (hr.keep fun k hk => ⟨hk, hbW.block k (hS k hk)⟩)
  obtain ⟨bb, hSb, ⟨_, e, hb⟩ | ⟨hc', _, _⟩⟩ := hrb
  · simp only [Value.iface.injEq, Value.pointer.injEq, Option.some.injEq, Addr.mk.injEq, and_true] at e
    obtain ⟨rfl, rfl⟩ := e
    have HI := hid hI
    have n0 : W.cell? ⟨b', 0, none⟩ = some (.int .u8 c.toNat) := cell_blk hb rfl
    have n1 : W.cell? ⟨vb, 0, none⟩ = some (.int .u8 vl.toNat) := cell_blk ((hbW.block vb hvl).trans hv) rfl
    have hbl : b' < W.heap.size := (Array.getElem?_eq_some_iff.1 hb).1
    obtain ⟨rr, hrr⟩ : ∃ r, (c == vl) = r := ⟨_, rfl⟩
    have heq := u8_eqb c vl
    rw [hrr] at heq ⊢
    clear hI hst hr hv hb hrr
    go_enter Tryz.func54, Tryz.ntmps54
    go_wp2_with fail
    clear hW
    refine (HI.out W rfl).mono ?_
    rintro e w1 ⟨rfl, hh, hb1⟩
    have m0 := cell_below n0 hbl hb1
    have m1 := cell_below n1 (by omega) hb1
    have m2 := cell_below q2 (by omega) hb1
    have ta := ta_var_var b' w1
    clear hh n0 n1 q1 q2 hzW
    go_wp2_with fail
    go_region_with fail
    all_goals
      go_wp2_with fail
      go_ret
      exact ⟨rfl, (hbW.trans (hb1.mono hbW.size)).drew⟩
  · rw [hc] at hc'
    cases hc'

set_option maxHeartbeats 800000 in
set_option maxRecDepth 100000 in
theorem standsIn_node {f : UInt8 → Option Ty} {vl : UInt8} {n m : Ty} {r : Bool} (ht : Thr isVarX f n m) (hn : NoVar isVarX m)
    (HK : ∀ (sb vb p1 p2 : Nat) (S : Nat → Prop) (p : Value) (W : World), Stnd W sb S f → (∀ k, S k → k < W.heap.size) → W.heap[vb]? = some (.cells #[.int .u8 vl.toNat] 88 (0, 0)) → W.cell? ⟨p1, 0, none⟩ = some (.pointer (some ⟨sb, 0, none⟩)) → W.cell? ⟨p2, 0, none⟩ = some (.pointer (some ⟨vb, 0, none⟩)) → p1 < W.heap.size → p2 < W.heap.size →
      PartsAt W S m p → ∃ q : Int, decide (0 ≤ q) = r ∧ Calls Tryz.prog 81 #[p, .func (.func 67) #[] #[.pointer (some ⟨p1, 0, none⟩), .pointer (some ⟨p2, 0, none⟩)]] W fun e w' => e = .returned (.int .i64 q) ∧ Below W.heap.size W w') : StandsBy f vl n r := by
  intro sb vb S v w hst hr hS hv
  have hmf : ∀ (fn : Fn) (first cap : Array Value) (w : World), (Instr.makeFunc fn first cap).run Tryz.prog w = .ok (.func fn first cap) w := fun _ _ _ _ => rfl
  have hs : sb < w.heap.size := by obtain ⟨cur, h1, _⟩ := hst; exact (Array.getElem?_eq_some_iff.1 h1).1
  have hvl : vb < w.heap.size := (Array.getElem?_eq_some_iff.1 hv).1
  obtain ⟨T, b, rfl, _⟩ := hr.form
  obtain ⟨W, hW⟩ : ∃ W, (w.alloc (.cells #[.pointer (some ⟨sb, 0, none⟩)] 51)).alloc (.cells #[.pointer (some ⟨vb, 0, none⟩)] 75) = W := ⟨_, rfl⟩
  obtain ⟨hbW, hzW, q1, q2⟩ := box2U w _ _ _ _ W hW
  have hstW : Stnd W sb S f := hst.keep (hbW.block sb hs) fun k hk => ⟨hk, hbW.block k (hS k hk)⟩
  obtain ⟨T', b', hrb, hI⟩ := through_any ht sb S W hstW _ (hr.keep fun k hk => ⟨hk, hbW.block k (hS k hk)⟩)
  have HI := hid hI
  have HSTW := hid hstW
  have HRB := hid hrb
  have HV := hid ((hbW.block vb hvl).trans hv)
  have HKK := hid HK
  have HS := hid hS
  clear hI hst hr hv HK hstW hrb hS
  go_enter Tryz.func54, Tryz.ntmps54
  go_wp2_with fail
  clear hW
  refine (HI.out W rfl).mono ?_
  rintro e w1 ⟨rfl, hh, hb1⟩
  have ta := ta_of HRB.out hn w1
  have hr1 := repP_heap HRB.out hh
  obtain ⟨T2, b2, e2, nd⟩ := nodeAt hr1
  simp only [Value.iface.injEq, Value.pointer.injEq, Option.some.injEq, Addr.mk.injEq, and_true] at e2
  obtain ⟨rfl, rfl⟩ := e2
  obtain ⟨fp, p, hpa, pm, pc, pk⟩ := nd.parts
  have PK := hid (pk w1 rfl)
  have hsW : W.heap.size = w1.heap.size := by rw [hh]
  obtain ⟨q, hq, hix⟩ := HKK.out sb vb w.heap.size (w.heap.size + 1) S p w1 (stnd_heap HSTW.out hh) (fun k hk => by have := HS.out k hk; omega) (by rw [hh]; exact HV.out) (cell_below q1 (by omega) hb1) (cell_below q2 (by omega) hb1) (by omega) (by omega) hpa
  have HX := hid (contains_by p _ r q hq w1 hix)
  have hbT := hid (hbW.trans (hb1.mono hbW.size))
  have hpv : ∃ a n c, p = .slice a n c := by
    unfold PartsAt at hpa
    cases m with
    | lf c => exact ⟨_, _, _, hpa⟩
    | un c a => obtain ⟨g, cap, x, _, rfl, _⟩ := hpa; exact ⟨_, _, _, rfl⟩
    | bi c a a' => obtain ⟨g, cap, x, y, _, rfl, _⟩ := hpa; exact ⟨_, _, _, rfl⟩
  obtain ⟨pa, pn, pcp, rfl⟩ := hpv
  clear hh hr1 pk hpa hix q1 q2 hzW hsW nd hb1 hbW
  go_wp2_with fail
  refine PK.out.mono ?_
  rintro e w2 ⟨rfl, rfl⟩
  go_wp2_with fail
  refine HX.out.mono ?_
  rintro e w3 ⟨rfl, hb3⟩
  go_wp2_with fail
  go_ret
  exact ⟨rfl, hbT.out.trans (hb3.mono hbT.out.size)⟩

theorem standsIn_any {f : UInt8 → Option Ty} {vl : UInt8} {n : Ty} {r : Bool} (h : Occ isVarX f vl n r) : StandsBy f vl n r := by
  induction h with
  | @var n c h1 h2 => exact standsIn_var h1 h2
  | @con n c h1 h2 =>
    refine standsIn_node h1 (fun d hd => by injection hd with hd; rw [← hd]; exact h2) fun sb vb p1 p2 S p W _ _ _ _ _ _ _ hp => ⟨-1, rfl, ?_⟩
    obtain rfl : p = .slice none 0 0 := hp
    refine (index0 _ W).mono ?_
    rintro e w' ⟨rfl, rfl⟩
    exact ⟨rfl, Below.refl _ _⟩
  | @un n c a r h1 _ ih =>
    refine standsIn_node h1 (fun d hd => by cases hd) fun sb vb p1 p2 S p W hst hS hv c1 c2 _ _ hp => ?_
    obtain ⟨g, cap, x, _, rfl, hx, hrx⟩ := hp
    obtain ⟨T, b, rfl, _⟩ := hrx.form
    exact ⟨_, by cases r <;> rfl, index1 _ _ _ cf_in1 g cap T b r W hx (stands1 ih sb vb p1 p2 S _ W hst hrx hS hv c1 c2)⟩
  | @bi1 n c a b h1 _ ih =>
    refine standsIn_node h1 (fun d hd => by cases hd) fun sb vb p1 p2 S p W hst hS hv c1 c2 _ _ hp => ?_
    obtain ⟨g, cap, x, y, hSg, rfl, hx, hy, hrx, hry⟩ := hp
    obtain ⟨T, bx, rfl, _⟩ := hrx.form
    obtain ⟨T', by', rfl, _⟩ := hry.form
    exact ⟨0, rfl, index2 _ _ _ cf_in1 g cap T bx T' by' true true W (hS g hSg) hx hy (stands1 ih sb vb p1 p2 S _ W hst hrx hS hv c1 c2) fun h => by cases h⟩
  | @bi2 n c a b r h1 _ _ iha ihb =>
    refine standsIn_node h1 (fun d hd => by cases hd) fun sb vb p1 p2 S p W hst hS hv c1 c2 l1 l2 hp => ?_
    obtain ⟨g, cap, x, y, hSg, rfl, hx, hy, hrx, hry⟩ := hp
    obtain ⟨T, bx, rfl, _⟩ := hrx.form
    obtain ⟨T', by', rfl, _⟩ := hry.form
    have hs : sb < W.heap.size := by obtain ⟨cur, h1, _⟩ := hst; exact (Array.getElem?_eq_some_iff.1 h1).1
    have hvl : vb < W.heap.size := (Array.getElem?_eq_some_iff.1 hv).1
    refine ⟨_, by cases r <;> rfl, index2 _ _ _ cf_in1 g cap T bx T' by' false r W (hS g hSg) hx hy (stands1 iha sb vb p1 p2 S _ W hst hrx hS hv c1 c2) fun _ w1 hb => ?_⟩
    exact stands1 ihb sb vb p1 p2 S _ w1 (hst.keep (hb.block sb hs) fun k hk => ⟨hk, hb.block k (hS k hk)⟩) (hry.keep fun k hk => ⟨hk, hb.block k (hS k hk)⟩) (fun k hk => Nat.lt_of_lt_of_le (hS k hk) hb.size) ((hb.block vb hvl).trans hv) (cell_below c1 l1 hb) (cell_below c2 l2 hb)

end Go.Proofs.YtjpdiahbnhemoaaGreat
