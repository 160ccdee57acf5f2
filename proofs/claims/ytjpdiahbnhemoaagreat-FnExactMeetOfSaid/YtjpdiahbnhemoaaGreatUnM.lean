/- unify of the program. AreApart of the program. -/
import Derived.Test.YtjpdiahbnhemoaaGreatUnK
import Derived.Test.YtjpdiahbnhemoaaGreatMtK
namespace Go.Proofs.YtjpdiahbnhemoaaGreat
open Go.RowKit

theorem var_of {w : World} {S : Nat → Prop} {c : UInt8} {K k : Nat} (h : RepP w S (.lf c) (.iface K (.pointer (some ⟨k, 0, none⟩)))) (hc : isVarX c = true) : K = 75 ∧ S k ∧ w.heap[k]? = some (.cells #[.int .u8 c.toNat] 88 (0, 0)) := by
  obtain ⟨b, hS, ⟨_, e, hb⟩ | ⟨hc', _, _⟩⟩ := h
  · simp only [Value.iface.injEq, Value.pointer.injEq, Option.some.injEq, Addr.mk.injEq, and_true] at e
    obtain ⟨rfl, rfl⟩ := e
    exact ⟨rfl, hS, hb⟩
  · rw [hc] at hc'
    cases hc'
theorem mtEnd_from {w W : World} {sb : Nat} {S : Nat → Prop} {o : Option (UInt8 → Option Ty)} {e : Ending} {w' : World} (hW : W.heap = w.heap) (hb : Below w.heap.size w W) (h : MtEnd W sb S o e w') : MtEnd w sb S o e w' :=
  ⟨(But.of_below hb).trans (h.1.mono (by rw [hW]; exact Nat.le_refl _)), h.2⟩

/-- What the walk does of two types. -/
def UnifyBy (f : UInt8 → Option Ty) (a b : Ty) (o : Option (UInt8 → Option Ty)) : Prop := ∀ (w : World) (v1 v2 : Value) (sb p1 p2 : Nat) (S : Nat → Prop), RepP w S a v1 → RepP w S b v2 → Stnd w sb S f → WalkingU w p1 p2 sb → ¬ S sb → (∀ k, S k → k < w.heap.size) →
  Calls Tryz.prog 32 #[v1, v2, .pointer (some ⟨p1, 0, none⟩), .pointer (some ⟨p2, 0, none⟩)] w (MtEnd w sb S o)

theorem unifyBy_vars {f : UInt8 → Option Ty} {a b : Ty} {v u : UInt8} {o : UInt8 → Option Ty} (h1 : Thr isVarX f a (.lf v)) (h2 : Thr isVarX f b (.lf u)) (h3 : isVarX v = true) (h4 : isVarX u = true) (ho : o = if v = u then f else if ltB v u = true then bindU f v (.lf u) else bindU f u (.lf v)) : UnifyBy f a b (some o) := by
  intro w v1 v2 sb p1 p2 S hr1 hr2 hst hwk hsb hSl
  obtain ⟨Ka, ka, hra, Ya⟩ := through_any h1 sb S w hst _ hr1
  obtain ⟨Kb, kb, hrb, Yb⟩ := through_any h2 sb S w hst _ hr2
  obtain ⟨Ta, ba, rfl, _⟩ := hr1.form
  obtain ⟨Tb, bb, rfl, _⟩ := hr2.form
  obtain ⟨rfl, sa, hba⟩ := var_of hra h3
  obtain ⟨rfl, sb', hbb⟩ := var_of hrb h4
  refine unify1_11 sb p1 p2 Ta ba Tb bb _ ka _ kb w _ hwk Ya Yb (ta_var_var ka) (ta_var_var kb) (fun W hW hb => ?_) fun e w' h => mtEnd_or h
  refine (bindVars_any sb ka kb v u S f W (stnd_heap hst hW) hsb (fun k hk => by rw [hW]; exact hSl k hk) h3 h4 (by rw [hW]; exact hba) (by rw [hW]; exact hbb) sa sb' o (hid ho)).mono ?_
  rintro e w' ⟨rfl, hb', hs'⟩
  exact mtEnd_from hW hb ⟨hb', rfl, hs'⟩

theorem unifyBy_any {f : UInt8 → Option Ty} {a b : Ty} {o : Option (UInt8 → Option Ty)} (h : Uni isVarX ltB f a b o) : UnifyBy f a b o := by
  induction h with
  | @same f a b v h1 h2 h3 => exact unifyBy_vars h1 h2 h3 h3 (by rw [if_pos rfl])
  | @less f a b v u h1 h2 h3 h4 h5 h6 => exact unifyBy_vars h1 h2 h3 h4 (by rw [if_neg h5, if_pos h6])
  | @more f a b v u h1 h2 h3 h4 h5 h6 => exact unifyBy_vars h1 h2 h3 h4 (by rw [if_neg h5, if_neg (by rw [h6]; decide)])
  | @left f a b n v r h1 h2 h3 h4 h5 =>
    intro w v1 v2 sb p1 p2 S hr1 hr2 hst hwk hsb hSl
    obtain ⟨Ka, ka, hra, Ya⟩ := through_any h1 sb S w hst _ hr1
    obtain ⟨Kb, kb, hrb, Yb⟩ := through_any h2 sb S w hst _ hr2
    obtain ⟨Ta, ba, rfl, _⟩ := hr1.form
    obtain ⟨Tb, bb, rfl, _⟩ := hr2.form
    obtain ⟨rfl, sa, hba⟩ := var_of hra h3
    refine unify1_10 sb p1 p2 Ta ba Tb bb _ ka Kb kb w _ hwk Ya Yb (ta_var_var ka) (ta_of hrb h4) (fun W hW hb => ?_) fun e w' h => mtEnd_or h
    exact (bind_any h5 sb ka Kb kb S W (stnd_heap hst hW) hsb (fun k hk => by rw [hW]; exact hSl k hk) h3 (by rw [hW]; exact hba) (repP_heap hrb hW) _ (hid rfl)).mono fun e w' h => mtEnd_from hW hb h
  | @right f a b n u r h1 h2 h3 h4 h5 =>
    intro w v1 v2 sb p1 p2 S hr1 hr2 hst hwk hsb hSl
    obtain ⟨Ka, ka, hra, Ya⟩ := through_any h1 sb S w hst _ hr1
    obtain ⟨Kb, kb, hrb, Yb⟩ := through_any h2 sb S w hst _ hr2
    obtain ⟨Ta, ba, rfl, _⟩ := hr1.form
    obtain ⟨Tb, bb, rfl, _⟩ := hr2.form
    obtain ⟨rfl, sa, hbb⟩ := var_of hrb h3
    refine unify1_01 sb p1 p2 Ta ba Tb bb Ka ka _ kb w _ hwk Ya Yb (ta_of hra h4) (ta_var_var kb) (fun W hW hb => ?_) fun e w' h => mtEnd_or h
    exact (bind_any h5 sb kb Ka ka S W (stnd_heap hst hW) hsb (fun k hk => by rw [hW]; exact hSl k hk) h3 (by rw [hW]; exact hbb) (repP_heap hra hW) _ (hid rfl)).mono fun e w' h => mtEnd_from hW hb h
  | @con f a b c h1 h2 h3 =>
    intro w v1 v2 sb p1 p2 S hr1 hr2 hst hwk hsb hSl
    obtain ⟨Ka, ka, hra, Ya⟩ := through_any h1 sb S w hst _ hr1
    obtain ⟨Kb, kb, hrb, Yb⟩ := through_any h2 sb S w hst _ hr2
    obtain ⟨Ta, ba, rfl, _⟩ := hr1.form
    obtain ⟨Tb, bb, rfl, _⟩ := hr2.form
    have hn : NoVar isVarX (.lf c) := fun d hd => by injection hd with hd; rw [← hd]; exact h3
    refine unify1_00 sb p1 p2 Ta ba Tb bb Ka ka Kb kb w _ hwk Ya Yb (ta_of hra hn) (ta_of hrb hn) (fun W hW hb => ?_) fun e w' h => mtEnd_or h
    refine (walk_con S c _ _ _ W (repP_heap hra hW) (repP_heap hrb hW)).mono ?_
    rintro e w' ⟨rfl, rfl⟩
    exact ⟨But.of_below hb, rfl, stnd_heap hst hW⟩
  | @clash f a b m n h1 h2 h3 h4 h5 =>
    intro w v1 v2 sb p1 p2 S hr1 hr2 hst hwk hsb hSl
    obtain ⟨Ka, ka, hra, Ya⟩ := through_any h1 sb S w hst _ hr1
    obtain ⟨Kb, kb, hrb, Yb⟩ := through_any h2 sb S w hst _ hr2
    obtain ⟨Ta, ba, rfl, _⟩ := hr1.form
    obtain ⟨Tb, bb, rfl, _⟩ := hr2.form
    refine unify1_00 sb p1 p2 Ta ba Tb bb Ka ka Kb kb w _ hwk Ya Yb (ta_of hra h3) (ta_of hrb h4) (fun W hW hb => ?_) fun e w' h => mtEnd_or h
    refine (walk_clash S m n _ _ _ W (repP_heap hra hW) (repP_heap hrb hW) h5).mono ?_
    rintro e w' ⟨rfl, rfl⟩
    exact ⟨But.of_below hb, rfl⟩
  | @un f a b x y c o h1 h2 _ ih =>
    intro w v1 v2 sb p1 p2 S hr1 hr2 hst hwk hsb hSl
    obtain ⟨Ka, ka, hra, Ya⟩ := through_any h1 sb S w hst _ hr1
    obtain ⟨Kb, kb, hrb, Yb⟩ := through_any h2 sb S w hst _ hr2
    obtain ⟨Ta, ba, rfl, _⟩ := hr1.form
    obtain ⟨Tb, bb, rfl, _⟩ := hr2.form
    have hn : ∀ z, NoVar isVarX (.un c z) := fun z d hd => by cases hd
    refine unify1_00 sb p1 p2 Ta ba Tb bb Ka ka Kb kb w _ hwk Ya Yb (ta_of hra (hn x)) (ta_of hrb (hn y)) (fun W hW hb => ?_) fun e w' h => mtEnd_or h
    refine walk_un S c x y _ _ _ _ _ cf_unify1 W (repP_heap hra hW) (repP_heap hrb hW) _ (fun u u' hu hu' => ?_) fun e w' h => mtEnd_or h
    exact (ih W u u' sb p1 p2 S hu hu' (stnd_heap hst hW) (hwk.keep (But.of_below hb)) hsb (fun k hk => by rw [hW]; exact hSl k hk)).mono fun e w' h => mtEnd_from hW hb h
  | @no f a b x x' y y' c h1 h2 _ ih =>
    intro w v1 v2 sb p1 p2 S hr1 hr2 hst hwk hsb hSl
    obtain ⟨Ka, ka, hra, Ya⟩ := through_any h1 sb S w hst _ hr1
    obtain ⟨Kb, kb, hrb, Yb⟩ := through_any h2 sb S w hst _ hr2
    obtain ⟨Ta, ba, rfl, _⟩ := hr1.form
    obtain ⟨Tb, bb, rfl, _⟩ := hr2.form
    have hn : ∀ z z', NoVar isVarX (.bi c z z') := fun z z' d hd => by cases hd
    refine unify1_00 sb p1 p2 Ta ba Tb bb Ka ka Kb kb w _ hwk Ya Yb (ta_of hra (hn x x')) (ta_of hrb (hn y y')) (fun W hW hb => ?_) fun e w' h => mtEnd_or h
    refine walk_bi S c x x' y y' _ _ _ _ _ cf_unify1 W (repP_heap hra hW) (repP_heap hrb hW) _ (fun _ => False) (fun u u' hu hu' => ?_) (fun w1 hq => hq.elim) (fun w1 u u' hq => hq.elim) fun e w' h => mtEnd_or h
    exact (ih W u u' sb p1 p2 S hu hu' (stnd_heap hst hW) (hwk.keep (But.of_below hb)) hsb (fun k hk => by rw [hW]; exact hSl k hk)).mono fun e w' h => .inl ⟨h.2, mtEnd_from hW hb h⟩
  | @bi f g a b x x' y y' c o h1 h2 _ _ iha ihb =>
    intro w v1 v2 sb p1 p2 S hr1 hr2 hst hwk hsb hSl
    obtain ⟨Ka, ka, hra, Ya⟩ := through_any h1 sb S w hst _ hr1
    obtain ⟨Kb, kb, hrb, Yb⟩ := through_any h2 sb S w hst _ hr2
    obtain ⟨Ta, ba, rfl, _⟩ := hr1.form
    obtain ⟨Tb, bb, rfl, _⟩ := hr2.form
    have hn : ∀ z z', NoVar isVarX (.bi c z z') := fun z z' d hd => by cases hd
    refine unify1_00 sb p1 p2 Ta ba Tb bb Ka ka Kb kb w _ hwk Ya Yb (ta_of hra (hn x x')) (ta_of hrb (hn y y')) (fun W hW hb => ?_) fun e w' h => mtEnd_or h
    refine walk_bi S c x x' y y' _ _ _ _ _ cf_unify1 W (repP_heap hra hW) (repP_heap hrb hW) _ (fun w1 => But W.heap.size sb W w1 ∧ Stnd w1 sb S g) (fun u u' hu hu' => ?_) (fun w1 hq k hk => ?_) (fun w1 u u' hq hu hu' => ?_) fun e w' h => mtEnd_or h
    · exact (iha W u u' sb p1 p2 S hu hu' (stnd_heap hst hW) (hwk.keep (But.of_below hb)) hsb (fun k hk => by rw [hW]; exact hSl k hk)).mono fun e w' h => .inr ⟨h.2.1, h.1, h.2.2⟩
    · exact hq.1.block k (by rw [hW]; exact hSl k hk) (by rintro rfl; exact hsb hk)
    · refine (ihb w1 u u' sb p1 p2 S hu hu' hq.2 ((hwk.keep (But.of_below hb)).keep hq.1) hsb (fun k hk => Nat.lt_of_lt_of_le (by rw [hW]; exact hSl k hk) hq.1.size)).mono fun e w' h => mtEnd_from hW hb ⟨hq.1.trans (h.1.mono hq.1.size), h.2⟩

set_option maxHeartbeats 400000 in
set_option maxRecDepth 100000 in
theorem unify2_any (T1 b1 T2 b2 q0 q1 q2 : Nat) (k1 k2 : Value) (w : World) (R : Ending → World → Prop) (c0 : w.cell? ⟨q0, 0, none⟩ = some (.func (.func 32) #[] #[k1, k2])) (c1 : w.cell? ⟨q1, 0, none⟩ = some (.iface T1 (.pointer (some ⟨b1, 0, none⟩)))) (c2 : w.cell? ⟨q2, 0, none⟩ = some (.iface T2 (.pointer (some ⟨b2, 0, none⟩))))
    (HC : Calls Tryz.prog 32 #[.iface T1 (.pointer (some ⟨b1, 0, none⟩)), .iface T2 (.pointer (some ⟨b2, 0, none⟩)), k1, k2] w R) (hR : ∀ e w', R e w' → e = .returned (.tuple #[]) ∨ e = .panicked noBindC) :
    Calls Tryz.prog 38 #[.pointer (some ⟨q0, 0, none⟩), .pointer (some ⟨q1, 0, none⟩), .pointer (some ⟨q2, 0, none⟩)] w R := by
  have cf := cf_unify1
  have HCC := hid HC
  have HR := hid hR
  clear HC hR
  go_enter Tryz.func38, Tryz.ntmps38
  go_wp2_with fail
  refine HCC.out.mono ?_
  intro e w1 hr
  rcases HR.out e w1 hr with rfl | rfl
  · have HRR := hid hr
    clear hr
    go_wp2_with fail
    go_end0
    exact HRR.out
  · have HRR := hid hr
    clear hr
    go_wp2
    exact ⟨rfl, HRR.out⟩

theorem walkingU_start (sb : Nat) (i1 i2 : Value) (w : World) (hs : sb < w.heap.size) (W : World) (hW : (((w.alloc (.cells #[.pointer (some ⟨sb, 0, none⟩)] 51)).alloc (.cells #[i1] 48)).alloc (.cells #[i2] 48)).alloc (.cells #[.func (.func 32) #[] #[.pointer (some ⟨w.heap.size, 0, none⟩), .pointer (some ⟨w.heap.size + 1 + 1 + 1, 0, none⟩)]] 74) = W) :
    Below w.heap.size w W ∧ W.heap.size = w.heap.size + 4 ∧ WalkingU W w.heap.size (w.heap.size + 1 + 1 + 1) sb ∧ W.cell? ⟨w.heap.size + 1, 0, none⟩ = some i1 ∧ W.cell? ⟨w.heap.size + 1 + 1, 0, none⟩ = some i2 := by
  subst hW
  have hb : Below w.heap.size w ((((w.alloc (.cells #[.pointer (some ⟨sb, 0, none⟩)] 51)).alloc (.cells #[i1] 48)).alloc (.cells #[i2] 48)).alloc (.cells #[.func (.func 32) #[] #[.pointer (some ⟨w.heap.size, 0, none⟩), .pointer (some ⟨w.heap.size + 1 + 1 + 1, 0, none⟩)]] 74)) :=
    ((((Below.refl _ _).alloc (Nat.le_refl _) _).alloc (by simp only [World.size_alloc]; omega) _).alloc (by simp only [World.size_alloc]; omega) _).alloc (by simp only [World.size_alloc]; omega) _
  have q3 := cell_new1 (((w.alloc (.cells #[.pointer (some ⟨sb, 0, none⟩)] 51)).alloc (.cells #[i1] 48)).alloc (.cells #[i2] 48)) (.func (.func 32) #[] #[.pointer (some ⟨w.heap.size, 0, none⟩), .pointer (some ⟨w.heap.size + 1 + 1 + 1, 0, none⟩)]) 74
  have q2 := cell_new1 ((w.alloc (.cells #[.pointer (some ⟨sb, 0, none⟩)] 51)).alloc (.cells #[i1] 48)) i2 48
  have q1 := cell_new1 (w.alloc (.cells #[.pointer (some ⟨sb, 0, none⟩)] 51)) i1 48
  have q0 := cell_new1 w (.pointer (some ⟨sb, 0, none⟩)) 51
  simp only [World.size_alloc] at q1 q2 q3
  refine ⟨hb, by simp only [World.size_alloc], ⟨?_, q3, ?_, ?_, by omega, by omega⟩, ?_, ?_⟩
  · rw [World.cell?_alloc_lt _ _ _ (by simp only [World.size_alloc]; omega), World.cell?_alloc_lt _ _ _ (by simp only [World.size_alloc]; omega), World.cell?_alloc_lt _ _ _ (by simp only [World.size_alloc]; omega)]
    exact q0
  · simp only [World.size_alloc]; omega
  · simp only [World.size_alloc]; omega
  · rw [World.cell?_alloc_lt _ _ _ (by simp only [World.size_alloc]; omega), World.cell?_alloc_lt _ _ _ (by simp only [World.size_alloc]; omega)]
    exact q1
  · rw [World.cell?_alloc_lt _ _ _ (by simp only [World.size_alloc]; omega)]
    exact q2

set_option maxHeartbeats 400000 in
set_option maxRecDepth 100000 in
theorem unify_any (sb T1 b1 T2 b2 : Nat) (w : World) (S : Nat → Prop) (P t : Ty) (hr1 : RepP w S P (.iface T1 (.pointer (some ⟨b1, 0, none⟩)))) (hr2 : RepP w S t (.iface T2 (.pointer (some ⟨b2, 0, none⟩)))) (hst : Stnd w sb S (fun _ => none)) (hsb : ¬ S sb) (hSl : ∀ k, S k → k < w.heap.size)
    (o : Option (UInt8 → Option Ty)) (ho : Uni isVarX ltB (fun _ => none) P t o) :
    Calls Tryz.prog 19 #[.pointer (some ⟨sb, 0, none⟩), .iface T1 (.pointer (some ⟨b1, 0, none⟩)), .iface T2 (.pointer (some ⟨b2, 0, none⟩))] w (MtOk w sb S o) := by
  have hmf : ∀ (fn : Fn) (first cap : Array Value) (w : World), (Instr.makeFunc fn first cap).run Tryz.prog w = .ok (.func fn first cap) w := fun _ _ _ _ => rfl
  have hsf : ∀ (p : Addr) (m : Mode) (w : World) (fn : Fn) (x y : Array Value), (store p (.func fn x y) m).run Tryz.prog w = stored Tryz.prog w p (.func fn x y) m := fun p m w fn x y => run_store _ w p _ m rfl
  have HO := hid ho
  have HR1 := hid hr1
  have HR2 := hid hr2
  have HST := hid hst
  have HSL := hid hSl
  have hs : sb < w.heap.size := by obtain ⟨cur, h1, _⟩ := hst; exact (Array.getElem?_eq_some_iff.1 h1).1
  clear hr1 hr2 hst hSl ho
  go_enter Tryz.func19, Tryz.ntmps19
  go_wp2_with fail
  obtain ⟨W, hW⟩ : ∃ W, (((w.alloc (.cells #[.pointer (some ⟨sb, 0, none⟩)] 51)).alloc (.cells #[.iface T1 (.pointer (some ⟨b1, 0, none⟩))] 48)).alloc (.cells #[.iface T2 (.pointer (some ⟨b2, 0, none⟩))] 48)).alloc (.cells #[.func (.func 32) #[] #[.pointer (some ⟨w.heap.size, 0, none⟩), .pointer (some ⟨w.heap.size + 1 + 1 + 1, 0, none⟩)]] 74) = W := ⟨_, rfl⟩
  obtain ⟨hbW, hzW, hwk, c1, c2⟩ := walkingU_start sb _ _ w hs W hW
  rw [hW]
  clear hW
  have hbA : Below W.heap.size W (W.alloc (.cells #[.bool false] 4)) := (Below.refl _ _).alloc (Nat.le_refl _) _
  have zA : (W.alloc (.cells #[.bool false] 4)).heap.size = W.heap.size + 1 := by simp only [World.size_alloc]
  have nA := heap_new1 W (.cells #[.bool false] 4)
  obtain ⟨W5, hW5⟩ : ∃ W5, W.alloc (.cells #[.bool false] 4) = W5 := ⟨_, rfl⟩
  rw [hW5] at hbA zA nA
  have hb5 : Below w.heap.size w W5 := hbW.trans (hbA.mono hbW.size)
  have hwk5 : WalkingU W5 _ _ sb := hwk.keep (But.of_below hbA)
  have c15 := cell_below c1 (by omega) hbA
  have c25 := cell_below c2 (by omega) hbA
  have hst5 : Stnd W5 sb S (fun _ => none) := HST.out.keep (hb5.block sb hs) fun k hk => ⟨hk, hb5.block k (HSL.out k hk)⟩
  have hk := unifyBy_any HO.out W5 _ _ sb _ _ S (HR1.out.keep fun k hk => ⟨hk, hb5.block k (HSL.out k hk)⟩) (HR2.out.keep fun k hk => ⟨hk, hb5.block k (HSL.out k hk)⟩) hst5 hwk5 hsb (fun k hk => Nat.lt_of_lt_of_le (HSL.out k hk) hb5.size)
  have HE := endsWell_any 38 (.pointer (some ⟨w.heap.size + 1 + 1 + 1, 0, none⟩)) (.pointer (some ⟨w.heap.size + 1, 0, none⟩)) (.pointer (some ⟨w.heap.size + 1 + 1, 0, none⟩)) cf_unify2 W (MtEnd W5 sb S o)
    (by rw [hW5]; exact unify2_any T1 b1 T2 b2 _ _ _ _ _ W5 _ hwk5.c2 c15 c25 hk fun e w' h => mtEnd_or h) (fun e w1 h => ⟨mtEnd_or h, (h.1.block W.heap.size (by omega) (by omega)).trans nA⟩)
  have HEE := hid HE
  have HZW := hid hzW
  clear HE hk hwk hwk5 c1 c2 c15 c25 hW5 nA hzW zA
  go_wp2_with fail
  refine HEE.out.mono ?_
  rintro e w' ⟨w1, r, rfl, rfl, hr⟩
  have HRR := hid hr
  clear hr
  go_wp2_with fail
  go_ret
  have hzW := HZW.out
  have hbut : But w.heap.size sb w (w1.setCell ⟨W.heap.size, 0, none⟩ (.bool r)) := ((But.of_below hb5).trans (HRR.out.1.mono hb5.size)).trans (But.of_below ((Below.refl _ _).setCell (by show w.heap.size ≤ W.heap.size; omega) _))
  refine ⟨hbut, ?_⟩
  have h2 := HRR.out.2
  cases o with
  | none =>
    cases r with
    | true => cases h2
    | false => rfl
  | some g =>
    cases r with
    | true =>
      refine ⟨rfl, h2.2.keep (Below.heap_setCell _ _ _ _ (by show sb ≠ W.heap.size; omega)) fun k hk => ⟨hk, Below.heap_setCell _ _ _ _ (by have := HSL.out k hk; show k ≠ W.heap.size; omega)⟩⟩
    | false => cases h2.1

end Go.Proofs.YtjpdiahbnhemoaaGreat

namespace Go.Proofs.YtjpdiahbnhemoaaGreat
open Go.RowKit

theorem other_ix (c : UInt8) (h : isVarB c = true) : Lib.indexByte [88, 89, 90, 120, 121, 122] c = ((Lib.indexByte [88, 89, 90, 120, 121, 122] c).toNat : Int) ∧ (Lib.indexByte [88, 89, 90, 120, 121, 122] c).toNat < 6 ∧ ([82, 83, 84, 114, 115, 116] : List UInt8).getD (Lib.indexByte [88, 89, 90, 120, 121, 122] c).toNat 0 = otherX c := by
  revert h
  refine u8_all (p := fun c => isVarB c = true → Lib.indexByte [88, 89, 90, 120, 121, 122] c = ((Lib.indexByte [88, 89, 90, 120, 121, 122] c).toNat : Int) ∧ (Lib.indexByte [88, 89, 90, 120, 121, 122] c).toNat < 6 ∧ ([82, 83, 84, 114, 115, 116] : List UInt8).getD (Lib.indexByte [88, 89, 90, 120, 121, 122] c).toNat 0 = otherX c) ?_ c
  decide +kernel
set_option maxRecDepth 100000 in
theorem indexO : ∀ k : Nat, k < 6 → ∀ W : World, (Instr.index 9 (.string ⟨#[82, 83, 84, 114, 115, 116]⟩) (.int .i64 k)).run Tryz.prog W = .ok (.int .u8 (([82, 83, 84, 114, 115, 116] : List UInt8).getD k 0).toNat) W := by
  intro k hk
  match k, hk with
  | 0, _ => exact fun W => by kernel_rfl
  | 1, _ => exact fun W => by kernel_rfl
  | 2, _ => exact fun W => by kernel_rfl
  | 3, _ => exact fun W => by kernel_rfl
  | 4, _ => exact fun W => by kernel_rfl
  | 5, _ => exact fun W => by kernel_rfl

/-- Blocks in which no other variable lies than those of types. -/
def OnlyB (w : World) (S : Nat → Prop) (k : Nat) : Prop := S k ∧ ∀ c, isVarX c = true → w.heap[k]? = some (.cells #[.int .u8 c.toNat] 88 (0, 0)) → isVarB c = true
theorem repP_only {w : World} {S : Nat → Prop} {t : Ty} (ho : t.ok) : ∀ {v : Value}, RepP w S t v → RepP w (OnlyB w S) t v := by
  have row : ∀ (g : Nat) (x : Value) (T b : Nat), x = .iface T (.pointer (some ⟨b, 0, none⟩)) → w.cell? ⟨g, 0, none⟩ = some x → ∀ c, isVarX c = true → w.heap[g]? = some (.cells #[.int .u8 c.toNat] 88 (0, 0)) → isVarB c = true := by
    intro g x T b hx hg c _ hb
    rw [cell_blk hb (j := 0) rfl] at hg
    rw [hx] at hg
    cases hg
  induction t with
  | lf c =>
    rintro v ⟨b, hS, ⟨hc, rfl, hb⟩ | ⟨hc, rfl, hb⟩⟩
    · refine ⟨b, ⟨hS, fun d _ hd => ?_⟩, .inl ⟨hc, rfl, hb⟩⟩
      rw [hb] at hd
      simp only [Option.some.injEq, Obj.cells.injEq, Array.mk.injEq, List.cons.injEq, Value.int.injEq, true_and, and_true] at hd
      have : c = d := UInt8.toNat_inj.1 (by omega)
      rw [← this, ← isVarX_ok (show ar c = 0 from ho)]
      exact hc
    · refine ⟨b, ⟨hS, fun d _ hd => ?_⟩, .inr ⟨hc, rfl, hb⟩⟩
      rw [hb] at hd
      simp at hd
  | un c a ih =>
    rintro v ⟨b, g, cap, x, hS, hg, rfl, hb, hx, hr⟩
    obtain ⟨T, b', hxe, _⟩ := hr.form
    refine ⟨b, g, cap, x, ⟨hS, fun d _ hd => ?_⟩, ⟨hg, row g x T b' hxe hx⟩, rfl, hb, hx, ih ho.2 hr⟩
    rw [hb] at hd
    simp at hd
  | bi c a a' iha ihb =>
    rintro v ⟨b, g, cap, x, x', hS, hg, rfl, hb, hx, hx', hr, hr'⟩
    obtain ⟨T, b', hxe, _⟩ := hr.form
    refine ⟨b, g, cap, x, x', ⟨hS, fun d _ hd => ?_⟩, ⟨hg, row g x T b' hxe hx⟩, rfl, hb, hx, hx', iha ho.2.1 hr, ihb ho.2.2 hr'⟩
    rw [hb] at hd
    simp at hd
theorem varX_shape (c : UInt8) : isVarX c = true → ar c ≠ 1 ∧ ar c ≠ 2 := by
  refine u8_all (p := fun c => isVarX c = true → ar c ≠ 1 ∧ ar c ≠ 2) ?_ c
  decide +kernel

end Go.Proofs.YtjpdiahbnhemoaaGreat
