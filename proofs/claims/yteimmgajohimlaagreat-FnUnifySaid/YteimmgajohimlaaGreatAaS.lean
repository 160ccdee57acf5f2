/- Types made whole: what every variable in them stands for put in. l2Solve of the model. AreApart of the model. -/
import Derived.Test.YteimmgajohimlaaGreatNwT
namespace Go.Proofs.YteimmgajohimlaaGreat
open Go.RowKit

/-- A type with what its variables stand for put in, again and again. -/
inductive Ful (V : UInt8 → Bool) (f : UInt8 → Option Ty) : Ty → Ty → Prop
  | lf {a : Ty} {c : UInt8} : Thr V f a (.lf c) → Ful V f a (.lf c)
  | un {a x x' : Ty} {c : UInt8} : Thr V f a (.un c x) → Ful V f x x' → Ful V f a (.un c x')
  | bi {a x y x' y' : Ty} {c : UInt8} : Thr V f a (.bi c x y) → Ful V f x x' → Ful V f y y' → Ful V f a (.bi c x' y')
theorem ful_total {V : UInt8 → Bool} {f : UInt8 → Option Ty} {σ : UInt8 → Ty} {ρ : UInt8 → Nat} {M : Nat} (h : Inv V f σ ρ M) : ∀ (k : Nat) (a : Ty), (a.subV V σ).wt < k → a.shp → Ful V f a (a.subV V σ) := by
  intro k
  induction k with
  | zero => intro a ha; omega
  | succ k ih =>
    intro a hk ha
    obtain ⟨b, hb, hs, he, hfree⟩ := thr_total h a ha
    rw [← he]
    cases b with
    | lf c =>
      have hc : (Ty.lf c).subV V σ = .lf c := by
        unfold Ty.subV
        split
        · rename_i hv
          exact h.free c hv (hfree c rfl hv)
        · rfl
      rw [hc]
      exact .lf hb
    | un c x =>
      have hw : (x.subV V σ).wt < k := by
        rw [← he] at hk
        simp only [Ty.subV, Ty.wt] at hk
        omega
      exact .un hb (ih x hw hs.2)
    | bi c x y =>
      have hw : (x.subV V σ).wt < k ∧ (y.subV V σ).wt < k := by
        rw [← he] at hk
        simp only [Ty.subV, Ty.wt] at hk
        omega
      exact .bi hb (ih x hw.1 hs.2.1) (ih y hw.2 hs.2.2)
theorem ful_inner {V : UInt8 → Bool} {f : UInt8 → Option Ty} (hf : InF f) {a u : Ty} (h : Ful V f a u) : a.inner → u.inner := by
  induction h with
  | lf h => exact fun ha => thr_inner hf h ha
  | un h _ ih => exact fun ha => ⟨(thr_inner hf h ha).1, (thr_inner hf h ha).2.1, ih (thr_inner hf h ha).2.2⟩
  | bi h _ _ iha ihb => exact fun ha => ⟨(thr_inner hf h ha).1, (thr_inner hf h ha).2.1, iha (thr_inner hf h ha).2.2.1, ihb (thr_inner hf h ha).2.2.2⟩

theorem fullN_any {f : UInt8 → Option Ty} (hf : InF f) {a u : Ty} (h : Ful isN f a u) : FullAt f a u := by
  induction h with
  | @lf a c0 h =>
    intro mb S c A m cap w hst hr hS ha
    obtain ⟨nn, c', p', hw, hr'⟩ := wk_of hf h mb S w hst ha c _ hr
    obtain rfl : c' = c0 := repN_head hr'
    obtain ⟨_, A', cap', rfl⟩ := hr'
    exact fullRow mb nn c c' A m cap [] [] 0 cap' A' w hw hst.lt rfl rfl (by omega) f S hst (fun i a u h => by simp at h) (fun j a h => by simp at h) hS
  | @un a x x' c0 h _ ih =>
    intro mb S c A m cap w hst hr hS ha
    have hin := thr_inner hf h ha
    obtain ⟨nn, c', p', hw, hr'⟩ := wk_of hf h mb S w hst ha c _ hr
    obtain rfl : c' = c0 := repN_head hr'
    obtain ⟨_, A', cap', rfl, ka⟩ := un_kids hr'
    refine fullRow mb nn c c' A m cap [x] [x'] 1 cap' A' w hw hst.lt rfl rfl (by omega) f S hst (fun i b u h1 h2 => ?_) ka hS
    match i with
    | 0 =>
      simp only [List.getElem?_cons_zero, Option.some.injEq] at h1 h2
      subst h1
      subst h2
      exact ⟨ih, hin.2.2⟩
    | i + 1 => simp at h1
  | @bi a x y x' y' c0 h _ _ iha ihb =>
    intro mb S c A m cap w hst hr hS ha
    have hin := thr_inner hf h ha
    obtain ⟨nn, c', p', hw, hr'⟩ := wk_of hf h mb S w hst ha c _ hr
    obtain rfl : c' = c0 := repN_head hr'
    obtain ⟨_, A', cap', rfl, ka⟩ := bi_kids hr'
    refine fullRow mb nn c c' A m cap [x, y] [x', y'] 2 cap' A' w hw hst.lt rfl rfl (by omega) f S hst (fun i b u h1 h2 => ?_) ka hS
    match i with
    | 0 =>
      simp only [List.getElem?_cons_zero, Option.some.injEq] at h1 h2
      subst h1
      subst h2
      exact ⟨iha, hin.2.2.1⟩
    | 1 =>
      simp only [List.getElem?_cons_succ, List.getElem?_cons_zero, Option.some.injEq] at h1 h2
      subst h1
      subst h2
      exact ⟨ihb, hin.2.2.2⟩
    | i + 2 => simp at h1

end Go.Proofs.YteimmgajohimlaaGreat

namespace Go.Proofs.YteimmgajohimlaaGreat
open Go.RowKit

/-- What the first k variables come to. -/
def hUp (h : UInt8 → Option Ty) (k : Nat) (c : UInt8) : Option Ty := if 0 ≤ l2ix c ∧ l2ix c < (k : Int) then h c else none
theorem hUp_step {h : UInt8 → Option Ty} {k : Nat} {c : UInt8} {u : Ty} (hc : l2ix c = (k : Int)) (hu : h c = some u) : hUp h (k + 1) = fun e => if e = c then some u else hUp h k e := by
  funext e
  unfold hUp
  by_cases he : e = c
  · subst he
    rw [if_pos rfl, if_pos (by omega), hu]
  · rw [if_neg he]
    have hne : l2ix e ≠ (k : Int) := fun h => he (l2ix_inj h hc)
    by_cases h1 : 0 ≤ l2ix e ∧ l2ix e < (k : Int)
    · rw [if_pos h1, if_pos (by omega)]
    · rw [if_neg h1, if_neg (by omega)]
theorem hUp_skip {h : UInt8 → Option Ty} {k : Nat} {c : UInt8} (hc : l2ix c = (k : Int)) (hu : h c = none) : hUp h (k + 1) = hUp h k := by
  funext e
  unfold hUp
  by_cases he : e = c
  · subst he
    rw [hu]
    split <;> split <;> rfl
  · have hne : l2ix e ≠ (k : Int) := fun h => he (l2ix_inj h hc)
    by_cases h1 : 0 ≤ l2ix e ∧ l2ix e < (k : Int)
    · rw [if_pos h1, if_pos (by omega)]
    · rw [if_neg h1, if_neg (by omega)]
theorem hUp_all {h : UInt8 → Option Ty} (hn : ∀ c u, h c = some u → isN c = true) : hUp h 12 = h := by
  funext e
  unfold hUp
  by_cases h1 : 0 ≤ l2ix e ∧ l2ix e < ((12 : Nat) : Int)
  · rw [if_pos h1]
  · rw [if_neg h1]
    rcases hh : h e with _ | u
    · rfl
    · obtain ⟨k, hk, hk2⟩ := isN_pos (hn e u hh)
      omega
theorem hUp_zero (h : UInt8 → Option Ty) : hUp h 0 = fun _ => none := by
  funext e
  unfold hUp
  rw [if_neg (by omega)]

/-- How l2Solve ends. -/
def SolveEnd (w : World) (o : Option (UInt8 → Option Ty)) (h : UInt8 → Option Ty) (e : Ending) (w' : World) : Prop :=
  Below w.heap.size w w' ∧ match o with
    | none => ∃ p, e = .returned (.tuple #[.pointer (some ⟨p, 0, none⟩), .bool false])
    | some _ => ∃ ob, e = .returned (.tuple #[.pointer (some ⟨ob, 0, none⟩), .bool true]) ∧ StndN w' ob (fun j => w.heap.size ≤ j ∧ j < w'.heap.size ∧ j ≠ ob) h

set_option maxHeartbeats 2000000 in
set_option maxRecDepth 100000 in
theorem l2Solve_any (P T : Ty) (hP : P.inner) (hT : T.inner) (S : Nat → Prop) (c : UInt8) (A : Option Addr) (m cap : Nat) (d : UInt8) (B : Option Addr) (m' cap' : Nat) (w : World) (hr1 : RepN w S P (.int .u8 c.toNat) (.slice A m cap)) (hr2 : RepN w S T (.int .u8 d.toNat) (.slice B m' cap')) (hS : ∀ g, S g → g < w.heap.size)
    (o : Option (UInt8 → Option Ty)) (ho : Uni isN ltN (fun _ => none) P T o) (h : UInt8 → Option Ty) (hg : ∀ g, o = some g → InF g ∧ (∀ c, g c = none → h c = none) ∧ (∀ c t, g c = some t → isN c = true ∧ ∃ u, h c = some u ∧ Ful isN g t u)) :
    Calls Tryz.prog 45 #[.agg #[.int .u8 c.toNat, .slice A m cap], .agg #[.int .u8 d.toNat, .slice B m' cap']] w (SolveEnd w o h) := by
  have HR1 := hid hr1
  have HR2 := hid hr2
  have HS := hid hS
  have HU := hid ho
  have HG := hid hg
  clear hr1 hr2 hS ho hg
  go_enter Tryz.func45, Tryz.ntmps45
  go_wp2_with fail
  obtain ⟨W0, hW0⟩ : ∃ W0, (w.alloc (.cells #[.int .u8 c.toNat, .slice A m cap] 61)).alloc (.cells #[.int .u8 d.toNat, .slice B m' cap'] 61) = W0 := ⟨_, rfl⟩
  have hb0 : Below w.heap.size w W0 := by rw [← hW0]; exact ((Below.refl _ _).alloc (Nat.le_refl _) _).alloc (by simp only [World.size_alloc]; omega) _
  have z0 : w.heap.size + 1 + 1 = W0.heap.size := by rw [← hW0]; simp only [World.size_alloc]
  have hst0 := StndN.new W0 S
  obtain ⟨W1, hW1⟩ : ∃ W1, W0.alloc (.cells emptyN 66) = W1 := ⟨_, rfl⟩
  have hb1 : Below W0.heap.size W0 W1 := by rw [← hW1]; exact (Below.refl _ _).alloc (Nat.le_refl _) _
  have z1 : W1.heap.size = W0.heap.size + 1 := by rw [← hW1]; simp only [World.size_alloc]
  rw [hW1] at hst0
  have hb01 : Below w.heap.size w W1 := hb0.trans (hb1.mono (by omega))
  have hk := unifyN_any HU.out (fun c t h => by cases h) hP hT W0.heap.size S c A m cap d B m' cap' W1 hst0 (HR1.out.keep fun g hg => ⟨hg, hb01.block g (HS.out g hg)⟩) (HR2.out.keep fun g hg => ⟨hg, hb01.block g (HS.out g hg)⟩) (fun h => by have := HS.out _ h; omega) (fun g hg => by have := HS.out g hg; omega)
  have HK := hid hk
  have HW0 := hid hW0
  have HW1 := hid hW1
  have Z0 := hid z0
  clear hk hst0 hW0 hW1 z0
  rw [HW0.out, Z0.out]
  show Calls Tryz.prog _ _ (W0.alloc (.cells emptyN 66)) _
  rw [HW1.out]
  refine HK.out.mono ?_
  rintro e w4 ⟨hb4, hr⟩
  have hz0 := Z0.out
  have hbw4 : Below w.heap.size w w4 := hb01.trans (hb4.below' (by omega) (by omega))
  have HB4 := hid hbw4
  cases o with
  | none =>
    obtain rfl : e = .returned (.bool false) := hr
    clear HK hz0
    go_wp2_with fail
    exact bodyPost_ret (v := .tuple #[.pointer (some ⟨W0.heap.size, 0, none⟩), .bool false]) (by simp [results, Tryz.results45, go_sem]) rfl ⟨HB4.out, _, rfl⟩
  | some g =>
    obtain ⟨rfl, hst⟩ : e = .returned (.bool true) ∧ StndN w4 W0.heap.size S g := hr
    obtain ⟨hIn, hNo, hYes⟩ := HG.out g rfl
    have HST := hid hst
    have HNO := hid hNo
    have HYES := hid hYes
    have HIN := hid hIn
    have z4 : W1.heap.size ≤ w4.heap.size := hb4.size
    have hS4 : ∀ j, S j → j < w4.heap.size := fun j hj => by have := HS.out j hj; omega
    have HS4 := hid hS4
    have hm4 : W0.heap.size < w4.heap.size := by omega
    have hwz : w.heap.size ≤ w4.heap.size := by omega
    have HSO := hid (StndN.new w4 (fun j => w4.heap.size < j ∧ j < (w4.alloc (.cells emptyN 66)).heap.size))
    clear hst hIn hNo hYes HK hz0 z1 z4 hS4 hb4 hb0 hb1 hb01
    go_wp2_with fail
    go_loopw [19] (fun v wr => ∃ k : Nat, k ≤ 12 ∧ v = .int .i64 k ∧ StndN wr w4.heap.size (fun j => w4.heap.size < j ∧ j < wr.heap.size) (hUp h k) ∧ Below w4.heap.size w4 wr) (fun v _ => 12 - (intOf v).toNat)
    case atStart =>
      refine ⟨0, Nat.zero_le _, rfl, ?_, (Below.refl _ _).alloc (Nat.le_refl _) _⟩
      rw [hUp_zero]
      exact HSO.out
    case round =>
      obtain ⟨k, hk, rfl, hso, hbel⟩ := hrel
      have HSOR := hid hso
      have zr := hbel.size
      have zo := hso.lt
      clear hso
      by_cases hlt : k < 12
      · have i1 : (0 : Int) ≤ (k : Int) := by omega
        have i2 : (k : Int) < 12 := by omega
        obtain ⟨hix, hasc⟩ := letN_ix k hlt
        obtain ⟨x, hx⟩ : ∃ x, letN k = x := ⟨_, rfl⟩
        rw [hx] at hix
        have HIX := hid hix
        have hstr : StndN wr W0.heap.size S g := HST.out.keep (hbel.block _ hm4) fun j hj => ⟨hj, hbel.block j (HS4.out j hj)⟩
        have HSTR := hid hstr
        obtain ⟨cur, h1, h2, h3⟩ := hstr
        have h4 := h3 x k hix
        rcases hgx : g x with _ | t
        · rw [hgx] at h4
          have c0 := cell_blk h1 h4.1
          have HE := hid (hUp_skip hix (HNO.out x hgx))
          clear h1 h2 h3 h4 hx hix hgx
          go_wp2_with fail
          go_roundw
          case rel => exact ⟨k + 1, hlt, by go_num, by rw [HE.out]; exact HSOR.out, hbel⟩
          case measure => simp [intOf]; omega
        · rw [hgx] at h4
          obtain ⟨e, A2, m2, cap2, he0, g0, g1, hrep⟩ := h4
          have c0 := cell_blk h1 g0
          have c1 := cell_blk h1 g1
          have hen : ((e.toNat : Int) != 0) = true := by
            simp only [bne_iff_ne, ne_eq]
            exact fun q => he0 (UInt8.toNat_inj.1 (by rw [show (0 : UInt8).toNat = 0 from rfl]; omega))
          obtain ⟨_, u, hu, hful⟩ := HYES.out x t hgx
          have HE := hid (hUp_step hix hu)
          have hui := ful_inner HIN.out hful (HIN.out x t hgx)
          have HUI := hid hui
          have HF := hid (fun (W : World) (hW : Below wr.heap.size wr W) => fullN_any HIN.out hful W0.heap.size S e A2 m2 cap2 W (HSTR.out.keep (hW.block _ (by omega)) fun j hj => ⟨hj, hW.block j (by have := HS4.out j hj; omega)⟩) (hrep.keep fun j hj => ⟨hj, hW.block j (by have := HS4.out j hj; omega)⟩) (fun j hj => by have := HS4.out j hj; have := hW.size; omega) (HIN.out x t hgx))
          have HC := hid (fun (W : World) (hW : Below wr.heap.size wr W) => StndN.cells (HSOR.out.keep (S' := fun j => w4.heap.size < j ∧ j < wr.heap.size) (hW.block _ zo) fun j hj => ⟨hj, hW.block j hj.2⟩) k hlt)
          obtain ⟨⟨u0, v0⟩, ⟨u1, v1⟩, ff⟩ := HC.out wr (Below.refl _ _)
          clear h1 h2 h3 g0 g1 hx hix hgx hu hful hui hrep he0
          go_wp2_with fail
          go_region_with (go_at_call 78; refine (HF.out _ (Below.refl _ _).drew).mono ?_; rintro e5 w5 ⟨c5, A5, m5, cap5, rfl, hr5, hb5⟩; have hb5' : Below wr.heap.size wr w5 := bel_undrewN hb5; have HR5 := hid hr5; clear hr5 hb5; obtain ⟨⟨y0, q0⟩, ⟨y1, q1⟩, ff5⟩ := HC.out w5 hb5')
          all_goals
            go_wp2_with fail
            go_roundw
            case rel =>
              have z5 := hb5'.size
              have hso5 := HSOR.out.keep (S' := fun j => w4.heap.size < j ∧ j < w5.heap.size) (hb5'.block _ zo) fun j hj => ⟨⟨hj.1, by omega⟩, hb5'.block j hj.2⟩
              have hr5 := HR5.out.keep (S' := fun j => w4.heap.size < j ∧ j < w5.heap.size) (w' := w5) fun j hj => ⟨⟨by have h1 : wr.heap.size ≤ j := hj.1; omega, hj.2⟩, rfl⟩
              have hset := hso5.set (fun h => absurd h.1 (Nat.lt_irrefl _)) HIX.out (text_ne0 HUI.out hr5) hr5
              refine ⟨k + 1, hlt, by go_num, ?_, ((hbel.trans (hb5'.mono zr)).setCell (Nat.le_refl _) _).setCell (Nat.le_refl _) _⟩
              rw [HE.out]
              exact hset.keep rfl fun j hj => ⟨⟨hj.1, by simp [World.setCell]; exact hj.2⟩, rfl⟩
            case measure => simp [intOf]; omega
      · have HKN := hid (show k = 12 by omega)
        go_wp2_with fail
        refine bodyPost_ret (v := .tuple #[.pointer (some ⟨w4.heap.size, 0, none⟩), .bool true]) (by simp [results, Tryz.results45, go_sem]) rfl ⟨HB4.out.trans (hbel.mono hwz), _, rfl, ?_⟩
        have hs := HSOR.out
        rw [HKN.out, hUp_all (fun c u hc => by
          rcases hgc : g c with _ | t
          · rw [HNO.out c hgc] at hc
            cases hc
          · exact (HYES.out c t hgc).1)] at hs
        exact hs.keep rfl fun j hj => ⟨⟨by omega, hj.2, by omega⟩, rfl⟩

end Go.Proofs.YteimmgajohimlaaGreat

namespace Go.Proofs.YteimmgajohimlaaGreat
open Go.RowKit

def backN (c : UInt8) : UInt8 := letN ((l2ix c).toNat - 6)
theorem otherN_var (c : UInt8) (h : isVarB c = true) : isN (otherN c) = true ∧ isVarB (otherN c) = false ∧ backN (otherN c) = c := by
  revert h
  refine u8_all (p := fun c => isVarB c = true → isN (otherN c) = true ∧ isVarB (otherN c) = false ∧ backN (otherN c) = c) ?_ c
  decide +kernel
theorem isN_B (c : UInt8) : (ar c = 0 → isN c = isVarB c) ∧ (isN c = true → ar c ≠ 1 ∧ ar c ≠ 2) ∧ (isN c = true → c ≠ 0) := by
  refine u8_all (p := fun c => (ar c = 0 → isN c = isVarB c) ∧ (isN c = true → ar c ≠ 1 ∧ ar c ≠ 2) ∧ (isN c = true → c ≠ 0)) ?_ c
  decide +kernel
theorem others_inner {t : Ty} (h : t.ok) : (t.subV isN fun c => .lf (otherN c)).inner := by
  induction t with
  | lf c =>
    unfold Ty.subV
    split
    · rename_i hn
      rw [(isN_B c).1 h] at hn
      exact (isN_B _).2.2 (otherN_var c hn).1
    · exact ok_inner (t := .lf c) h
  | un c a ih => exact ⟨((ar_inner c).2.1 h.1).1, ((ar_inner c).2.1 h.1).2, ih h.2⟩
  | bi c a b iha ihb => exact ⟨((ar_inner c).2.2 h.1).1, ((ar_inner c).2.2 h.1).2, iha h.2.1, ihb h.2.2⟩
/-- What a unification leaves for l2Solve. -/
theorem solve_of {P T : Ty} (hP : P.inner) (hT : T.inner) {o : Option (UInt8 → Option Ty)} (ho : Uni isN ltN (fun _ => none) P T o) (hI : ∀ g, o = some g → ∃ σ ρ M, Inv isN g σ ρ M) : ∃ h : UInt8 → Option Ty, (∀ g, o = some g → InF g ∧ (∀ c, g c = none → h c = none) ∧ (∀ c t, g c = some t → isN c = true ∧ ∃ u, h c = some u ∧ Ful isN g t u)) ∧ ∀ g, o = some g → ∃ σ ρ M, Inv isN g σ ρ M ∧ ∀ c, h c = (g c).map fun t => t.subV isN σ := by
  cases o with
  | none => exact ⟨fun _ => none, (fun g hg => by cases hg), fun g hg => by cases hg⟩
  | some g =>
    obtain ⟨σ, ρ, M, hInv⟩ := hI g rfl
    refine ⟨fun c => (g c).map fun t => t.subV isN σ, fun g' hg => ?_, fun g' hg => ?_⟩
    · injection hg with hg
      subst hg
      refine ⟨uni_inner ho (fun c t h => by cases h) hP hT g rfl, fun c hc => by simp only [hc]; rfl, fun c t hc => ?_⟩
      obtain ⟨h1, h2, _⟩ := hInv.bound c t hc
      exact ⟨h1, t.subV isN σ, by simp only [hc]; rfl, ful_total hInv _ t (Nat.lt_succ_self _) h2⟩
    · injection hg with hg
      subst hg
      exact ⟨σ, ρ, M, hInv, fun c => rfl⟩

set_option maxHeartbeats 2000000 in
set_option maxRecDepth 100000 in
theorem areApartS_any (a b : ByteArray) (w : World) (ha : a.size ≤ maxLen) (hb : b.size ≤ maxLen) : Calls Tryz.prog 24 #[.string a, .string b] w fun e w' => (∃ r : Bool, e = .returned (.bool r) ∧ (r = true ↔ Apart a.data.toList b.data.toList)) ∧ Below w.heap.size w w' := by
  go_enter Tryz.func24, Tryz.ntmps24
  go_wp2_with fail
  refine (l1Read_any a _ ha).mono ?_
  rintro e w1 ⟨hb1, ⟨hn1, rfl⟩ | ⟨P, c0, A0, m0, cap0, hP, rfl, hr1⟩⟩
  · have HM := hid (show ¬ Apart a.data.toList b.data.toList by rintro ⟨P, T, h1, _⟩; rw [hn1] at h1; cases h1)
    have z1 := hb1.size
    clear hn1
    have hbA : ∀ o, Below w.heap.size w (w1.alloc o) := fun o => hb1.alloc z1 o
    go_wp2_with fail
    refine (l1Read_any b _ hb).mono ?_
    rintro e w2 ⟨hb2, ⟨hn2, rfl⟩ | ⟨T, c1, A1, m1, cap1, hT, rfl, hr2⟩⟩
    · clear hn2
      have hbW := (hbA _).trans (hb2.mono (hbA _).size)
      go_wp2_with fail
      go_ret
      exact ⟨⟨false, rfl, ⟨fun h => (by cases h), fun h => absurd h HM.out⟩⟩, hbW.alloc hbW.size _⟩
    · clear hT hr2
      have hbW := (hbA _).trans (hb2.mono (hbA _).size)
      go_wp2_with fail
      go_ret
      exact ⟨⟨false, rfl, ⟨fun h => (by cases h), fun h => absurd h HM.out⟩⟩, hbW.alloc hbW.size _⟩
  · have HP := hid hP
    have HR1 := hid hr1
    have z1 := hb1.size
    clear hP hr1
    have hbA : ∀ o, Below w.heap.size w (w1.alloc o) := fun o => hb1.alloc z1 o
    go_wp2_with fail
    refine (l1Read_any b _ hb).mono ?_
    rintro e w2 ⟨hb2, ⟨hn2, rfl⟩ | ⟨T, c1, A1, m1, cap1, hT, rfl, hr2⟩⟩
    · have HM := hid (show ¬ Apart a.data.toList b.data.toList by rintro ⟨P, T, _, h1, _⟩; rw [hn2] at h1; cases h1)
      clear hn2
      have hbW := (hbA _).trans (hb2.mono (hbA _).size)
      go_wp2_with fail
      go_ret
      exact ⟨⟨false, rfl, ⟨fun h => (by cases h), fun h => absurd h HM.out⟩⟩, hbW.alloc hbW.size _⟩
    · obtain ⟨_, oP, _⟩ := tyOf_text HP.out
      obtain ⟨_, oT, _⟩ := tyOf_text hT
      obtain ⟨r, hu, hinv, hap⟩ := unify_apart (V := isN) (lt := ltN) (o := otherN) (inv := backN) (fun c hc => (isN_B c).1 hc) otherN_var (fun c hc => (isN_B c).2.1 hc) oP oT
      have hAp : r = none ↔ Apart a.data.toList b.data.toList := by
        rw [hap]
        constructor
        · intro h; exact ⟨P, T, HP.out, hT, h⟩
        · rintro ⟨P', T', h1, h2, h3⟩
          rw [HP.out] at h1
          rw [hT] at h2
          injection h1 with h1
          injection h2 with h2
          subst h1
          subst h2
          exact h3
      obtain ⟨h, hg, _⟩ := solve_of (ok_inner oP) (others_inner oT) hu hinv
      have HAP := hid hAp
      have HU := hid hu
      have HG := hid hg
      have HOP := hid oP
      have HOT := hid oT
      have HR2 := hid hr2
      have hbW := (hbA (.cells #[.int .u8 c0.toNat, .slice A0 m0 cap0] 61)).trans (hb2.mono (hbA _).size)
      have z2 := hb2.size
      simp only [World.size_alloc] at z2
      have n0 := cell_below (blk_cells2 (heap_new1 w1 (.cells #[.int .u8 c0.toNat, .slice A0 m0 cap0] 61))).1 (by simp only [World.size_alloc]; omega) hb2
      have n1 := cell_below (blk_cells2 (heap_new1 w1 (.cells #[.int .u8 c0.toNat, .slice A0 m0 cap0] 61))).2 (by simp only [World.size_alloc]; omega) hb2
      clear hT hr2 oP oT hu hap hAp hg hinv
      go_wp2_with fail
      obtain ⟨W3, hW3⟩ : ∃ W3, w2.alloc (.cells #[.int .u8 c1.toNat, .slice A1 m1 cap1] 61) = W3 := ⟨_, rfl⟩
      have hb23 : Below w2.heap.size w2 W3 := by rw [← hW3]; exact (Below.refl _ _).alloc (Nat.le_refl _) _
      have q0 : W3.cell? ⟨w2.heap.size, 0, none⟩ = some (.int .u8 c1.toNat) := by rw [← hW3]; exact (blk_cells2 (heap_new1 w2 _)).1
      have q1 : W3.cell? ⟨w2.heap.size, 1, none⟩ = some (.slice A1 m1 cap1) := by rw [← hW3]; exact (blk_cells2 (heap_new1 w2 _)).2
      have z3 : W3.heap.size = w2.heap.size + 1 := by rw [← hW3]; simp only [World.size_alloc]
      have p0 := cell_below n0 (by show w1.heap.size < _; omega) hb23
      have p1 := cell_below n1 (by show w1.heap.size < _; omega) hb23
      rw [hW3]
      have zW := hbW.size
      have hbW3 : Below w.heap.size w W3 := hbW.trans (hb23.mono zW)
      have hr13 : RepN W3 (fun g => w.heap.size ≤ g ∧ g < w2.heap.size) P (.int .u8 c0.toNat) (.slice A0 m0 cap0) := HR1.out.keep fun g hg => ⟨⟨hg.1, by omega⟩, by
        rw [hb23.block g (by omega), hb2.block g (by simp only [World.size_alloc]; omega)]
        exact Below.heap_alloc _ _ _ hg.2⟩
      have hr23 : RepN W3 (fun g => w.heap.size ≤ g ∧ g < w2.heap.size) T (.int .u8 c1.toNat) (.slice A1 m1 cap1) := HR2.out.keep fun g hg => ⟨⟨by have := hg.1; simp only [World.size_alloc] at this; omega, hg.2⟩, hb23.block g hg.2⟩
      have HO := hid (othersN_any T HOT.out (fun g => w.heap.size ≤ g ∧ g < w2.heap.size) c1 A1 m1 cap1 W3.drew (hr23.keep fun g hg => ⟨hg, rfl⟩) (fun g hg => by show g < W3.heap.size; omega))
      have HS := hid (fun (W : World) (hW : Below W3.heap.size W3 W) (c2 : UInt8) (A2 : Option Addr) (m2 cap2 : Nat) (hr : RepN W (fun g => W3.heap.size ≤ g ∧ g < W.heap.size) (T.subV isN fun c => .lf (otherN c)) (.int .u8 c2.toNat) (.slice A2 m2 cap2)) =>
        l2Solve_any P _ (ok_inner HOP.out) (others_inner HOT.out) (fun g => g < W.heap.size) c0 A0 m0 cap0 c2 A2 m2 cap2 W (hr13.keep fun g hg => ⟨by have := hW.size; omega, hW.block g (by omega)⟩) (hr.keep fun g hg => ⟨hg.2, rfl⟩) (fun g hg => hg) r HU.out h HG.out)
      clear hW3 n0 n1 hr13 hr23
      cases r with
      | none =>
        go_region_with (first
          | (go_at_call 50; refine HO.out.mono ?_; rintro e w4 ⟨c2, A2, m2, cap2, rfl, hr4, hb4⟩; have hb4' := bel_undrewN hb4; have HSV := hid (HS.out w4 hb4' c2 A2 m2 cap2 hr4); have p40 := cell_below (w := W3.drew) p0 (by show w1.heap.size < W3.heap.size; omega) hb4; have p41 := cell_below (w := W3.drew) p1 (by show w1.heap.size < W3.heap.size; omega) hb4; clear hr4 hb4)
          | (go_at_call 45; refine HSV.out.mono ?_; rintro e w5 ⟨hb5, pp, rfl⟩))
        all_goals
          have hbT := (hbW3.trans (hb4'.mono hbW3.size)).trans (hb5.mono (Nat.le_trans hbW3.size hb4'.size))
          go_wp2_with fail
          go_ret
          exact ⟨⟨true, rfl, ⟨fun _ => HAP.out.1 trivial, fun _ => rfl⟩⟩, hbT⟩

      | some gg =>
        go_region_with (first
          | (go_at_call 50; refine HO.out.mono ?_; rintro e w4 ⟨c2, A2, m2, cap2, rfl, hr4, hb4⟩; have hb4' := bel_undrewN hb4; have HSV := hid (HS.out w4 hb4' c2 A2 m2 cap2 hr4); have p40 := cell_below (w := W3.drew) p0 (by show w1.heap.size < W3.heap.size; omega) hb4; have p41 := cell_below (w := W3.drew) p1 (by show w1.heap.size < W3.heap.size; omega) hb4; clear hr4 hb4)
          | (go_at_call 45; refine HSV.out.mono ?_; rintro e w5 ⟨hb5, ob, rfl, _⟩))
        all_goals
          have hbT := (hbW3.trans (hb4'.mono hbW3.size)).trans (hb5.mono (Nat.le_trans hbW3.size hb4'.size))
          go_wp2_with fail
          go_ret
          exact ⟨⟨false, rfl, ⟨fun h => (by cases h), fun h => (by have := HAP.out.2 h; cases this)⟩⟩, hbT⟩

end Go.Proofs.YteimmgajohimlaaGreat
