/- match of the program. -/
import Derived.Test.YtpbjkblinenccaaMtI
namespace Go.Proofs.Ytpbjkblinenccaa
open Go.RowKit

/-- How match ends. -/
def MtOk (w : World) (sb : Nat) (S : Nat → Prop) (r : Option (UInt8 → Option Ty)) (e : Ending) (w' : World) : Prop :=
  But w.heap.size sb w w' ∧ match r with
    | none => e = .returned (.bool false)
    | some g => e = .returned (.bool true) ∧ Stnd w' sb S g

theorem walking_start (fn sb : Nat) (i1 i2 : Value) (w : World) (hs : sb < w.heap.size) (W : World) (hW : (((w.alloc (.cells #[.pointer (some ⟨sb, 0, none⟩)] 48)).alloc (.cells #[i1] 52)).alloc (.cells #[i2] 52)).alloc (.cells #[.func (.func fn) #[] #[.pointer (some ⟨w.heap.size + 1 + 1 + 1, 0, none⟩), .pointer (some ⟨w.heap.size, 0, none⟩)]] 123) = W) :
    Below w.heap.size w W ∧ W.heap.size = w.heap.size + 4 ∧ Walking fn W (w.heap.size + 1 + 1 + 1) w.heap.size sb ∧ W.cell? ⟨w.heap.size + 1, 0, none⟩ = some i1 ∧ W.cell? ⟨w.heap.size + 1 + 1, 0, none⟩ = some i2 := by
  subst hW
  have hb : Below w.heap.size w ((((w.alloc (.cells #[.pointer (some ⟨sb, 0, none⟩)] 48)).alloc (.cells #[i1] 52)).alloc (.cells #[i2] 52)).alloc (.cells #[.func (.func fn) #[] #[.pointer (some ⟨w.heap.size + 1 + 1 + 1, 0, none⟩), .pointer (some ⟨w.heap.size, 0, none⟩)]] 123)) :=
    ((((Below.refl _ _).alloc (Nat.le_refl _) _).alloc (by simp only [World.size_alloc]; omega) _).alloc (by simp only [World.size_alloc]; omega) _).alloc (by simp only [World.size_alloc]; omega) _
  have q3 := cell_new1 (((w.alloc (.cells #[.pointer (some ⟨sb, 0, none⟩)] 48)).alloc (.cells #[i1] 52)).alloc (.cells #[i2] 52)) (.func (.func fn) #[] #[.pointer (some ⟨w.heap.size + 1 + 1 + 1, 0, none⟩), .pointer (some ⟨w.heap.size, 0, none⟩)]) 123
  have q2 := cell_new1 ((w.alloc (.cells #[.pointer (some ⟨sb, 0, none⟩)] 48)).alloc (.cells #[i1] 52)) i2 52
  have q1 := cell_new1 (w.alloc (.cells #[.pointer (some ⟨sb, 0, none⟩)] 48)) i1 52
  have q0 := cell_new1 w (.pointer (some ⟨sb, 0, none⟩)) 48
  simp only [World.size_alloc] at q1 q2 q3
  refine ⟨hb, by simp only [World.size_alloc], ⟨q3, ?_, ?_, ?_, by omega, by omega⟩, ?_, ?_⟩
  · rw [World.cell?_alloc_lt _ _ _ (by simp only [World.size_alloc]; omega), World.cell?_alloc_lt _ _ _ (by simp only [World.size_alloc]; omega), World.cell?_alloc_lt _ _ _ (by simp only [World.size_alloc]; omega)]
    exact q0
  · simp only [World.size_alloc]; omega
  · simp only [World.size_alloc]; omega
  · rw [World.cell?_alloc_lt _ _ _ (by simp only [World.size_alloc]; omega), World.cell?_alloc_lt _ _ _ (by simp only [World.size_alloc]; omega)]
    exact q1
  · rw [World.cell?_alloc_lt _ _ _ (by simp only [World.size_alloc]; omega)]
    exact q2

set_option maxHeartbeats 400000 in
set_option maxRecDepth 100000 in
theorem match_any (sb T1 b1 T2 b2 : Nat) (w : World) (S : Nat → Prop) (P t : Ty) (hr1 : RepP w S P (.iface T1 (.pointer (some ⟨b1, 0, none⟩)))) (hr2 : RepP w S t (.iface T2 (.pointer (some ⟨b2, 0, none⟩)))) (hst : Stnd w sb S (fun _ => none)) (hsb : ¬ S sb) (hSl : ∀ k, S k → k < w.heap.size) (hP : P.ok) (ht : t.ok) (hl : t.text.length ≤ 60)
    (o : Option (UInt8 → Option Ty)) (ho : Hid (mt P t (fun _ => none) = o)) :
    Calls Try.prog 52 #[.pointer (some ⟨sb, 0, none⟩), .iface T1 (.pointer (some ⟨b1, 0, none⟩)), .iface T2 (.pointer (some ⟨b2, 0, none⟩))] w (MtOk w sb S o) := by
  have hmf : ∀ (fn : Fn) (first cap : Array Value) (w : World), (Instr.makeFunc fn first cap).run Try.prog w = .ok (.func fn first cap) w := fun _ _ _ _ => rfl
  have hsf : ∀ (p : Addr) (m : Mode) (w : World) (fn : Fn) (x y : Array Value), (store p (.func fn x y) m).run Try.prog w = stored Try.prog w p (.func fn x y) m := fun p m w fn x y => run_store _ w p _ m rfl
  have HR1 := hid hr1
  have HR2 := hid hr2
  have HST := hid hst
  have HSL := hid hSl
  have hs : sb < w.heap.size := by obtain ⟨cur, h1, _⟩ := hst; exact (Array.getElem?_eq_some_iff.1 h1).1
  clear hr1 hr2 hst hSl
  go_enter Try.func52, Try.ntmps52
  go_wp2_with fail
  obtain ⟨W, hW⟩ : ∃ W, (((w.alloc (.cells #[.pointer (some ⟨sb, 0, none⟩)] 48)).alloc (.cells #[.iface T1 (.pointer (some ⟨b1, 0, none⟩))] 52)).alloc (.cells #[.iface T2 (.pointer (some ⟨b2, 0, none⟩))] 52)).alloc (.cells #[.func (.func 77) #[] #[.pointer (some ⟨w.heap.size + 1 + 1 + 1, 0, none⟩), .pointer (some ⟨w.heap.size, 0, none⟩)]] 123) = W := ⟨_, rfl⟩
  obtain ⟨hbW, hzW, hwk, c1, c2⟩ := walking_start _ sb _ _ w hs W hW
  rw [hW]
  clear hW
  have hbA : Below W.heap.size W (W.alloc (.cells #[.bool false] 4)) := (Below.refl _ _).alloc (Nat.le_refl _) _
  have zA : (W.alloc (.cells #[.bool false] 4)).heap.size = W.heap.size + 1 := by simp only [World.size_alloc]
  have nA := heap_new1 W (.cells #[.bool false] 4)
  obtain ⟨W5, hW5⟩ : ∃ W5, W.alloc (.cells #[.bool false] 4) = W5 := ⟨_, rfl⟩
  rw [hW5] at hbA zA nA
  have hb5 : Below w.heap.size w W5 := hbW.trans (hbA.mono hbW.size)
  have hwk5 : Walking _ W5 _ _ sb := hwk.keep (But.of_below hbA)
  have c15 := cell_below c1 (by omega) hbA
  have c25 := cell_below c2 (by omega) hbA
  have hst5 : Stnd W5 sb S (fun _ => none) := HST.out.keep (hb5.block sb hs) fun k hk => ⟨hk, hb5.block k (HSL.out k hk)⟩
  have hk := matchBy_any P t (fun _ => none) W5 _ _ sb _ _ S (HR1.out.keep fun k hk => ⟨hk, hb5.block k (HSL.out k hk)⟩) (HR2.out.keep fun k hk => ⟨hk, hb5.block k (HSL.out k hk)⟩) hst5 hwk5 hsb (fun k hk => Nat.lt_of_lt_of_le (HSL.out k hk) hb5.size) none_fine hP ht hl
  rw [ho.out] at hk
  have HE := endsWell_any 81 (.pointer (some ⟨w.heap.size + 1 + 1 + 1, 0, none⟩)) (.pointer (some ⟨w.heap.size + 1, 0, none⟩)) (.pointer (some ⟨w.heap.size + 1 + 1, 0, none⟩)) cf_match2 W (MtEnd W5 sb S o)
    (by rw [hW5]; exact match2_any T1 b1 T2 b2 _ _ _ _ _ W5 _ hwk5.c1 c15 c25 hk fun e w' h => mtEnd_or h) (fun e w1 h => ⟨mtEnd_or h, (h.1.block W.heap.size (by omega) (by omega)).trans nA⟩)
  have HEE := hid HE
  have HZW := hid hzW
  clear HE hk hwk hwk5 c1 c2 c15 c25 hW5 nA hzW zA
  go_wp2_with fail
  refine HEE.out.mono ?_
  rintro e w' ⟨w1, r, rfl, rfl, hr⟩
  have HRR := hid hr
  clear hr
  go_wp2_with fail
  go_ret
  have hzW := HZW.out
  have hbut : But w.heap.size sb w (w1.setCell ⟨W.heap.size, 0, none⟩ (.bool r)) := ((But.of_below hb5).trans (HRR.out.1.mono hb5.size)).trans (But.of_below ((Below.refl _ _).setCell (by show w.heap.size ≤ W.heap.size; omega) _))
  refine ⟨hbut, ?_⟩
  have h2 := HRR.out.2
  cases o with
  | none =>
    cases r with
    | true => cases h2
    | false => rfl
  | some g =>
    cases r with
    | true =>
      refine ⟨rfl, h2.2.keep (Below.heap_setCell _ _ _ _ (by show sb ≠ W.heap.size; omega)) fun k hk => ⟨hk, Below.heap_setCell _ _ _ _ (by have := HSL.out k hk; show k ≠ W.heap.size; omega)⟩⟩
    | false => cases h2.1

end Go.Proofs.Ytpbjkblinenccaa
