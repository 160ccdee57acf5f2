/- Bindings applied, in the program: what a variable stands for, the closure of apply, applyOnce. ApplyBindings in plain words. -/
import Derived.Test.YtjpdiahbnhemoaaBvI
import Derived.Deep.RegionWith
namespace Go.Proofs.Ytjpdiahbnhemoaa
open Go.RowKit

set_option maxHeartbeats 400000 in
set_option maxRecDepth 100000 in
theorem of_nil (sb vb : Nat) (c : UInt8) (w : World) (hc : isVarX c = true) (hv : w.heap[vb]? = some (.cells #[.int .u8 c.toNat] 125 (0, 0))) (cur : Array Value) (hs : w.heap[sb]? = some (.cells cur 72 (0, 0))) (hu : cur[idxX c]? = some .nilIface) :
    Calls Try.prog 90 #[.pointer (some ⟨sb, 0, none⟩), .pointer (some ⟨vb, 0, none⟩)] w fun e w' => e = .returned .nilIface ∧ ∃ m, w' = w.drewN m := by
  have q0 : w.cell? ⟨sb, idxX c, none⟩ = some .nilIface := cell_blk hs hu
  obtain ⟨k, hk⟩ : ∃ k, idxX c = k := ⟨_, rfl⟩
  have HK := hid hk
  rw [hk] at q0
  have HV := hid hv
  clear hv hs hk hu
  go_enter Try.func90, Try.ntmps90
  go_wp2_with fail
  refine (place_any sb vb c w hc HV.out k HK).mono ?_
  rintro e w' ⟨rfl, m, rfl⟩
  go_wp2_with fail
  go_ret
  exact ⟨rfl, m, rfl⟩

set_option maxHeartbeats 400000 in
set_option maxRecDepth 100000 in
theorem of_some (sb vb : Nat) (c : UInt8) (w : World) (hc : isVarX c = true) (hv : w.heap[vb]? = some (.cells #[.int .u8 c.toNat] 125 (0, 0))) (cur : Array Value) (hs : w.heap[sb]? = some (.cells cur 72 (0, 0))) (T b : Nat) (hu : cur[idxX c]? = some (.iface T (.pointer (some ⟨b, 0, none⟩)))) :
    Calls Try.prog 90 #[.pointer (some ⟨sb, 0, none⟩), .pointer (some ⟨vb, 0, none⟩)] w fun e w' => e = .returned (.iface T (.pointer (some ⟨b, 0, none⟩))) ∧ ∃ m, w' = w.drewN m := by
  have q0 : w.cell? ⟨sb, idxX c, none⟩ = some (.iface T (.pointer (some ⟨b, 0, none⟩))) := cell_blk hs hu
  obtain ⟨k, hk⟩ : ∃ k, idxX c = k := ⟨_, rfl⟩
  have HK := hid hk
  rw [hk] at q0
  have HV := hid hv
  clear hv hs hk hu
  go_enter Try.func90, Try.ntmps90
  go_wp2_with fail
  refine (place_any sb vb c w hc HV.out k HK).mono ?_
  rintro e w' ⟨rfl, m, rfl⟩
  go_wp2_with fail
  go_ret
  exact ⟨rfl, m, rfl⟩

/-- What a letter stands for once, or itself. -/
def once (f : UInt8 → Option Ty) (c : UInt8) : Ty := (f c).getD (.lf c)

set_option maxHeartbeats 400000 in
theorem sameNode_any (v : Value) (w : World) : Calls Try.prog 80 #[v] w fun e w' => e = .returned v ∧ w' = w := by
  go_enter Try.func80, Try.ntmps80
  go_wp2_with fail
  go_ret
  exact ⟨rfl, rfl⟩
theorem cf_same (args : Array Value) (w : World) : (callFunc 80 args).run Try.prog w = .ok (.enter 80 args) w := by kernel_rfl
theorem cf_apply1 (args : Array Value) (w : World) : (callFunc 97 args).run Try.prog w = .ok (.enter 97 args) w := by kernel_rfl

set_option maxHeartbeats 400000 in
set_option maxRecDepth 100000 in
theorem apply1_once (w0 : World) (sb p1 p2 : Nat) (S S' : Nat → Prop) (f : UInt8 → Option Ty) (h : Stnd w0 sb S' f) (h1 : w0.cell? ⟨p1, 0, none⟩ = some (.pointer (some ⟨sb, 0, none⟩))) (h2 : w0.cell? ⟨p2, 0, none⟩ = some (.func (.func 80) #[] #[]))
    (hp1 : p1 < w0.heap.size) (hp2 : p2 < w0.heap.size) (hsb : sb < w0.heap.size) (hS' : ∀ k, S' k → k < w0.heap.size) :
    Gives 97 #[.pointer (some ⟨p1, 0, none⟩), .pointer (some ⟨p2, 0, none⟩)] w0 S (fun k => S k ∨ S' k) (once f) := by
  intro w b c hw hSb hc hb
  have hst : Stnd w sb S' f := h.keep (hw.block sb hsb) fun k hk => ⟨hk, hw.block k (hS' k hk)⟩
  have q1 := cell_below h1 hp1 hw
  have q2 := cell_below h2 hp2 hw
  have HB := hid hb
  obtain ⟨cur, g1, g2, g3⟩ := hst
  have g4 := g3 c hc
  have HF := hid (show once f c = (f c).getD (.lf c) from rfl)
  have G1 := hid g1
  clear g1 g3 hb h h1 h2
  show Calls Try.prog 97 #[.pointer (some ⟨b, 0, none⟩), .pointer (some ⟨p1, 0, none⟩), .pointer (some ⟨p2, 0, none⟩)] w _
  rcases hfc : f c with _ | t
  · rw [hfc] at g4
    have G4 := hid (show cur[idxX c]? = some .nilIface from g4)
    have HFC := hid hfc
    clear g4 hfc
    go_enter Try.func97, Try.ntmps97
    go_wp2_with fail
    refine (of_nil sb b c w hc HB.out cur G1.out G4.out).mono ?_
    rintro e w1 ⟨rfl, m, rfl⟩
    go_wp2_with fail
    go_ret
    refine ⟨_, b, rfl, ?_, below_drewN' (Below.refl _ _) m⟩
    rw [HF.out, HFC.out]
    exact ⟨b, .inl (.inl hSb), .inl ⟨hc, rfl, HB.out⟩⟩
  · rw [hfc] at g4
    obtain ⟨v, g5, g6⟩ := g4
    obtain ⟨T, b', rfl, _⟩ := g6.form
    have G5 := hid g5
    have G6 := hid g6
    have HFC := hid hfc
    clear g5 g6 hfc
    have cs := cf_same
    go_enter Try.func97, Try.ntmps97
    go_wp2_with fail
    refine (of_some sb b c w hc HB.out cur G1.out T b' G5.out).mono ?_
    rintro e w1 ⟨rfl, m, rfl⟩
    go_wp2_with fail
    go_region_with (first | (go_at_call 90; refine (of_some sb b c (w.drewN (m + 1)) hc HB.out cur G1.out T b' G5.out).mono ?_; rintro e w2 ⟨rfl, m2, rfl⟩) | (go_at_call 80; refine (sameNode_any _ _).mono ?_; rintro e w3 ⟨rfl, hw3⟩; obtain rfl := hw3.symm))
    all_goals
      go_wp2_with fail
      go_ret
      refine ⟨T, b', rfl, ?_, ⟨rfl, rfl, rfl, Nat.le_refl _, fun _ _ => rfl⟩⟩
      rw [HF.out, HFC.out]
      exact G6.out.keep fun k hk => ⟨.inl (.inr hk), rfl⟩

end Go.Proofs.Ytjpdiahbnhemoaa

namespace Go.Proofs.Ytjpdiahbnhemoaa
open Go.RowKit

/-- What bindings give is a type of at most 60 bytes. -/
def Fine (f : UInt8 → Option Ty) : Prop := ∀ c t, f c = some t → t.ok ∧ t.text.length ≤ 60
theorem bstep_fine {f : UInt8 → Option Ty} (h : Fine f) (z : ByteArray × ByteArray) : Fine (bstep f z) := by
  intro c t hc
  unfold bstep at hc
  rcases hl : z.1.data.toList with _ | ⟨d, _ | ⟨d', r⟩⟩
  · simp only [hl] at hc
    exact h c t hc
  · rcases ht : tyOf z.2.data.toList with _ | u
    · simp only [hl, ht] at hc
      exact h c t hc
    · simp only [hl, ht] at hc
      split at hc
      · injection hc with hc
        subst hc
        obtain ⟨e, o, l⟩ := tyOf_text ht
        exact ⟨o, by rw [← e]; exact l⟩
      · exact h c t hc
  · simp only [hl] at hc
    exact h c t hc
theorem bmap_fine (zs : List (ByteArray × ByteArray)) : Fine (bmap zs) := by
  unfold bmap
  have key : ∀ (zs : List (ByteArray × ByteArray)) (f : UInt8 → Option Ty), Fine f → Fine (zs.foldl bstep f) := by
    intro zs
    induction zs with
    | nil => exact fun f h => h
    | cons z zs ih => exact fun f h => ih _ (bstep_fine h z)
  exact key zs _ (fun c t h => by cases h)
theorem sub_ok {f : UInt8 → Option Ty} (hf : Fine f) {T : Ty} (h : T.ok) : (T.sub (once f)).ok ∧ (T.sub (once f)).text.length ≤ 60 * T.text.length := by
  induction T with
  | lf c =>
    unfold Ty.sub
    split
    · unfold once
      cases hc : f c with
      | none => exact ⟨h, by simp [Ty.text]⟩
      | some t => exact ⟨(hf c t hc).1, by have := (hf c t hc).2; simp [Ty.text]; exact this⟩
    · exact ⟨h, by simp [Ty.text]⟩
  | un c a ih =>
    obtain ⟨h1, h2⟩ := ih h.2
    exact ⟨⟨h.1, h1⟩, by simp [Ty.sub, Ty.text]; omega⟩
  | bi c a b iha ihb =>
    obtain ⟨h1, h2⟩ := iha h.2.1
    obtain ⟨h3, h4⟩ := ihb h.2.2
    exact ⟨⟨h.1, h1, h3⟩, by simp [Ty.sub, Ty.text]; omega⟩

def apS (o : Option (List UInt8)) : ByteArray := match o with
  | some l => strOf l
  | none => ⟨#[]⟩
/-- What ApplyBindings comes to. -/
def apOf (zs : List (ByteArray × ByteArray)) (l : List UInt8) : Option (List UInt8) :=
  match bvOf zs, tyOf l with
  | true, some T => if (T.sub (once (bmap zs))).text.length ≤ 60 then some (T.sub (once (bmap zs))).text else none
  | _, _ => none

end Go.Proofs.Ytjpdiahbnhemoaa
