/- Bindings applied, in the program: what a variable stands for, the closure of apply, applyOnce. ApplyBindings in plain words. -/
import Derived.Test.YtjpdiahbnhemoaaGreatBvI
import Derived.Deep.RegionWith
namespace Go.Proofs.YtjpdiahbnhemoaaGreat
open Go.RowKit

set_option maxHeartbeats 400000 in
set_option maxRecDepth 100000 in
theorem of_nil (sb vb : Nat) (c : UInt8) (w : World) (hc : isVarX c = true) (hv : w.heap[vb]? = some (.cells #[.int .u8 c.toNat] 88 (0, 0))) (cur : Array Value) (hs : w.heap[sb]? = some (.cells cur 54 (0, 0))) (hu : cur[idxX c]? = some .nilIface) :
    Calls Tryz.prog 53 #[.pointer (some ⟨sb, 0, none⟩), .pointer (some ⟨vb, 0, none⟩)] w fun e w' => e = .returned .nilIface ∧ ∃ m, w' = w.drewN m := by
  have q0 : w.cell? ⟨sb, idxX c, none⟩ = some .nilIface := cell_blk hs hu
  obtain ⟨k, hk⟩ : ∃ k, idxX c = k := ⟨_, rfl⟩
  have HK := hid hk
  rw [hk] at q0
  have HV := hid hv
  clear hv hs hk hu
  go_enter Tryz.func53, Tryz.ntmps53
  go_wp2_with fail
  refine (place_any sb vb c w hc HV.out k HK).mono ?_
  rintro e w' ⟨rfl, m, rfl⟩
  go_wp2_with fail
  go_ret
  exact ⟨rfl, m, rfl⟩

set_option maxHeartbeats 400000 in
set_option maxRecDepth 100000 in
theorem of_some (sb vb : Nat) (c : UInt8) (w : World) (hc : isVarX c = true) (hv : w.heap[vb]? = some (.cells #[.int .u8 c.toNat] 88 (0, 0))) (cur : Array Value) (hs : w.heap[sb]? = some (.cells cur 54 (0, 0))) (T b : Nat) (hu : cur[idxX c]? = some (.iface T (.pointer (some ⟨b, 0, none⟩)))) :
    Calls Tryz.prog 53 #[.pointer (some ⟨sb, 0, none⟩), .pointer (some ⟨vb, 0, none⟩)] w fun e w' => e = .returned (.iface T (.pointer (some ⟨b, 0, none⟩))) ∧ ∃ m, w' = w.drewN m := by
  have q0 : w.cell? ⟨sb, idxX c, none⟩ = some (.iface T (.pointer (some ⟨b, 0, none⟩))) := cell_blk hs hu
  obtain ⟨k, hk⟩ : ∃ k, idxX c = k := ⟨_, rfl⟩
  have HK := hid hk
  rw [hk] at q0
  have HV := hid hv
  clear hv hs hk hu
  go_enter Tryz.func53, Tryz.ntmps53
  go_wp2_with fail
  refine (place_any sb vb c w hc HV.out k HK).mono ?_
  rintro e w' ⟨rfl, m, rfl⟩
  go_wp2_with fail
  go_ret
  exact ⟨rfl, m, rfl⟩

/-- What a letter stands for once, or itself. -/
def once (f : UInt8 → Option Ty) (c : UInt8) : Ty := (f c).getD (.lf c)

set_option maxHeartbeats 400000 in
theorem sameNode_any (v : Value) (w : World) : Calls Tryz.prog 48 #[v] w fun e w' => e = .returned v ∧ w' = w := by
  go_enter Tryz.func48, Tryz.ntmps48
  go_wp2_with fail
  go_ret
  exact ⟨rfl, rfl⟩
theorem cf_same (args : Array Value) (w : World) : (callFunc 48 args).run Tryz.prog w = .ok (.enter 48 args) w := by kernel_rfl
theorem cf_apply1 (args : Array Value) (w : World) : (callFunc 60 args).run Tryz.prog w = .ok (.enter 60 args) w := by kernel_rfl

set_option maxHeartbeats 400000 in
set_option maxRecDepth 100000 in
theorem apply1_once (w0 : World) (sb p1 p2 : Nat) (S S' : Nat → Prop) (f : UInt8 → Option Ty) (h : Stnd w0 sb S' f) (h1 : w0.cell? ⟨p1, 0, none⟩ = some (.pointer (some ⟨sb, 0, none⟩))) (h2 : w0.cell? ⟨p2, 0, none⟩ = some (.func (.func 48) #[] #[]))
    (hp1 : p1 < w0.heap.size) (hp2 : p2 < w0.heap.size) (hsb : sb < w0.heap.size) (hS' : ∀ k, S' k → k < w0.heap.size) :
    Gives 60 #[.pointer (some ⟨p1, 0, none⟩), .pointer (some ⟨p2, 0, none⟩)] w0 S (fun k => S k ∨ S' k) (once f) := by
  intro w b c hw hSb hc hb
  have hst : Stnd w sb S' f := h.keep (hw.block sb hsb) fun k hk => ⟨hk, hw.block k (hS' k hk)⟩
  have q1 := cell_below h1 hp1 hw
  have q2 := cell_below h2 hp2 hw
  have HB := hid hb
  obtain ⟨cur, g1, g2, g3⟩ := hst
  have g4 := g3 c hc
  have HF := hid (show once f c = (f c).getD (.lf c) from rfl)
  have G1 := hid g1
  clear g1 g3 hb h h1 h2
  show Calls Tryz.prog 60 #[.pointer (some ⟨b, 0, none⟩), .pointer (some ⟨p1, 0, none⟩), .pointer (some ⟨p2, 0, none⟩)] w _
  rcases hfc : f c with _ | t
  · rw [hfc] at g4
    have G4 := hid (show cur[idxX c]? = some .nilIface from g4)
    have HFC := hid hfc
    clear g4 hfc
    go_enter Tryz.func60, Tryz.ntmps60
    go_wp2_with fail
    refine (of_nil sb b c w hc HB.out cur G1.out G4.out).mono ?_
    rintro e w1 ⟨rfl, m, rfl⟩
    go_wp2_with fail
    go_ret
    refine ⟨_, b, rfl, ?_, below_drewN' (Below.refl _ _) m⟩
    rw [HF.out, HFC.out]
    exact ⟨b, .inl (.inl hSb), .inl ⟨hc, rfl, HB.out⟩⟩
  · rw [hfc] at g4
    obtain ⟨v, g5, g6⟩ := g4
    obtain ⟨T, b', rfl, _⟩ := g6.form
    have G5 := hid g5
    have G6 := hid g6
    have HFC := hid hfc
    clear g5 g6 hfc
    have cs := cf_same
    go_enter Tryz.func60, Tryz.ntmps60
    go_wp2_with fail
    refine (of_some sb b c w hc HB.out cur G1.out T b' G5.out).mono ?_
    rintro e w1 ⟨rfl, m, rfl⟩
    go_wp2_with fail
    go_region_with (first | (go_at_call 53; refine (of_some sb b c (w.drewN (m + 1)) hc HB.out cur G1.out T b' G5.out).mono ?_; rintro e w2 ⟨rfl, m2, rfl⟩) | (go_at_call 48; refine (sameNode_any _ _).mono ?_; rintro e w3 ⟨rfl, hw3⟩; obtain rfl := hw3.symm))
    all_goals
      go_wp2_with fail
      go_ret
      refine ⟨T, b', rfl, ?_, ⟨rfl, rfl, rfl, Nat.le_refl _, fun _ _ => rfl⟩⟩
      rw [HF.out, HFC.out]
      exact G6.out.keep fun k hk => ⟨.inl (.inr hk), rfl⟩

set_option maxHeartbeats 400000 in
set_option maxRecDepth 100000 in
theorem applyOnce_any (sb : Nat) (w : World) (S S' : Nat → Prop) (f : UInt8 → Option Ty) (h : Stnd w sb S' f) (t : Ty) (v : Value) (hr : RepP w S t v) (hS : ∀ k, S k → k < w.heap.size) (hS' : ∀ k, S' k → k < w.heap.size) :
    Calls Tryz.prog 25 #[.pointer (some ⟨sb, 0, none⟩), v] w fun e w' => ∃ T b, e = .returned (.iface T (.pointer (some ⟨b, 0, none⟩))) ∧
      RepP w' (fun k => S k ∨ S' k ∨ (w.heap.size ≤ k ∧ k < w'.heap.size)) (t.sub (once f)) (.iface T (.pointer (some ⟨b, 0, none⟩))) ∧ Below w.heap.size w w' := by
  have hmf : ∀ (fn : Fn) (first cap : Array Value) (w : World), (Instr.makeFunc fn first cap).run Tryz.prog w = .ok (.func fn first cap) w := fun _ _ _ _ => rfl
  obtain ⟨T, b, rfl, _⟩ := hr.form
  have HR := hid hr
  have HST := hid h
  clear hr h
  go_enter Tryz.func25, Tryz.ntmps25
  go_wp2_with (go_at_call 43; go_in)
  obtain ⟨W, hW⟩ : ∃ W, (w.alloc (.cells #[.pointer (some ⟨sb, 0, none⟩)] 51)).alloc (.cells #[.func (.func 48) #[] #[]] 59) = W := ⟨_, rfl⟩
  have hbW : Below w.heap.size w W := by rw [← hW]; exact ((Below.refl _ _).alloc (Nat.le_refl _) _).alloc (by simp only [World.size_alloc]; omega) _
  have hzW : W.heap.size = w.heap.size + 2 := by rw [← hW]; simp only [World.size_alloc]
  have hsb : sb < w.heap.size := by obtain ⟨cur, h1, _⟩ := HST.out; exact (Array.getElem?_eq_some_iff.1 h1).1
  have c1 : W.cell? ⟨w.heap.size, 0, none⟩ = some (.pointer (some ⟨sb, 0, none⟩)) := by
    rw [← hW, World.cell?_alloc_lt _ _ _ (by simp only [World.size_alloc]; omega)]
    exact cell_new1 _ _ _
  have c2 : W.cell? ⟨w.heap.size + 1, 0, none⟩ = some (.func (.func 48) #[] #[]) := by
    have := cell_new1 (w.alloc (.cells #[.pointer (some ⟨sb, 0, none⟩)] 51)) (.func (.func 48) #[] #[]) 59
    rw [World.size_alloc] at this
    rw [← hW]
    exact this
  rw [hW]
  have hst : Stnd W sb S' f := HST.out.keep (hbW.block sb hsb) fun k hk => ⟨hk, hbW.block k (hS' k hk)⟩
  have hrW : RepP W S t (.iface T (.pointer (some ⟨b, 0, none⟩))) := HR.out.keep fun k hk => ⟨hk, hbW.block k (hS k hk)⟩
  have hSW : ∀ k, S k → k < W.heap.size := fun k hk => by have := hS k hk; omega
  have hSW' : ∀ k, S' k → k < W.heap.size := fun k hk => by have := hS' k hk; omega
  refine (replace_any (once f) _ _ cf_apply1 W S (fun k => S k ∨ S' k) (apply1_once W sb w.heap.size (w.heap.size + 1) S S' f hst c1 c2 (by omega) (by omega) (by omega) hSW') hSW (fun k hk => hk.elim (hSW k) (hSW' k)) t _ W (Below.refl _ _) hrW).mono ?_
  rintro e w2 ⟨T2, b2, rfl, hr2, hb2⟩
  clear hW c1 c2 hst hrW
  have HR2 := hid hr2
  clear hr2
  go_wp2_with fail
  go_ret
  refine ⟨T2, b2, rfl, HR2.out.keep fun k hk => ⟨?_, rfl⟩, hbW.trans (hb2.mono hbW.size)⟩
  rcases hk with hk | (hk | hk) | hk
  · exact .inl hk
  · exact .inl hk
  · exact .inr (.inl hk)
  · exact .inr (.inr ⟨by omega, hk.2⟩)

end Go.Proofs.YtjpdiahbnhemoaaGreat

namespace Go.Proofs.YtjpdiahbnhemoaaGreat
open Go.RowKit

/-- What bindings give is a type of at most 60 bytes. -/
def Fine (f : UInt8 → Option Ty) : Prop := ∀ c t, f c = some t → t.ok ∧ t.text.length ≤ 60
theorem bstep_fine {f : UInt8 → Option Ty} (h : Fine f) (z : ByteArray × ByteArray) : Fine (bstep f z) := by
  intro c t hc
  unfold bstep at hc
  rcases hl : z.1.data.toList with _ | ⟨d, _ | ⟨d', r⟩⟩
  · simp only [hl] at hc
    exact h c t hc
  · rcases ht : tyOf z.2.data.toList with _ | u
    · simp only [hl, ht] at hc
      exact h c t hc
    · simp only [hl, ht] at hc
      split at hc
      · injection hc with hc
        subst hc
        obtain ⟨e, o, l⟩ := tyOf_text ht
        exact ⟨o, by rw [← e]; exact l⟩
      · exact h c t hc
  · simp only [hl] at hc
    exact h c t hc
theorem bmap_fine (zs : List (ByteArray × ByteArray)) : Fine (bmap zs) := by
  unfold bmap
  have key : ∀ (zs : List (ByteArray × ByteArray)) (f : UInt8 → Option Ty), Fine f → Fine (zs.foldl bstep f) := by
    intro zs
    induction zs with
    | nil => exact fun f h => h
    | cons z zs ih => exact fun f h => ih _ (bstep_fine h z)
  exact key zs _ (fun c t h => by cases h)
theorem sub_ok {f : UInt8 → Option Ty} (hf : Fine f) {T : Ty} (h : T.ok) : (T.sub (once f)).ok ∧ (T.sub (once f)).text.length ≤ 60 * T.text.length := by
  induction T with
  | lf c =>
    unfold Ty.sub
    split
    · unfold once
      cases hc : f c with
      | none => exact ⟨h, by simp [Ty.text]⟩
      | some t => exact ⟨(hf c t hc).1, by have := (hf c t hc).2; simp [Ty.text]; exact this⟩
    · exact ⟨h, by simp [Ty.text]⟩
  | un c a ih =>
    obtain ⟨h1, h2⟩ := ih h.2
    exact ⟨⟨h.1, h1⟩, by simp [Ty.sub, Ty.text]; omega⟩
  | bi c a b iha ihb =>
    obtain ⟨h1, h2⟩ := iha h.2.1
    obtain ⟨h3, h4⟩ := ihb h.2.2
    exact ⟨⟨h.1, h1, h3⟩, by simp [Ty.sub, Ty.text]; omega⟩

def apS (o : Option (List UInt8)) : ByteArray := match o with
  | some l => strOf l
  | none => ⟨#[]⟩
/-- What ApplyBindings comes to. -/
def apOf (zs : List (ByteArray × ByteArray)) (l : List UInt8) : Option (List UInt8) :=
  match bvOf zs, tyOf l with
  | true, some T => if (T.sub (once (bmap zs))).text.length ≤ 60 then some (T.sub (once (bmap zs))).text else none
  | _, _ => none

set_option maxHeartbeats 1000000 in
set_option maxRecDepth 100000 in
theorem apI_any (A : Option Addr) (n c : Nat) (zs : List (ByteArray × ByteArray)) (s : ByteArray) (w : World) (ha : Prs w A n zs) (hz : ∀ z ∈ zs, z.1.size ≤ maxLen ∧ z.2.size ≤ maxLen) (hn : n ≤ 1048576) (hs : s.size ≤ maxLen) :
    Calls Tryz.prog 9 #[.slice A n c, .string s] w fun e w' => e = .returned (.tuple #[.string (apS (apOf zs s.data.toList)), .bool (apOf zs s.data.toList).isSome]) ∧ Below w.heap.size w w' := by
  have HR := hid (readBindings_any A n c zs w ha hz hn)
  clear ha hz
  go_enter Tryz.func9, Tryz.ntmps9
  go_wp2_with fail
  refine HR.out.mono ?_
  rintro e w1 ⟨hb1, hend⟩
  have z1 := hb1.size
  rcases hend with ⟨hn1, rfl⟩ | ⟨sb, hn1, rfl, hsb1, hsb2, hst⟩
  · have HO := hid (show apOf zs s.data.toList = none by unfold apOf; rw [hn1])
    clear hn1
    go_wp2_with fail
    refine (readType_any s _ hs).mono ?_
    rintro e w2 ⟨hb2, ⟨hn2, rfl⟩ | ⟨t, T, b, hs2, rfl, hrep⟩⟩
    · clear hn2
      go_wp2_with fail
      rw [HO.out]
      exact bodyPost_ret (v := .tuple #[.string ⟨#[]⟩, .bool false]) (by simp [results, Tryz.results9, go_sem]) rfl ⟨rfl, hb1.trans (hb2.mono z1)⟩
    · clear hs2
      go_wp2_with fail
      rw [HO.out]
      exact bodyPost_ret (v := .tuple #[.string ⟨#[]⟩, .bool false]) (by simp [results, Tryz.results9, go_sem]) rfl ⟨rfl, hb1.trans (hb2.mono z1)⟩
  · have HV := hid hn1
    have HST := hid hst
    clear hn1 hst
    go_wp2_with fail
    refine (readType_any s _ hs).mono ?_
    rintro e w2 ⟨hb2, ⟨hn2, rfl⟩ | ⟨t, T, b, hs2, rfl, hrep⟩⟩
    · have HO := hid (show apOf zs s.data.toList = none by unfold apOf; rw [HV.out, hn2])
      clear hn2
      go_wp2_with fail
      rw [HO.out]
      exact bodyPost_ret (v := .tuple #[.string ⟨#[]⟩, .bool false]) (by simp [results, Tryz.results9, go_sem]) rfl ⟨rfl, hb1.trans (hb2.mono z1)⟩
    · have z2 := hb2.size
      obtain ⟨et, ot, lt⟩ := tyOf_text hs2
      obtain ⟨ho, hl⟩ := sub_ok (bmap_fine zs) ot
      have HS2 := hid hs2
      have htl : t.text.length ≤ 60 := by rw [← et]; exact lt
      have HOK := hid ho
      obtain ⟨q, hq⟩ : ∃ q, strOf (t.sub (once (bmap zs))).text = q := ⟨_, rfl⟩
      have hqs : q.size = (t.sub (once (bmap zs))).text.length := by rw [← hq, strOf_size]
      have hq4 : (t.sub (once (bmap zs))).text.length ≤ 4000 := by omega
      have HQ := hid hq
      have HQS := hid hqs
      have hq5 : q.size ≤ 4000 := by omega
      have hrp := hrep.repP ot
      clear hs2 et hq hqs ho
      have hst2 : Stnd w2 sb (fun k => w.heap.size ≤ k ∧ k < w1.heap.size ∧ k ≠ sb) (bmap zs) := HST.out.keep (hb2.block sb hsb2) fun k hk => ⟨hk, hb2.block k hk.2.1⟩
      have HAP := hid (applyOnce_any sb w2 (fun k => w1.heap.size ≤ k ∧ k < w2.heap.size) (fun k => w.heap.size ≤ k ∧ k < w1.heap.size ∧ k ≠ sb) (bmap zs) hst2 t _ hrp (fun k hk => hk.2) (fun k hk => by omega))
      clear hst2 hrp
      go_wp2_with fail
      refine HAP.out.mono ?_
      rintro e w3 ⟨T3, b3, rfl, hr3, hb3⟩
      have z3 := hb3.size
      have hr3' : Rep w3 w.heap.size w3.heap.size (t.sub (once (bmap zs))) (.iface T3 (.pointer (some ⟨b3, 0, none⟩))) := hr3.rep (fun k hk => hk.elim (fun h => ⟨by omega, by omega⟩) fun h => h.elim (fun h => ⟨h.1, by omega⟩) fun h => ⟨by omega, h.2⟩) HOK.out
      obtain ⟨fn, hm, hcf, hcall⟩ := textBy_any _ w.heap.size w3.heap.size T3 b3 w3 hr3' (Nat.le_refl _) HOK.out (Nat.le_trans hq4 (by decide))
      rw [HQ.out] at hcall
      have HCALL := hid hcall
      clear hcall hr3 hr3'
      go_wp2_with fail
      refine HCALL.out.mono ?_
      rintro e w4 ⟨rfl, hb4⟩
      have hbA := hb1.trans ((hb2.trans ((hb3.trans (hb4.mono z3)).mono z2)).mono z1)
      clear hm hcf
      by_cases hlong : (60 : Int) < q.size
      · have HO := hid (show apOf zs s.data.toList = none by unfold apOf; rw [HV.out, HS2.out]; exact if_neg (by rw [← HQS.out]; omega))
        go_wp2_with fail
        rw [HO.out]
        exact bodyPost_ret (v := .tuple #[.string ⟨#[]⟩, .bool false]) (by simp [results, Tryz.results9, go_sem]) rfl ⟨rfl, hbA⟩
      · have HO := hid (show apOf zs s.data.toList = some (t.sub (once (bmap zs))).text by unfold apOf; rw [HV.out, HS2.out]; exact if_pos (by rw [← HQS.out]; omega))
        go_wp2_with fail
        rw [HO.out]
        refine bodyPost_ret (v := .tuple #[.string q, .bool true]) (by simp [results, Tryz.results9, go_sem]) rfl ⟨?_, hbA⟩
        show Ending.returned (.tuple #[.string q, .bool true]) = .returned (.tuple #[.string (strOf _), .bool true])
        rw [HQ.out]

end Go.Proofs.YtjpdiahbnhemoaaGreat
