/- ApplyBindings in plain words. -/
import Derived.Test.YtpbjkblinenccaaApI
namespace Go.Proofs.Ytpbjkblinenccaa
open Go.RowKit

/-- What bindings give is a type of at most 60 bytes. -/
def Fine (f : UInt8 → Option Ty) : Prop := ∀ c t, f c = some t → t.ok ∧ t.text.length ≤ 60
theorem bstep_fine {f : UInt8 → Option Ty} (h : Fine f) (z : ByteArray × ByteArray) : Fine (bstep f z) := by
  intro c t hc
  unfold bstep at hc
  rcases hl : z.1.data.toList with _ | ⟨d, _ | ⟨d', r⟩⟩
  · simp only [hl] at hc
    exact h c t hc
  · rcases ht : tyOf z.2.data.toList with _ | u
    · simp only [hl, ht] at hc
      exact h c t hc
    · simp only [hl, ht] at hc
      split at hc
      · injection hc with hc
        subst hc
        obtain ⟨e, o, l⟩ := tyOf_text ht
        exact ⟨o, by rw [← e]; exact l⟩
      · exact h c t hc
  · simp only [hl] at hc
    exact h c t hc
theorem bmap_fine (zs : List (ByteArray × ByteArray)) : Fine (bmap zs) := by
  unfold bmap
  have key : ∀ (zs : List (ByteArray × ByteArray)) (f : UInt8 → Option Ty), Fine f → Fine (zs.foldl bstep f) := by
    intro zs
    induction zs with
    | nil => exact fun f h => h
    | cons z zs ih => exact fun f h => ih _ (bstep_fine h z)
  exact key zs _ (fun c t h => by cases h)
theorem sub_ok {f : UInt8 → Option Ty} (hf : Fine f) {T : Ty} (h : T.ok) : (T.sub (once f)).ok ∧ (T.sub (once f)).text.length ≤ 60 * T.text.length := by
  induction T with
  | lf c =>
    unfold Ty.sub
    split
    · unfold once
      cases hc : f c with
      | none => exact ⟨h, by simp [Ty.text]⟩
      | some t => exact ⟨(hf c t hc).1, by have := (hf c t hc).2; simp [Ty.text]; exact this⟩
    · exact ⟨h, by simp [Ty.text]⟩
  | un c a ih =>
    obtain ⟨h1, h2⟩ := ih h.2
    exact ⟨⟨h.1, h1⟩, by simp [Ty.sub, Ty.text]; omega⟩
  | bi c a b iha ihb =>
    obtain ⟨h1, h2⟩ := iha h.2.1
    obtain ⟨h3, h4⟩ := ihb h.2.2
    exact ⟨⟨h.1, h1, h3⟩, by simp [Ty.sub, Ty.text]; omega⟩

def apS (o : Option (List UInt8)) : ByteArray := match o with
  | some l => strOf l
  | none => ⟨#[]⟩
/-- What ApplyBindings comes to. -/
def apOf (zs : List (ByteArray × ByteArray)) (l : List UInt8) : Option (List UInt8) :=
  match bvOf zs, tyOf l with
  | true, some T => if (T.sub (once (bmap zs))).text.length ≤ 60 then some (T.sub (once (bmap zs))).text else none
  | _, _ => none

set_option maxHeartbeats 1000000 in
set_option maxRecDepth 100000 in
theorem apI_any (A : Option Addr) (n c : Nat) (zs : List (ByteArray × ByteArray)) (s : ByteArray) (w : World) (ha : Prs w A n zs) (hz : ∀ z ∈ zs, z.1.size ≤ maxLen ∧ z.2.size ≤ maxLen) (hn : n ≤ 1048576) (hs : s.size ≤ maxLen) :
    Calls Try.prog 9 #[.slice A n c, .string s] w fun e w' => e = .returned (.tuple #[.string (apS (apOf zs s.data.toList)), .bool (apOf zs s.data.toList).isSome]) ∧ Below w.heap.size w w' := by
  have HR := hid (readBindings_any A n c zs w ha hz hn)
  clear ha hz
  go_enter Try.func9, Try.ntmps9
  go_wp2_with fail
  refine HR.out.mono ?_
  rintro e w1 ⟨hb1, hend⟩
  have z1 := hb1.size
  rcases hend with ⟨hn1, rfl⟩ | ⟨sb, hn1, rfl, hsb1, hsb2, hst⟩
  · have HO := hid (show apOf zs s.data.toList = none by unfold apOf; rw [hn1])
    clear hn1
    go_wp2_with fail
    refine (readType_any s _ hs).mono ?_
    rintro e w2 ⟨hb2, ⟨hn2, rfl⟩ | ⟨t, T, b, hs2, rfl, hrep⟩⟩
    · clear hn2
      go_wp2_with fail
      rw [HO.out]
      exact bodyPost_ret (v := .tuple #[.string ⟨#[]⟩, .bool false]) (by simp [results, Try.results9, go_sem]) rfl ⟨rfl, hb1.trans (hb2.mono z1)⟩
    · clear hs2
      go_wp2_with fail
      rw [HO.out]
      exact bodyPost_ret (v := .tuple #[.string ⟨#[]⟩, .bool false]) (by simp [results, Try.results9, go_sem]) rfl ⟨rfl, hb1.trans (hb2.mono z1)⟩
  · have HV := hid hn1
    have HST := hid hst
    clear hn1 hst
    go_wp2_with fail
    refine (readType_any s _ hs).mono ?_
    rintro e w2 ⟨hb2, ⟨hn2, rfl⟩ | ⟨t, T, b, hs2, rfl, hrep⟩⟩
    · have HO := hid (show apOf zs s.data.toList = none by unfold apOf; rw [HV.out, hn2])
      clear hn2
      go_wp2_with fail
      rw [HO.out]
      exact bodyPost_ret (v := .tuple #[.string ⟨#[]⟩, .bool false]) (by simp [results, Try.results9, go_sem]) rfl ⟨rfl, hb1.trans (hb2.mono z1)⟩
    · have z2 := hb2.size
      obtain ⟨et, ot, lt⟩ := tyOf_text hs2
      obtain ⟨ho, hl⟩ := sub_ok (bmap_fine zs) ot
      have HS2 := hid hs2
      have htl : t.text.length ≤ 60 := by rw [← et]; exact lt
      have HOK := hid ho
      obtain ⟨q, hq⟩ : ∃ q, strOf (t.sub (once (bmap zs))).text = q := ⟨_, rfl⟩
      have hqs : q.size = (t.sub (once (bmap zs))).text.length := by rw [← hq, strOf_size]
      have hq4 : (t.sub (once (bmap zs))).text.length ≤ 4000 := by omega
      have HQ := hid hq
      have HQS := hid hqs
      have hq5 : q.size ≤ 4000 := by omega
      have hrp := hrep.repP ot
      clear hs2 et hq hqs ho
      have hst2 : Stnd w2 sb (fun k => w.heap.size ≤ k ∧ k < w1.heap.size ∧ k ≠ sb) (bmap zs) := HST.out.keep (hb2.block sb hsb2) fun k hk => ⟨hk, hb2.block k hk.2.1⟩
      have HAP := hid (applyOnce_any sb w2 (fun k => w1.heap.size ≤ k ∧ k < w2.heap.size) (fun k => w.heap.size ≤ k ∧ k < w1.heap.size ∧ k ≠ sb) (bmap zs) hst2 t _ hrp (fun k hk => hk.2) (fun k hk => by omega))
      clear hst2 hrp
      go_wp2_with fail
      refine HAP.out.mono ?_
      rintro e w3 ⟨T3, b3, rfl, hr3, hb3⟩
      have z3 := hb3.size
      have hr3' : Rep w3 w.heap.size w3.heap.size (t.sub (once (bmap zs))) (.iface T3 (.pointer (some ⟨b3, 0, none⟩))) := hr3.rep (fun k hk => hk.elim (fun h => ⟨by omega, by omega⟩) fun h => h.elim (fun h => ⟨h.1, by omega⟩) fun h => ⟨by omega, h.2⟩) HOK.out
      obtain ⟨fn, hm, hcf, hcall⟩ := textBy_any _ w.heap.size w3.heap.size T3 b3 w3 hr3' (Nat.le_refl _) HOK.out hq4
      rw [HQ.out] at hcall
      have HCALL := hid hcall
      clear hcall hr3 hr3'
      go_wp2_with fail
      refine HCALL.out.mono ?_
      rintro e w4 ⟨rfl, hb4⟩
      have hbA := hb1.trans ((hb2.trans ((hb3.trans (hb4.mono z3)).mono z2)).mono z1)
      clear hm hcf
      by_cases hlong : (60 : Int) < q.size
      · have HO := hid (show apOf zs s.data.toList = none by unfold apOf; rw [HV.out, HS2.out]; exact if_neg (by rw [← HQS.out]; omega))
        go_wp2_with fail
        rw [HO.out]
        exact bodyPost_ret (v := .tuple #[.string ⟨#[]⟩, .bool false]) (by simp [results, Try.results9, go_sem]) rfl ⟨rfl, hbA⟩
      · have HO := hid (show apOf zs s.data.toList = some (t.sub (once (bmap zs))).text by unfold apOf; rw [HV.out, HS2.out]; exact if_pos (by rw [← HQS.out]; omega))
        go_wp2_with fail
        rw [HO.out]
        refine bodyPost_ret (v := .tuple #[.string q, .bool true]) (by simp [results, Try.results9, go_sem]) rfl ⟨?_, hbA⟩
        show Ending.returned (.tuple #[.string q, .bool true]) = .returned (.tuple #[.string (strOf _), .bool true])
        rw [HQ.out]

end Go.Proofs.Ytpbjkblinenccaa
