/- Plain facts on bindings applied. -/
import Derived.Test.YteimmgajohimlaaGreatApW
import Derived.Test.YteimmgajohimlaaGreatLawM
namespace Go.Proofs.YteimmgajohimlaaGreat
open Go.RowKit

theorem bv_fold : ∀ (zs : List (ByteArray × ByteArray)) (last : UInt8) (f : UInt8 → Option Ty), bvGo last zs = true →
    (∀ z ∈ zs, ∃ c t, z.1.data.toList = [c] ∧ last < c ∧ isVarB c = true ∧ tyOf z.2.data.toList = some t ∧ (zs.foldl bstep f) c = some t) ∧ (∀ c, (∀ z ∈ zs, z.1.data.toList ≠ [c]) → (zs.foldl bstep f) c = f c) := by
  intro zs
  induction zs with
  | nil => exact fun _ _ _ => ⟨(fun z hz => by cases hz), fun c _ => rfl⟩
  | cons y ys ih =>
    intro last f h
    unfold bvGo at h
    split at h
    · rename_i d e
      simp only [Bool.and_eq_true, decide_eq_true_eq] at h
      obtain ⟨⟨⟨hv, ht⟩, hl⟩, hr⟩ := h
      obtain ⟨t, ht⟩ := Option.isSome_iff_exists.1 ht
      obtain ⟨i1, i2⟩ := ih d (bstep f y) hr
      have hb : bstep f y = fun c => if c = d then some t else f c := bstep_at e ht
      refine ⟨fun z hz => ?_, fun c hc => ?_⟩
      · rcases List.mem_cons.1 hz with rfl | hz
        · refine ⟨d, t, e, hl, hv, ht, ?_⟩
          show (ys.foldl bstep (bstep f z)) d = some t
          rw [i2 d (fun z hz he => ?_), hb]
          · simp
          · obtain ⟨c, _, h1, h2, _⟩ := i1 z hz
            rw [he] at h1
            injection h1 with h1
            subst h1
            exact absurd h2 (by simp)
        · obtain ⟨c, u, h1, h2, h3, h4, h5⟩ := i1 z hz
          exact ⟨c, u, h1, UInt8.lt_trans hl h2, h3, h4, h5⟩
      · show (ys.foldl bstep (bstep f y)) c = f c
        rw [i2 c (fun z hz => hc z (List.mem_cons_of_mem _ hz)), hb]
        have hne : c ≠ d := fun h => hc y (List.mem_cons_self ..) (by rw [e, h])
        simp [hne]
    · cases h
theorem bv_has {zs : List (ByteArray × ByteArray)} (h : bvOf zs = true) {z : ByteArray × ByteArray} (hz : z ∈ zs) {c : UInt8} (hc : z.1.data.toList = [c]) : isVarB c = true ∧ ∃ t, tyOf z.2.data.toList = some t ∧ bmap zs c = some t := by
  obtain ⟨d, t, h1, _, h3, h4, h5⟩ := (bv_fold zs 0 (fun _ => none) h).1 z hz
  rw [hc] at h1
  injection h1 with h1
  subst h1
  exact ⟨h3, t, h4, h5⟩
theorem bv_not {zs : List (ByteArray × ByteArray)} (h : bvOf zs = true) {c : UInt8} (hc : ∀ z ∈ zs, z.1.data.toList ≠ [c]) : bmap zs c = none := (bv_fold zs 0 (fun _ => none) h).2 c hc

/-- What ApplyBindings needs to come to something. -/
theorem ap_some {zs : List (ByteArray × ByteArray)} {l q : List UInt8} (h : apOf zs l = some q) : bvOf zs = true ∧ ∃ T, tyOf l = some T ∧ (T.sub (once (bmap zs))).text.length ≤ 60 ∧ q = (T.sub (once (bmap zs))).text := by
  unfold apOf at h
  split at h
  · rename_i T h1 h2
    split at h
    · rename_i h3
      injection h with h
      exact ⟨h1, T, h2, h3, h.symm⟩
    · cases h
  · cases h
theorem ap_yes {zs : List (ByteArray × ByteArray)} {l : List UInt8} {T : Ty} (h1 : bvOf zs = true) (h2 : tyOf l = some T) (h3 : (T.sub (once (bmap zs))).text.length ≤ 60) : apOf zs l = some (T.sub (once (bmap zs))).text := by
  unfold apOf
  rw [h1, h2]
  exact if_pos h3
theorem ap_ty {zs : List (ByteArray × ByteArray)} {l q : List UInt8} (h : apOf zs l = some q) : (tyOf q).isSome = true := by
  obtain ⟨_, T, h2, h3, rfl⟩ := ap_some h
  rw [tyOf_of (sub_ok (bmap_fine zs) (tyOf_text h2).2.1).1 h3]
  rfl
theorem ap_kid {zs : List (ByteArray × ByteArray)} {l q : List UInt8} {T : Ty} (hT : tyOf l = some T) (h : apOf zs l = some q) : ∀ a ∈ T.kids, apOf zs a.text = some (a.sub (once (bmap zs))).text := by
  obtain ⟨h1, T', h2, h3, rfl⟩ := ap_some h
  rw [hT] at h2
  injection h2 with h2
  subst h2
  obtain ⟨e, o, z⟩ := tyOf_text hT
  rw [e] at z
  intro a ha
  cases T with
  | lf c => cases ha
  | un c b =>
    simp [Ty.kids] at ha
    subst ha
    simp only [Ty.sub, Ty.text, List.length_append, List.length_cons, List.length_nil] at h3 z
    exact ap_yes h1 (tyOf_of o.2 (by omega)) (by omega)
  | bi c b b' =>
    simp [Ty.kids] at ha
    simp only [Ty.sub, Ty.text, List.length_append, List.length_cons, List.length_nil] at h3 z
    rcases ha with rfl | rfl
    · exact ap_yes h1 (tyOf_of o.2.1 (by omega)) (by omega)
    · exact ap_yes h1 (tyOf_of o.2.2 (by omega)) (by omega)
theorem ap_made {zs : List (ByteArray × ByteArray)} {t : ByteArray} {q : List UInt8} {T : Ty} (hT : tyOf t.data.toList = some T) (h : apOf zs t.data.toList = some q) (hk : T.kids ≠ []) : mkOf (headOf t) (T.kids.map fun a => strOf (a.sub (once (bmap zs))).text) = some q := by
  obtain ⟨h1, T', h2, h3, rfl⟩ := ap_some h
  rw [hT] at h2
  injection h2 with h2
  subst h2
  obtain ⟨e, o, z⟩ := tyOf_text hT
  have hS := tyOf_of (sub_ok (bmap_fine zs) o).1 h3
  have hb := mk_back (t := strOf (T.sub (once (bmap zs))).text) (by rw [strOf_list]; exact hS)
  rw [strOf_list] at hb
  have hp : partsL (T.sub (once (bmap zs))).text = (T.sub (once (bmap zs))).kids.map fun a => strOf a.text := by rw [partsL, hS]
  have hh : headOf (strOf (T.sub (once (bmap zs))).text) = headOf t := by
    rw [headOf, headOf, strOf_list, if_pos (by rw [hS]; rfl), if_pos (by rw [hT]; rfl), e]
    cases T with
    | lf c => exact absurd rfl hk
    | un c a => rfl
    | bi c a b => rfl
  rw [hp, hh] at hb
  rw [← hb]
  cases T with
  | lf c => exact absurd rfl hk
  | un c a => rfl
  | bi c a b => rfl
theorem ap_leaf {zs : List (ByteArray × ByteArray)} {l q : List UInt8} {T : Ty} (hT : tyOf l = some T) (h : apOf zs l = some q) (hk : T.kids = []) : (∀ z ∈ zs, z.1.data.toList = l → q = z.2.data.toList) ∧ ((∀ z ∈ zs, z.1.data.toList ≠ l) → q = l) := by
  obtain ⟨h1, T', h2, h3, rfl⟩ := ap_some h
  rw [hT] at h2
  injection h2 with h2
  subst h2
  obtain ⟨e, o, z⟩ := tyOf_text hT
  cases T with
  | lf c =>
    have e' : l = [c] := e
    subst e'
    refine ⟨fun z hz hc => ?_, fun hn => ?_⟩
    · obtain ⟨hv, t, ht, hb⟩ := bv_has h1 hz hc
      obtain ⟨e2, _, _⟩ := tyOf_text ht
      rw [Ty.sub, if_pos (isVarB_X hv), once, hb, e2]
      rfl
    · have hb := bv_not h1 hn
      rw [Ty.sub]
      split
      · rw [once, hb]; rfl
      · rfl
  | un c a => cases hk
  | bi c a b => cases hk

end Go.Proofs.YteimmgajohimlaaGreat
