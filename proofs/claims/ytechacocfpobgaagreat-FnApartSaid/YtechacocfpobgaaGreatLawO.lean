/- Plain facts that the laws on unifying and meeting turn on. -/
import Derived.Test.YtechacocfpobgaaGreatLawN
import Derived.Test.YtechacocfpobgaaGreatMeet
namespace Go.Proofs.YtechacocfpobgaaGreat
open Go.RowKit

/-- What a way to make two types the same is. -/
theorem uni_facts {l l' : List UInt8} {P T : Ty} (h1 : tyOf l = some P) (h2 : tyOf l' = some T) {g : UInt8 → Option Ty} (h : uniOf l l' = some g) :
    Tidy g ∧ P.sub (once g) = T.sub (once g) ∧ ∀ c d u, g c = some u → (g d).isSome = true → u.hasL d = false := by
  obtain ⟨hu, hs⟩ := uniOf_short h
  obtain ⟨e1, o1, z1⟩ := tyOf_text h1
  obtain ⟨e2, o2, z2⟩ := tyOf_text h2
  have hsol := ufOf_sol h1 h2
  rw [hu] at hsol
  have ht : Tidy g := by
    rcases sol_known hsol ⟨o1, by rw [← e1]; exact z1⟩ ⟨o2, by rw [← e2]; exact z2⟩ (V := isVarB) (lt := ltV) (fun _ _ => rfl) (fun _ _ _ _ _ _ => rfl) with ⟨h, _⟩ | ⟨g0, h0, e, _, hk⟩
    · cases h
    · injection e with e
      subst e
      exact fun c t hc => ⟨(hk.lim c t hc).1, (hk.lim c t hc).2.1, hs c t hc⟩
  rcases sol_mgu hsol with ⟨h, _⟩ | ⟨g0, σ, e, hm⟩
  · cases h
  injection e with e
  have hg : ∀ c, g c = if (g0 c).isSome = true then some (σ c) else none := fun c => by rw [e]; exact mgu_val hm c
  obtain ⟨ρ, M, hI⟩ := hm.inv
  have hon : ∀ c, isVarB c = true → once g c = σ c := by
    intro c hc
    rw [once, hg]
    rcases h0 : g0 c with _ | t
    · exact (hI.free c hc h0).symm
    · rfl
  refine ⟨ht, ?_, ?_⟩
  · rw [once_eq hon o1, once_eq hon o2]
    exact hm.same
  · intro c d u hc hd
    have hdv : isVarB d = true := by
      obtain ⟨v, hv⟩ := Option.isSome_iff_exists.1 hd
      exact (ht d v hv).1
    have hcv := (ht c u hc).1
    rw [hg] at hc hd
    have hgd : (g0 d).isSome = true := by
      rcases h0 : g0 d with _ | t
      · rw [h0] at hd; cases hd
      · rfl
    have huc : σ c = u := by
      split at hc
      · injection hc
      · cases hc
    refine Bool.eq_false_iff.2 fun hh => ?_
    rw [← huc] at hh
    have := hI.last hdv _ c (hI.lim c) hcv hh
    rw [this] at hgd
    cases hgd
theorem uni_ty {l l' : List UInt8} {g : UInt8 → Option Ty} (h : uniOf l l' = some g) : ∃ P T, tyOf l = some P ∧ tyOf l' = some T := by
  obtain ⟨hu, _⟩ := uniOf_short h
  rcases h1 : tyOf l with _ | P
  · rw [ufOf_none (.inl h1)] at hu; cases hu
  rcases h2 : tyOf l' with _ | T
  · rw [ufOf_none (.inr h2)] at hu; cases hu
  exact ⟨P, T, rfl, rfl⟩
/-- Bindings put into both types. -/
theorem uni_both {l l' : List UInt8} {g : UInt8 → Option Ty} (h : uniOf l l' = some g) : apOf (told g) l = apOf (told g) l' ∧ bvOf (told g) = true := by
  obtain ⟨P, T, h1, h2⟩ := uni_ty h
  obtain ⟨ht, hs, _⟩ := uni_facts h1 h2 h
  have hb := told_bv ht
  refine ⟨?_, hb⟩
  unfold apOf
  rw [hb, h1, h2, told_map ht]
  dsimp only
  rw [hs]
/-- What two types meet in is of the form of both. -/
theorem meet_inst {l l' u : List UInt8} (h : meetOf l l' = some u) : (mtOf l u).isSome = true ∧ (mtOf l' u).isSome = true := by
  unfold meetOf at h
  split at h
  · cases h
  · rename_i g hg
    obtain ⟨P, T, h1, h2⟩ := uni_ty hg
    obtain ⟨ht, hs, _⟩ := uni_facts h1 h2 hg
    obtain ⟨_, P', h1', hz, hu⟩ := ap_some h
    rw [h1] at h1'
    injection h1' with h1'
    subst h1'
    rw [told_map ht] at hu hz
    have o1 := (tyOf_text h1).2.1
    have o2 := (tyOf_text h2).2.1
    have hU : tyOf u = some (P.sub (once g)) := by
      rw [hu]
      exact tyOf_of (sub_ok (tidy_fine ht) o1).1 hz
    exact ⟨(mtOf_iff h1 hU).2 ⟨once g, (sub_B o1 _).symm⟩, (mtOf_iff h2 hU).2 ⟨once g, by rw [← sub_B o2, hs]⟩⟩
theorem meet_uni {l l' : List UInt8} {g : UInt8 → Option Ty} (h : uniOf l l' = some g) : meetOf l l' = apOf (told g) l := by unfold meetOf; rw [h]
theorem meet_no {l l' : List UInt8} (h : uniOf l l' = none) : meetOf l l' = none := by unfold meetOf; rw [h]
/-- No variable that has a binding stands in one. -/
theorem uni_gone {l l' : List UInt8} {g : UInt8 → Option Ty} (h : uniOf l l' = some g) {z z' : ByteArray × ByteArray} (hz : z ∈ told g) (hz' : z' ∈ told g) : cvOf z'.2 z.1 = 0 := by
  obtain ⟨P, T, h1, h2⟩ := uni_ty h
  obtain ⟨ht, _, hn⟩ := uni_facts h1 h2 h
  obtain ⟨c, t, _, hc, rfl⟩ := told_mem hz
  obtain ⟨d, u, _, hd, rfl⟩ := told_mem hz'
  obtain ⟨vc, _, _⟩ := ht c t hc
  obtain ⟨_, o, lu⟩ := ht d u hd
  have hl := hn d c u hd (by rw [hc]; rfl)
  have h0 : u.text.count c = 0 := by
    have := has_count o vc
    rw [hl] at this
    have h2 : ¬ 0 < u.text.count c := fun h => by have := this.1 h; cases this
    omega
  unfold cvOf
  rw [if_pos ⟨by rw [strOf_list, tyOf_of o lu]; rfl, by rw [strOf_size]; rfl, by rw [strOf_list]; exact vc⟩, strOf_list, strOf_list]
  show ((u.text.count c : Nat) : Int) = 0
  rw [h0]
  rfl

end Go.Proofs.YtechacocfpobgaaGreat
