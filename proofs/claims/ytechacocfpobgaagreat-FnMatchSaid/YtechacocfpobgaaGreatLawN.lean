/- Plain facts that the laws on matching and apartness turn on. -/
import Derived.Test.YtechacocfpobgaaGreatMtP
import Derived.Test.YtechacocfpobgaaGreatLawV
import Derived.Test.YtechacocfpobgaaGreatUnF
namespace Go.Proofs.YtechacocfpobgaaGreat
open Go.RowKit

theorem var_head (c d : UInt8) (hc : isVarB c = true) (hd : 0 < ar d) : d ≠ c := by
  rintro rfl
  rw [isVarB_ar d hc] at hd
  exact absurd hd (by decide)
theorem has_count {T : Ty} (h : T.ok) {c : UInt8} (hc : isVarB c = true) : 0 < T.text.count c ↔ T.hasL c = true := by
  have p1 : (40 : UInt8) ≠ c := by rintro rfl; exact absurd hc (by decide)
  have p2 : (41 : UInt8) ≠ c := by rintro rfl; exact absurd hc (by decide)
  have p3 : (44 : UInt8) ≠ c := by rintro rfl; exact absurd hc (by decide)
  induction T with
  | lf d =>
    by_cases e : d = c
    · subst e; simp [Ty.text, Ty.hasL]
    · simp [Ty.text, Ty.hasL, e]
  | un d a ih =>
    have e : (Ty.un d a).text = [d] ++ ([40] ++ (a.text ++ [41])) := rfl
    have hd := var_head c d hc (by rw [h.1]; decide)
    rw [e]
    simp only [List.count_append, List.count_cons, List.count_nil, Ty.hasL, ← ih h.2, beq_iff_eq, hd, p1, p2, if_false]
    omega
  | bi d a b iha ihb =>
    have e : (Ty.bi d a b).text = [d] ++ ([40] ++ (a.text ++ ([44] ++ (b.text ++ [41])))) := rfl
    have hd := var_head c d hc (by rw [h.1]; decide)
    rw [e]
    simp only [List.count_append, List.count_cons, List.count_nil, Ty.hasL, Bool.or_eq_true, ← iha h.2.1, ← ihb h.2.2, beq_iff_eq, hd, p1, p2, p3, if_false]
    omega
theorem size_sub (σ : UInt8 → Ty) (T : Ty) : T.size ≤ (T.sub σ).size := by
  have one : ∀ U : Ty, 1 ≤ U.size := by intro U; cases U <;> simp [Ty.size] <;> omega
  induction T with
  | lf c => exact one _
  | un c a ih => simp only [Ty.sub, Ty.size]; omega
  | bi c a b iha ihb => simp only [Ty.sub, Ty.size]; omega
theorem toldL_go (g : UInt8 → Option Ty) : ∀ L : List UInt8, ((L.filterMap fun c => (g c).map fun t => (strOf [c], strOf t.text)).map fun z => z.1.data.toList).flatten = L.filter fun c => (g c).isSome := by
  intro L
  induction L with
  | nil => rfl
  | cons c L ih =>
    rcases hc : g c with _ | t
    · rw [List.filterMap_cons_none (by simp [hc]), ih, List.filter_cons_of_neg (by simp [hc])]
    · rw [List.filterMap_cons_some (b := (strOf [c], strOf t.text)) (by simp [hc]), List.map_cons, List.flatten_cons, ih, List.filter_cons_of_pos (by simp [hc]), strOf_list]
      rfl
/-- The letters of bindings told. -/
def toldL (zs : List (ByteArray × ByteArray)) : List UInt8 := (zs.map fun z => z.1.data.toList).flatten
theorem toldL_told (g : UInt8 → Option Ty) : toldL (told g) = ([88, 89, 90, 120, 121, 122] : List UInt8).filter fun c => (g c).isSome := toldL_go g _
theorem toldL_snoc {zs : List (ByteArray × ByteArray)} {k : Nat} {z : ByteArray × ByteArray} (h : zs[k]? = some z) : toldL (zs.take (k + 1)) = toldL (zs.take k) ++ z.1.data.toList := by
  unfold toldL
  rw [List.take_add_one, h]
  simp
/-- What FnMatch's law asks of a match. -/
theorem match_facts {l l' : List UInt8} {g : UInt8 → Option Ty} (h : mtOf l l' = some g) :
    apOf (told g) l = some l' ∧ bvOf (told g) = true ∧ toldL (told g) = varsOf l ∧ sizeOf' l ≤ sizeOf' l' := by
  have ht := mtOf_tidy h
  have hbv := told_bv ht
  rcases h1 : tyOf l with _ | P
  · unfold mtOf at h; rw [h1] at h; cases h
  rcases h2 : tyOf l' with _ | T
  · unfold mtOf at h; rw [h1, h2] at h; cases h
  have hm : mt P T (fun _ => none) = some g := by unfold mtOf at h; rw [h1, h2] at h; exact h
  obtain ⟨e1, o1, z1⟩ := tyOf_text h1
  obtain ⟨e2, o2, z2⟩ := tyOf_text h2
  have z2' : T.text.length ≤ 60 := by rw [← e2]; exact z2
  obtain ⟨_, m2, m3⟩ := mt_sub P T _ g none_fine o2 z2' hm
  obtain ⟨hs, hv⟩ := m3 g fun _ _ h => h
  refine ⟨?_, hbv, ?_, ?_⟩
  · have := ap_yes (zs := told g) hbv h1 (by rw [told_map ht, hs]; exact z2')
    rw [this, told_map ht, hs, e2]
  · rw [toldL_told]
    unfold varsOf
    rw [if_pos (by rw [h1]; rfl)]
    unfold varsIn
    show List.filter _ ([88, 89, 90, 120, 121, 122] : List UInt8) = List.filter _ ([88, 89, 90, 120, 121, 122] : List UInt8)
    refine List.filter_congr fun c hc => ?_
    have hcv : isVarB c = true := by
      have h5 : c = 88 ∨ c = 89 ∨ c = 90 ∨ c = 120 ∨ c = 121 ∨ c = 122 := by simpa using hc
      rcases h5 with rfl | rfl | rfl | rfl | rfl | rfl <;> decide
    have hh := has_count o1 hcv
    rw [← e1] at hh
    rw [Bool.eq_iff_iff, decide_eq_true_eq, hh]
    constructor
    · intro hs
      obtain ⟨u, hu⟩ := Option.isSome_iff_exists.1 hs
      rcases m2 c u hu with h | h
      · cases h
      · exact h
    · exact fun hl => hv c (isVarB_X hcv) hl
  · unfold sizeOf'
    rw [h1, h2, ← hs]
    have := size_sub (once g) P
    show ((P.size : Nat) : Int) ≤ (((P.sub (once g)).size : Nat) : Int)
    omega

theorem apart_comm {l l' : List UInt8} : Apart l l' ↔ Apart l' l := by
  have key : ∀ l l' : List UInt8, Apart l l' → Apart l' l := fun l l' ⟨P, T, h1, h2, h3⟩ => ⟨T, P, h2, h1, fun θ η e => h3 η θ e.symm⟩
  exact ⟨key l l', key l' l⟩
/-- Nothing is of the form of both of two types that are apart. -/
theorem apart_inst {l l' u : List UInt8} (h : Apart l l') (h1 : (mtOf l u).isSome = true) (h2 : (mtOf l' u).isSome = true) : False := by
  obtain ⟨P, T, e1, e2, h3⟩ := h
  rcases hu : tyOf u with _ | U
  · unfold mtOf at h1; rw [e1, hu] at h1; cases h1
  · obtain ⟨θ, k1⟩ := (mtOf_iff e1 hu).1 h1
    obtain ⟨η, k2⟩ := (mtOf_iff e2 hu).1 h2
    exact h3 θ η (k1.trans k2.symm)
theorem mt_self {l : List UInt8} (h : (tyOf l).isSome = true) : (mtOf l l).isSome = true := by
  obtain ⟨T, hT⟩ := Option.isSome_iff_exists.1 h
  exact (mtOf_iff hT hT).2 ⟨fun c => .lf c, subV_id T fun _ _ _ => rfl⟩
theorem apart_ty {l l' : List UInt8} (h : Apart l l') : (tyOf l).isSome = true ∧ (tyOf l').isSome = true := by
  obtain ⟨P, T, e1, e2, _⟩ := h
  rw [e1, e2]
  exact ⟨rfl, rfl⟩
/-- What is of the form of the other one is not apart from it. -/
theorem apart_self {l l' : List UInt8} (h : Apart l l') : (mtOf l l').isSome = false ∧ (mtOf l' l).isSome = false := by
  refine ⟨Bool.eq_false_iff.2 fun e => apart_inst h e (mt_self (apart_ty h).2), Bool.eq_false_iff.2 fun e => apart_inst h (mt_self (apart_ty h).1) e⟩

end Go.Proofs.YtechacocfpobgaaGreat
