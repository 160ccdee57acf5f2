/- DepthOf, in the program and in the model. Plain facts on types that the general laws of chapter 1 turn on. -/
import Derived.Test.YtechacocfpobgaaGreatPartsI
import Derived.Test.YtechacocfpobgaaGreatRen
namespace Go.Proofs.YtechacocfpobgaaGreat
open Go.RowKit

/-- A type's depth; -1 for what is none. -/
def depthOf' (l : List UInt8) : Int := match tyOf l with | some t => (t.depth : Nat) | none => -1
theorem tyOf_depth {l : List UInt8} {t : Ty} (h : tyOf l = some t) : t.depth ≤ 60 := Nat.le_trans (depth_size t) (tyOf_size h)

end Go.Proofs.YtechacocfpobgaaGreat

namespace Go.Proofs.YtechacocfpobgaaGreat
open Go.RowKit

theorem capB_idem (c : UInt8) : capB (capB c) = capB c := by
  refine u8_all (p := fun c => capB (capB c) = capB c) ?_ c
  decide +kernel
theorem renOf_no {l : List UInt8} (h : tyOf l = none) : renOf l = [] := by rw [renOf, if_neg (by rw [h]; decide)]
theorem renOf_yes {l : List UInt8} {T : Ty} (h : tyOf l = some T) : renOf l = l.map capB ∧ tyOf (renOf l) = some T.ren ∧ (renOf l).length = l.length ∧ renOf l ≠ [] := by
  obtain ⟨e, o, z⟩ := tyOf_text h
  have h1 : renOf l = l.map capB := by rw [renOf, if_pos (by rw [h]; rfl)]
  have h2 : renOf l = T.ren.text := by rw [h1, e, ren_text o]
  have h3 : (renOf l).length = l.length := by rw [h1, List.length_map]
  refine ⟨h1, ?_, h3, ?_⟩
  · rw [h2]
    exact tyOf_of (ren_ok o) (by rw [← h2, h3]; exact z)
  · intro hn
    have := text_pos T
    rw [hn, e] at h3
    simp at h3
    omega
theorem ren_size (T : Ty) : T.ren.size = T.size := by
  induction T with
  | lf c => rfl
  | un c a ih => simp [Ty.ren, Ty.size, ih]
  | bi c a b iha ihb => simp [Ty.ren, Ty.size, iha, ihb]
theorem ren_depth (T : Ty) : T.ren.depth = T.depth := by
  induction T with
  | lf c => rfl
  | un c a ih => simp [Ty.ren, Ty.depth, ih]
  | bi c a b iha ihb => simp [Ty.ren, Ty.depth, iha, ihb]
theorem renOf_idem {l : List UInt8} {T : Ty} (h : tyOf l = some T) : renOf (renOf l) = renOf l := by
  obtain ⟨h1, h2, _, _⟩ := renOf_yes h
  rw [(renOf_yes h2).1, h1, List.map_map]
  exact List.map_congr_left fun c _ => capB_idem c
theorem capB_small (c : UInt8) : ¬ (120 ≤ (capB c).toNat ∧ (capB c).toNat ≤ 122) := by
  refine u8_all (p := fun c => ¬ (120 ≤ (capB c).toNat ∧ (capB c).toNat ≤ 122)) ?_ c
  decide +kernel
theorem ren_vars {l : List UInt8} {T : Ty} (h : tyOf l = some T) {c : UInt8} (hc : c ∈ varsOf (renOf l)) : c.toNat ≤ 90 := by
  rw [varsOf, if_pos (by rw [(renOf_yes h).2.1]; rfl), varsIn, List.mem_filter] at hc
  obtain ⟨h1, h2⟩ := hc
  simp only [decide_eq_true_eq] at h2
  have h3 := List.count_pos_iff.1 h2
  rw [(renOf_yes h).1] at h3
  obtain ⟨d, _, rfl⟩ := List.mem_map.1 h3
  have h4 := capB_small d
  generalize capB d = e at *
  have h5 : e = 88 ∨ e = 89 ∨ e = 90 ∨ e = 120 ∨ e = 121 ∨ e = 122 := by simpa [V6] using h1
  rcases h5 with rfl | rfl | rfl | rfl | rfl | rfl <;> first | decide | exact absurd (by decide) h4
theorem ground_ren {l : List UInt8} (h : groundB l = true) : renOf l = l := by
  unfold groundB at h
  simp only [Bool.and_eq_true] at h
  obtain ⟨h1, h2⟩ := h
  obtain ⟨T, hT⟩ := Option.isSome_iff_exists.1 h1
  rw [(renOf_yes hT).1]
  have h3 : varsOf l = [] := by simpa using h2
  rw [varsOf, if_pos h1, varsIn, List.filter_eq_nil_iff] at h3
  have h5 : ∀ c, c ∈ l → capB c = c := by
    intro c hc
    refine capB_con c ?_
    rcases hv : isVarB c with _ | _
    · rfl
    · have : c ∈ V6.data.toList := by
        revert hv
        refine u8_all (p := fun c => isVarB c = true → c ∈ V6.data.toList) ?_ c
        decide +kernel
      have h4 := h3 c this
      simp only [decide_eq_true_eq] at h4
      exact absurd (List.count_pos_iff.2 hc) h4
  exact (List.map_congr_left h5).trans (List.map_id' l)

end Go.Proofs.YtechacocfpobgaaGreat
