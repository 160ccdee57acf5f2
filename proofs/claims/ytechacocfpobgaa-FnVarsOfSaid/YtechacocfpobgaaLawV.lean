/- Plain facts on variables of types: how often they stand there. -/
import Derived.Test.YtechacocfpobgaaLawW
import Derived.Test.YtechacocfpobgaaPartsI
namespace Go.Proofs.Ytechacocfpobgaa
open Go.RowKit

/-- How often the variables stand in a list, together. -/
def cnt6 (l : List UInt8) : Nat := l.count 88 + l.count 89 + l.count 90 + l.count 120 + l.count 121 + l.count 122
theorem cnt6_append (l r : List UInt8) : cnt6 (l ++ r) = cnt6 l + cnt6 r := by
  simp only [cnt6, List.count_append]
  omega
theorem cnt6_one (c : UInt8) : cnt6 [c] ≤ 1 := by
  refine u8_all (p := fun c => cnt6 [c] ≤ 1) ?_ c
  decide +kernel
theorem cnt6_head (c : UInt8) (h : 0 < ar c) : cnt6 [c] = 0 := by
  revert h
  refine u8_all (p := fun c => 0 < ar c → cnt6 [c] = 0) ?_ c
  decide +kernel
theorem cnt6_size {T : Ty} (h : T.ok) : cnt6 T.text ≤ T.size := by
  induction T with
  | lf c => exact cnt6_one c
  | un c a ih =>
    have e : (Ty.un c a).text = [c] ++ ([40] ++ (a.text ++ [41])) := rfl
    have h0 := cnt6_head c (by rw [h.1]; decide)
    have h1 : cnt6 [40] = 0 := rfl
    have h2 : cnt6 [41] = 0 := rfl
    have := ih h.2
    rw [e, cnt6_append, cnt6_append, cnt6_append, h0, h1, h2]
    simp only [Ty.size]
    omega
  | bi c a b iha ihb =>
    have e : (Ty.bi c a b).text = [c] ++ ([40] ++ (a.text ++ ([44] ++ (b.text ++ [41])))) := rfl
    have h0 := cnt6_head c (by rw [h.1]; decide)
    have h1 : cnt6 [40] = 0 := rfl
    have h2 : cnt6 [41] = 0 := rfl
    have h3 : cnt6 [44] = 0 := rfl
    have e1 := iha h.2.1
    have e2 := ihb h.2.2
    rw [e, cnt6_append, cnt6_append, cnt6_append, cnt6_append, cnt6_append, h0, h1, h2, h3]
    simp only [Ty.size]
    omega
/-- The sum of what a list of letters counts. -/
def sumC (l vs : List UInt8) : Nat := (vs.map fun c => l.count c).sum
theorem sumC_filter (l vs : List UInt8) (p : UInt8 → Bool) : sumC l (vs.filter p) ≤ sumC l vs := by
  induction vs with
  | nil => exact Nat.le_refl _
  | cons c vs ih =>
    rw [List.filter_cons]
    split
    · simp only [sumC, List.map_cons, List.sum_cons] at ih ⊢
      omega
    · simp only [sumC, List.map_cons, List.sum_cons] at ih ⊢
      omega
theorem sumC_V6 (l : List UInt8) : sumC l V6.data.toList = cnt6 l := by
  simp [sumC, cnt6, V6]
  omega
theorem sumC_snoc (l : List UInt8) {vs : List UInt8} {k : Nat} {c : UInt8} (h : vs[k]? = some c) : sumC l (vs.take (k + 1)) = sumC l (vs.take k) + l.count c := by
  rw [List.take_add_one, h]
  simp [sumC]
theorem sumC_take (l vs : List UInt8) (k : Nat) : sumC l (vs.take k) ≤ sumC l vs := by
  have := congrArg (fun v => (List.map (fun c => l.count c) v).sum) (List.take_append_drop k vs)
  simp only [List.map_append, List.sum_append] at this
  unfold sumC
  omega
theorem vars_sum {l : List UInt8} {T : Ty} (h : tyOf l = some T) : sumC l (varsOf l) ≤ T.size := by
  obtain ⟨e, o, _⟩ := tyOf_text h
  rw [varsOf, if_pos (by rw [h]; rfl), varsIn]
  refine Nat.le_trans (sumC_filter _ _ _) ?_
  rw [sumC_V6]
  have := cnt6_size o
  rw [← e] at this
  exact this
theorem vars_mem {l : List UInt8} {c : UInt8} (h : c ∈ varsOf l) : (tyOf l).isSome = true ∧ isVarB c = true ∧ 1 ≤ l.count c := by
  rw [varsOf] at h
  split at h
  · rename_i hv
    rw [varsIn, List.mem_filter] at h
    refine ⟨hv, ?_, by simpa using h.2⟩
    have h5 : c = 88 ∨ c = 89 ∨ c = 90 ∨ c = 120 ∨ c = 121 ∨ c = 122 := by simpa [V6] using h.1
    rcases h5 with rfl | rfl | rfl | rfl | rfl | rfl <;> decide
  · cases h
theorem cv_of_var {s v : ByteArray} {c : UInt8} (h : c ∈ varsOf s.data.toList) (hv : v.data.toList = [c]) : cvOf s v = (s.data.toList.count c : Nat) := by
  obtain ⟨h1, h2, _⟩ := vars_mem h
  have e : v.size = 1 := by
    have : v.size = v.data.toList.length := by simp
    rw [this, hv]
    rfl
  rw [cvOf, if_pos ⟨h1, e, by rw [hv]; exact h2⟩, hv]
  rfl
theorem extract_one {q : ByteArray} {k : Nat} {c : UInt8} (h : k < q.data.toList.length) (hc : q.data.toList[k] = c) : (q.extract k (k + 1)).data.toList = [c] := by
  rw [ByteArray.data_extract, Array.toList_extract, List.extract_eq_take_drop]
  rw [show k + 1 - k = 1 by omega, List.drop_eq_getElem_cons h, hc]
  rfl
theorem ground_vars (l : List UInt8) : groundB l = ((tyOf l).isSome && (varsOf l).isEmpty) := rfl

end Go.Proofs.Ytechacocfpobgaa
