/- Plain facts of dictionaries that the general law of MakeDict turns on. -/
import Derived.Test.YtlpfgiegapelmaaDoorDcU
namespace Go.Proofs.YtlpfgiegapelmaaDoor
open Go.RowKit
set_option linter.unusedVariables false

theorem part_ok {l : List UInt8} {c : UInt8} {ps : List Dt} (h : dtOf l = some (.nd c ps)) : ∀ p ∈ ps, dtOf p.text = some p := by
  obtain ⟨ht, ho, hl⟩ := dtOf_text h
  intro p hp
  refine dtOf_of (((Dt.ok_nd c ps).1 ho).2.2 p hp) ?_
  have h1 := mem_len (i := 0) hp
  rw [ht, Dt.text_nd] at hl
  simp only [List.length_cons, List.length_append] at hl
  omega
theorem dtsOf_texts {ps : List Dt} (h : ∀ p ∈ ps, dtOf p.text = some p) : dtsOf (ps.map fun p => strOf p.text) = ps := by
  induction ps with
  | nil => rfl
  | cons p ps ih =>
    have h1 := h p (List.mem_cons_self ..)
    have h2 := ih fun q hq => h q (List.mem_cons_of_mem _ hq)
    unfold dtsOf at h2 ⊢
    rw [List.map_cons, List.filterMap_cons_some (b := p) (by rw [strOf_list]; exact h1), h2]
theorem dg_back {c : UInt8} (h : isDg c = true) : dgOf (c.toNat - 48) = c := by
  obtain ⟨h1, h2⟩ := dg_val h
  unfold dgOf
  rw [show 48 + (c.toNat - 48) = c.toNat by omega, UInt8.ofNat_toNat]
theorem mkD_back {l : List UInt8} {c : UInt8} {ps : List Dt} (h : dtOf l = some (.nd c ps)) : mkD ((c.toNat - 48 : Nat) : Int) (dpsOf l) = some l := by
  obtain ⟨ht, ho, hl⟩ := dtOf_text h
  obtain ⟨hd, h3, _⟩ := (Dt.ok_nd c ps).1 ho
  obtain ⟨h1, h2⟩ := dg_val hd
  have hp := part_ok h
  have e : dpsOf l = ps.map fun p => strOf p.text := by unfold dpsOf; rw [h]
  rw [mkD_all (by omega) (by rw [e, List.length_map]; exact h3) (fun x hx => ?_), e, dtsOf_texts hp, dg_back hd, ← ht, if_pos hl]
  rw [e] at hx
  obtain ⟨p, hpm, rfl⟩ := List.mem_map.1 hx
  rw [strOf_list, hp p hpm]
  rfl
theorem sizeL_append (xs ys : List Dt) : sizeL xs ≤ sizeL (xs ++ ys) := by
  induction xs with
  | nil => exact Nat.zero_le _
  | cons x xs ih => simp only [List.cons_append, sizeL]; omega
theorem one_dg (c : UInt8) : ((List.range 10).filter fun i => c == dgOf i).length ≤ 1 := by
  refine u8_all (p := fun c => ((List.range 10).filter fun i => c == dgOf i).length ≤ 1) ?_ c
  decide +kernel
theorem filter_or_len {α : Type} (l : List α) (f g : α → Bool) : (l.filter fun x => f x || g x).length ≤ (l.filter f).length + (l.filter g).length := by
  induction l with
  | nil => exact Nat.le_refl _
  | cons a l ih =>
    simp only [List.filter_cons]
    rcases hf : f a with _ | _ <;> rcases hg : g a with _ | _ <;> simp <;> omega
theorem has_len (d : Dt) : ((List.range 10).filter fun i => d.has (dgOf i)).length ≤ d.size := by
  induction d using Dt.ind with
  | h c ps ih =>
    have h1 := filter_or_len (List.range 10) (fun i => c == dgOf i) (fun i => hasL (dgOf i) ps)
    have h2 := one_dg c
    have h3 : ((List.range 10).filter fun i => hasL (dgOf i) ps).length ≤ sizeL ps := by
      induction ps with
      | nil =>
        rw [show (List.range 10).filter (fun i => hasL (dgOf i) []) = [] from List.filter_eq_nil_iff.2 (by intro a _; simp [hasL])]
        exact Nat.zero_le _
      | cons p ps ihp =>
        have h4 := filter_or_len (List.range 10) (fun i => p.has (dgOf i)) (fun i => hasL (dgOf i) ps)
        have h5 := ih p (List.mem_cons_self ..)
        have h6 := ihp (fun q hq => ih q (List.mem_cons_of_mem _ hq)) (filter_or_len (List.range 10) (fun i => c == dgOf i) (fun i => hasL (dgOf i) ps))
        simp only [hasL, sizeL]
        omega
    have e : (fun i => (Dt.nd c ps).has (dgOf i)) = fun i => (c == dgOf i || hasL (dgOf i) ps) := funext fun i => Dt.has_nd _ _ _
    rw [e, Dt.size_nd]
    omega
theorem insIn_size {l : List UInt8} {d : Dt} (h : dtOf l = some d) : (insIn l).length ≤ d.size := by
  unfold insIn
  rw [h]
  exact has_len d

end Go.Proofs.YtlpfgiegapelmaaDoor
