/- l2Match of the model, whole. -/
import Derived.Test.YteimmgajohimlaaGreatMtT
import Derived.Test.YteimmgajohimlaaGreatUnW
namespace Go.Proofs.YteimmgajohimlaaGreat
open Go.RowKit

set_option maxHeartbeats 800000 in
set_option maxRecDepth 100000 in
theorem matchN_clash (c d : UInt8) (hc : Hid (l2ix c = -1)) (hne : c ≠ d) (A B : Option Addr) (m cap m' cap' mb : Nat) (w : World) (S : Nat → Prop) :
    Calls Tryz.prog 36 #[.pointer (some ⟨mb, 0, none⟩), .agg #[.int .u8 c.toNat, .slice A m cap], .agg #[.int .u8 d.toNat, .slice B m' cap']] w (MtEndN w mb S none) := by
  have hcd : ((c.toNat : Int) != d.toNat) = true := by
    simp only [bne_iff_ne, ne_eq]
    intro e
    exact hne (UInt8.toNat_inj.1 (by omega))
  go_enter Tryz.func36, Tryz.ntmps36
  go_wp2_with fail
  refine (l2Index_at c (-1) hc _).mono ?_
  rintro e w1 ⟨rfl, rfl⟩
  go_wp2_with fail
  go_ret
  exact ⟨But.of_below (((Below.refl _ _).alloc (Nat.le_refl _) _).alloc (by simp only [World.size_alloc]; omega) _), rfl⟩

theorem ar_ix (c : UInt8) : (ar c = 0 → isVarX c = false → l2ix c = -1) ∧ (ar c = 0 → isVarX c = true → 0 ≤ l2ix c) := by
  refine u8_all (p := fun c => (ar c = 0 → isVarX c = false → l2ix c = -1) ∧ (ar c = 0 → isVarX c = true → 0 ≤ l2ix c)) ?_ c
  decide +kernel
theorem repN_head {w : World} {S : Nat → Prop} {t : Ty} {c : UInt8} {p : Value} (h : RepN w S t (.int .u8 c.toNat) p) : c = t.top := by
  have key : ∀ d : UInt8, (Value.int .u8 (c.toNat : Int) = .int .u8 d.toNat) → c = d := by
    intro d e
    simp only [Value.int.injEq, true_and] at e
    exact UInt8.toNat_inj.1 (by omega)
  cases t with
  | lf d => exact key d h.1
  | un d a => exact key d h.1
  | bi d a b => exact key d h.1
theorem mtC_clash {P t : Ty} {f : UInt8 → Option Ty} (hv : ∀ c, P = .lf c → isVarX c = false) (h : P.top ≠ t.top) : mt P t f = none := by
  cases P with
  | lf c =>
    unfold mt
    rw [if_neg (by rw [hv c rfl]; decide)]
    cases t with
    | lf d => exact if_neg h
    | un d a => rfl
    | bi d a a' => rfl
  | un c a =>
    cases t with
    | lf d => rfl
    | un d a => exact if_neg h
    | bi d a a' => rfl
  | bi c a a' =>
    cases t with
    | lf d => rfl
    | un d a => rfl
    | bi d y y' => exact if_neg h

theorem matchN_any (P : Ty) : MatchN P := by
  induction P with
  | lf c0 =>
    intro t f S mb c A m cap d B m' cap' w hst hr1 hr2 hmS hS hf hP ht hl
    obtain rfl : c = c0 := repN_head hr1
    rcases hv : isVarX c with _ | _
    · have hix := (ar_ix c).1 hP hv
      by_cases htop : c = t.top
      · cases t with
        | lf e =>
          obtain rfl : c = e := htop
          obtain rfl : d = c := repN_head hr2
          have hm : mt (.lf d) (.lf d) f = some f := by
            unfold mt
            rw [if_neg (by rw [hv]; decide)]
            exact if_pos rfl
          rw [hm]
          obtain ⟨_, A', cp, hA⟩ := hr1
          obtain ⟨_, B', cp', hB⟩ := hr2
          simp only [Value.slice.injEq] at hA hB
          obtain ⟨rfl, rfl, rfl⟩ := hA
          obtain ⟨rfl, rfl, rfl⟩ := hB
          exact matchN_row d (hid hix) [] [] 0 cap cap' A B rfl rfl (by omega) f S mb w (fun t ht => by cases ht) hst (fun j a h => by simp at h) (fun j a h => by simp at h) hmS hS hf (fun t ht => by cases ht) (fun u hu => by cases hu)
        | un e a =>
          have h1 : ar c = 0 := hP
          rw [show c = e from htop, ht.1] at h1
          cases h1
        | bi e a a' =>
          have h1 : ar c = 0 := hP
          rw [show c = e from htop, ht.1] at h1
          cases h1
      · rw [mtC_clash (P := .lf c) (t := t) (f := f) (fun e he => by injection he with he; rw [← he]; exact hv) htop]
        exact matchN_clash c d (hid hix) (by rw [repN_head hr2]; exact htop) A B m cap m' cap' mb w S
    · obtain ⟨k, hk⟩ : ∃ k : Nat, l2ix c = (k : Int) := ⟨(l2ix c).toNat, by have := (ar_ix c).2 hP hv; omega⟩
      rcases hfc : f c with _ | u
      · have hm : mt (.lf c) t f = some (bindT f c t) := by
          unfold mt
          rw [if_pos hv, hfc]
        rw [hm]
        exact matchN_free c k (hid hk) t f S mb A m cap d B m' cap' w hst hfc hr2 hmS hS (text_ne0 (ok_inner ht) hr2)
      · have hm : mt (.lf c) t f = if u.text = t.text then some f else none := by
          unfold mt
          rw [if_pos hv, hfc]
        exact matchN_bound c k (hid hk) t u f S mb A m cap d B m' cap' w hst hfc hr2 hS hl (hf c u hfc).2 _ (hid hm)
  | un c0 a ih =>
    intro t f S mb c A m cap d B m' cap' w hst hr1 hr2 hmS hS hf hP ht hl
    obtain rfl : c = c0 := repN_head hr1
    have hix := ((ar_inner c).2.1 hP.1).1
    by_cases htop : c = t.top
    · cases t with
      | un e b =>
        obtain rfl : c = e := htop
        obtain rfl : d = c := repN_head hr2
        have hm : mt (.un d a) (.un d b) f = mtL [a] [b] f := by
          show (if d = d then mt a b f else none) = (match mt a b f with | some g => some g | none => none)
          rw [if_pos rfl]
          cases mt a b f <;> rfl
        rw [hm]
        obtain ⟨_, A', cp, hA, ka⟩ := un_kids hr1
        obtain ⟨_, B', cp', hB, kb⟩ := un_kids hr2
        simp only [Value.slice.injEq] at hA hB
        obtain ⟨rfl, rfl, rfl⟩ := hA
        obtain ⟨rfl, rfl, rfl⟩ := hB
        refine matchN_row d (hid hix) [a] [b] 1 cap cap' A B rfl rfl (by omega) f S mb w (fun t ht => ?_) hst ka kb hmS hS hf (fun t ht => ?_) (fun u hu => ?_)
        · obtain rfl : t = a := by simpa using ht
          exact ih
        · obtain rfl : t = a := by simpa using ht
          exact hP.2
        · obtain rfl : u = b := by simpa using hu
          exact ⟨ht.2, by simp [Ty.text] at hl; omega⟩
      | lf e =>
        have h1 : ar c = 1 := hP.1
        rw [show c = e from htop, show ar e = 0 from ht] at h1
        cases h1
      | bi e a1 a' =>
        have h1 : ar c = 1 := hP.1
        rw [show c = e from htop, ht.1] at h1
        cases h1
    · rw [mtC_clash (P := .un c a) (t := t) (f := f) (fun e he => by cases he) htop]
      exact matchN_clash c d (hid hix) (by rw [repN_head hr2]; exact htop) A B m cap m' cap' mb w S
  | bi c0 a a' iha ihb =>
    intro t f S mb c A m cap d B m' cap' w hst hr1 hr2 hmS hS hf hP ht hl
    obtain rfl : c = c0 := repN_head hr1
    have hix := ((ar_inner c).2.2 hP.1).1
    by_cases htop : c = t.top
    · cases t with
      | bi e b b' =>
        obtain rfl : c = e := htop
        obtain rfl : d = c := repN_head hr2
        have hm : mt (.bi d a a') (.bi d b b') f = mtL [a, a'] [b, b'] f := by
          show (if d = d then (match mt a b f with | some g => mt a' b' g | none => none) else none) = (match mt a b f with | some g => (match mt a' b' g with | some h => some h | none => none) | none => none)
          rw [if_pos rfl]
          cases mt a b f with
          | none => rfl
          | some g =>
            show mt a' b' g = (match mt a' b' g with | some h => some h | none => none)
            cases mt a' b' g <;> rfl
        rw [hm]
        obtain ⟨_, A', cp, hA, ka⟩ := bi_kids hr1
        obtain ⟨_, B', cp', hB, kb⟩ := bi_kids hr2
        simp only [Value.slice.injEq] at hA hB
        obtain ⟨rfl, rfl, rfl⟩ := hA
        obtain ⟨rfl, rfl, rfl⟩ := hB
        refine matchN_row d (hid hix) [a, a'] [b, b'] 2 cap cap' A B rfl rfl (by omega) f S mb w (fun t ht => ?_) hst ka kb hmS hS hf (fun t ht => ?_) (fun u hu => ?_)
        · simp only [List.mem_cons, List.not_mem_nil, or_false] at ht
          rcases ht with rfl | rfl
          · exact iha
          · exact ihb
        · simp only [List.mem_cons, List.not_mem_nil, or_false] at ht
          rcases ht with rfl | rfl
          · exact hP.2.1
          · exact hP.2.2
        · simp only [List.mem_cons, List.not_mem_nil, or_false] at hu
          rcases hu with rfl | rfl
          · exact ⟨ht.2.1, by simp [Ty.text] at hl; omega⟩
          · exact ⟨ht.2.2, by simp [Ty.text] at hl; omega⟩
      | lf e =>
        have h1 : ar c = 2 := hP.1
        rw [show c = e from htop, show ar e = 0 from ht] at h1
        cases h1
      | un e a1 =>
        have h1 : ar c = 2 := hP.1
        rw [show c = e from htop, ht.1] at h1
        cases h1
    · rw [mtC_clash (P := .bi c a a') (t := t) (f := f) (fun e he => by cases he) htop]
      exact matchN_clash c d (hid hix) (by rw [repN_head hr2]; exact htop) A B m cap m' cap' mb w S

end Go.Proofs.YteimmgajohimlaaGreat
