/- UnifyTypes of the program. -/
import Derived.Test.YteimmgajohimlaaGreatTxK
import Derived.Test.YteimmgajohimlaaGreatUnM
namespace Go.Proofs.YteimmgajohimlaaGreat
open Go.RowKit

/-- How UnifyTypes ends. -/
def UnifyEnd (w : World) (l l' : List UInt8) (e : Ending) (w' : World) : Prop :=
  Below w.heap.size w w' ∧ match uniOf l l' with
    | none => e = .returned (.tuple #[.slice none 0 0, .bool false])
    | some g => ∃ v, e = .returned (.tuple #[v, .bool true]) ∧ w'.ownsRow w.heap.size 33 2 v (told g).length (cells2 (told g))
theorem ltV_B : ∀ v w, ar v = 0 → ar w = 0 → isVarB v = true → isVarB w = true → ltV v w = ltB v w := fun _ _ _ _ _ _ => rfl
theorem upto_lim {h : UInt8 → Option Ty} (hl : ∀ c u, h c = some u → isVarB c = true ∧ u.ok ∧ u.text.length ≤ 46656000000) : (∀ c, (upto h 12 c).isSome = true → isVarB c = true) ∧ ((∀ c b, upto h 12 c = some b → b.length ≤ 60) → Short h) ∧ ((∃ c b, upto h 12 c = some b ∧ 60 < b.length) → ¬ Short h) := by
  refine ⟨fun c hc => ?_, fun hs c u hu => ?_, ?_⟩
  · rw [upto_all] at hc
    split at hc
    · rcases hh : h c with _ | u
      · rw [hh] at hc; cases hc
      · exact (hl c u hh).1
    · cases hc
  · refine hs c u.text ?_
    rw [upto_all, if_pos (isVarB_X (hl c u hu).1), hu]
    rfl
  · rintro ⟨c, b, hb, hlt⟩ hs
    rw [upto_all] at hb
    split at hb
    · rcases hh : h c with _ | u
      · rw [hh] at hb; cases hb
      · rw [hh] at hb
        have e : u.text = b := by injection hb
        have := hs c u hh
        rw [e] at this
        omega
    · cases hb

set_option maxHeartbeats 1600000 in
set_option maxRecDepth 100000 in
theorem unifyTypes_any (a b : ByteArray) (w : World) (ha : a.size ≤ maxLen) (hb : b.size ≤ maxLen) : Calls Tryz.prog 17 #[.string a, .string b] w (UnifyEnd w a.data.toList b.data.toList) := by
  have hmf : ∀ (fn : Fn) (first cap : Array Value) (w : World), (Instr.makeFunc fn first cap).run Tryz.prog w = .ok (.func fn first cap) w := fun _ _ _ _ => rfl
  go_enter Tryz.func17, Tryz.ntmps17
  go_wp2_with fail
  refine (readTypes_any a b _ ha hb).mono ?_
  rintro e w1 ⟨hb1, ⟨hn, v, v', rfl⟩ | ⟨P, T, T1, b1, T2, b2, hP, hT, rfl, hr1, hr2⟩⟩
  · have HM := hid (uniOf_none (ufOf_none hn))
    clear hn
    go_wp2_with fail
    refine bodyPost_ret (v := .tuple #[.slice none 0 0, .bool false]) (by simp [results, Tryz.results17, go_sem]) rfl ⟨hb1.alloc hb1.size _, ?_⟩
    rw [HM.out]
  · obtain ⟨eP, oP, lP⟩ := tyOf_text hP
    obtain ⟨eT, oT, lT⟩ := tyOf_text hT
    have HSOL := hid (sol_known (ufOf_sol hP hT) ⟨oP, by rw [← eP]; exact lP⟩ ⟨oT, by rw [← eT]; exact lT⟩ (V := isVarX) (lt := ltB) (fun c hc => isVarX_ok hc) ltV_B)
    have HR1 := hid hr1
    have HR2 := hid hr2
    have z1 := hb1.size
    clear hr1 hr2 hP hT oP oT eT lT eP lP
    go_wp2_with fail
    obtain ⟨W1, hW1⟩ : ∃ W1, w1.alloc (.cells #[.nilIface, .nilIface, .nilIface, .nilIface, .nilIface, .nilIface, .nilIface, .nilIface, .nilIface, .nilIface, .nilIface, .nilIface] 53) = W1 := ⟨_, rfl⟩
    have hst0 := Stnd.new w1
    have hbW : Below w1.heap.size w1 W1 := by rw [← hW1]; exact (Below.refl _ _).alloc (Nat.le_refl _) _
    rw [hW1] at hst0 ⊢
    clear hW1
    have zW := hbW.size
    have hM := unify_any w1.heap.size T1 b1 T2 b2 W1 (fun k => w.heap.size ≤ k ∧ k < w1.heap.size) P T (HR1.out.keep fun k hk => ⟨hk, hbW.block k hk.2⟩) (HR2.out.keep fun k hk => ⟨hk, hbW.block k hk.2⟩) hst0.none (fun h => absurd h.2 (Nat.lt_irrefl _)) (fun k hk => Nat.lt_of_lt_of_le hk.2 zW)
    have HMM := hid hM
    clear hM hst0
    rcases HSOL.out with ⟨hn, hu⟩ | ⟨g, h, hs, hu, hK⟩
    · have HM := hid (uniOf_none hn)
      have HU := hid (HMM.out none hu)
      clear HSOL HMM hn hu
      go_wp2_with fail
      refine HU.out.mono ?_
      rintro e w2 ⟨hb2, hr⟩
      have hbA : Below w.heap.size w w2 := hb1.trans ((hbW.mono z1).trans (hb2.below' (by omega) z1))
      obtain rfl : e = .returned (.bool false) := hr
      go_wp2_with fail
      refine bodyPost_ret (v := .tuple #[.slice none 0 0, .bool false]) (by simp [results, Tryz.results17, go_sem]) rfl ⟨hbA, ?_⟩
      rw [HM.out]
    · have HS := hid hs
      have HK := hid hK
      have HU := hid (HMM.out (some g) hu)
      clear HSOL HMM hs hu hK
      go_wp2_with fail
      refine HU.out.mono ?_
      rintro e w2 ⟨hb2, hr⟩
      have hbA : Below w.heap.size w w2 := hb1.trans ((hbW.mono z1).trans (hb2.below' (by omega) z1))
      obtain ⟨rfl, hst⟩ : e = .returned (.bool true) ∧ Stnd w2 w1.heap.size (fun k => w.heap.size ≤ k ∧ k < w1.heap.size) g := hr
      have z2 := hbA.size
      have z12 : w1.heap.size ≤ w2.heap.size := by have := hb2.size; omega
      have HDOM := hid (upto_lim HK.out.lim)
      have HT := hid (texts_all w1.heap.size w2 _ g h hst (fun k hk => Nat.lt_of_lt_of_le hk.2 z12) HK.out)
      clear hst
      go_wp2_with fail
      refine HT.out.mono ?_
      rintro e w3 ⟨D, rfl, hown, hrd, hb3⟩
      have HB := hid (bindingsFrom_any w2.heap.size D (upto h 12) w3 hown hrd HDOM.out.1)
      clear hown hrd
      go_wp2_with fail
      refine HB.out.mono ?_
      have z3 := hb3.size
      rintro e w4 ⟨hb4, ⟨hlong, rfl⟩ | ⟨hshort, v, rfl, hown⟩⟩
      · have HM := hid (uniOf_long HS.out (HDOM.out.2.2 hlong))
        clear hlong
        go_wp2_with fail
        refine bodyPost_ret (v := .tuple #[.slice none 0 0, .bool false]) (by simp [results, Tryz.results17, go_sem]) rfl ⟨(hbA.trans (hb3.mono z2)).trans (hb4.mono (by omega)), ?_⟩
        rw [HM.out]
      · have HM := hid (uniOf_some HS.out (HDOM.out.2.1 hshort))
        have hv := hown
        obtain ⟨A, cp, rfl, _, _⟩ := own_pairs hown
        have HV := hid hv
        clear hown hv hshort
        go_wp2_with fail
        refine bodyPost_ret (v := .tuple #[.slice A (pairs (upto h 12)).length cp, .bool true]) (by simp [results, Tryz.results17, go_sem]) rfl ⟨(hbA.trans (hb3.mono z2)).trans (hb4.mono (by omega)), ?_⟩
        rw [HM.out]
        refine ⟨_, rfl, ?_⟩
        have h := HV.out
        rw [pairs_told] at h ⊢
        exact own_base h (by omega)

end Go.Proofs.YteimmgajohimlaaGreat
