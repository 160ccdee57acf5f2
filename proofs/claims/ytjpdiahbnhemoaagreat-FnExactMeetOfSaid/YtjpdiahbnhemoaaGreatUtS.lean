/- UnifyTypes of the program. UnifyTypes of the model. -/
import Derived.Test.YtjpdiahbnhemoaaGreatTxK
import Derived.Test.YtjpdiahbnhemoaaGreatUnM
import Derived.Test.YtjpdiahbnhemoaaGreatAaS
import Derived.Test.YtjpdiahbnhemoaaGreatMtV
import Derived.Test.YtjpdiahbnhemoaaGreatUnF
namespace Go.Proofs.YtjpdiahbnhemoaaGreat
open Go.RowKit

/-- How UnifyTypes ends. -/
def UnifyEnd (w : World) (l l' : List UInt8) (e : Ending) (w' : World) : Prop :=
  Below w.heap.size w w' ∧ match uniOf l l' with
    | none => e = .returned (.tuple #[.slice none 0 0, .bool false])
    | some g => ∃ v, e = .returned (.tuple #[v, .bool true]) ∧ w'.ownsRow w.heap.size 42 2 v (told g).length (cells2 (told g))
theorem ltV_B : ∀ v w, ar v = 0 → ar w = 0 → isVarB v = true → isVarB w = true → ltV v w = ltB v w := fun _ _ _ _ _ _ => rfl
theorem upto_lim {h : UInt8 → Option Ty} (hl : ∀ c u, h c = some u → isVarB c = true ∧ u.ok ∧ u.text.length ≤ 46656000000) : (∀ c, (upto h 12 c).isSome = true → isVarB c = true) ∧ ((∀ c b, upto h 12 c = some b → b.length ≤ 60) → Short h) ∧ ((∃ c b, upto h 12 c = some b ∧ 60 < b.length) → ¬ Short h) := by
  refine ⟨fun c hc => ?_, fun hs c u hu => ?_, ?_⟩
  · rw [upto_all] at hc
    split at hc
    · rcases hh : h c with _ | u
      · rw [hh] at hc; cases hc
      · exact (hl c u hh).1
    · cases hc
  · refine hs c u.text ?_
    rw [upto_all, if_pos (isVarB_X (hl c u hu).1), hu]
    rfl
  · rintro ⟨c, b, hb, hlt⟩ hs
    rw [upto_all] at hb
    split at hb
    · rcases hh : h c with _ | u
      · rw [hh] at hb; cases hb
      · rw [hh] at hb
        have e : u.text = b := by injection hb
        have := hs c u hh
        rw [e] at this
        omega
    · cases hb

set_option maxHeartbeats 1600000 in
set_option maxRecDepth 100000 in
theorem unifyTypes_any (a b : ByteArray) (w : World) (ha : a.size ≤ maxLen) (hb : b.size ≤ maxLen) : Calls Tryz.prog 8 #[.string a, .string b] w (UnifyEnd w a.data.toList b.data.toList) := by
  have hmf : ∀ (fn : Fn) (first cap : Array Value) (w : World), (Instr.makeFunc fn first cap).run Tryz.prog w = .ok (.func fn first cap) w := fun _ _ _ _ => rfl
  go_enter Tryz.func8, Tryz.ntmps8
  go_wp2_with fail
  refine (readTypes_any a b _ ha hb).mono ?_
  rintro e w1 ⟨hb1, ⟨hn, v, v', rfl⟩ | ⟨P, T, T1, b1, T2, b2, hP, hT, rfl, hr1, hr2⟩⟩
  · have HM := hid (uniOf_none (ufOf_none hn))
    clear hn
    go_wp2_with fail
    refine bodyPost_ret (v := .tuple #[.slice none 0 0, .bool false]) (by simp [results, Tryz.results8, go_sem]) rfl ⟨hb1.alloc hb1.size _, ?_⟩
    rw [HM.out]
  · obtain ⟨eP, oP, lP⟩ := tyOf_text hP
    obtain ⟨eT, oT, lT⟩ := tyOf_text hT
    have HSOL := hid (sol_known (ufOf_sol hP hT) ⟨oP, by rw [← eP]; exact lP⟩ ⟨oT, by rw [← eT]; exact lT⟩ (V := isVarX) (lt := ltB) (fun c hc => isVarX_ok hc) ltV_B)
    have HR1 := hid hr1
    have HR2 := hid hr2
    have z1 := hb1.size
    clear hr1 hr2 hP hT oP oT eT lT eP lP
    go_wp2_with fail
    obtain ⟨W1, hW1⟩ : ∃ W1, w1.alloc (.cells #[.nilIface, .nilIface, .nilIface, .nilIface, .nilIface, .nilIface, .nilIface, .nilIface, .nilIface, .nilIface, .nilIface, .nilIface] 54) = W1 := ⟨_, rfl⟩
    have hst0 := Stnd.new w1
    have hbW : Below w1.heap.size w1 W1 := by rw [← hW1]; exact (Below.refl _ _).alloc (Nat.le_refl _) _
    rw [hW1] at hst0 ⊢
    clear hW1
    have zW := hbW.size
    have hM := unify_any w1.heap.size T1 b1 T2 b2 W1 (fun k => w.heap.size ≤ k ∧ k < w1.heap.size) P T (HR1.out.keep fun k hk => ⟨hk, hbW.block k hk.2⟩) (HR2.out.keep fun k hk => ⟨hk, hbW.block k hk.2⟩) hst0.none (fun h => absurd h.2 (Nat.lt_irrefl _)) (fun k hk => Nat.lt_of_lt_of_le hk.2 zW)
    have HMM := hid hM
    clear hM hst0
    rcases HSOL.out with ⟨hn, hu⟩ | ⟨g, h, hs, hu, hK⟩
    · have HM := hid (uniOf_none hn)
      have HU := hid (HMM.out none hu)
      clear HSOL HMM hn hu
      go_wp2_with fail
      refine HU.out.mono ?_
      rintro e w2 ⟨hb2, hr⟩
      have hbA : Below w.heap.size w w2 := hb1.trans ((hbW.mono z1).trans (hb2.below' (by omega) z1))
      obtain rfl : e = .returned (.bool false) := hr
      go_wp2_with fail
      refine bodyPost_ret (v := .tuple #[.slice none 0 0, .bool false]) (by simp [results, Tryz.results8, go_sem]) rfl ⟨hbA, ?_⟩
      rw [HM.out]
    · have HS := hid hs
      have HK := hid hK
      have HU := hid (HMM.out (some g) hu)
      clear HSOL HMM hs hu hK
      go_wp2_with fail
      refine HU.out.mono ?_
      rintro e w2 ⟨hb2, hr⟩
      have hbA : Below w.heap.size w w2 := hb1.trans ((hbW.mono z1).trans (hb2.below' (by omega) z1))
      obtain ⟨rfl, hst⟩ : e = .returned (.bool true) ∧ Stnd w2 w1.heap.size (fun k => w.heap.size ≤ k ∧ k < w1.heap.size) g := hr
      have z2 := hbA.size
      have z12 : w1.heap.size ≤ w2.heap.size := by have := hb2.size; omega
      have HDOM := hid (upto_lim HK.out.lim)
      have HT := hid (texts_all w1.heap.size w2 _ g h hst (fun k hk => Nat.lt_of_lt_of_le hk.2 z12) HK.out)
      clear hst
      go_wp2_with fail
      refine HT.out.mono ?_
      rintro e w3 ⟨D, rfl, hown, hrd, hb3⟩
      have HB := hid (bindingsFrom_any w2.heap.size D (upto h 12) w3 hown hrd HDOM.out.1)
      clear hown hrd
      go_wp2_with fail
      refine HB.out.mono ?_
      have z3 := hb3.size
      rintro e w4 ⟨hb4, ⟨hlong, rfl⟩ | ⟨hshort, v, rfl, hown⟩⟩
      · have HM := hid (uniOf_long HS.out (HDOM.out.2.2 hlong))
        clear hlong
        go_wp2_with fail
        refine bodyPost_ret (v := .tuple #[.slice none 0 0, .bool false]) (by simp [results, Tryz.results8, go_sem]) rfl ⟨(hbA.trans (hb3.mono z2)).trans (hb4.mono (by omega)), ?_⟩
        rw [HM.out]
      · have HM := hid (uniOf_some HS.out (HDOM.out.2.1 hshort))
        have hv := hown
        obtain ⟨A, cp, rfl, _, _⟩ := own_pairs hown
        have HV := hid hv
        clear hown hv hshort
        go_wp2_with fail
        refine bodyPost_ret (v := .tuple #[.slice A (pairs (upto h 12)).length cp, .bool true]) (by simp [results, Tryz.results8, go_sem]) rfl ⟨(hbA.trans (hb3.mono z2)).trans (hb4.mono (by omega)), ?_⟩
        rw [HM.out]
        refine ⟨_, rfl, ?_⟩
        have h := HV.out
        rw [pairs_told] at h ⊢
        exact own_base h (by omega)

end Go.Proofs.YtjpdiahbnhemoaaGreat

namespace Go.Proofs.YtjpdiahbnhemoaaGreat
open Go.RowKit

/-- How the model's UnifyTypes ends. -/
def UnifyEndS (w : World) (l l' : List UInt8) (e : Ending) (w' : World) : Prop :=
  Below w.heap.size w w' ∧ match uniOf l l' with
    | none => ∃ v, e = .returned (.tuple #[v, .bool false]) ∧ w'.ownsRow w.heap.size 42 2 v 0 []
    | some g => ∃ v, e = .returned (.tuple #[v, .bool true]) ∧ w'.ownsRow w.heap.size 42 2 v (told g).length (cells2 (told g))
theorem ltV_N : ∀ v w, ar v = 0 → ar w = 0 → isVarB v = true → isVarB w = true → ltV v w = ltN v w := ltV_any ltN (by decide +kernel)
theorem known_solve {g h : UInt8 → Option Ty} (hK : Known isN g h) : ∀ g', some g = some g' → InF g' ∧ (∀ c, g' c = none → h c = none) ∧ (∀ c t, g' c = some t → isN c = true ∧ ∃ u, h c = some u ∧ Ful isN g' t u) := by
  intro g' hg
  injection hg with hg
  subst hg
  obtain ⟨σ, ρ, M, hI, hh⟩ := hK.inv
  refine ⟨fun c t hc => ok_inner (hK.fine c t hc).1, fun c hc => by rw [hh c, hc]; rfl, fun c t hc => ?_⟩
  obtain ⟨h1, h2, _⟩ := hI.bound c t hc
  exact ⟨h1, t.subV isN σ, by rw [hh c, hc]; rfl, ful_total hI _ t (Nat.lt_succ_self _) h2⟩
theorem end_nil1 {w w2 : World} (hb : Below w.heap.size w w2) (o1 : Obj) (T : TypeId) : Below w.heap.size w ((w2.alloc o1).alloc (.cells #[] T)) ∧ ((w2.alloc o1).alloc (.cells #[] T)).ownsRow w.heap.size T 2 (.slice (some ⟨w2.heap.size + 1, 0, none⟩) 0 0) 0 [] := by
  have z := hb.size
  refine ⟨(hb.alloc z _).alloc (by simp only [World.size_alloc]; omega) _, ?_⟩
  have h := own_nil2 (w := w2.alloc o1) (B := w.heap.size) (by simp only [World.size_alloc]; omega) T
  simp only [World.size_alloc] at h
  exact h
theorem letN_six (c : UInt8) : isVarB c = true → ∃ k, k < 6 ∧ letN k = c := by
  intro h
  have := isVarB_mem c h
  simp only [List.mem_cons, List.not_mem_nil, or_false] at this
  rcases this with rfl | rfl | rfl | rfl | rfl | rfl
  · exact ⟨0, by decide, rfl⟩
  · exact ⟨1, by decide, rfl⟩
  · exact ⟨2, by decide, rfl⟩
  · exact ⟨3, by decide, rfl⟩
  · exact ⟨4, by decide, rfl⟩
  · exact ⟨5, by decide, rfl⟩

set_option maxHeartbeats 1600000 in
set_option maxRecDepth 100000 in
theorem unifyTypesS_any (a b : ByteArray) (w : World) (ha : a.size ≤ maxLen) (hb : b.size ≤ maxLen) : Calls Tryz.prog 6 #[.string a, .string b] w (UnifyEndS w a.data.toList b.data.toList) := by
  go_enter Tryz.func6, Tryz.ntmps6
  go_wp2_with fail
  refine (l1Read_any a _ ha).mono ?_
  rintro e w1 ⟨hb1, ⟨hn1, rfl⟩ | ⟨P, c0, A0, m0, cap0, hP, rfl, hr1⟩⟩
  · have HM := hid (uniOf_none (ufOf_none (l' := b.data.toList) (.inl hn1)))
    have z1 := hb1.size
    clear hn1
    have hbA : ∀ o, Below w.heap.size w (w1.alloc o) := fun o => hb1.alloc z1 o
    go_wp2_with fail
    refine (l1Read_any b _ hb).mono ?_
    rintro e w2 ⟨hb2, ⟨hn2, rfl⟩ | ⟨T, c1, A1, m1, cap1, hT, rfl, hr2⟩⟩
    · clear hn2
      have hbW := (hbA _).trans (hb2.mono (hbA _).size)
      go_wp2_with fail
      refine bodyPost_ret (v := .tuple #[.slice (some ⟨w2.heap.size + 1, 0, none⟩) 0 0, .bool false]) (by simp [results, Tryz.results6, go_sem]) rfl ⟨(end_nil1 hbW _ _).1, ?_⟩
      rw [HM.out]
      exact ⟨_, rfl, (end_nil1 hbW _ _).2⟩
    · clear hT hr2
      have hbW := (hbA _).trans (hb2.mono (hbA _).size)
      go_wp2_with fail
      refine bodyPost_ret (v := .tuple #[.slice (some ⟨w2.heap.size + 1, 0, none⟩) 0 0, .bool false]) (by simp [results, Tryz.results6, go_sem]) rfl ⟨(end_nil1 hbW _ _).1, ?_⟩
      rw [HM.out]
      exact ⟨_, rfl, (end_nil1 hbW _ _).2⟩
  · have HP := hid hP
    have HR1 := hid hr1
    have z1 := hb1.size
    clear hP hr1
    have hbA : ∀ o, Below w.heap.size w (w1.alloc o) := fun o => hb1.alloc z1 o
    go_wp2_with fail
    refine (l1Read_any b _ hb).mono ?_
    rintro e w2 ⟨hb2, ⟨hn2, rfl⟩ | ⟨T, c1, A1, m1, cap1, hT, rfl, hr2⟩⟩
    · have HM := hid (uniOf_none (ufOf_none (l := a.data.toList) (.inr hn2)))
      clear hn2
      have hbW := (hbA _).trans (hb2.mono (hbA _).size)
      go_wp2_with fail
      refine bodyPost_ret (v := .tuple #[.slice (some ⟨w2.heap.size + 1, 0, none⟩) 0 0, .bool false]) (by simp [results, Tryz.results6, go_sem]) rfl ⟨(end_nil1 hbW _ _).1, ?_⟩
      rw [HM.out]
      exact ⟨_, rfl, (end_nil1 hbW _ _).2⟩
    · obtain ⟨eP, oP, lP⟩ := tyOf_text HP.out
      obtain ⟨eT, oT, lT⟩ := tyOf_text hT
      have hsol := sol_known (ufOf_sol HP.out hT) ⟨oP, by rw [← eP]; exact lP⟩ ⟨oT, by rw [← eT]; exact lT⟩ (V := isN) (lt := ltN) (fun c hc => (isN_B c).1 hc) ltV_N
      have HSOL := hid hsol
      have HR2 := hid hr2
      have HOP := hid oP
      have HOT := hid oT
      have hbW := (hbA (.cells #[.int .u8 c0.toNat, .slice A0 m0 cap0] 31)).trans (hb2.mono (hbA _).size)
      have z2 := hb2.size
      simp only [World.size_alloc] at z2
      have n0 := cell_below (blk_cells2 (heap_new1 w1 (.cells #[.int .u8 c0.toNat, .slice A0 m0 cap0] 31))).1 (by simp only [World.size_alloc]; omega) hb2
      have n1 := cell_below (blk_cells2 (heap_new1 w1 (.cells #[.int .u8 c0.toNat, .slice A0 m0 cap0] 31))).2 (by simp only [World.size_alloc]; omega) hb2
      have a0 : ∀ o1, (w2.alloc o1).cell? ⟨w1.heap.size, 0, none⟩ = some (.int .u8 c0.toNat) := fun o1 => by
        rw [World.cell?_alloc_lt _ _ _ (by show w1.heap.size < _; omega)]
        exact n0
      have a1 : ∀ o1, (w2.alloc o1).cell? ⟨w1.heap.size, 1, none⟩ = some (.slice A0 m0 cap0) := fun o1 => by
        rw [World.cell?_alloc_lt _ _ _ (by show w1.heap.size < _; omega)]
        exact n1
      clear hT hr2 oP oT eT lT eP lP n0 n1 hsol
      go_wp2_with fail
      obtain ⟨W3, hW3⟩ : ∃ W3, w2.alloc (.cells #[.int .u8 c1.toNat, .slice A1 m1 cap1] 31) = W3 := ⟨_, rfl⟩
      have hb23 : Below w2.heap.size w2 W3 := by rw [← hW3]; exact (Below.refl _ _).alloc (Nat.le_refl _) _
      have zW := hbW.size
      have z3 : W3.heap.size = w2.heap.size + 1 := by rw [← hW3]; simp only [World.size_alloc]
      have hbW3 : Below w.heap.size w W3 := hbW.trans (hb23.mono zW)
      have hr13 : RepN W3 (fun g => w.heap.size ≤ g ∧ g < w2.heap.size) P (.int .u8 c0.toNat) (.slice A0 m0 cap0) := HR1.out.keep fun g hg => ⟨⟨hg.1, by omega⟩, by
        rw [hb23.block g (by omega), hb2.block g (by simp only [World.size_alloc]; omega)]
        exact Below.heap_alloc _ _ _ hg.2⟩
      have hr23 : RepN W3 (fun g => w.heap.size ≤ g ∧ g < w2.heap.size) T (.int .u8 c1.toNat) (.slice A1 m1 cap1) := HR2.out.keep fun g hg => ⟨⟨by have := hg.1; simp only [World.size_alloc] at this; omega, hg.2⟩, hb23.block g hg.2⟩
      rw [hW3]
      clear hW3 a0 a1
      rcases HSOL.out with ⟨hn, hu⟩ | ⟨g, h, hs, hu, hK⟩
      · have HM := hid (uniOf_none hn)
        have HSV := hid (l2Solve_any P T (ok_inner HOP.out) (ok_inner HOT.out) (fun g => w.heap.size ≤ g ∧ g < w2.heap.size) c0 A0 m0 cap0 c1 A1 m1 cap1 W3 hr13 hr23 (fun g hg => by omega) none hu (fun _ => none) (fun g hg => by cases hg))
        clear HSOL hn hu hr13 hr23
        refine HSV.out.mono ?_
        rintro e w4 ⟨hb4, p, rfl⟩
        have hbA4 := hbW3.trans (hb4.mono hbW3.size)
        go_wp2_with fail
        refine bodyPost_ret (v := .tuple #[.slice (some ⟨w4.heap.size, 0, none⟩) 0 0, .bool false]) (by simp [results, Tryz.results6, go_sem]) rfl ⟨hbA4.alloc hbA4.size _, ?_⟩
        rw [HM.out]
        exact ⟨_, rfl, own_nil2 hbA4.size _⟩
      · have HS := hid hs
        have HL := hid hK.lim
        have HSV := hid (l2Solve_any P T (ok_inner HOP.out) (ok_inner HOT.out) (fun g => w.heap.size ≤ g ∧ g < w2.heap.size) c0 A0 m0 cap0 c1 A1 m1 cap1 W3 hr13 hr23 (fun g hg => by omega) (some g) hu h (known_solve hK))
        clear HSOL hs hu hK hr13 hr23
        refine HSV.out.mono ?_
        rintro e w4 ⟨hb4, ob, rfl, hst⟩
        have hbA4 := hbW3.trans (hb4.mono hbW3.size)
        have HT := hid (l2Told_any ob _ h w4 hst (fun j hj => hj.2.1) (fun c t hc => by have := (HL.out c t hc).2.2; omega))
        clear hst
        go_wp2_with fail
        refine HT.out.mono ?_
        have z4 := hbA4.size
        rintro e w5 ⟨hb5, ⟨⟨k, t, _, hkt, hlt⟩, v, rfl, hown⟩ | ⟨hsh, v, rfl, hown⟩⟩
        · have HM := hid (uniOf_long HS.out (fun hs => by have := hs _ _ hkt; omega))
          have hv := hown
          obtain ⟨B, cp, rfl, _, _⟩ := own_pairs (zs := []) hown
          have HV := hid hv
          clear hown hv hkt
          go_wp2_with fail
          refine bodyPost_ret (v := .tuple #[.slice B 0 cp, .bool false]) (by simp [results, Tryz.results6, go_sem]) rfl ⟨hbA4.trans (hb5.mono z4), ?_⟩
          rw [HM.out]
          exact ⟨_, rfl, own_base HV.out z4⟩
        · have HM := hid (uniOf_some HS.out (fun c u hu => by
            obtain ⟨k, hk, rfl⟩ := letN_six c (HL.out c u hu).1
            exact hsh k u hk hu))
          have hv := hown
          obtain ⟨B, cp, rfl, _, _⟩ := own_pairs hown
          have HV := hid hv
          clear hown hv hsh
          go_wp2_with fail
          refine bodyPost_ret (v := .tuple #[.slice B (told h).length cp, .bool true]) (by simp [results, Tryz.results6, go_sem]) rfl ⟨hbA4.trans (hb5.mono z4), ?_⟩
          rw [HM.out]
          exact ⟨_, rfl, own_base HV.out z4⟩

end Go.Proofs.YtjpdiahbnhemoaaGreat
