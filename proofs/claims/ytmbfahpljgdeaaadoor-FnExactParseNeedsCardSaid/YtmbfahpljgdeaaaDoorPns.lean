/- ParseNeeds, in the program and in the model. -/
import Derived.Test.YtmbfahpljgdeaaaDoorInW
import Derived.Test.YtmbfahpljgdeaaaDoorPiS
import Derived.Test.YtmbfahpljgdeaaaDoorLawK
import Derived.Deep.AppendLies
namespace Go.Proofs.YtmbfahpljgdeaaaDoor
open Go.RowKit
set_option linter.unusedVariables false

theorem own_newP (w : World) (T : TypeId) {lo : Nat} (h : lo ≤ w.heap.size) : (w.alloc (.cells #[] T)).ownsRow lo T 2 (.slice (some ⟨w.heap.size, 0, none⟩) 0 0) 0 [] :=
  ⟨rfl, .inr ⟨w.heap.size, 0, #[], rfl, h, heap_new1 w _, Nat.le_refl _, Nat.zero_le _, rfl, rfl⟩⟩
def pnsF (l : List UInt8) : Bool := nsF l && (nsR l).isEmpty
theorem pnsF_of {l : List UInt8} (h : (cutG 38 [] l).all pnF = true) : pnsF l = true ∧ nsL l = (cutG 38 [] l).map ndP := by
  have hne := cutG_ne 38 l []
  obtain ⟨hj, hok⟩ := join_ndt _ h hne
  have hl := joinM_cut 38 l []
  rw [List.nil_append] at hl
  rw [hl] at hj
  rcases hm : (cutG 38 [] l).map ndP with _ | ⟨z, zs⟩
  · exact absurd (List.map_eq_nil_iff.1 hm) hne
  · rw [hm] at hj hok
    rw [ndL_amp] at hj
    obtain ⟨h1, h2, h3⟩ := nsF_of z zs hok
    unfold pnsF
    rw [hj, h1, h2, h3]
    exact ⟨rfl, rfl⟩
theorem pnsF_cut {l : List UInt8} (h : pnsF l = true) : (cutG 38 [] l).all pnF = true := by
  unfold pnsF at h
  rw [Bool.and_eq_true] at h
  obtain ⟨h1, h2⟩ := nsF_text h.1 (List.isEmpty_iff.1 h.2)
  have e : ∃ z zs, nsL l = z :: zs := ⟨_, _, rfl⟩
  obtain ⟨z, zs, e⟩ := e
  rw [e] at h1 h2
  have h3 := cut_ndL z zs h2
  rw [← h1] at h3
  rw [h3, List.all_map, List.all_eq_true]
  intro y hy
  exact (pn_of (h2 y hy)).1
theorem pnsF_eq (l : List UInt8) : pnsF l = (cutG 38 [] l).all pnF := by
  rcases h : (cutG 38 [] l).all pnF with _ | _
  · rcases h2 : pnsF l with _ | _
    · rfl
    · rw [pnsF_cut h2] at h; cases h
  · exact (pnsF_of h).1
/-- The needs of a text, and whether it is one of needs. -/
def pnsV (l : List UInt8) : List (ByteArray × ByteArray) × Bool := if l = [45] then ([], true) else if pnsF l = true then (nsL l, true) else ([], false)
theorem amp_cnt (zs : List (ByteArray × ByteArray)) : zs.length ≤ (amp zs).length := by
  unfold amp
  induction zs with
  | nil => exact Nat.zero_le _
  | cons z zs ih =>
    rw [List.flatMap_cons, List.length_append, List.length_cons, List.length_cons]
    omega
theorem pnsV_len (l : List UInt8) : (pnsV l).1.length ≤ l.length := by
  unfold pnsV
  split
  · exact Nat.zero_le _
  · split
    · rename_i h
      unfold pnsF at h
      rw [Bool.and_eq_true] at h
      obtain ⟨h1, _⟩ := nsF_text h.1 (List.isEmpty_iff.1 h.2)
      have e : ∃ z zs, nsL l = z :: zs := ⟨_, _, rfl⟩
      obtain ⟨z, zs, e⟩ := e
      have h2 := congrArg List.length h1
      rw [e, ndL_amp, List.length_append, ndt_len] at h2
      have h3 := amp_cnt zs
      show (nsL l).length ≤ _
      rw [e, List.length_cons]
      omega
    · exact Nat.zero_le _

set_option maxHeartbeats 2000000 in
set_option maxRecDepth 100000 in
theorem parseNeedsI_any (s : ByteArray) (hs : s.size ≤ 1048576) (N : List (ByteArray × ByteArray)) (f : Bool) (hV : Hid (pnsV s.data.toList = (N, f))) (w : World) (he : TErrs w) :
    Calls Tryd.prog 32 #[.string s] w (TwoNd w N f) := by
  by_cases hd : s.data.toList = [45]
  · have e := hV.out
    unfold pnsV at e
    rw [if_pos hd] at e
    injection e with e1 e2
    subst e1 e2
    obtain rfl : s = { data := #[45] } := strOf_eq hd
    clear hV hd he
    go_enter Tryd.func32, Tryd.ntmps32
    go_wp2_with fail
    refine bodyPost_ret (v := .tuple #[.slice none 0 0, .bool true]) (by simp [results, Tryd.results32, go_sem]) rfl ⟨⟨_, rfl, World.ownsRow_nil _ _ _ _⟩, Below.refl _ _⟩
  · have hne : (s.toList == [45]) = false := by
      rw [ByteArray.toList_eq, beq_eq_false_iff_ne]
      exact hd
    have HD := hid hd
    have HE := hid he
    have g1 : 2 < w.heap.size := by obtain ⟨_, _, _, h⟩ := he.name; exact h
    have g2 : 4 < w.heap.size := by obtain ⟨_, _, _, h⟩ := he.type; exact h
    have g3 : 3 < w.heap.size := by obtain ⟨_, _, _, h⟩ := he.text; exact h
    have HOFF := hid (show Off w.heap.size from ⟨by omega, by omega, by omega⟩)
    clear he hd
    obtain ⟨L, hL⟩ : ∃ i, nsL s.data.toList = i := ⟨_, rfl⟩
    obtain ⟨R, hR⟩ : ∃ i, nsR s.data.toList = i := ⟨_, rfl⟩
    obtain ⟨F, hF⟩ : ∃ i, nsF s.data.toList = i := ⟨_, rfl⟩
    have HL := hid hL
    have HRR := hid hR
    have HFF := hid hF
    clear hL hR hF
    obtain ⟨w0, hw0⟩ : ∃ w0, w.alloc (.cells #[.string s, .nilIface] 85) = w0 := ⟨_, rfl⟩
    have z0 : w.heap.size < w0.heap.size := by rw [← hw0]; simp only [World.size_alloc]; omega
    have B0 := hid (show Below w.heap.size w w0 by rw [← hw0]; exact (Below.refl w.heap.size w).alloc (Nat.le_refl _) _)
    have R0 := hid (show Rw w0 w.heap.size s false from ⟨.nilIface, IsErr.nil, by rw [← hw0]; exact heap_new1 w _⟩)
    have HW0 := hid hw0
    clear hw0
    go_enter Tryd.func32, Tryd.ntmps32
    go_wp2_with fail
    rw [HW0.out]
    refine (needs_any w.heap.size s false w0 hs R0.out (HE.out.below B0.out) HOFF.out L R F HL HRR HFF).mono ?_
    rintro e w1 ⟨⟨g, c, r, rfl, ho, hr, R1⟩, b1⟩
    have R1' := hid R1
    have HR := hid hr
    have z1 : w.heap.size < w1.heap.size := Nat.lt_of_lt_of_le z0 b1.size
    have hgb := ho.lt g rfl
    have O1 := hid (own_mono ho (show w.heap.size + 1 ≤ w0.heap.size by omega))
    have B1 := hid (B0.out.trans (b1.below' (B' := w.heap.size) (by omega) (by omega)))
    clear R1 hr b1 ho
    go_wp2_with fail
    refine (end_any w.heap.size r (false || !F) w1 R1'.out (HE.out.below B1.out)).mono ?_
    rintro e w3 ⟨⟨v, rfl, hv⟩, b3⟩
    have B3 := hid (B1.out.trans (b3.below' (B' := w.heap.size) (by omega) (by omega)))
    have O3 := hid (own_heap (w' := w3) O1.out fun k hk => b3.block k (by simp only [Value.ownBlock, Option.some.injEq] at hk; omega) (by simp only [Value.ownBlock, Option.some.injEq] at hk; omega))
    have HP := hid (show (false || !F || !r.data.toList.isEmpty) = !pnsF s.data.toList by unfold pnsF; rw [Bool.false_or, HR.out, HRR.out, HFF.out, Bool.not_and])
    rw [HP.out] at hv
    clear b3
    obtain ⟨p, hp⟩ : ∃ p, pnsF s.data.toList = p := ⟨_, rfl⟩
    have HPF := hid hp
    rw [hp] at hv
    clear hp
    have e := hV.out
    unfold pnsV at e
    rw [if_neg HD.out, HPF.out] at e
    cases p
    · rw [if_neg (by decide)] at e
      injection e with e1 e2
      subst e1 e2
      obtain ⟨T, P, rfl⟩ := hv.true
      go_wp2_with fail
      exact bodyPost_ret (v := .tuple #[.slice none 0 0, .bool false]) (by simp [results, Tryd.results32, go_sem]) rfl ⟨⟨_, rfl, World.ownsRow_nil _ _ _ _⟩, B3.out⟩
    · rw [if_pos rfl, HL.out] at e
      injection e with e1 e2
      subst e1 e2
      obtain rfl := hv.false
      go_wp2_with fail
      exact bodyPost_ret (v := .tuple #[.slice (some ⟨g, 0, none⟩) L.length c, .bool true]) (by simp [results, Tryd.results32, go_sem]) rfl ⟨⟨_, rfl, own_mono O3.out (by omega)⟩, B3.out⟩

def NssR (w w1 : World) (P : List (List UInt8)) (v i : Value) (wr : World) : Prop :=
  ∃ k gv cv : Nat, k ≤ P.length ∧ i = .int .i64 k ∧ v = .slice (some ⟨gv, 0, none⟩) k cv ∧ (gv = w.heap.size ∨ w1.heap.size ≤ gv) ∧ (P.take k).all pnF = true ∧ wr.ownsRow w.heap.size 42 2 v k (cells2 ((P.take k).map ndP)) ∧ Below w.heap.size w wr ∧ w1.heap.size ≤ wr.heap.size ∧ (∀ j, w.heap.size < j → j < w1.heap.size → wr.heap[j]? = w1.heap[j]?)

set_option maxHeartbeats 4000000 in
set_option maxRecDepth 100000 in
theorem parseNeedsS_any (s : ByteArray) (hs : s.size ≤ 1048576) (N : List (ByteArray × ByteArray)) (f : Bool) (hV : Hid (pnsV s.data.toList = (N, f))) (w : World) :
    Calls Tryd.prog 31 #[.string s] w (TwoNd w N f) := by
  obtain ⟨i0, hi0, hz0, hz1, hz2⟩ := info_parts needInfoD
  by_cases hd : s.data.toList = [45]
  · have e := hV.out
    unfold pnsV at e
    rw [if_pos hd] at e
    injection e with e1 e2
    subst e1 e2
    obtain rfl : s = { data := #[45] } := strOf_eq hd
    clear hV hd
    go_enter Tryd.func31, Tryd.ntmps31
    go_wp2_with fail
    refine bodyPost_ret (v := .tuple #[.slice (some ⟨w.heap.size, 0, none⟩) 0 0, .bool true]) (by simp [results, Tryd.results31, go_sem]) rfl ⟨⟨_, rfl, own_newP w _ (Nat.le_refl _)⟩, (Below.refl _ _).alloc (Nat.le_refl _) _⟩
  · have hne : (s.toList == [45]) = false := by
      rw [ByteArray.toList_eq, beq_eq_false_iff_ne]
      exact hd
    obtain ⟨P, hP⟩ : ∃ P, cutG 38 [] s.data.toList = P := ⟨_, rfl⟩
    have hcnt : P.length ≤ 1048577 := by
      have h := cutG_cnt 38 s.data.toList []
      rw [hP, ← list_size (s := s) rfl] at h
      omega
    have HPM := hid (fun (u : List UInt8) (hu : u ∈ P) => show u.length ≤ 1048576 from by
      have := cutG_len 38 s.data.toList [] u (by rw [hP]; exact hu)
      rw [← list_size (s := s) rfl] at this
      simp only [List.length_nil] at this
      omega)
    have HVV := hid (show (if P.all pnF = true then (P.map ndP, true) else ([], false)) = (N, f) by
      rw [← hV.out]
      unfold pnsV
      rw [if_neg hd, pnsF_eq, hP]
      by_cases h : P.all pnF = true
      · rw [if_pos h, if_pos h, (pnsF_of (by rw [hP]; exact h)).2, hP]
      · rw [if_neg h, if_neg h])
    have HPP := hid hP
    clear hd hP hV
    obtain ⟨w0, hw0⟩ : ∃ w0, w.alloc (.cells #[] 42) = w0 := ⟨_, rfl⟩
    have z0 : w0.heap.size = w.heap.size + 1 := by rw [← hw0]; simp only [World.size_alloc]
    have B0 := hid (show Below w.heap.size w w0 by rw [← hw0]; exact (Below.refl w.heap.size w).alloc (Nat.le_refl _) _)
    have O0 := hid (show w0.ownsRow w.heap.size 42 2 (.slice (some ⟨w.heap.size, 0, none⟩) 0 0) 0 [] by rw [← hw0]; exact own_newP w _ (Nat.le_refl _))
    have HW0 := hid hw0
    have HZ0 := hid z0
    clear hw0
    go_enter Tryd.func31, Tryd.ntmps31
    go_wp2_with fail
    rw [HW0.out]
    refine (l13Cut_any s 38 hs P HPP w0).mono ?_
    rintro e w1 ⟨⟨g6, c6, us, rfl, ho6, hus⟩, b1⟩
    have hg6 := ho6.lt g6 rfl
    have O6 := hid ho6
    have HUS := hid hus
    have B1 := hid (B0.out.trans (b1.mono (by omega)))
    have O1 := hid (own_heap (w' := w1) O0.out fun k hk => b1.block k (by simp only [Value.ownBlock, Option.some.injEq] at hk; omega))
    have hul : us.length = P.length := by rw [← hus, List.length_map]
    have z1 : w.heap.size < w1.heap.size := by have := b1.size; omega
    clear ho6 hus b1 z0
    go_wp2_with fail
    go_loopw [4, 16] (fun v i wr => NssR w w1 P v i wr) (fun _ i _ => P.length - (intOf i).toNat)
    case atStart =>
      exact ⟨0, w.heap.size, 0, Nat.zero_le _, rfl, rfl, .inl rfl, by rw [List.take_zero]; rfl, O1.out, B1.out, Nat.le_refl _, fun _ _ _ => rfl⟩
    case round =>
      obtain ⟨k, gv, cv, hk, rfl, rfl, hgv, hall, hown, hbel, zr1, hkeep⟩ := hrel
      have HW := hid hown
      have CR := hid hbel
      have HKP := hid hkeep
      have HALL := hid hall
      have hgl : gv < wr.heap.size := (hown.lt gv rfl).2
      have zr := hbel.size
      clear hown hbel hkeep hall
      by_cases hlt : k < P.length
      · obtain ⟨u, hu⟩ : ∃ u, us[k]? = some u := ⟨us[k]'(by omega), List.getElem?_eq_getElem _⟩
        have hPk : P[k]? = some u.data.toList := by rw [← HUS.out, List.getElem?_map, hu]; rfl
        have hz := HZ0.out
        have hcu : wr.cell? ⟨g6, k, none⟩ = some (.string u) := own_str (own_heap (w' := wr) O6.out fun j hj => by
          obtain rfl : g6 = j := by simpa [Value.ownBlock] using hj
          exact HKP.out g6 (by omega) hg6.2) hu
        have hum : u.size ≤ maxLen := by
          rw [list_size (s := u) rfl]
          have := HPM.out _ (List.mem_of_getElem? hPk)
          unfold maxLen
          omega
        obtain ⟨fj, hfj⟩ : ∃ fj, pnF u.data.toList = fj := ⟨_, rfl⟩
        have HFJ := hid hfj
        have HTK := hid (show P.take (k + 1) = P.take k ++ [u.data.toList] by rw [List.take_add_one, hPk]; rfl)
        have HMEM := hid (List.mem_of_getElem? hPk)
        have i1 : (0 : Int) ≤ (k : Int) := by omega
        have i2 : (k : Int) < (P.length : Int) := by omega
        clear hu hPk hfj hz
        go_wp2_with fail
        refine (parseNeedS_any u hum fj HFJ wr).mono ?_
        rintro e w2 ⟨⟨x, y, rfl, hpn⟩, b2⟩
        have HPN := hid hpn
        have R2 := hid b2
        have B2 := hid (CR.out.trans (b2.mono zr))
        have O2 := hid (own_heap (w' := w2) HW.out fun j hj => b2.block j (by simp only [Value.ownBlock, Option.some.injEq] at hj; omega))
        have z2 := b2.size
        clear hpn b2
        cases fj
        · have hn : ¬ P.all pnF = true := fun h => by
            have := List.all_eq_true.1 h _ HMEM.out
            rw [HFJ.out] at this
            cases this
          have e := HVV.out
          rw [if_neg hn] at e
          injection e with e1 e2
          subst e1 e2
          clear hn
          go_wp2_with fail
          have hnw := own_newP (w2.alloc (.cells #[.string x, .string y] 42)) 42 (lo := w.heap.size) (by have := B2.out.size; simp only [World.size_alloc]; omega)
          rw [World.size_alloc] at hnw
          exact bodyPost_ret (v := .tuple #[.slice (some ⟨w2.heap.size + 1, 0, none⟩) 0 0, .bool false]) (by simp [results, Tryd.results31, go_sem]) rfl ⟨⟨_, rfl, hnw⟩, (B2.out.alloc B2.out.size _).alloc (by have := B2.out.size; simp only [World.size_alloc]; omega) _⟩
        · obtain ⟨rfl, rfl⟩ := HPN.out.pair
          obtain ⟨x, hx⟩ : ∃ x, (ndP u.data.toList).1 = x := ⟨_, rfl⟩
          obtain ⟨y, hy⟩ : ∃ y, (ndP u.data.toList).2 = y := ⟨_, rfl⟩
          have HXY := hid (show ndP u.data.toList = (x, y) from Prod.ext hx hy)
          rw [hx, hy] at *
          clear hx hy
          obtain ⟨w3, hw3⟩ : ∃ w3, w2.alloc (.cells #[.string x, .string y] 42) = w3 := ⟨_, rfl⟩
          have zw3 : w3.heap.size = w2.heap.size + 1 := by rw [← hw3]; simp only [World.size_alloc]
          have B23 := hid (show Below w2.heap.size w2 w3 by rw [← hw3]; exact (Below.refl _ _).alloc (Nat.le_refl _) _)
          have M3 := hid (show w3.heap[w2.heap.size]? = some (.cells #[.string x, .string y] 42 (0, 0)) by rw [← hw3]; exact heap_new1 w2 _)
          have O3 := hid (own_heap (w' := w3) O2.out fun j hj => B23.out.block j (by simp only [Value.ownBlock, Option.some.injEq] at hj; omega))
          have B3 := hid (B2.out.trans (B23.out.mono B2.out.size))
          have m0 := cell_blk M3.out (j := 0) rfl
          have m1 := cell_blk M3.out (j := 1) rfl
          go_wp2_with (first
            | (at_builtin; refine wpList_append_lies _ rfl _ _ 43 rfl w.heap.size 42 i0 _ 2 32 Tryd.underlying43 hi0 hz0 hz1 hz2 rfl (by decide) _ _ _ rfl (World.ownsRow.alloc O3.out _) ⟨w2.heap.size + 1, 0, none⟩ 1 1 [.string x, .string y] rfl rfl ?c1 ?c2 (by decide) ?c3 ?c4 ?c5 (w3.heap.size + 1) (World.size_alloc _ _) ?_)
            | fail)
          case c1 =>
            have h := heap_alloc_new w3 (.cells #[.string x, .string y] 42)
            rw [zw3] at h
            exact World.news_of_block h
          case c2 => simp [Value.oneCell']
          case c3 => unfold maxLen; omega
          case c4 => omega
          case c5 => simp only [World.size_alloc]; have := B3.out.size; omega
          intro g5 cap5 w5 hown5 hg5 hat5 q5
          have HO5 := hid hown5
          have z5 := hg5.size
          simp only [World.size_alloc] at z5
          have hat : g5 = gv ∨ g5 = w3.heap.size + 1 := by
            rcases hat5 with h | h
            · simp only [Value.ownBlock, Option.some.injEq] at h
              exact .inl h.symm
            · exact .inr (by omega)
          have HG5 := hid hg5
          clear hown5 hg5 hat5 q5 m0 m1 hw3
          go_wp2_with fail
          go_roundw
          case rel =>
            have hblk : ∀ j, j < w2.heap.size → j ≠ gv → w5.heap[j]? = w2.heap[j]? := fun j hj hn => by
              rw [HG5.out.block j (by simp only [World.size_alloc]; omega) (by simp [Value.ownBlock]; omega), Below.heap_alloc _ _ _ (by omega)]
              exact B23.out.block j hj
            refine ⟨k + 1, g5, cap5, hlt, by go_num, rfl, ?_, ?_, ?_, ?_, by omega, fun j h1 h2 => ?_⟩
            · rcases hat with h | h
              · rw [h]; exact hgv
              · exact .inr (by omega)
            · rw [HTK.out, List.all_append, HALL.out]
              simp [HFJ.out]
            · rw [HTK.out, List.map_append, List.map_cons, List.map_nil, HXY.out, cells2_snoc]
              have h := HO5.out
              rw [← List.map_take] at h
              exact h
            · refine (B3.out.alloc B3.out.size _).grown HG5.out (by simp only [World.size_alloc]; have := B3.out.size; omega) (fun j hj => ?_)
              simp only [Value.ownBlock, Option.some.injEq] at hj
              omega
            · rw [hblk j (by omega) (by omega), R2.out.block j (by omega)]
              exact HKP.out j h1 h2
          case measure => simp [intOf]; omega
      · have hkn : k = P.length := by omega
        have ha := HALL.out
        have h := HW.out
        rw [List.take_of_length_le (by omega)] at ha h
        have e := HVV.out
        rw [if_pos ha] at e
        injection e with e1 e2
        subst e1 e2
        have HO := hid (show OwnNd wr w.heap.size (.slice (some ⟨gv, 0, none⟩) k cv) (P.map ndP) by unfold OwnNd; rw [List.length_map, ← hkn]; exact h)
        clear ha h
        go_wp2_with fail
        exact bodyPost_ret (v := .tuple #[.slice (some ⟨gv, 0, none⟩) k cv, .bool true]) (by simp [results, Tryd.results31, go_sem]) rfl ⟨⟨_, rfl, HO.out⟩, CR.out⟩

end Go.Proofs.YtmbfahpljgdeaaaDoor
