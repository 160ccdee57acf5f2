/- ParseInstance in the model. -/
import Derived.Test.YtjpdiahbnhemoaaGreatDoorCut
import Derived.Test.YtjpdiahbnhemoaaGreatDoorInJ
namespace Go.Proofs.YtjpdiahbnhemoaaGreatDoor
open Go.RowKit
set_option linter.unusedVariables false

theorem cutG_len (m : UInt8) : ∀ (l pre p : List UInt8), p ∈ cutG m pre l → p.length ≤ pre.length + l.length
  | [], pre, p, h => by
    have : p = pre := by simpa [cutG] using h
    rw [this]
    simp
  | c :: l, pre, p, h => by
    rcases hc : c == m with _ | _
    · rw [cutG_no _ _ hc] at h
      have := cutG_len m l _ p h
      simp only [List.length_append, List.length_cons, List.length_nil] at this ⊢
      omega
    · have e : c = m := by simpa using hc
      subst e
      rw [cutG_yes] at h
      rcases List.mem_cons.1 h with rfl | h
      · simp
      · have := cutG_len c l _ p h
        simp only [List.length_nil, List.length_cons] at this ⊢
        omega
theorem cutG_cnt (m : UInt8) : ∀ (l pre : List UInt8), (cutG m pre l).length ≤ l.length + 1
  | [], pre => by simp [cutG]
  | c :: l, pre => by
    rcases hc : c == m with _ | _
    · rw [cutG_no _ _ hc]
      have := cutG_cnt m l (pre ++ [c])
      simp only [List.length_cons]
      omega
    · have e : c = m := by simpa using hc
      subst e
      rw [cutG_yes]
      have := cutG_cnt c l []
      simp only [List.length_cons]
      omega
theorem own_str {w : World} {base n c g j : Nat} {T : TypeId} {zs : List ByteArray} (h : w.ownsRow base T 1 (.slice (some ⟨g, 0, none⟩) n c) n (zs.map Value.string)) {z : ByteArray} (hj : zs[j]? = some z) : w.cell? ⟨g, j, none⟩ = some (.string z) := by
  have := h.cells (g := g) rfl j (.string z) (by rw [List.getElem?_map, hj]; rfl)
  rw [show (⟨g, 0, none⟩ : Addr).add j = ⟨g, j, none⟩ by unfold Addr.add; split <;> simp_all] at this
  exact this
theorem PnRes.pair {l : List UInt8} {x y : ByteArray} (h : PnRes l x y true) : x = (ndP l).1 ∧ y = (ndP l).2 := by
  rcases h.2 with ⟨_, h1, h2⟩ | ⟨h, _⟩
  · exact ⟨ba_eq (h1.trans (strOf_data _).symm), ba_eq (h2.trans (strOf_data _).symm)⟩
  · cases h
theorem inBlk01 {w : World} {k : Nat} {a b c : Value} {T : TypeId} (h : w.heap[k]? = some (.cells #[a, b, c] T (0, 0))) (x y : Value) : ((w.setCell ⟨k, 0, none⟩ x).setCell ⟨k, 1, none⟩ y).heap[k]? = some (.cells #[x, y, c] T (0, 0)) := by
  simp [World.setCell, Array.getElem?_modify, h]

theorem miG_no {p : List UInt8} {ps : List (List UInt8)} (h : pnF p = false) : miG (p :: ps) = none := by
  rcases ps with _ | ⟨q, _ | ⟨a, ps⟩⟩
  · simp [miG, h]
  · simp [miG, h]
  · rfl

/-- How the model's reading of an instance ends. -/
def PiE (lo : Nat) (X Y : ByteArray) (N : List (ByteArray × ByteArray)) (f : Bool) (e : Ending) (w' : World) : Prop := ∃ A c, e = .returned (.tuple #[.agg #[.string X, .string Y, .slice A N.length c], .bool f]) ∧ N.length ≤ c ∧ Prs w' A N.length N ∧ ∀ a, A = some a → lo ≤ a.block
/-- A round of the loop that reads an instance's needs. -/
def PiR (w w6 : World) (T5 lo g6 : Nat) (x y : ByteArray) (Q : List (List UInt8)) (i : Value) (wr : World) : Prop :=
  ∃ (j g c : Nat), j ≤ Q.length ∧ i = .int .i64 j ∧ (w6.heap.size ≤ wr.heap.size ∧ Below w.heap.size w wr ∧ wr.heap[w.heap.size]? = w6.heap[w.heap.size]? ∧ wr.heap[g6]? = w6.heap[g6]?) ∧ wr.heap[T5]? = some (.cells #[.string x, .string y, .slice (some ⟨g, 0, none⟩) j c] 52 (0, 0)) ∧
    wr.ownsRow lo 49 2 (.slice (some ⟨g, 0, none⟩) j c) j (cells2 ((Q.take j).map ndP)) ∧ (Q.take j).all pnF = true ∧ g ≠ T5 ∧ g ≠ g6

set_option maxHeartbeats 4000000 in
set_option maxRecDepth 100000 in
theorem parseInstanceS_any (s : ByteArray) (hs : s.size ≤ 1048576) (X Y : ByteArray) (N : List (ByteArray × ByteArray)) (f : Bool) (hV : Hid (piV s.data.toList = (⟨X, Y, N⟩, f))) (w : World) :
    Calls Tryz.prog 22 #[.string s] w fun e w' => PiE w.heap.size X Y N f e w' ∧ Below w.heap.size w w' := by
  obtain ⟨i0, hi0, hz0, hz1, hz2⟩ := info_parts needInfo
  obtain ⟨w0, hw0⟩ : ∃ w0, w.alloc (.cells #[.string ⟨#[]⟩, .string ⟨#[]⟩, .slice none 0 0] 52) = w0 := ⟨_, rfl⟩
  have z0 : w.heap.size < w0.heap.size := by rw [← hw0]; simp only [World.size_alloc]; omega
  have B0 := hid (show Below w.heap.size w w0 by rw [← hw0]; exact (Below.refl w.heap.size w).alloc (Nat.le_refl _) _)
  have N0 := hid (show w0.heap[w.heap.size]? = some (.cells #[.string ⟨#[]⟩, .string ⟨#[]⟩, .slice none 0 0] 52 (0, 0)) by rw [← hw0]; exact heap_new1 w _)
  have HW0 := hid hw0
  clear hw0
  obtain ⟨P, hP⟩ : ∃ P, cutG 58 [] s.data.toList = P := ⟨_, rfl⟩
  have HP := hid hP
  have hmi := miG_piV s.data.toList
  rw [hP, hV.out] at hmi
  have HMI := hid hmi
  have hlen := fun p (hp : p ∈ P) => cutG_len 58 s.data.toList [] p (by rw [hP]; exact hp)
  have hPne : P ≠ [] := by rw [← hP]; exact cutG_ne 58 _ _
  have HLEN := hid (show ∀ p ∈ P, p.length ≤ 1048576 from fun p hp => by
    have := hlen p hp
    rw [← list_size (s := s) rfl] at this
    simp only [List.length_nil] at this
    omega)
  clear hmi hlen hP
  obtain ⟨p, ps, rfl⟩ : ∃ p ps, P = p :: ps := by
    rcases P with _ | ⟨p, ps⟩
    · exact absurd rfl hPne
    · exact ⟨p, ps, rfl⟩
  clear hPne
  go_enter Tryz.func22, Tryz.ntmps22
  go_wp2_with fail
  rw [HW0.out]
  refine (l13Cut_any s 58 hs _ HP w0).mono ?_
  rintro e w1 ⟨⟨g, c, zs, rfl, ho, hzs⟩, b1⟩
  obtain ⟨z, zs', rfl⟩ : ∃ z zs', zs = z :: zs' := by
    rcases zs with _ | ⟨z, zs'⟩
    · cases hzs
    · exact ⟨z, zs', rfl⟩
  simp only [List.map_cons, List.cons.injEq] at hzs
  obtain ⟨hz, hzs⟩ := hzs
  have hgb := ho.lt g rfl
  have HO := hid ho
  have HZ := hid hz
  have HZS := hid hzs
  have B1 := hid (B0.out.trans (b1.mono (Nat.le_of_lt z0)))
  have N1 := hid ((b1.block _ z0).trans N0.out)
  have z1 := b1.size
  obtain ⟨w2, hw2⟩ : ∃ w2, (w1.alloc (.cells #[] 49)).alloc (.cells #[.string ⟨#[]⟩, .string ⟨#[]⟩, .slice (some ⟨w1.heap.size, 0, none⟩) 0 0] 52) = w2 := ⟨_, rfl⟩
  have b2 : Below w1.heap.size w1 w2 := by rw [← hw2]; exact ((Below.refl _ _).alloc (Nat.le_refl _) _).alloc (by simp only [World.size_alloc]; omega) _
  have z2 : w1.heap.size + 1 < w2.heap.size := by rw [← hw2]; simp only [World.size_alloc]; omega
  have E2 := hid (show w2.heap[w1.heap.size]? = some (.cells #[] 49 (0, 0)) by
    rw [← hw2, Below.heap_alloc _ _ _ (by simp only [World.size_alloc]; omega)]
    exact heap_new1 w1 _)
  have T2 := hid (show w2.heap[w1.heap.size + 1]? = some (.cells #[.string ⟨#[]⟩, .string ⟨#[]⟩, .slice (some ⟨w1.heap.size, 0, none⟩) 0 0] 52 (0, 0)) by
    rw [← hw2]
    have := heap_new1 (w1.alloc (.cells #[] 49)) (.cells #[.string ⟨#[]⟩, .string ⟨#[]⟩, .slice (some ⟨w1.heap.size, 0, none⟩) 0 0] 52)
    rw [World.size_alloc] at this
    exact this)
  have B2 := hid b2
  have O2 := hid (own_heap (w' := w2) ho fun k hk => b2.block k (by simp only [Value.ownBlock, Option.some.injEq] at hk; omega))
  have c0 : w2.cell? ⟨g, 0, none⟩ = some (.string z) := own_str O2.out rfl
  have HW2 := hid hw2
  obtain ⟨f0, hf0⟩ : ∃ f0, pnF z.data.toList = f0 := ⟨_, rfl⟩
  have HF0 := hid hf0
  have hp1 : (0 : Int) < ((p :: ps).length : Int) := by simp only [List.length_cons]; omega
  clear ho hz hzs b1 b2 hw2 hf0
  have hzm : z.size ≤ maxLen := by
    rw [list_size HZ.out]
    have := HLEN.out p (List.mem_cons_self ..)
    unfold maxLen
    omega
  have hp2 : (0 : Int) < ((ps.length + 1 : Nat) : Int) := by omega
  go_upto_region 3 with fail
  rw [HW2.out]
  go_wp2_with fail
  refine (parseNeedS_any z hzm f0 HF0 w2).mono ?_
  rintro e w3 ⟨⟨x, y, rfl, hpn⟩, b3⟩
  have HPN := hid hpn
  have z3 := b3.size
  obtain ⟨w4, hw4⟩ : ∃ w4, w3.alloc (.cells #[.string x, .string y] 49) = w4 := ⟨_, rfl⟩
  have b4 : Below w2.heap.size w2 w4 := b3.trans (by rw [← hw4]; exact (Below.refl _ _).alloc z3 _)
  have M4 := hid (show w4.heap[w3.heap.size]? = some (.cells #[.string x, .string y] 49 (0, 0)) by rw [← hw4]; exact heap_new1 w3 _)
  have z4 : w3.heap.size < w4.heap.size := by rw [← hw4]; simp only [World.size_alloc]; omega
  have BB2 := hid (B1.out.trans (B2.out.mono (by omega)))
  have B4 := hid (BB2.out.trans (b4.mono (by omega)))
  have N4 := hid ((b4.block _ (by omega)).trans ((B2.out.block _ (by omega)).trans N1.out))
  have T4 := hid ((b4.block _ z2).trans T2.out)
  have E4 := hid ((b4.block _ (by omega)).trans E2.out)
  have O4 := hid (own_heap (w' := w4) O2.out fun k hk => b4.block k (by simp only [Value.ownBlock, Option.some.injEq] at hk; omega))
  have HW4 := hid hw4
  have n0 := cell_blk N4.out (j := 0) rfl
  have n1 := cell_blk N4.out (j := 1) rfl
  have n2 := cell_blk N4.out (j := 2) rfl
  have nf := frz_blk N4.out
  have hp0 : pnF p = f0 := by rw [← HZ.out]; exact HF0.out
  have HP0 := hid hp0
  clear hpn b3 b4 hw4 c0 hp0
  go_upto_region 4 with fail
  rw [HW4.out]
  cases f0
  · have hnone : miG (p :: ps) = none := miG_no HP0.out
    have HM := HMI.out
    rw [hnone] at HM
    injection HM with HM1 HM2
    injection HM1 with HM3 HM4 HM5
    subst HM2 HM3 HM4 HM5
    go_wp2_with fail
    refine bodyPost_ret (v := .tuple #[.agg #[.string ⟨#[]⟩, .string ⟨#[]⟩, .slice none 0 0], .bool false]) (by simp [results, Tryz.results22, go_sem, n0, n1, n2]) rfl ⟨⟨none, 0, rfl, Nat.le_refl _, ⟨rfl, fun h => absurd h (Nat.lt_irrefl 0)⟩, fun a h => (by cases h)⟩, ?_⟩
    first | exact B4.out | exact B4.out.trans ((set3_but (rb := w.heap.size) (Nat.le_refl _) _ _ _).below (Nat.le_refl _))
  · obtain ⟨rfl, rfl⟩ := HPN.out.pair
    rw [HZ.out] at *
    have t0 := cell_blk T4.out (j := 0) rfl
    have t1 := cell_blk T4.out (j := 1) rfl
    have t2 := cell_blk T4.out (j := 2) rfl
    have tf := frz_blk T4.out
    have m0 := cell_blk M4.out (j := 0) rfl
    have m1 := cell_blk M4.out (j := 1) rfl
    obtain ⟨w5, hw5⟩ : ∃ w5, (w4.setCell ⟨w1.heap.size + 1, 0, none⟩ (.string (ndP p).1)).setCell ⟨w1.heap.size + 1, 1, none⟩ (.string (ndP p).2) = w5 := ⟨_, rfl⟩
    have h5 : ∀ k, k ≠ w1.heap.size + 1 → w5.heap[k]? = w4.heap[k]? := fun k hk => by rw [← hw5]; exact set2_other hk _ _
    have b5 : But w4.heap.size (w1.heap.size + 1) w4 w5 := ⟨by rw [← hw5]; rfl, by rw [← hw5]; rfl, by rw [← hw5]; rfl, by rw [← hw5]; simp [World.setCell], fun k _ hk => h5 k hk⟩
    have z5 := b5.size
    have B5 := hid (B4.out.trans (b5.below' (B' := w.heap.size) (by omega) (by omega)))
    have N5 := hid ((h5 w.heap.size (by omega)).trans N4.out)
    have T5 := hid (show w5.heap[w1.heap.size + 1]? = some (.cells #[.string (ndP p).1, .string (ndP p).2, .slice (some ⟨w1.heap.size, 0, none⟩) 0 0] 52 (0, 0)) by rw [← hw5]; exact inBlk01 T4.out _ _)
    have E5 := hid ((h5 w1.heap.size (by omega)).trans E4.out)
    have O5 := hid (own_heap (w' := w5) O4.out fun k hk => h5 k (by simp only [Value.ownBlock, Option.some.injEq] at hk; omega))
    have HW5 := hid hw5
    clear hw5 b5
    rcases ps with _ | ⟨q, _ | ⟨a, ps⟩⟩
    · have hsome : miG [p] = some ⟨(ndP p).1, (ndP p).2, []⟩ := by simp [miG, HP0.out]
      have HM := HMI.out
      rw [hsome] at HM
      injection HM with HM1 HM2
      injection HM1 with HM3 HM4 HM5
      subst HM2 HM3 HM4 HM5
      go_upto_region 7 with fail
      rw [HW5.out]
      clear n0 n1 n2 nf t0 t1 t2 tf m0 m1
      have n0 := cell_blk N5.out (j := 0) rfl
      have n1 := cell_blk N5.out (j := 1) rfl
      have n2 := cell_blk N5.out (j := 2) rfl
      have nf := frz_blk N5.out
      have t0 := cell_blk T5.out (j := 0) rfl
      have t1 := cell_blk T5.out (j := 1) rfl
      have t2 := cell_blk T5.out (j := 2) rfl
      go_wp2_with fail
      refine bodyPost_ret (v := .tuple #[.agg #[.string (ndP p).1, .string (ndP p).2, .slice (some ⟨w1.heap.size, 0, none⟩) 0 0], .bool true]) (by simp [results, Tryz.results22, go_sem, n0, n1, n2]) rfl ⟨⟨_, 0, rfl, Nat.le_refl _, ⟨rfl, fun h => absurd h (Nat.lt_irrefl 0)⟩, fun a h => by injection h with h; rw [← h]; show w.heap.size ≤ w1.heap.size; omega⟩, ?_⟩
      exact B5.out.trans ((set3_but (rb := w.heap.size) (Nat.le_refl _) _ _ _).below (Nat.le_refl _))
    · obtain ⟨z1', rfl⟩ : ∃ z1', zs' = [z1'] := by
        have h := HZS.out
        rcases zs' with _ | ⟨u, _ | ⟨u2, us⟩⟩
        · cases h
        · exact ⟨u, rfl⟩
        · simp at h
      have HQ := hid (show z1'.data.toList = q by have h := HZS.out; simpa using h)
      have hqm : z1'.size ≤ 1048576 := by
        rw [list_size HQ.out]
        exact HLEN.out q (by simp)
      obtain ⟨Q, hQ⟩ : ∃ Q, cutG 38 [] z1'.data.toList = Q := ⟨_, rfl⟩
      have hQm : ∀ u ∈ Q, u.length ≤ 1048576 := fun u hu => by
        have := cutG_len 38 z1'.data.toList [] u (by rw [hQ]; exact hu)
        rw [← list_size (s := z1') rfl] at this
        simp only [List.length_nil] at this
        omega
      have HQQ := hid hQ
      have HQM := hid hQm
      have c1 : w5.cell? ⟨g, 1, none⟩ = some (.string z1') := own_str O5.out rfl
      have q1 : (1 : Int) < (([q].length + 1 : Nat) : Int) := by simp
      clear hQ hQm
      go_upto_region 7 with fail
      rw [HW5.out]
      clear n0 n1 n2 nf t0 t1 t2 tf m0 m1
      go_upto_region 8 with fail
      go_wp2_with fail
      refine (l13Cut_any z1' 38 hqm Q HQQ w5).mono ?_
      rintro e w6 ⟨⟨g6, c6, us, rfl, ho6, hus⟩, b6⟩
      have hg6 := ho6.lt g6 rfl
      have O6 := hid ho6
      have HUS := hid hus
      have B6 := hid (B5.out.trans (b6.mono (by omega)))
      have N6 := hid ((b6.block _ (by omega)).trans N5.out)
      have T6 := hid ((b6.block _ (by omega)).trans T5.out)
      have E6 := hid ((b6.block _ (by omega)).trans E5.out)
      have z6 := b6.size
      have hul : us.length = Q.length := by rw [← hus, List.length_map]
      clear ho6 hus b6 c1
      go_wp2_with fail
      go_loopw [41] (fun i wr => PiR w w6 (w1.heap.size + 1) w1.heap.size g6 (ndP p).1 (ndP p).2 Q i wr) (fun i _ => Q.length - (intOf i).toNat)
      case atStart =>
        exact ⟨0, w1.heap.size, 0, Nat.zero_le _, rfl, ⟨Nat.le_refl _, B6.out, rfl, rfl⟩, T6.out, ⟨by rw [List.take_zero]; rfl, .inr ⟨w1.heap.size, 0, #[], rfl, Nat.le_refl _, E6.out, Nat.le_refl _, Nat.zero_le _, rfl, by rw [List.take_zero]; rfl⟩⟩, by rw [List.take_zero]; rfl, by omega, by omega⟩
      case round =>
        obtain ⟨j, gg, cc, hj, rfl, ⟨zr, hbr, hk1, hk2⟩, hT, hown, hall, hne, hne2⟩ := hrel
        have BR := hid hbr
        have NR := hid (hk1.trans N6.out)
        have HK1 := hid hk1
        have HK2 := hid hk2
        have HT := hid hT
        have HOWN := hid hown
        have HALL := hid hall
        have hgg := hown.lt gg rfl
        by_cases hlt : j < Q.length
        · have i1 : (0 : Int) ≤ (j : Int) := by omega
          have i2 : (j : Int) < (Q.length : Int) := by omega
          have i3 : IntKind.i64.wrap ((j : Int) + 1) = (j : Int) + 1 := by
            have : Q.length ≤ 1048577 := by
              have h := cutG_cnt 38 z1'.data.toList []
              rw [HQQ.out, ← list_size (s := z1') rfl] at h
              omega
            rw [IntKind.wrap_i64]; omega
          have hQl : Q.length ≤ 1048577 := by
            have h := cutG_cnt 38 z1'.data.toList []
            rw [HQQ.out, ← list_size (s := z1') rfl] at h
            omega
          obtain ⟨u, hu⟩ : ∃ u, us[j]? = some u := ⟨us[j]'(by omega), List.getElem?_eq_getElem _⟩
          have hQj : Q[j]? = some u.data.toList := by rw [← HUS.out, List.getElem?_map, hu]; rfl
          have hcu : wr.cell? ⟨g6, j, none⟩ = some (.string u) := own_str (own_heap (w' := wr) O6.out fun k hk => by
            obtain rfl : g6 = k := by simpa [Value.ownBlock] using hk
            exact hk2) hu
          have hum : u.size ≤ maxLen := by
            rw [list_size (s := u) rfl]
            have := HQM.out _ (List.mem_of_getElem? hQj)
            unfold maxLen
            omega
          obtain ⟨fj, hfj⟩ : ∃ fj, pnF u.data.toList = fj := ⟨_, rfl⟩
          have HFJ := hid hfj
          have HQJ := hid hQj
          have HTK := hid (show Q.take (j + 1) = Q.take j ++ [u.data.toList] by rw [List.take_add_one, hQj]; rfl)
          clear hbr hk1 hk2 hT hown hall hfj hQj hu
          go_wp2_with fail
          refine (parseNeedS_any u hum fj HFJ wr).mono ?_
          rintro e w7 ⟨⟨x', y', rfl, hpn'⟩, b7⟩
          have HPJ := hid hpn'
          have z7 := b7.size
          obtain ⟨w8, hw8⟩ : ∃ w8, w7.alloc (.cells #[.string x', .string y'] 49) = w8 := ⟨_, rfl⟩
          have b8 : Below wr.heap.size wr w8 := b7.trans (by rw [← hw8]; exact (Below.refl _ _).alloc z7 _)
          have M8 := hid (show w8.heap[w7.heap.size]? = some (.cells #[.string x', .string y'] 49 (0, 0)) by rw [← hw8]; exact heap_new1 w7 _)
          have z8 : w7.heap.size < w8.heap.size := by rw [← hw8]; simp only [World.size_alloc]; omega
          have B8 := hid (BR.out.trans (b8.mono (by omega)))
          have N8 := hid ((b8.block _ (by omega)).trans NR.out)
          have T8 := hid ((b8.block _ (by omega)).trans HT.out)
          have U8 := hid (show w8.heap[w.heap.size]? = w6.heap[w.heap.size]? ∧ w8.heap[g6]? = w6.heap[g6]? from ⟨(b8.block _ (by omega)).trans HK1.out, (b8.block _ (by omega)).trans HK2.out⟩)
          have O8 := hid (own_heap (w' := w8) HOWN.out fun k hk => b8.block k (by simp only [Value.ownBlock, Option.some.injEq] at hk; omega))
          have HW8 := hid hw8
          clear hpn' b7 b8 hw8 hcu
          go_upto_region 12 with fail
          rw [HW8.out]
          cases fj
          · have n0 := cell_blk N8.out (j := 0) rfl
            have n1 := cell_blk N8.out (j := 1) rfl
            have n2 := cell_blk N8.out (j := 2) rfl
            have nf := frz_blk N8.out
            have hnone : miG [p, q] = none := by
              show (if (pnF p && (cutG 38 [] q).all pnF) = true then _ else _) = none
              rw [if_neg]
              rw [← HQ.out, HQQ.out, Bool.and_eq_true]
              rintro ⟨_, h⟩
              have := List.all_eq_true.1 h _ (List.mem_of_getElem? HQJ.out)
              rw [HFJ.out] at this
              cases this
            have HM := HMI.out
            rw [hnone] at HM
            injection HM with HM1 HM2
            injection HM1 with HM3 HM4 HM5
            subst HM2 HM3 HM4 HM5
            go_wp2_with fail
            refine bodyPost_ret (v := .tuple #[.agg #[.string ⟨#[]⟩, .string ⟨#[]⟩, .slice none 0 0], .bool false]) (by simp [results, Tryz.results22, go_sem, n0, n1, n2]) rfl ⟨⟨none, 0, rfl, Nat.le_refl _, ⟨rfl, fun h => absurd h (Nat.lt_irrefl 0)⟩, fun a h => (by cases h)⟩, ?_⟩
            first | exact B8.out | exact B8.out.trans ((set3_but (rb := w.heap.size) (Nat.le_refl _) _ _ _).below (Nat.le_refl _))
          · obtain ⟨rfl, rfl⟩ := HPJ.out.pair
            have t0 := cell_blk T8.out (j := 0) rfl
            have t1 := cell_blk T8.out (j := 1) rfl
            have t2 := cell_blk T8.out (j := 2) rfl
            have tf := frz_blk T8.out
            have m0 := cell_blk M8.out (j := 0) rfl
            have m1 := cell_blk M8.out (j := 1) rfl
            have A0 := hid (fun (o : Obj) => show (w8.alloc o).heap[w1.heap.size + 1]? = some (.cells #[.string (ndP p).1, .string (ndP p).2, .slice (some ⟨gg, 0, none⟩) j cc] 52 (0, 0)) from (Below.heap_alloc _ _ _ (by omega)).trans T8.out)
            go_wp2_with (first
              | (at_builtin; refine wpList_append_lies _ rfl _ _ 50 rfl w1.heap.size 49 i0 _ 2 32 Tryz.underlying50 hi0 hz0 hz1 hz2 rfl (by decide) _ _ _ rfl (O8.out.alloc _) ⟨w8.heap.size, 0, none⟩ 1 1 [.string (ndP u.data.toList).1, .string (ndP u.data.toList).2] rfl rfl ?c1 ?c2 (by decide) ?c3 ?c4 ?c5 (w8.heap.size + 1) (World.size_alloc _ _) ?_)
              | fail)
            case c1 => exact World.news_of_block (heap_alloc_new w8 _)
            case c2 => simp [Value.oneCell']
            case c3 => unfold maxLen; omega
            case c4 => omega
            case c5 => simp only [World.size_alloc]; omega
            intro g9 cap9 w9 hown9 hg9 hat9 q9
            have z9 := hg9.size
            simp only [World.size_alloc] at z9
            have hg9n : g9 ≠ w1.heap.size + 1 := by
              rcases hat9 with h | h
              · simp only [Value.ownBlock, Option.some.injEq] at h; omega
              · omega
            have T9 := hid ((hg9.block (w1.heap.size + 1) (by simp only [World.size_alloc]; omega) (by simp [Value.ownBlock]; omega)).trans (A0.out _))
            have hg9m : g9 ≠ g6 := by
              rcases hat9 with h | h
              · simp only [Value.ownBlock, Option.some.injEq] at h; omega
              · omega
            have K9 := hid (fun k (hk : k < w8.heap.size) (hn : k ≠ gg) => show w9.heap[k]? = w8.heap[k]? from (hg9.block k (by simp only [World.size_alloc]; omega) (by simp [Value.ownBlock]; omega)).trans (Below.heap_alloc _ _ _ (by omega)))
            have B9 := hid ((B8.out.alloc B8.out.size (.cells #[.string (ndP u.data.toList).1, .string (ndP u.data.toList).2] 49)).grown hg9 (by simp only [World.size_alloc]; omega) (by intro k hk; simp [Value.ownBlock] at hk; omega))
            have HO9 := hid hown9
            clear hown9 t0 t1 t2 tf m0 m1
            have t0 := cell_blk T9.out (j := 0) rfl
            have t1 := cell_blk T9.out (j := 1) rfl
            have t2 := cell_blk T9.out (j := 2) rfl
            have tf := frz_blk T9.out
            go_wp2_with fail
            go_roundw
            case rel =>
              refine ⟨j + 1, g9, cap9, hlt, by go_num, ⟨by simp [World.setCell]; omega, B9.out.setCell (show w.heap.size ≤ w1.heap.size + 1 by omega) _, (set1_other (by omega) _).trans ((K9.out _ (by omega) (by omega)).trans U8.out.1), (set1_other (by omega) _).trans ((K9.out _ (by omega) (by omega)).trans U8.out.2)⟩, inBlk T9.out _, ?_, by rw [HTK.out, List.all_append, HALL.out, List.all_cons, HFJ.out]; rfl, hg9n, hg9m⟩
              refine own_heap (w := w9) ?_ fun k hk => set1_other (by simp only [Value.ownBlock, Option.some.injEq] at hk; omega) _
              rw [HTK.out, List.map_append, List.map_cons, List.map_nil, cells2_snoc]
              have h := HO9.out
              rw [← List.map_take] at h
              exact h
            case measure => simp [intOf]; omega
        · obtain rfl : j = Q.length := by omega
          have hsome : miG [p, q] = some ⟨(ndP p).1, (ndP p).2, Q.map ndP⟩ := by
            have h := HALL.out
            rw [List.take_length] at h
            show (if (pnF p && (cutG 38 [] q).all pnF) = true then _ else _) = _
            rw [← HQ.out, HQQ.out, HP0.out, h]
            rfl
          have HM := HMI.out
          rw [hsome] at HM
          injection HM with HM1 HM2
          injection HM1 with HM3 HM4 HM5
          subst HM2 HM3 HM4 HM5
          have n0 := cell_blk NR.out (j := 0) rfl
          have n1 := cell_blk NR.out (j := 1) rfl
          have n2 := cell_blk NR.out (j := 2) rfl
          have nf := frz_blk NR.out
          have t0 := cell_blk HT.out (j := 0) rfl
          have t1 := cell_blk HT.out (j := 1) rfl
          have t2 := cell_blk HT.out (j := 2) rfl
          clear hT hown hbr hk1 hk2
          go_wp2_with fail
          have hO := own_heap (w' := ((wr.setCell ⟨w.heap.size, 0, none⟩ (.string (ndP p).1)).setCell ⟨w.heap.size, 1, none⟩ (.string (ndP p).2)).setCell ⟨w.heap.size, 2, none⟩ (.slice (some ⟨gg, 0, none⟩) Q.length cc)) HOWN.out fun k hk => set3_other (by simp only [Value.ownBlock, Option.some.injEq] at hk; omega) _ _ _
          rw [List.take_length] at hO
          obtain ⟨B, c', e1, hc', hpr⟩ := own_pairs hO
          simp only [Value.slice.injEq] at e1
          obtain ⟨rfl, _, rfl⟩ := e1
          refine bodyPost_ret (v := .tuple #[.agg #[.string (ndP p).1, .string (ndP p).2, .slice (some ⟨gg, 0, none⟩) Q.length cc], .bool true]) (by simp [results, Tryz.results22, go_sem, n0, n1, n2]) rfl ⟨⟨_, _, by rw [List.length_map], by rw [List.length_map]; exact hc', by rw [List.length_map]; exact hpr, fun a h => by injection h with h; rw [← h]; show w.heap.size ≤ gg; have := HOWN.out.lt gg rfl; omega⟩, ?_⟩
          exact BR.out.trans ((set3_but (rb := w.heap.size) (Nat.le_refl _) _ _ _).below (Nat.le_refl _))
    · have h2 : (2 : Int) < (((q :: a :: ps).length + 1 : Nat) : Int) := by simp only [List.length_cons]; omega
      have hnone : miG (p :: q :: a :: ps) = none := rfl
      have HM := HMI.out
      rw [hnone] at HM
      injection HM with HM1 HM2
      injection HM1 with HM3 HM4 HM5
      subst HM2 HM3 HM4 HM5
      go_wp2_with fail
      refine bodyPost_ret (v := .tuple #[.agg #[.string ⟨#[]⟩, .string ⟨#[]⟩, .slice none 0 0], .bool false]) (by simp [results, Tryz.results22, go_sem, n0, n1, n2]) rfl ⟨⟨none, 0, rfl, Nat.le_refl _, ⟨rfl, fun h => absurd h (Nat.lt_irrefl 0)⟩, fun a h => (by cases h)⟩, ?_⟩
      first | exact B4.out | exact B4.out.trans ((set3_but (rb := w.heap.size) (Nat.le_refl _) _ _ _).below (Nat.le_refl _))

end Go.Proofs.YtjpdiahbnhemoaaGreatDoor
