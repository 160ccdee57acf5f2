/- ParseWorld in the model. ParseWorld in the model: what it hands back. -/
import Derived.Test.YtjpdiahbnhemoaaGreatDoorOwnS
import Derived.Test.YtjpdiahbnhemoaaGreatDoorPwW
import Derived.Test.YtjpdiahbnhemoaaGreatDoorPiS
import Derived.Test.YtjpdiahbnhemoaaGreatDoorWdX
import Derived.Deep.Cut
import Derived.Deep.AppendLies
namespace Go.Proofs.YtjpdiahbnhemoaaGreatDoor
open Go.RowKit
set_option linter.unusedVariables false

/-- A round of the loop that reads classes. T is where the world lies; what lay there at w3 stays, but for T and the row. -/
def CwR (w w3 : World) (T lo E g g1 : Nat) (Q : List (List UInt8)) (i : Value) (wr : World) : Prop :=
  ∃ (j gC cap : Nat), j ≤ Q.length ∧ i = .int .i64 j ∧ wr.heap[T]? = some (.cells #[.slice (some ⟨gC, 0, none⟩) j cap, .slice (some ⟨E, 0, none⟩) 0 0] 25 (0, 0)) ∧
    wr.ownsRow lo 47 2 (.slice (some ⟨gC, 0, none⟩) j cap) j (cells2 ((Q.take j).map mcP)) ∧ (∀ k, k < w3.heap.size → k ≠ T ∧ k ≠ lo → wr.heap[k]? = w3.heap[k]?) ∧ w3.heap.size ≤ wr.heap.size ∧ Below w.heap.size w wr ∧ (gC = lo ∨ w3.heap.size ≤ gC)

/-- A round of the loop that reads instances. -/
def IwR (w w7 : World) (T gC n capC E : Nat) (ps : List (List UInt8)) (i : Value) (wr : World) : Prop :=
  ∃ (j gI cap : Nat) (qs : List InP), j ≤ ps.length ∧ i = .int .i64 j ∧ wr.heap[T]? = some (.cells #[.slice (some ⟨gC, 0, none⟩) n capC, .slice (some ⟨gI, 0, none⟩) j cap] 25 (0, 0)) ∧
    wr.ownsRow E 52 3 (.slice (some ⟨gI, 0, none⟩) j cap) j (cells3 qs) ∧ qs.map Prod.fst = (ps.take j).map inI ∧ (ps.take j).all piF = true ∧
    (∀ (l : Nat) p, qs[l]? = some p → Prs wr p.2.1 p.1.ns.length p.1.ns ∧ (0 < p.1.ns.length → ∀ b, p.2.1 = some b → b.block ≠ gI ∧ b.block ≠ T ∧ b.block ≠ w.heap.size)) ∧
    (∀ k, k < w7.heap.size → k ≠ T ∧ k ≠ E → wr.heap[k]? = w7.heap[k]?) ∧ w7.heap.size ≤ wr.heap.size ∧ Below w.heap.size w wr ∧ (gI = E ∨ w7.heap.size ≤ gI)
theorem Prs.keep0 {w w' : World} {A : Option Addr} {n : Nat} {zs : List (ByteArray × ByteArray)} (h : Prs w A n zs) (hz : w.heap.size ≤ w'.heap.size) (hk : 0 < n → ∀ a, A = some a → a.block < w.heap.size → w'.heap[a.block]? = w.heap[a.block]?) : Prs w' A n zs := by
  by_cases hn : 0 < n
  · obtain ⟨g, o, rfl, hg, _⟩ := h.2 hn
    exact h.keep hz fun a ha => hk hn a ha (by injection ha with ha; rw [← ha]; exact hg)
  · exact ⟨h.1, fun h => absurd h hn⟩

/-- How the model's reading of a world ends. -/
def PwE (Z : List (ByteArray × ByteArray)) (L : List Ins) (f : Bool) (e : Ending) (w' : World) : Prop := ∃ A c B d, e = .returned (.tuple #[.agg #[.slice A Z.length c, .slice B L.length d], .bool f]) ∧ Prs w' A Z.length Z ∧ Inss w' B L.length L

set_option maxHeartbeats 8000000 in
set_option maxRecDepth 100000 in
theorem rawParseWorldS_any (s : ByteArray) (hs : s.size ≤ 1048576) (Z : List (ByteArray × ByteArray)) (L : List Ins) (f : Bool) (hV : Hid (pwV s.data.toList = (Z, L, f))) (w : World) :
    Calls Tryz.prog 9 #[.string s] w fun e w' => PwE Z L f e w' ∧ Below w.heap.size w w' := by
  obtain ⟨i0, hi0, hz0, hz1, hz2⟩ := info_parts clsInfoO
  obtain ⟨i1, hi10, hz10, hz11, hz12⟩ := info_parts insInfoO
  obtain ⟨w0, hw0⟩ : ∃ w0, w.alloc (.cells #[.slice none 0 0, .slice none 0 0] 25) = w0 := ⟨_, rfl⟩
  have z0 : w.heap.size < w0.heap.size := by rw [← hw0]; simp only [World.size_alloc]; omega
  have B0 := hid (show Below w.heap.size w w0 by rw [← hw0]; exact (Below.refl w.heap.size w).alloc (Nat.le_refl _) _)
  have N0 := hid (show w0.heap[w.heap.size]? = some (.cells #[.slice none 0 0, .slice none 0 0] 25 (0, 0)) by rw [← hw0]; exact heap_new1 w _)
  have HW0 := hid hw0
  clear hw0
  obtain ⟨P, hP⟩ : ∃ P, cutG 59 [] s.data.toList = P := ⟨_, rfl⟩
  have HP := hid hP
  have hmi := mwG_pwV s.data.toList
  rw [hP, hV.out] at hmi
  have HMI := hid hmi
  have hlen := fun p (hp : p ∈ P) => cutG_len 59 s.data.toList [] p (by rw [hP]; exact hp)
  have hPne : P ≠ [] := by rw [← hP]; exact cutG_ne 59 _ _
  have hcnt : P.length ≤ 1048577 := by
    have h := cutG_cnt 59 s.data.toList []
    rw [hP, ← list_size (s := s) rfl] at h
    omega
  have HLEN := hid (show ∀ p ∈ P, p.length ≤ 1048576 from fun p hp => by
    have := hlen p hp
    rw [← list_size (s := s) rfl] at this
    simp only [List.length_nil] at this
    omega)
  clear hmi hlen hP
  obtain ⟨p, ps, rfl⟩ : ∃ p ps, P = p :: ps := by
    rcases P with _ | ⟨p, ps⟩
    · exact absurd rfl hPne
    · exact ⟨p, ps, rfl⟩
  clear hPne
  go_enter Tryz.func9, Tryz.ntmps9
  go_wp2_with fail
  rw [HW0.out]
  refine (l13Cut_any s 59 hs _ HP w0).mono ?_
  rintro e w1 ⟨⟨g, c, zs, rfl, ho, hzs⟩, b1⟩
  obtain ⟨z, zs', rfl⟩ : ∃ z zs', zs = z :: zs' := by
    rcases zs with _ | ⟨z, zs'⟩
    · cases hzs
    · exact ⟨z, zs', rfl⟩
  simp only [List.map_cons, List.cons.injEq] at hzs
  obtain ⟨hz, hzs⟩ := hzs
  have hgb := ho.lt g rfl
  have HO := hid ho
  have HZ := hid hz
  have HZS := hid hzs
  have B1 := hid (B0.out.trans (b1.mono (Nat.le_of_lt z0)))
  have N1 := hid ((b1.block _ z0).trans N0.out)
  have z1 := b1.size
  have n0 : (0 : Int) < (((p :: ps).length : Nat) : Int) := by simp only [List.length_cons]; omega
  obtain ⟨w2, hw2⟩ : ∃ w2, ((w1.alloc (.cells #[] 47)).alloc (.cells #[] 52)).alloc (.cells #[.slice (some ⟨w1.heap.size, 0, none⟩) 0 0, .slice (some ⟨w1.heap.size + 1, 0, none⟩) 0 0] 25) = w2 := ⟨_, rfl⟩
  have z2 : w2.heap.size = w1.heap.size + 3 := by rw [← hw2]; simp only [World.size_alloc]
  have b2 : Below w1.heap.size w1 w2 := by rw [← hw2]; exact (((Below.refl w1.heap.size w1).alloc (Nat.le_refl _) _).alloc (by simp only [World.size_alloc]; omega) _).alloc (by simp only [World.size_alloc]; omega) _
  have C2 := hid (show w2.heap[w1.heap.size]? = some (.cells #[] 47 (0, 0)) by
    rw [← hw2, Below.heap_alloc _ _ _ (by simp only [World.size_alloc]; omega), Below.heap_alloc _ _ _ (by simp only [World.size_alloc]; omega)]
    exact heap_alloc_new w1 _)
  have E2 := hid (show w2.heap[w1.heap.size + 1]? = some (.cells #[] 52 (0, 0)) by
    rw [← hw2, Below.heap_alloc _ _ _ (by simp only [World.size_alloc]; omega)]
    have := heap_alloc_new (w1.alloc (.cells #[] 47)) (.cells #[] 52)
    rw [World.size_alloc] at this
    exact this)
  have T2 := hid (show w2.heap[w1.heap.size + 1 + 1]? = some (.cells #[.slice (some ⟨w1.heap.size, 0, none⟩) 0 0, .slice (some ⟨w1.heap.size + 1, 0, none⟩) 0 0] 25 (0, 0)) by
    rw [← hw2]
    have := heap_new1 ((w1.alloc (.cells #[] 47)).alloc (.cells #[] 52)) (.cells #[.slice (some ⟨w1.heap.size, 0, none⟩) 0 0, .slice (some ⟨w1.heap.size + 1, 0, none⟩) 0 0] 25)
    simp only [World.size_alloc] at this
    exact this)
  have B2 := hid (B1.out.trans (b2.mono (by omega)))
  have N2 := hid ((b2.block w.heap.size (by omega)).trans N1.out)
  have O2 := hid (own_heap (w' := w2) ho fun k hk => b2.block k (by simp only [Value.ownBlock, Option.some.injEq] at hk; omega))
  have HW2 := hid hw2
  have q0 : w2.cell? ⟨g, 0, none⟩ = some (.string z) := own_str O2.out rfl
  obtain ⟨T, hT⟩ : ∃ T, w1.heap.size + 1 + 1 = T := ⟨_, rfl⟩
  have HT := hid hT
  rw [hT] at T2
  have hzm : z.size ≤ 1048576 := by
    rw [list_size HZ.out]
    exact HLEN.out p (by simp)
  obtain ⟨Q, hQ⟩ : ∃ Q, cutG 32 [] z.data.toList = Q := ⟨_, rfl⟩
  have HQ := hid hQ
  have HQL := hid (show ∀ u ∈ Q, u.length ≤ 1048576 from fun u hu => by
    have := cutG_len 32 z.data.toList [] u (by rw [hQ]; exact hu)
    rw [← list_size (s := z) rfl] at this
    simp only [List.length_nil] at this
    omega)
  have hQc : Q.length ≤ 1048577 := by
    have h := cutG_cnt 32 z.data.toList []
    rw [hQ, ← list_size (s := z) rfl] at h
    omega
  clear ho hz hzs b1 hw2 b2 hT hQ
  go_upto_region 3 with fail
  rw [HW2.out]
  go_wp2_with fail
  refine (l13Cut_any z 32 hzm Q HQ w2).mono ?_
  rintro e w3 ⟨⟨g1, c1, us, rfl, ho1, hus⟩, b3⟩
  have hT := HT.out
  have hg1 := ho1.lt g1 rfl
  have z3 := b3.size
  have B3 := hid (B2.out.trans (b3.mono (by omega)))
  have C3 := hid ((b3.block _ (by omega)).trans C2.out)
  have E3 := hid ((b3.block _ (by omega)).trans E2.out)
  have T3 := hid ((b3.block T (by omega)).trans T2.out)
  have N3 := hid ((b3.block w.heap.size (by omega)).trans N2.out)
  have F3 := hid (b3.block g (by omega))
  have P3 := hid ho1
  have HUS := hid hus
  have hul : us.length = Q.length := by rw [← hus, List.length_map]
  clear b3 ho1 hus q0
  go_wp2_with fail
  go_loopw [23] (fun i wr => CwR w w3 T w1.heap.size (w1.heap.size + 1) g g1 Q i wr) (fun i _ => Q.length - (intOf i).toNat)
  case atStart =>
    exact ⟨0, w1.heap.size, 0, Nat.zero_le _, rfl, T3.out, ⟨by rw [List.take_zero]; rfl, .inr ⟨w1.heap.size, 0, #[], rfl, Nat.le_refl _, C3.out, Nat.le_refl _, Nat.zero_le _, rfl, by rw [List.take_zero]; rfl⟩⟩, fun k _ _ => rfl, Nat.le_refl _, B3.out, .inl rfl⟩
  case round =>
    obtain ⟨j, gC, cap, hj, rfl, hTT, hown, hk, hzw, hbel, hn⟩ := hrel
    have hgC := hown.lt gC rfl
    have HTT := hid hTT
    have HOWN := hid hown
    have HK := hid hk
    clear hTT hown hk
    by_cases hlt : j < Q.length
    · have i1 : (0 : Int) ≤ (j : Int) := by omega
      have i2 : (j : Int) < (Q.length : Int) := by omega
      have i3 : IntKind.i64.wrap ((j : Int) + 1) = (j : Int) + 1 := by rw [IntKind.wrap_i64]; omega
      obtain ⟨u, hu⟩ : ∃ u, us[j]? = some u := ⟨us[j]'(by omega), List.getElem?_eq_getElem _⟩
      have hQj : Q[j]? = some u.data.toList := by rw [← HUS.out, List.getElem?_map, hu]; rfl
      have hcu : wr.cell? ⟨g1, j, none⟩ = some (.string u) := own_str (own_heap (w' := wr) P3.out fun k hk => by
        obtain rfl : g1 = k := by simpa [Value.ownBlock] using hk
        exact HK.out g1 hg1.2 (by omega)) hu
      have hum : u.size ≤ 1048576 := by
        rw [list_size (s := u) rfl]
        exact HQL.out _ (List.mem_of_getElem? hQj)
      have HTK := hid (show Q.take (j + 1) = Q.take j ++ [u.data.toList] by rw [List.take_add_one, hQj]; rfl)
      have hul1 : u.data.toList.length = u.size := by simp
      obtain ⟨w4, hw4⟩ : ∃ w4, wr.alloc (.cells #[.string u, .string ⟨#[]⟩] 47) = w4 := ⟨_, rfl⟩
      have b4 : Below wr.heap.size wr w4 := by rw [← hw4]; exact (Below.refl _ _).alloc (Nat.le_refl _) _
      have z4 : w4.heap.size = wr.heap.size + 1 := by rw [← hw4]; simp only [World.size_alloc]
      have M4 := hid (show w4.heap[wr.heap.size]? = some (.cells #[.string u, .string ⟨#[]⟩] 47 (0, 0)) by rw [← hw4]; exact heap_new1 wr _)
      have HB4 := hid b4
      have HZ4 := hid z4
      have HW4 := hid hw4
      clear hu hQj b4 hw4 z4
      go_upto_region 7 with fail
      rw [HW4.out]
      have hcase : (¬ (2 : Int) < (u.size : Int) ∧ mcP u.data.toList = (u, ⟨#[]⟩)) ∨ (∃ h1 : 1 < u.size, (2 : Int) < (u.size : Int) ∧ (((u[1]'h1).toNat : Int) == 60) = false ∧ mcP u.data.toList = (u, ⟨#[]⟩)) ∨ (∃ h1 : 1 < u.size, u[1]'h1 = 60 ∧ (2 : Int) < (u.size : Int) ∧ u.data.toList[1]? = some 60 ∧ mcP u.data.toList = (u.extract 0 1, u.extract 2 u.size)) := by
        have hu0 : (strOf u.data.toList, (⟨#[]⟩ : ByteArray)) = (u, ⟨#[]⟩) := Prod.ext (ba_eq (strOf_data _)) rfl
        by_cases h2 : u.size ≤ 2
        · refine .inl ⟨by omega, ?_⟩
          unfold mcP
          rw [if_neg (by rw [hul1]; omega)]
          exact hu0
        · have hby := byte_at (show 1 < u.size by omega)
          by_cases hd : u[1]'(by omega) = 60
          · refine .inr (.inr ⟨by omega, hd, by omega, by rw [hby, hd], ?_⟩)
            unfold mcP
            rw [if_pos ⟨by rw [hul1]; omega, by rw [hby, hd]⟩]
            exact Prod.ext (ba_eq (by rw [strOf_data, extract_take])) (ba_eq (by rw [strOf_data, extract_drop]))
          · refine .inr (.inl ⟨by omega, by omega, ?_, ?_⟩)
            · have : (u[1]'(by omega)).toNat ≠ 60 := fun e => hd (UInt8.toNat_inj.1 e)
              simp
              omega
            · unfold mcP
              rw [if_neg (by rw [hby]; rintro ⟨_, h⟩; injection h with h; exact hd h)]
              exact hu0
      rcases hcase with ⟨h2, hmc⟩ | ⟨h1u, h2, hne, hmc⟩ | ⟨h1u, hd60, h2, hby, hmc⟩
      all_goals
        have HMC0 := hid hmc
        clear hmc
      case' inl =>
        go_upto_region 9 with fail
        obtain ⟨X, Y, w5, hXY, hw5⟩ : ∃ X Y w5, (u, (⟨#[]⟩ : ByteArray)) = (X, Y) ∧ w4 = w5 := ⟨_, _, _, rfl, rfl⟩
        have M5 := hid (show w5.heap[wr.heap.size]? = some (.cells #[.string X, .string Y] 47 (0, 0)) by injection hXY with e1 e2; subst e1 e2; rw [← hw5]; exact M4.out)
        have K5 := hid (show Below wr.heap.size wr w5 ∧ w5.heap.size = wr.heap.size + 1 by rw [← hw5]; exact ⟨HB4.out, HZ4.out⟩)
        rw [hw5]
      case' inr.inl =>
        go_upto_region 9 with fail
        obtain ⟨X, Y, w5, hXY, hw5⟩ : ∃ X Y w5, (u, (⟨#[]⟩ : ByteArray)) = (X, Y) ∧ w4 = w5 := ⟨_, _, _, rfl, rfl⟩
        have M5 := hid (show w5.heap[wr.heap.size]? = some (.cells #[.string X, .string Y] 47 (0, 0)) by injection hXY with e1 e2; subst e1 e2; rw [← hw5]; exact M4.out)
        have K5 := hid (show Below wr.heap.size wr w5 ∧ w5.heap.size = wr.heap.size + 1 by rw [← hw5]; exact ⟨HB4.out, HZ4.out⟩)
        rw [hw5]
      case' inr.inr =>
        have s1 : (1 : Int) ≤ (u.size : Int) := by omega
        have s2 : (2 : Int) ≤ (u.size : Int) := by omega
        have m0 := cell_blk M4.out (j := 0) rfl
        have m1 := cell_blk M4.out (j := 1) rfl
        have mf := frz_blk M4.out
        go_upto_region 8 with fail
        go_region_with (fail)
        go_upto_region 9 with fail
        obtain ⟨X, Y, w5, hXY, hw5⟩ : ∃ X Y w5, (u.extract 0 1, u.extract 2 u.size) = (X, Y) ∧ ((w4.setCell ⟨wr.heap.size, 0, none⟩ (.string (u.extract 0 1))).setCell ⟨wr.heap.size, 1, none⟩ (.string (u.extract 2 u.size))).drew = w5 := ⟨_, _, _, rfl, rfl⟩
        have M5 := hid (show w5.heap[wr.heap.size]? = some (.cells #[.string X, .string Y] 47 (0, 0)) by injection hXY with e1 e2; subst e1 e2; rw [← hw5]; exact set1_two' (set0_two' M4.out _) _)
        have K5 := hid (show Below wr.heap.size wr w5 ∧ w5.heap.size = wr.heap.size + 1 by rw [← hw5]; exact ⟨((HB4.out.setCell (Nat.le_refl _) _).setCell (Nat.le_refl _) _).drew, by show ((w4.setCell _ _).setCell _ _).heap.size = _; simp only [World.setCell, Array.size_modify]; exact HZ4.out⟩)
        rw [hw5]
        clear m0 m1 mf
      all_goals
        have hmc := HMC0.out
        rw [hXY] at hmc
        have HMC := hid hmc
        have hb5 := K5.out.1
        have T5 := hid ((hb5.block T (by omega)).trans HTT.out)
        have O5 := hid (own_heap (w' := w5) HOWN.out fun k hk => hb5.block k (by simp only [Value.ownBlock, Option.some.injEq] at hk; omega))
        have HB5 := hid hb5
        have t0 := cell_blk T5.out (j := 0) rfl
        have m0 := cell_blk M5.out (j := 0) rfl
        have m1 := cell_blk M5.out (j := 1) rfl
        clear hmc hXY hw5 hb5 hcu
        go_wp2_with (first
          | (at_builtin; refine wpList_append_lies _ rfl _ _ 22 rfl w1.heap.size 47 i0 _ 2 32 Tryz.underlying22 hi0 hz0 hz1 hz2 rfl (by decide) _ _ _ rfl (O5.out.alloc _) ⟨w5.heap.size, 0, none⟩ 1 1 [.string X, .string Y] rfl rfl (World.news_of_block (cs := #[.string X, .string Y]) (t := 47) (fr := (0, 0)) (heap_alloc_new w5 _)) (by simp [Value.oneCell']) (by decide) (by unfold maxLen; omega) (by omega) (by have z5 := K5.out.2; simp only [World.size_alloc]; omega) (w5.heap.size + 1) (World.size_alloc _ _) ?_)
          | fail)
        intro gg cap6 w6 hown6 hg6 hat6 q6
        have z5 := K5.out.2
        have z6 := hg6.size
        simp only [World.size_alloc] at z6
        have hgg : gg = gC ∨ gg = w5.heap.size + 1 := by
          rcases hat6 with h | h
          · simp only [Value.ownBlock, Option.some.injEq] at h; exact .inl h.symm
          · exact .inr h
        have T6 := hid ((hg6.block T (by simp only [World.size_alloc]; omega) (by simp [Value.ownBlock]; omega)).trans ((Below.heap_alloc _ _ _ (by omega)).trans T5.out))
        have HO6 := hid hown6
        have K6 := hid (fun (k : Nat) (hk : k < wr.heap.size) (hne : k ≠ gC) => show w6.heap[k]? = wr.heap[k]? from (hg6.block k (by simp only [World.size_alloc]; omega) (by simp [Value.ownBlock]; omega)).trans ((Below.heap_alloc _ _ _ (by omega)).trans (HB5.out.block k hk)))
        clear hown6 t0 m0 m1
        have t0 := cell_blk T6.out (j := 0) rfl
        have tf := frz_blk T6.out
        go_wp2_with fail
        go_roundw
        case rel =>
          refine ⟨j + 1, gg, cap6, hlt, by go_num, set0_two' T6.out _, ?_, fun k hk1 hk2 => ?_, by simp only [World.setCell, Array.size_modify]; omega, ?_, by omega⟩
          · rw [HTK.out, List.map_append, List.map_cons, List.map_nil, HMC.out, cells2_snoc]
            have h6 := HO6.out
            rw [← List.map_take] at h6
            exact own_heap h6 fun k hk => set1_other (by simp only [Value.ownBlock, Option.some.injEq] at hk; omega) _
          · refine (set1_other hk2.1 _).trans ?_
            exact (K6.out k (by omega) (by omega)).trans (HK.out k hk1 hk2)
          · exact Below.setCell (((hbel.trans (HB5.out.mono (by omega))).alloc (by omega) _).grown hg6 (by simp only [World.size_alloc]; omega) (by intro k hk; simp [Value.ownBlock] at hk; omega)) (by show w.heap.size ≤ T; omega) _
        case measure => simp [intOf]; omega
    · obtain rfl : j = Q.length := by omega
      have hgb2 : g < w1.heap.size := hgb.2
      have hcap : ps.length + 1 ≤ c := by
        rcases O2.out.2 with ⟨hA, _⟩ | ⟨_, _, _, hA, _, _, hc, _⟩
        · cases hA
        · injection hA with _ _ h3
          rw [h3]
          simpa using hc
      have s1 : (1 : Int) ≤ (((p :: ps).length : Nat) : Int) := by simp only [List.length_cons]; omega
      have HFC := hid (fun (k : Nat) (hk : k < w1.heap.size) => show wr.heap[k]? = w3.heap[k]? from HK.out k (by omega) (by omega))
      have HF := hid (fun (W : World) (hW : W.heap[g]? = wr.heap[g]?) => own_heap (w' := W) O2.out fun k hk => by
        obtain rfl : g = k := by simpa [Value.ownBlock] using hk
        exact hW.trans ((HFC.out g hgb2).trans F3.out))
      have HZL := hid (show zs'.length = ps.length from by have h := congrArg List.length HZS.out; rwa [List.length_map] at h)
      have hzr : w3.heap.size ≤ wr.heap.size := hzw
      have HEE := hid (show wr.heap[w1.heap.size + 1]? = some (.cells #[] 52 (0, 0)) from (HK.out _ (by omega) (by omega)).trans E3.out)
      have HNN := hid (show wr.heap[w.heap.size]? = some (.cells #[.slice none 0 0, .slice none 0 0] 25 (0, 0)) from (HFC.out _ (by omega)).trans N3.out)
      have hgC' : gC < wr.heap.size := hgC.2
      have hO1 := HOWN.out
      rw [List.take_length] at hO1
      have HO1 := hid hO1
      clear hO1 HK
      obtain ⟨wa, rfl⟩ : ∃ wa, wa = wr := ⟨_, rfl⟩
      by_cases hc1 : c = 1
      case' pos => obtain ⟨off, hoff⟩ : ∃ off, (off = 1 ∨ ps = []) ∧ off = 0 := ⟨0, .inr (List.eq_nil_of_length_eq_zero (by omega)), rfl⟩
      case' neg => obtain ⟨off, hoff⟩ : ∃ off, (off = 1 ∨ ps = []) ∧ off = 1 := ⟨1, .inl rfl, rfl⟩
      all_goals
        obtain ⟨hoff, ho2⟩ := hoff
        go_wp2_with fail
        go_loopw [52] (fun i wx => IwR w wa T gC Q.length cap (w1.heap.size + 1) ps i wx) (fun i _ => ps.length - (intOf i).toNat)
        case atStart =>
          exact ⟨0, w1.heap.size + 1, 0, [], Nat.zero_le _, rfl, HTT.out, ⟨rfl, .inr ⟨w1.heap.size + 1, 0, #[], rfl, Nat.le_refl _, HEE.out, Nat.le_refl _, Nat.zero_le _, rfl, rfl⟩⟩, rfl, rfl, fun l p h => by simp at h, fun k _ _ => rfl, Nat.le_refl _, hbel, .inl rfl⟩
        case round =>
          obtain ⟨j, gI, cI, qs, hj, rfl, hTX, hrow, hqs, hall, hin, hk2, hzx, hbx, hgI⟩ := hrel
          have hgIb := hrow.lt gI rfl
          have HTX := hid hTX
          have HROW := hid hrow
          have HQS := hid hqs
          have HALL := hid hall
          have HIN := hid hin
          have HK2 := hid hk2
          obtain ⟨ys, hys⟩ : ∃ ys, cells3 qs = ys := ⟨_, rfl⟩
          have HYS := hid hys
          clear hTX hrow hqs hall hin hk2 hys
          by_cases hjl : j < ps.length
          · have j1 : (0 : Int) ≤ (j : Int) := by omega
            have j2 : (j : Int) < (ps.length : Int) := by omega
            have j3 : IntKind.i64.wrap ((j : Int) + 1) = (j : Int) + 1 := by rw [IntKind.wrap_i64]; simp only [List.length_cons] at hcnt; omega
            have hone : off = 1 := hoff.resolve_right fun h => by rw [h] at hjl; simp at hjl
            clear hoff
            first | (exfalso; omega) | skip
            all_goals
              subst hone
              obtain ⟨u, hu⟩ : ∃ u, zs'[j]? = some u := ⟨zs'[j]'(by have := HZL.out; omega), List.getElem?_eq_getElem _⟩
              have hPj : ps[j]? = some u.data.toList := by rw [← HZS.out, List.getElem?_map, hu]; rfl
              have hcu : wr.cell? ⟨g, 1 + j, none⟩ = some (.string u) := own_str (HF.out wr (HK2.out g (by omega) (by omega))) (j := 1 + j) (by rw [Nat.add_comm]; simpa using hu)
              have hum : u.size ≤ 1048576 := by
                rw [list_size (s := u) rfl]
                exact HLEN.out _ (List.mem_cons_of_mem _ (List.mem_of_getElem? hPj))
              have HTK := hid (show ps.take (j + 1) = ps.take j ++ [u.data.toList] by rw [List.take_add_one, hPj]; rfl)
              have HPJ := hid hPj
              obtain ⟨⟨⟨X, Y, N⟩, fj⟩, hpv⟩ : ∃ v, piV u.data.toList = v := ⟨_, rfl⟩
              have HPV := hid hpv
              have HPF := hid (show piF u.data.toList = fj ∧ (fj = true → inI u.data.toList = ⟨X, Y, N⟩) by
                rcases h : piF u.data.toList with _ | _
                · rw [piV_no h] at hpv
                  injection hpv with _ h2
                  exact ⟨h2, fun h3 => by rw [← h2] at h3; cases h3⟩
                · rw [piV_yes h] at hpv
                  injection hpv with h1 h2
                  exact ⟨h2, fun _ => h1⟩)
              clear hu hPj hpv
              go_wp2_with fail
              refine (parseInstanceS_any u hum X Y N fj HPV wr).mono ?_
              rintro e w8 ⟨⟨A8, c8, rfl, hc8, hp8, hA8⟩, b8⟩
              have HP8 := hid hp8
              have HA8 := hid hA8
              have z8 := b8.size
              obtain ⟨w9, hw9⟩ : ∃ w9, w8.alloc (.cells #[.string X, .string Y, .slice A8 N.length c8] 52) = w9 := ⟨_, rfl⟩
              have b9 : Below w8.heap.size w8 w9 := by rw [← hw9]; exact (Below.refl _ _).alloc (Nat.le_refl _) _
              have z9 : w8.heap.size < w9.heap.size := by rw [← hw9]; simp only [World.size_alloc]; omega
              have M9 := hid (show w9.heap[w8.heap.size]? = some (.cells #[.string X, .string Y, .slice A8 N.length c8] 52 (0, 0)) by rw [← hw9]; exact heap_new1 w8 _)
              have B9 := hid (show Below wr.heap.size wr w9 from b8.trans (b9.mono z8))
              have HB98 := hid b9
              have T9 := hid ((B9.out.block T (by omega)).trans HTX.out)
              have N9 := hid ((B9.out.block w.heap.size (by omega)).trans ((HK2.out _ (by omega) (by omega)).trans HNN.out))
              have O9 := hid (own_heap (w' := w9) HROW.out fun k hk => B9.out.block k (by simp only [Value.ownBlock, Option.some.injEq] at hk; omega))
              have HW9 := hid hw9
              clear hp8 hA8 b8 b9 hw9 hcu
              go_upto_region 15 with fail
              rw [HW9.out]
              cases fj
              · have hnone : mwG (p :: ps) = none := by
                  show (if (ps.all piF && wdOf ((cutG 32 [] p).map mcP) (ps.map inI)) = true then _ else _) = none
                  rw [if_neg]
                  intro h
                  rw [Bool.and_eq_true] at h
                  have h1 := List.all_eq_true.1 h.1 _ (List.mem_of_getElem? HPJ.out)
                  rw [HPF.out.1] at h1
                  cases h1
                have HM := HMI.out
                rw [hnone] at HM
                injection HM with HM1 HM2
                injection HM2 with HM2 HM3
                subst HM1 HM2 HM3
                have n0 := cell_blk N9.out (j := 0) rfl
                have n1 := cell_blk N9.out (j := 1) rfl
                have nf := frz_blk N9.out
                go_wp2_with fail
                refine bodyPost_ret (v := .tuple #[.agg #[.slice none 0 0, .slice none 0 0], .bool false]) (by simp [results, Tryz.results9, go_sem, n0, n1]) rfl ⟨⟨none, 0, none, 0, rfl, ⟨rfl, fun h => absurd h (Nat.lt_irrefl 0)⟩, ⟨rfl, fun h => absurd h (Nat.lt_irrefl 0)⟩⟩, ?_⟩
                have BX := hbx.trans (B9.out.mono hbx.size)
                first | exact BX | exact BX.trans ((set2_but (rb := w.heap.size) (Nat.le_refl _) _ _).below (Nat.le_refl _))
              · have t1 := cell_blk T9.out (j := 1) rfl
                have m0 := cell_blk M9.out (j := 0) rfl
                have m1 := cell_blk M9.out (j := 1) rfl
                have m2 := cell_blk M9.out (j := 2) rfl
                go_wp2_with (first
                  | (at_builtin; refine wpList_append_lies _ rfl _ _ 23 rfl (w1.heap.size + 1) 52 _ _ 3 56 Tryz.underlying23 hi10 hz10 hz11 hz12 rfl (by decide) _ _ _ rfl (O9.out.alloc _) ⟨w9.heap.size, 0, none⟩ 1 1 [.string X, .string Y, .slice A8 N.length c8] rfl rfl (World.news_of_block (cs := #[.string X, .string Y, .slice A8 N.length c8]) (t := 52) (fr := (0, 0)) (heap_alloc_new w9 _)) (by simp [Value.oneCell']) (by decide) (by simp only [List.length_cons] at hcnt; unfold maxLen; omega) (by simp only [List.length_cons] at hcnt; omega) (by simp only [World.size_alloc]; omega) (w9.heap.size + 1) (World.size_alloc _ _) ?_)
                  | fail)
                intro gg cap6 w6 hown6 hg6 hat6 q6
                have z6 := hg6.size
                simp only [World.size_alloc] at z6
                have hgg : gg = gI ∨ gg = w9.heap.size + 1 := by
                  rcases hat6 with h | h
                  · simp only [Value.ownBlock, Option.some.injEq] at h; exact .inl h.symm
                  · exact .inr h
                have T6 := hid ((hg6.block T (by simp only [World.size_alloc]; omega) (by simp [Value.ownBlock]; omega)).trans ((Below.heap_alloc _ _ _ (by omega)).trans T9.out))
                have HO6 := hid hown6
                have K6 := hid (fun (k : Nat) (hk : k < w9.heap.size) (hne : k ≠ gI) => show w6.heap[k]? = w9.heap[k]? from (hg6.block k (by simp only [World.size_alloc]; omega) (by simp [Value.ownBlock]; omega)).trans (Below.heap_alloc _ _ _ hk))
                clear hown6 t1 m0 m1 m2
                have t1 := cell_blk T6.out (j := 1) rfl
                have tf := frz_blk T6.out
                go_wp2_with fail
                go_roundw
                case rel =>
                  refine ⟨j + 1, gg, cap6, qs ++ [(⟨X, Y, N⟩, (A8, c8))], hjl, by go_num, set1_two' T6.out _, ?_, ?_, ?_, fun l p hl => ?_, fun k hk1 hk2 => ?_, by simp only [World.setCell, Array.size_modify]; omega, ?_, by omega⟩
                  · rw [cells3_snoc]
                    exact own_heap HO6.out fun k hk => set1_other (by simp only [Value.ownBlock, Option.some.injEq] at hk; omega) _
                  · rw [HTK.out, List.map_append, List.map_append, HQS.out, List.map_cons, List.map_nil, List.map_cons, List.map_nil, HPF.out.2 (by first | rfl | trivial)]
                  · rw [HTK.out, List.all_append, HALL.out, List.all_cons, HPF.out.1]
                    rfl
                  · rcases at_snoc hl with hl | rfl
                    · obtain ⟨h1, h2⟩ := HIN.out l p hl
                      refine ⟨h1.keep0 (by simp only [World.setCell, Array.size_modify]; omega) fun h0 a ha hab => ?_, fun h0 b hb => ?_⟩
                      · have := h2 h0 a ha
                        exact (set1_other this.2.1 _).trans ((K6.out _ (by omega) this.1).trans (B9.out.block _ hab))
                      · have := h2 h0 b hb
                        obtain ⟨g', o', e', hg', _⟩ := h1.2 h0
                        rw [hb] at e'
                        injection e' with e'
                        have : b.block = g' := by rw [e']
                        omega
                    · refine ⟨HP8.out.keep0 (by simp only [World.setCell, Array.size_modify]; omega) fun h0 a ha hab => ?_, fun h0 b hb => ?_⟩
                      · have := HA8.out a ha
                        exact (set1_other (show a.block ≠ T by omega) _).trans ((K6.out _ (by omega) (by omega)).trans (HB98.out.block _ hab))
                      · have h9 := HA8.out b hb
                        obtain ⟨g', o', e', hg', _⟩ := HP8.out.2 h0
                        have hb' : A8 = some b := hb
                        rw [hb'] at e'
                        injection e' with e'
                        have : b.block = g' := by rw [e']
                        omega
                  · exact (set1_other hk2.1 _).trans ((K6.out k (by omega) (by omega)).trans ((B9.out.block k (by omega)).trans (HK2.out k hk1 hk2)))
                  · exact Below.setCell (((hbx.trans (B9.out.mono hbx.size)).alloc (by have := hbx.size; omega) _).grown hg6 (by have := hbx.size; simp only [World.size_alloc]; omega) (by intro k hk; simp [Value.ownBlock] at hk; omega)) (by show w.heap.size ≤ T; omega) _
                case measure => simp [intOf]; omega
          · obtain rfl : j = ps.length := by omega
            have hxa := HALL.out
            rw [List.take_length] at hxa
            have HXA := hid hxa
            have t0 := cell_blk HTX.out (j := 0) rfl
            have t1 := cell_blk HTX.out (j := 1) rfl
            have O9 := hid (own_heap (w' := wr) HO1.out fun k hk => HK2.out k (by simp only [Value.ownBlock, Option.some.injEq] at hk; omega) (by simp only [Value.ownBlock, Option.some.injEq] at hk; omega))
            have N9 := hid ((HK2.out _ (by omega) (by omega)).trans HNN.out)
            clear hxa
            have hO := HROW.out
            have HRI := hid (RowI.of hO)
            have hcC : Q.length ≤ cap ∧ cap ≤ maxLen := by
              rcases HO1.out.2 with ⟨hA, _⟩ | ⟨_, _, _, hA, _, _, h1, h2, _⟩
              · cases hA
              · injection hA with _ _ h3
                rw [h3]
                exact ⟨h1, h2⟩
            have HPC := hid (show Prs wr (some ⟨gC, 0, none⟩) Q.length (Q.map mcP) from by
              obtain ⟨_, _, e1, _, hpr⟩ := own_pairs O9.out
              simp only [Value.slice.injEq] at e1
              obtain ⟨rfl, _, rfl⟩ := e1
              exact hpr)
            have HIL := hid (fun i (hi : i ∈ ps.map inI) => show insTot i ≤ 1048576 from by
              obtain ⟨q, hq, rfl⟩ := List.mem_map.1 hi
              have h1 := in_len q
              have h2 := HLEN.out q (List.mem_cons_of_mem _ hq)
              omega)
            have hqall : qs.map Prod.fst = ps.map inI := by rw [HQS.out, List.take_length]
            have HIW := hid (fun (W : World) (hz : wr.heap.size ≤ W.heap.size) (hk : ∀ k, k < wr.heap.size → k ≠ w.heap.size → W.heap[k]? = wr.heap[k]?) => show Inss W (some ⟨gI, 0, none⟩) ps.length (ps.map inI) from by
              obtain ⟨cur, h3, h4, h5, h6⟩ := HRI.out
              have h3' : W.heap[gI]? = some (.cells cur 52 (0, 0)) := (hk gI hgIb.2 (by omega)).trans h3
              refine ⟨by rw [List.length_map], fun _ => ⟨gI, 0, rfl, Nat.lt_of_lt_of_le hgIb.2 hz, fun l i hl => ?_⟩⟩
              rw [← hqall, List.getElem?_map] at hl
              rcases hp : qs[l]? with _ | p
              · rw [hp] at hl; cases hl
              · rw [hp] at hl
                have hi : p.1 = i := by simpa using hl
                subst hi
                obtain ⟨e1, e2, e3⟩ := h6 l p hp
                have c : ∀ (k : Nat) v, cur[k]? = some v → W.cell? ⟨gI, 0 + k, none⟩ = some v := fun k v hv => by rw [Nat.zero_add]; exact cell_blk h3' hv
                obtain ⟨k1, k2⟩ := HIN.out l p hp
                refine ⟨c _ _ e1, c _ _ e2, p.2.1, p.1.ns.length, p.2.2, c _ _ e3, ?_, k1.keep0 hz fun h0 a ha hab => hk _ hab (k2 h0 a ha).2.2⟩
                have := HIL.out p.1 (by rw [← hqall]; exact List.mem_map.2 ⟨p, List.mem_of_getElem? hp, rfl⟩)
                unfold insTot at this
                unfold maxLen
                omega)
            have HWV := hid (worldValidS_any (some ⟨gC, 0, none⟩) Q.length cap (Q.map mcP) (some ⟨gI, 0, none⟩) ps.length cI (ps.map inI) wr hcC.1 hcC.2 HPC.out (fun z hz => by
                obtain ⟨q, hq, rfl⟩ := List.mem_map.1 hz
                have h2 := HQL.out q hq
                unfold mcP
                split
                · rw [strOf_size, List.length_drop]; unfold maxLen; omega
                · exact Nat.zero_le _) (by simp only [List.length_cons] at hcnt; unfold maxLen; omega) (HIW.out wr (Nat.le_refl _) fun _ _ _ => rfl) (fun i hi => insTot_ok (HIL.out i hi)))
            obtain ⟨v, hv⟩ : ∃ v, wdOf (Q.map mcP) (ps.map inI) = v := ⟨_, rfl⟩
            rw [hv] at HWV
            have HVV := hid hv
            clear hv hO hqall
            have HQP := hid (show cutG 32 [] p = Q by rw [← HZ.out]; exact HQ.out)
            clear t0 t1
            have t0 := cell_blk HTX.out (j := 0) rfl
            have t1 := cell_blk HTX.out (j := 1) rfl
            go_wp2_with fail
            refine HWV.out.mono ?_
            rintro e w10 ⟨rfl, b10⟩
            have z10 := b10.size
            have T10 := hid ((b10.block T (by omega)).trans HTX.out)
            have N10 := hid ((b10.block w.heap.size (by omega)).trans N9.out)
            have HB10 := hid b10
            have BX := hid (hbx.trans (b10.mono hbx.size))
            clear b10 t0 t1
            have t0 := cell_blk T10.out (j := 0) rfl
            have t1 := cell_blk T10.out (j := 1) rfl
            have n0 := cell_blk N10.out (j := 0) rfl
            have n1 := cell_blk N10.out (j := 1) rfl
            have nf := frz_blk N10.out
            cases v
            · have hnone : mwG (p :: ps) = none := by
                show (if (ps.all piF && wdOf ((cutG 32 [] p).map mcP) (ps.map inI)) = true then _ else _) = none
                rw [HQP.out, HVV.out, Bool.and_false]
                rfl
              have HM := HMI.out
              rw [hnone] at HM
              injection HM with HM1 HM2
              injection HM2 with HM2 HM3
              subst HM1 HM2 HM3
              go_wp2_with fail
              refine bodyPost_ret (v := .tuple #[.agg #[.slice none 0 0, .slice none 0 0], .bool false]) (by simp [results, Tryz.results9, go_sem, n0, n1]) rfl ⟨⟨none, 0, none, 0, rfl, ⟨rfl, fun h => absurd h (Nat.lt_irrefl 0)⟩, ⟨rfl, fun h => absurd h (Nat.lt_irrefl 0)⟩⟩, ?_⟩
              first | exact BX.out | exact BX.out.trans ((set2_but (rb := w.heap.size) (Nat.le_refl _) _ _).below (Nat.le_refl _))
            · have hsome : mwG (p :: ps) = some (Q.map mcP, ps.map inI) := by
                show (if (ps.all piF && wdOf ((cutG 32 [] p).map mcP) (ps.map inI)) = true then _ else _) = _
                rw [HQP.out, HVV.out, HXA.out]
                rfl
              have HM := HMI.out
              rw [hsome] at HM
              injection HM with HM1 HM2
              injection HM2 with HM2 HM3
              subst HM1 HM2 HM3
              go_wp2_with fail
              have hset : ∀ k, k ≠ w.heap.size → ((w10.setCell ⟨w.heap.size, 0, none⟩ (.slice (some ⟨gC, 0, none⟩) Q.length cap)).setCell ⟨w.heap.size, 1, none⟩ (.slice (some ⟨gI, 0, none⟩) ps.length cI)).heap[k]? = w10.heap[k]? := fun k hk => set2_other hk _ _
              have hsz : wr.heap.size ≤ ((w10.setCell ⟨w.heap.size, 0, none⟩ (.slice (some ⟨gC, 0, none⟩) Q.length cap)).setCell ⟨w.heap.size, 1, none⟩ (.slice (some ⟨gI, 0, none⟩) ps.length cI)).heap.size := by simp only [World.setCell, Array.size_modify]; omega
              refine bodyPost_ret (v := .tuple #[.agg #[.slice (some ⟨gC, 0, none⟩) Q.length cap, .slice (some ⟨gI, 0, none⟩) ps.length cI], .bool true]) (by simp [results, Tryz.results9, go_sem, n0, n1]) rfl ⟨⟨some ⟨gC, 0, none⟩, cap, some ⟨gI, 0, none⟩, cI, by rw [List.length_map, List.length_map], ?_, ?_⟩, ?_⟩
              · rw [List.length_map]
                exact HPC.out.keep hsz fun a ha => by
                  injection ha with ha
                  rw [← ha]
                  exact (hset gC (by omega)).trans (HB10.out.block gC (by omega))
              · have h := HIW.out _ hsz fun k h1 h2 => (hset k h2).trans (HB10.out.block k h1)
                rw [List.length_map]
                exact h
              · exact BX.out.trans ((set2_but (rb := w.heap.size) (Nat.le_refl _) _ _).below (Nat.le_refl _))

end Go.Proofs.YtjpdiahbnhemoaaGreatDoor

namespace Go.Proofs.YtjpdiahbnhemoaaGreatDoor
open Go.RowKit
set_option linter.unusedVariables false

set_option maxHeartbeats 4000000 in
set_option maxRecDepth 100000 in
theorem parseWorldS_any (s : ByteArray) (hs : s.size ≤ 1048576) (Z : List (ByteArray × ByteArray)) (L : List Ins) (f : Bool) (hV : Hid (pwV s.data.toList = (Z, L, f))) (w : World) :
    Calls Tryz.prog 4 #[.string s] w fun e w' => PwE Z L f e w' ∧ Below w.heap.size w w' := by
  have hl := pwV_len s.data.toList
  rw [hV.out, ← list_size (s := s) rfl] at hl
  simp only at hl
  have HI := hid (fun i (hi : i ∈ L) => show i.ns.length ≤ 1048577 by
    have h1 := inssTot_mem hi
    unfold insTot at h1
    omega)
  obtain ⟨w0, hw0⟩ : ∃ w0, w.alloc (.cells #[.slice none 0 0, .slice none 0 0] 25) = w0 := ⟨_, rfl⟩
  have z0 : w.heap.size < w0.heap.size := by rw [← hw0]; simp only [World.size_alloc]; omega
  have B0 := hid (show Below w.heap.size w w0 by rw [← hw0]; exact (Below.refl w.heap.size w).alloc (Nat.le_refl _) _)
  have N0 := hid (show w0.heap[w.heap.size]? = some (.cells #[.slice none 0 0, .slice none 0 0] 25 (0, 0)) by rw [← hw0]; exact heap_new1 w _)
  have HW0 := hid hw0
  clear hw0
  go_enter Tryz.func4, Tryz.ntmps4
  go_wp2_with fail
  rw [HW0.out]
  refine (rawParseWorldS_any s hs Z L f hV w0).mono ?_
  rintro e w1 ⟨⟨A, c, B, d, rfl, hp, hi⟩, b1⟩
  have HP := hid hp
  have HII := hid hi
  have z1 := b1.size
  have B1 := hid (B0.out.trans (b1.mono (by omega)))
  have N1 := hid ((b1.block w.heap.size z0).trans N0.out)
  obtain ⟨w2, hw2⟩ : ∃ w2, w1.alloc (.cells #[.slice A Z.length c, .slice B L.length d] 25) = w2 := ⟨_, rfl⟩
  have b2 : Below w1.heap.size w1 w2 := by rw [← hw2]; exact (Below.refl _ _).alloc (Nat.le_refl _) _
  have z2 : w1.heap.size < w2.heap.size := by rw [← hw2]; simp only [World.size_alloc]; omega
  have M2 := hid (show w2.heap[w1.heap.size]? = some (.cells #[.slice A Z.length c, .slice B L.length d] 25 (0, 0)) by rw [← hw2]; exact heap_new1 w1 _)
  have B2 := hid b2
  have HW2 := hid hw2
  clear hp hi b1 b2 hw2
  go_upto_region 2 with fail
  rw [HW2.out]
  have m0 := cell_blk M2.out (j := 0) rfl
  have m1 := cell_blk M2.out (j := 1) rfl
  go_wp2_with fail
  refine (ownWorldS_any A Z.length c Z B L.length d L w2 (HP.out.below B2.out) (by omega) (HII.out.below B2.out) (by omega) HI.out).mono ?_
  rintro e w3 ⟨⟨A', c', B', d', rfl, hp3, ha3, hi3⟩, b3⟩
  have z3 := b3.size
  have P3 := hid hp3
  have A3 := hid ha3
  have I3 := hid hi3
  have B3 := hid ((B1.out.trans (B2.out.mono (by omega))).trans (b3.mono (by omega)))
  have N3 := hid ((b3.block w.heap.size (by omega)).trans ((B2.out.block w.heap.size (by omega)).trans N1.out))
  clear hp3 ha3 hi3 b3 m0 m1
  have n0 := cell_blk N3.out (j := 0) rfl
  have n1 := cell_blk N3.out (j := 1) rfl
  have nf := frz_blk N3.out
  go_wp2_with fail
  have hset : ∀ k, k ≠ w.heap.size → ((w3.setCell ⟨w.heap.size, 0, none⟩ (.slice A' Z.length c')).setCell ⟨w.heap.size, 1, none⟩ (.slice B' L.length d')).heap[k]? = w3.heap[k]? := fun k hk => set2_other hk _ _
  have hsz : w3.heap.size ≤ ((w3.setCell ⟨w.heap.size, 0, none⟩ (.slice A' Z.length c')).setCell ⟨w.heap.size, 1, none⟩ (.slice B' L.length d')).heap.size := by simp only [World.setCell, Array.size_modify]; omega
  refine bodyPost_ret (v := .tuple #[.agg #[.slice A' Z.length c', .slice B' L.length d'], .bool f]) (by simp [results, Tryz.results4, go_sem, n0, n1]) rfl ⟨⟨A', c', B', d', rfl, P3.out.keep hsz fun a ha => hset _ (by have := A3.out a ha; omega), (I3.out.keep hsz fun k h1 _ => hset k (by omega)).inss⟩, ?_⟩
  exact B3.out.trans ((set2_but (rb := w.heap.size) (Nat.le_refl _) _ _).below (Nat.le_refl _))

end Go.Proofs.YtjpdiahbnhemoaaGreatDoor
