/- MakeType in the model. -/
import Derived.Test.YtechacocfpobgaaParts
import Derived.Test.YtechacocfpobgaaPartsS
namespace Go.Proofs.Ytechacocfpobgaa
open Go.RowKit

set_option maxHeartbeats 1000000 in
set_option maxRecDepth 100000 in
theorem makeTypeS_no (h : ByteArray) (A : Option Addr) (n cap : Nat) (w : World)
    (hno : h.size ≠ 1 ∨ ar (h.data.toList.headD 0) ≠ n) :
    Calls Try.prog 19 #[.string h, .slice A n cap] w (MkEnd w none) := by
  by_cases h1 : h.size = 1
  · have h0 : 0 < h.size := by omega
    have hz : ((h.size : Int) != 1) = false := by simp [h1]
    have hd := head_at h h0
    have ha : ar h[0] ≠ n := by
      rcases hno with e | e
      · exact absurd h1 e
      · rw [hd] at e
        exact e
    obtain ⟨c, hc⟩ : ∃ c, h[0] = c := ⟨_, rfl⟩
    rw [hc] at ha
    obtain ⟨k, hk⟩ : ∃ k, ar c = k := ⟨_, rfl⟩
    have HK := hid hk
    rw [hk] at ha
    have hne : (k != (n : Int)) = true := by simp [ha]
    clear hno hd hk ha
    go_enter Try.func19, Try.ntmps19
    go_wp2_with (first | (go_at_call 59; refine (l1Arity_at c k HK _).mono ?_; rintro e w' ⟨rfl, rfl⟩))
    exact bodyPost_ret (v := .tuple #[.string ⟨#[]⟩, .bool false]) (by simp [results, Try.results19, go_sem]) rfl ⟨rfl, Below.refl _ _⟩
  · have hz : ((h.size : Int) != 1) = true := by simp; omega
    clear hno
    go_enter Try.func19, Try.ntmps19
    go_wp2_with fail
    exact bodyPost_ret (v := .tuple #[.string ⟨#[]⟩, .bool false]) (by simp [results, Try.results19, go_sem]) rfl ⟨rfl, Below.refl _ _⟩

set_option maxHeartbeats 1000000 in
set_option maxRecDepth 100000 in
theorem makeTypeS_0 (h : ByteArray) (A : Option Addr) (cap : Nat) (w : World) (h1 : h.size = 1) (ha : ar (h.data.toList.headD 0) = (0 : Nat)) :
    Calls Try.prog 19 #[.string h, .slice A 0 cap] w (MkEnd w (mkOf h [])) := by
  rw [mkOf_yes (xs := []) h1 ha (by simp) (by simp [joinL, h1])]
  have h0 : 0 < h.size := by omega
  have hz : ((h.size : Int) != 1) = false := by simp [h1]
  rw [head_at h h0] at ha
  obtain ⟨c, hc⟩ : ∃ c, h[0] = c := ⟨_, rfl⟩
  rw [hc] at ha
  have HK := hid ha
  have H1 := hid h1
  clear ha h1
  go_enter Try.func19, Try.ntmps19
  go_wp2_with (first | (go_at_call 59; refine (l1Arity_at c (0 : Nat) HK _).mono ?_; rintro e w' ⟨rfl, hw⟩; obtain rfl := hw.symm))
  refine wp_loop_rounds 1 ?_
  rw [rounds_succ]
  have HC := hid (show h.data.toList = [c] from by
    have hl : h.data.toList.length = 1 := by simpa using H1.out
    match e : h.data.toList, hl with
    | [d], _ =>
      have := head_at h h0
      rw [e] at this
      simp only [List.headD_cons] at this
      rw [this, hc])
  go_wp2_with (first | (go_at_call 54; refine (textS_any (.lf c) (fun _ => False) _ _ _ ⟨rfl, _, _, rfl⟩ (fun _ h => h.elim) (by simp [Ty.text])).mono ?_; rintro e w1 ⟨rfl, hb1⟩))
  have hb0 := ((Below.refl w.heap.size w).alloc (Nat.le_refl _) (.cells #[] 63)).alloc (by simp only [World.size_alloc]; omega) (.cells #[.int .u8 c.toNat, .slice (some { block := w.heap.size, off := 0 }) 0 0] 63)
  have hb01 := hb0.trans (hb1.mono hb0.size)
  have HV := hid (show (tyOf (strOf (Ty.text (.lf c))).data.toList).isSome = true by rw [strOf_list, tyOf_of (t := .lf c) HK.out (by simp [Ty.text])]; rfl)
  go_wp2_with (first | (go_at_call 16; refine (typeValidS_at _ _ (by simp [strOf_size, Ty.text, maxLen]) true HV).mono ?_; rintro e w2 ⟨rfl, hb2⟩))
  refine bodyPost_ret (v := .tuple #[.string (strOf (Ty.text (.lf c))), .bool true]) (by simp [results, Try.results19, go_sem]) rfl ⟨?_, hb01.trans (hb2.mono hb01.size)⟩
  show Ending.returned (.tuple #[.string (strOf [c]), .bool true]) = .returned (.tuple #[.string (strOf h.data.toList), .bool true])
  rw [HC.out]

theorem own_empty2 {w : World} {g : Nat} {T : TypeId} (h : w.heap[g]? = some (.cells #[] T (0, 0))) (base : Nat) (hb : base ≤ g) : w.ownsRow base T 2 (.slice (some ⟨g, 0, none⟩) 0 0) 0 [] :=
  ⟨rfl, .inr ⟨g, 0, #[], rfl, hb, h, Nat.le_refl _, Nat.zero_le _, rfl, rfl⟩⟩
theorem heap_new2 (w : World) (o o' : Obj) {k : Nat} (hk : k = w.heap.size + 1) : ((w.alloc o).alloc o').heap[k]? = some o' := by
  subst hk
  have := heap_alloc_new (w.alloc o) o'
  rwa [World.size_alloc] at this
theorem head_list {h : ByteArray} {c : UInt8} (h1 : h.size = 1) (h0 : 0 < h.size) (hc : h[0] = c) : h.data.toList = [c] := by
  have hl : h.data.toList.length = 1 := by simpa using h1
  match e : h.data.toList, hl with
  | [d], _ =>
    have := head_at h h0
    rw [e] at this
    simp only [List.headD_cons] at this
    rw [this, hc]

set_option maxHeartbeats 1000000 in
set_option maxRecDepth 100000 in
theorem makeTypeS_1 (h x : ByteArray) (g o cap : Nat) (w : World) (h1 : h.size = 1) (ha : ar (h.data.toList.headD 0) = (1 : Nat)) (hg : g < w.heap.size) (hx : w.cell? ⟨g, o, none⟩ = some (.string x)) (hxs : x.size ≤ maxLen) :
    Calls Try.prog 19 #[.string h, .slice (some ⟨g, o, none⟩) 1 cap] w (MkEnd w (mkOf h [x])) := by
  obtain ⟨i0, hi0, hz0, hz1, hz2⟩ := info_parts nodeInfoS
  have h0 : 0 < h.size := by omega
  have hz : ((h.size : Int) != 1) = false := by simp [h1]
  have HA := hid ha
  rw [head_at h h0] at ha
  obtain ⟨c, hc⟩ : ∃ c, h[0] = c := ⟨_, rfl⟩
  have HC := hid (head_list h1 h0 hc)
  rw [hc] at ha
  have HK := hid ha
  have H1 := hid h1
  clear ha h1
  have hcc : ∀ (O O' : Obj), ((w.alloc O).alloc O').cell? ⟨g, o, none⟩ = some (.string x) := fun O O' => cell_below hx hg (((Below.refl _ _).alloc (Nat.le_refl _) O).alloc (by simp only [World.size_alloc]; omega) O')
  clear hx
  go_enter Try.func19, Try.ntmps19
  go_wp2_with (first | (go_at_call 59; refine (l1Arity_at c (1 : Nat) HK _).mono ?_; rintro e w' ⟨rfl, hw⟩; obtain rfl := hw.symm))
  refine wp_loop_rounds 2 ?_
  rw [rounds_succ]
  go_wp2_with fail
  clear hcc
  refine (l1Read_any x _ hxs).mono ?_
  rintro e w1 ⟨hb, ⟨hn, rfl⟩ | ⟨t, c1, A, m, cap1, hs1, rfl, hrep⟩⟩
  · have HN := hid hn
    clear hn
    go_wp2_with fail
    rw [mkOf_bad (x := x) (by simp) (by rw [HN.out]; rfl)]
    have hb0 := ((Below.refl w.heap.size w).alloc (Nat.le_refl _) (.cells #[] 63)).alloc (by simp only [World.size_alloc]; omega) (.cells #[.int .u8 c.toNat, .slice (some { block := w.heap.size, off := 0 }) 0 0] 63)
    exact bodyPost_ret (v := .tuple #[.string ⟨#[]⟩, .bool false]) (by simp [results, Try.results19, go_sem]) rfl ⟨rfl, (hb0.trans (hb.mono hb0.size)).alloc (Nat.le_trans hb0.size hb.size) _⟩
  · have zb := hb.size
    simp only [World.size_alloc] at zb
    have hgB : w1.heap[w.heap.size]? = some (.cells #[] 63 (0, 0)) := (hb.block _ (by simp only [World.size_alloc]; omega)).trans ((Below.heap_alloc _ _ _ (by simp only [World.size_alloc]; omega)).trans (heap_new1 _ _))
    have hgN : w1.heap[w.heap.size + 1]? = some (.cells #[.int .u8 c.toNat, .slice (some { block := w.heap.size, off := 0 }) 0 0] 63 (0, 0)) := (hb.block _ (by simp only [World.size_alloc]; omega)).trans (by
      have := heap_new1 (w.alloc (.cells #[] 63)) (.cells #[.int .u8 c.toNat, .slice (some { block := w.heap.size, off := 0 }) 0 0] 63)
      rwa [World.size_alloc] at this)
    have hbw : Below w.heap.size w w1 := (((Below.refl _ _).alloc (Nat.le_refl _) _).alloc (by simp only [World.size_alloc]; omega) _).trans (hb.mono (by simp only [World.size_alloc]; omega))
    obtain ⟨n0, n1, nf⟩ := two_cells hgN
    have g0 : ∀ o, (w1.alloc o).cell? ⟨w.heap.size + 1, 0, none⟩ = some (.int .u8 c.toNat) := fun o => (World.cell?_alloc_lt _ _ _ (by show w.heap.size + 1 < _; omega)).trans n0
    have g1 : ∀ o, (w1.alloc o).cell? ⟨w.heap.size + 1, 1, none⟩ = some (.slice (some { block := w.heap.size, off := 0 }) 0 0) := fun o => (World.cell?_alloc_lt _ _ _ (by show w.heap.size + 1 < _; omega)).trans n1
    clear n0 nf
    have HGB := hid hgB
    have HGN := hid hgN
    have HS := hid hs1
    clear hgB hgN hs1
    have hown : ∀ O, (w1.alloc O).ownsRow w.heap.size 63 2 (.slice (some ⟨w.heap.size, 0, none⟩) 0 0) 0 [] := fun O => own_empty2 ((Below.heap_alloc _ _ _ (by omega)).trans HGB.out) _ (Nat.le_refl _)
    go_wp2_with (at_builtin; refine wpList_append_lies _ rfl _ _ 61 rfl w.heap.size 63 i0 _ 2 32 Try.underlying61 hi0 hz0 hz1 hz2 rfl (by decide) _ _ _ rfl ((hown _).alloc _) ⟨w1.heap.size + 1, 0, none⟩ 1 1 [.int .u8 c1.toNat, .slice A m cap1] rfl rfl ?c1 ?c2 (by decide) ?c3 ?c4 ?c5 (w1.heap.size + 1 + 1) (by simp only [World.size_alloc]) ?_)
    case c1 =>
      refine World.news_of_block (cs := #[.int .u8 c1.toNat, .slice A m cap1]) (t := 63) (fr := (0, 0)) ?_
      exact heap_new2 _ _ _ rfl
    case c2 => simp [Value.oneCell']
    case c3 => decide
    case c4 => decide
    case c5 => simp only [World.size_alloc]; omega
    intro g3 cap3 w3 hown3 hg3 hat3 q3
    clear hown
    have z3 := hg3.size
    simp only [World.size_alloc] at z3
    have hbw3 : Below w.heap.size w w3 := ((hbw.alloc hbw.size _).alloc (by simp only [World.size_alloc]; omega) _).grown hg3 (by simp only [World.size_alloc]; omega) (by intro k hk; simp [Value.ownBlock] at hk; omega)
    have hne : ∀ k, w.heap.size < k → k < w1.heap.size → w3.heap[k]? = w1.heap[k]? := fun k hk1 hk2 => (hg3.block k (by simp only [World.size_alloc]; omega) (by simp [Value.ownBlock]; omega)).trans ((Below.heap_alloc _ _ _ (by simp only [World.size_alloc]; omega)).trans (Below.heap_alloc _ _ _ hk2))
    have hgN3 : w3.heap[w.heap.size + 1]? = some (.cells #[.int .u8 c.toNat, .slice (some { block := w.heap.size, off := 0 }) 0 0] 63 (0, 0)) := (hne _ (by omega) (by omega)).trans HGN.out
    obtain ⟨m0, m1, mf⟩ := two_cells hgN3
    have mf1 := mf 1
    have HGN3 := hid hgN3
    have HNE := hid hne
    have HO := hid hown3
    have hg3N : w.heap.size + 1 ≠ g3 := by
      rcases hat3 with h | h
      · simp only [Value.ownBlock, Option.some.injEq] at h; omega
      · omega
    clear hgN3 hne hown3 mf g0 g1
    go_wp2_with fail
    rw [rounds_succ]
    go_wp2_with fail
    obtain ⟨htx, hok, hlen⟩ := tyOf_text HS.out
    have hwS : Below w.heap.size w (w3.setCell ⟨w.heap.size + 1, 1, none⟩ (.slice (some ⟨g3, 0, none⟩) 1 cap3)) := hbw3.setCell (by show w.heap.size ≤ w.heap.size + 1; omega) _
    have hsz : (w3.setCell ⟨w.heap.size + 1, 1, none⟩ (.slice (some ⟨g3, 0, none⟩) 1 cap3)).heap.size = w3.heap.size := by simp [World.setCell]
    obtain ⟨W, hW⟩ : ∃ W, w3.setCell ⟨w.heap.size + 1, 1, none⟩ (.slice (some ⟨g3, 0, none⟩) 1 cap3) = W := ⟨_, rfl⟩
    have hkp : ∀ k, k ≠ w.heap.size + 1 → W.heap[k]? = w3.heap[k]? := fun k hk => by rw [← hW]; exact Below.heap_setCell _ _ _ _ hk
    rw [hW] at hwS hsz ⊢
    clear hW m0 m1 mf1
    have hrepF : RepN W (fun k => k < W.heap.size) (.un c t) (.int .u8 c.toNat) (.slice (some ⟨g3, 0, none⟩) 1 cap3) := by
      refine rep_mk (c := c) (ts := [t]) (.inl rfl) ⟨_, _, [], rfl, hrep.keep fun k hk => ?_, rfl⟩ rfl (own_kept HO.out (hkp _ hg3N.symm)) (by omega)
      simp only [World.size_alloc] at hk
      exact ⟨by omega, (hkp k (by omega)).trans (HNE.out k (by omega) hk.2)⟩
    have hl : t.text.length ≤ 60 := by rw [← htx]; exact hlen
    have hj : joinL h.data.toList [x] = Ty.text (.un c t) := by simp [joinL, HC.out, htx, Ty.text]
    refine (textS_any _ _ _ _ _ hrepF (fun k hk => hk) (by simp [Ty.text]; omega)).mono ?_
    rintro e w4 ⟨rfl, hb4⟩
    have hb04 := hwS.trans (hb4.mono (by have := hwS.size; omega))
    by_cases h60 : (Ty.text (.un c t)).length ≤ 60
    · have HV := hid (show (tyOf (strOf (Ty.text (.un c t))).data.toList).isSome = true by rw [strOf_list, tyOf_of (t := .un c t) ⟨HK.out, hok⟩ h60]; rfl)
      have HM := hid (mkOf_yes (xs := [x]) H1.out HA.out (by simp [HS.out]) (by rw [hj]; exact h60))
      rw [hj] at HM
      clear hj hrepF
      go_wp2_with (first | (go_at_call 16; refine (typeValidS_at _ _ (by rw [strOf_size]; unfold maxLen; omega) true HV).mono ?_; rintro e w5 ⟨rfl, hb5⟩))
      exact bodyPost_ret (v := .tuple #[.string (strOf (Ty.text (.un c t))), .bool true]) (by simp [results, Try.results19, go_sem]) rfl ⟨by rw [HM.out]; rfl, hb04.trans (hb5.mono hb04.size)⟩
    · have HV := hid (show (tyOf (strOf (Ty.text (.un c t))).data.toList).isSome = false by rw [strOf_list, tyOf_long (by omega)]; rfl)
      have hl2 : (Ty.text (.un c t)).length ≤ 63 := by simp [Ty.text]; omega
      have HM := hid (mkOf_long (h := h) (xs := [x]) (by rw [hj]; omega))
      clear hj hrepF
      go_wp2_with (first | (go_at_call 16; refine (typeValidS_at _ _ (by rw [strOf_size]; unfold maxLen; omega) false HV).mono ?_; rintro e w5 ⟨rfl, hb5⟩))
      exact bodyPost_ret (v := .tuple #[.string ⟨#[]⟩, .bool false]) (by simp [results, Try.results19, go_sem]) rfl ⟨by rw [HM.out]; rfl, hb04.trans (hb5.mono hb04.size)⟩

set_option maxHeartbeats 1600000 in
set_option maxRecDepth 100000 in
theorem makeTypeS_2 (h x y : ByteArray) (g o cap : Nat) (w : World) (h1 : h.size = 1) (ha : ar (h.data.toList.headD 0) = (2 : Nat)) (hg : g < w.heap.size) (hx : w.cell? ⟨g, o, none⟩ = some (.string x)) (hy : w.cell? ⟨g, o + 1, none⟩ = some (.string y)) (hxs : x.size ≤ maxLen) (hys : y.size ≤ maxLen) :
    Calls Try.prog 19 #[.string h, .slice (some ⟨g, o, none⟩) 2 cap] w (MkEnd w (mkOf h [x, y])) := by
  obtain ⟨i0, hi0, hz0, hz1, hz2⟩ := info_parts nodeInfoS
  have h0 : 0 < h.size := by omega
  have hz : ((h.size : Int) != 1) = false := by simp [h1]
  have HA := hid ha
  rw [head_at h h0] at ha
  obtain ⟨c, hc⟩ : ∃ c, h[0] = c := ⟨_, rfl⟩
  have HC := hid (head_list h1 h0 hc)
  rw [hc] at ha
  have HK := hid ha
  have H1 := hid h1
  clear ha h1
  have hcc : ∀ (O O' : Obj), ((w.alloc O).alloc O').cell? ⟨g, o, none⟩ = some (.string x) := fun O O' => cell_below hx hg (((Below.refl _ _).alloc (Nat.le_refl _) O).alloc (by simp only [World.size_alloc]; omega) O')
  have HY := hid hy
  clear hx hy
  go_enter Try.func19, Try.ntmps19
  go_wp2_with (first | (go_at_call 59; refine (l1Arity_at c (2 : Nat) HK _).mono ?_; rintro e w' ⟨rfl, hw⟩; obtain rfl := hw.symm))
  refine wp_loop_rounds 3 ?_
  rw [rounds_succ]
  go_wp2_with fail
  clear hcc
  refine (l1Read_any x _ hxs).mono ?_
  rintro e w1 ⟨hb, ⟨hn, rfl⟩ | ⟨t, c1, A, m, cap1, hs1, rfl, hrep⟩⟩
  · have HN := hid hn
    clear hn
    go_wp2_with fail
    rw [mkOf_bad (x := x) (by simp) (by rw [HN.out]; rfl)]
    have hb0 := ((Below.refl w.heap.size w).alloc (Nat.le_refl _) (.cells #[] 63)).alloc (by simp only [World.size_alloc]; omega) (.cells #[.int .u8 c.toNat, .slice (some { block := w.heap.size, off := 0 }) 0 0] 63)
    exact bodyPost_ret (v := .tuple #[.string ⟨#[]⟩, .bool false]) (by simp [results, Try.results19, go_sem]) rfl ⟨rfl, (hb0.trans (hb.mono hb0.size)).alloc (Nat.le_trans hb0.size hb.size) _⟩
  · have zb := hb.size
    simp only [World.size_alloc] at zb
    have hgB : w1.heap[w.heap.size]? = some (.cells #[] 63 (0, 0)) := (hb.block _ (by simp only [World.size_alloc]; omega)).trans ((Below.heap_alloc _ _ _ (by simp only [World.size_alloc]; omega)).trans (heap_new1 _ _))
    have hgN : w1.heap[w.heap.size + 1]? = some (.cells #[.int .u8 c.toNat, .slice (some { block := w.heap.size, off := 0 }) 0 0] 63 (0, 0)) := (hb.block _ (by simp only [World.size_alloc]; omega)).trans (by
      have := heap_new1 (w.alloc (.cells #[] 63)) (.cells #[.int .u8 c.toNat, .slice (some { block := w.heap.size, off := 0 }) 0 0] 63)
      rwa [World.size_alloc] at this)
    have hbw : Below w.heap.size w w1 := (((Below.refl _ _).alloc (Nat.le_refl _) _).alloc (by simp only [World.size_alloc]; omega) _).trans (hb.mono (by simp only [World.size_alloc]; omega))
    obtain ⟨n0, n1, nf⟩ := two_cells hgN
    have g0 : ∀ o, (w1.alloc o).cell? ⟨w.heap.size + 1, 0, none⟩ = some (.int .u8 c.toNat) := fun o => (World.cell?_alloc_lt _ _ _ (by show w.heap.size + 1 < _; omega)).trans n0
    have g1 : ∀ o, (w1.alloc o).cell? ⟨w.heap.size + 1, 1, none⟩ = some (.slice (some { block := w.heap.size, off := 0 }) 0 0) := fun o => (World.cell?_alloc_lt _ _ _ (by show w.heap.size + 1 < _; omega)).trans n1
    clear n0 nf
    have HGB := hid hgB
    have HGN := hid hgN
    have HS := hid hs1
    clear hgB hgN hs1
    have hown : ∀ O, (w1.alloc O).ownsRow w.heap.size 63 2 (.slice (some ⟨w.heap.size, 0, none⟩) 0 0) 0 [] := fun O => own_empty2 ((Below.heap_alloc _ _ _ (by omega)).trans HGB.out) _ (Nat.le_refl _)
    go_wp2_with (at_builtin; refine wpList_append_lies _ rfl _ _ 61 rfl w.heap.size 63 i0 _ 2 32 Try.underlying61 hi0 hz0 hz1 hz2 rfl (by decide) _ _ _ rfl ((hown _).alloc _) ⟨w1.heap.size + 1, 0, none⟩ 1 1 [.int .u8 c1.toNat, .slice A m cap1] rfl rfl ?c1 ?c2 (by decide) ?c3 ?c4 ?c5 (w1.heap.size + 1 + 1) (by simp only [World.size_alloc]) ?_)
    case c1 =>
      refine World.news_of_block (cs := #[.int .u8 c1.toNat, .slice A m cap1]) (t := 63) (fr := (0, 0)) ?_
      exact heap_new2 _ _ _ rfl
    case c2 => simp [Value.oneCell']
    case c3 => decide
    case c4 => decide
    case c5 => simp only [World.size_alloc]; omega
    intro g3 cap3 w3 hown3 hg3 hat3 q3
    clear hown
    have z3 := hg3.size
    simp only [World.size_alloc] at z3
    have hbw3 : Below w.heap.size w w3 := ((hbw.alloc hbw.size _).alloc (by simp only [World.size_alloc]; omega) _).grown hg3 (by simp only [World.size_alloc]; omega) (by intro k hk; simp [Value.ownBlock] at hk; omega)
    have hne : ∀ k, w.heap.size < k → k < w1.heap.size → w3.heap[k]? = w1.heap[k]? := fun k hk1 hk2 => (hg3.block k (by simp only [World.size_alloc]; omega) (by simp [Value.ownBlock]; omega)).trans ((Below.heap_alloc _ _ _ (by simp only [World.size_alloc]; omega)).trans (Below.heap_alloc _ _ _ hk2))
    have hgN3 : w3.heap[w.heap.size + 1]? = some (.cells #[.int .u8 c.toNat, .slice (some { block := w.heap.size, off := 0 }) 0 0] 63 (0, 0)) := (hne _ (by omega) (by omega)).trans HGN.out
    obtain ⟨m0, m1, mf⟩ := two_cells hgN3
    have mf1 := mf 1
    have HGN3 := hid hgN3
    have HNE := hid hne
    have HO := hid hown3
    have hg3N : w.heap.size + 1 ≠ g3 := by
      rcases hat3 with h | h
      · simp only [Value.ownBlock, Option.some.injEq] at h; omega
      · omega
    have hg3at : g3 = w.heap.size ∨ g3 = w1.heap.size + 1 + 1 := by
      rcases hat3 with h | h
      · simp only [Value.ownBlock, Option.some.injEq] at h; exact .inl h.symm
      · exact .inr h
    clear hgN3 hne hown3 mf g0 g1
    have hcy := cell_below HY.out hg hbw3
    have hcy2 : ∀ u, (w3.setCell ⟨w.heap.size + 1, 1, none⟩ u).cell? ⟨g, o + 1, none⟩ = some (.string y) := fun u => (World.cell?_of_block (w := w3) (Below.heap_setCell _ _ _ _ (by show g ≠ w.heap.size + 1; omega))).trans hcy
    clear hcy
    go_wp2_with fail
    rw [rounds_succ]
    go_wp2_with fail
    clear hcy2
    obtain ⟨htx, hok, hlen⟩ := tyOf_text HS.out
    have hwS : Below w.heap.size w (w3.setCell ⟨w.heap.size + 1, 1, none⟩ (.slice (some ⟨g3, 0, none⟩) 1 cap3)) := hbw3.setCell (by show w.heap.size ≤ w.heap.size + 1; omega) _
    have hsz : (w3.setCell ⟨w.heap.size + 1, 1, none⟩ (.slice (some ⟨g3, 0, none⟩) 1 cap3)).heap.size = w3.heap.size := by simp [World.setCell]
    have hgNS : (w3.setCell ⟨w.heap.size + 1, 1, none⟩ (.slice (some ⟨g3, 0, none⟩) 1 cap3)).heap[w.heap.size + 1]? = some (.cells #[.int .u8 c.toNat, .slice (some ⟨g3, 0, none⟩) 1 cap3] 63 (0, 0)) := by
      have h := HGN3.out
      simp [World.setCell, Array.getElem?_modify, h]
    obtain ⟨W, hW⟩ : ∃ W, w3.setCell ⟨w.heap.size + 1, 1, none⟩ (.slice (some ⟨g3, 0, none⟩) 1 cap3) = W := ⟨_, rfl⟩
    have hkp : ∀ k, k ≠ w.heap.size + 1 → W.heap[k]? = w3.heap[k]? := fun k hk => by rw [← hW]; exact Below.heap_setCell _ _ _ _ hk
    rw [hW] at hwS hsz hgNS ⊢
    clear hW m0 m1 mf1
    have hrepW : RepN W (fun k => w.heap.size + 1 < k ∧ k < w1.heap.size) t (.int .u8 c1.toNat) (.slice A m cap1) := hrep.keep fun k hk => by
      simp only [World.size_alloc] at hk
      exact ⟨by omega, (hkp k (by omega)).trans (HNE.out k (by omega) hk.2)⟩
    have HOW := hid (own_kept HO.out (hkp _ hg3N.symm))
    refine (l1Read_any y _ hys).mono ?_
    rintro e w4 ⟨hb4, ⟨hn, rfl⟩ | ⟨t', c2, A', m', cap2, hs2, rfl, hrep'⟩⟩
    · have HN := hid hn
      clear hn
      go_wp2_with fail
      have HM := hid (mkOf_bad (h := h) (xs := [x, y]) (x := y) (by simp) (by rw [HN.out]; rfl))
      exact bodyPost_ret (v := .tuple #[.string ⟨#[]⟩, .bool false]) (by simp [results, Try.results19, go_sem]) rfl ⟨by rw [HM.out]; rfl, (hwS.trans (hb4.mono hwS.size)).alloc (Nat.le_trans hwS.size hb4.size) _⟩
    · have zb4 := hb4.size
      have hgN4 := (hb4.block _ (by omega)).trans hgNS
      have hbw4 : Below w.heap.size w w4 := hwS.trans (hb4.mono hwS.size)
      obtain ⟨n0, n1, nf⟩ := two_cells hgN4
      have g0 : ∀ o, (w4.alloc o).cell? ⟨w.heap.size + 1, 0, none⟩ = some (.int .u8 c.toNat) := fun o => (World.cell?_alloc_lt _ _ _ (by show w.heap.size + 1 < _; omega)).trans n0
      have g1 : ∀ o, (w4.alloc o).cell? ⟨w.heap.size + 1, 1, none⟩ = some (.slice (some ⟨g3, 0, none⟩) 1 cap3) := fun o => (World.cell?_alloc_lt _ _ _ (by show w.heap.size + 1 < _; omega)).trans n1
      clear n0 nf
      have HGN4 := hid hgN4
      have HS' := hid hs2
      have HOW4 := hid (own_kept HOW.out (hb4.block _ (by omega)))
      clear hgN4 hs2 hgNS
      go_wp2_with (at_builtin; refine wpList_append_lies _ rfl _ _ 61 rfl w.heap.size 63 i0 _ 2 32 Try.underlying61 hi0 hz0 hz1 hz2 rfl (by decide) _ _ _ rfl ((HOW4.out.alloc _).alloc _) ⟨w4.heap.size + 1, 0, none⟩ 1 1 [.int .u8 c2.toNat, .slice A' m' cap2] rfl rfl ?d1 ?d2 (by decide) ?d3 ?d4 ?d5 (w4.heap.size + 1 + 1) (by simp only [World.size_alloc]) ?_)
      case d1 =>
        refine World.news_of_block (cs := #[.int .u8 c2.toNat, .slice A' m' cap2]) (t := 63) (fr := (0, 0)) ?_
        exact heap_new2 _ _ _ rfl
      case d2 => simp [Value.oneCell']
      case d3 => decide
      case d4 => decide
      case d5 => simp only [World.size_alloc]; omega
      intro g5 cap5 w5 hown5 hg5 hat5 q5
      have z5 := hg5.size
      simp only [World.size_alloc] at z5
      have hbw5 : Below w.heap.size w w5 := ((hbw4.alloc hbw4.size _).alloc (by have := hbw4.size; simp only [World.size_alloc]; omega) _).grown hg5 (by have := hbw4.size; simp only [World.size_alloc]; omega) (by intro k hk; simp [Value.ownBlock] at hk; omega)
      have hne5 : ∀ k, k ≠ g3 → k < w4.heap.size → w5.heap[k]? = w4.heap[k]? := fun k hk1 hk2 => (hg5.block k (by simp only [World.size_alloc]; omega) (by simp [Value.ownBlock]; omega)).trans ((Below.heap_alloc _ _ _ (by simp only [World.size_alloc]; omega)).trans (Below.heap_alloc _ _ _ hk2))
      have hgN5 : w5.heap[w.heap.size + 1]? = some (.cells #[.int .u8 c.toNat, .slice (some ⟨g3, 0, none⟩) 1 cap3] 63 (0, 0)) := (hne5 _ hg3N (by omega)).trans HGN4.out
      obtain ⟨m0, m1, mf⟩ := two_cells hgN5
      have mf1 := mf 1
      have HNE5 := hid hne5
      have HO5 := hid hown5
      have hg5N : w.heap.size + 1 ≠ g5 := by
        rcases hat5 with h | h
        · simp only [Value.ownBlock, Option.some.injEq] at h; omega
        · omega
      clear hgN5 hne5 hown5 mf g0 g1
      go_wp2_with fail
      rw [rounds_succ]
      go_wp2_with fail
      obtain ⟨htx', hok', hlen'⟩ := tyOf_text HS'.out
      have hwF : Below w.heap.size w (w5.setCell ⟨w.heap.size + 1, 1, none⟩ (.slice (some ⟨g5, 0, none⟩) 2 cap5)) := hbw5.setCell (by show w.heap.size ≤ w.heap.size + 1; omega) _
      have hszF : (w5.setCell ⟨w.heap.size + 1, 1, none⟩ (.slice (some ⟨g5, 0, none⟩) 2 cap5)).heap.size = w5.heap.size := by simp [World.setCell]
      obtain ⟨V, hV⟩ : ∃ V, w5.setCell ⟨w.heap.size + 1, 1, none⟩ (.slice (some ⟨g5, 0, none⟩) 2 cap5) = V := ⟨_, rfl⟩
      have hkpF : ∀ k, k ≠ w.heap.size + 1 → V.heap[k]? = w5.heap[k]? := fun k hk => by rw [← hV]; exact Below.heap_setCell _ _ _ _ hk
      rw [hV] at hwF hszF ⊢
      clear hV m0 m1 mf1
      have hrepF : RepN V (fun k => k < V.heap.size) (.bi c t t') (.int .u8 c.toNat) (.slice (some ⟨g5, 0, none⟩) 2 cap5) := by
        refine rep_mk (c := c) (ts := [t, t']) (.inr rfl) ⟨_, _, _, rfl, hrepW.keep fun k hk => ?_, _, _, [], rfl, hrep'.keep fun k hk => ?_, rfl⟩ rfl (own_kept HO5.out (hkpF _ hg5N.symm)) (by omega)
        · exact ⟨by omega, (hkpF k (by omega)).trans ((HNE5.out k (by omega) (by omega)).trans (hb4.block k (by omega)))⟩
        · exact ⟨by omega, (hkpF k (by omega)).trans (HNE5.out k (by omega) hk.2)⟩
      have hl : t.text.length ≤ 60 := by rw [← htx]; exact hlen
      have hl' : t'.text.length ≤ 60 := by rw [← htx']; exact hlen'
      have hj : joinL h.data.toList [x, y] = Ty.text (.bi c t t') := by simp [joinL, HC.out, htx, htx', Ty.text]
      refine (textS_any _ _ _ _ _ hrepF (fun k hk => hk) (by simp [Ty.text]; omega)).mono ?_
      rintro e w6 ⟨rfl, hb6⟩
      have hb06 := hwF.trans (hb6.mono (by have := hwF.size; omega))
      by_cases h60 : (Ty.text (.bi c t t')).length ≤ 60
      · have HV := hid (show (tyOf (strOf (Ty.text (.bi c t t'))).data.toList).isSome = true by rw [strOf_list, tyOf_of (t := .bi c t t') ⟨HK.out, hok, hok'⟩ h60]; rfl)
        have HM := hid (mkOf_yes (xs := [x, y]) H1.out HA.out (by simp [HS.out, HS'.out]) (by rw [hj]; exact h60))
        rw [hj] at HM
        clear hj hrepF
        go_wp2_with (first | (go_at_call 16; refine (typeValidS_at _ _ (by rw [strOf_size]; unfold maxLen; omega) true HV).mono ?_; rintro e w7 ⟨rfl, hb7⟩))
        exact bodyPost_ret (v := .tuple #[.string (strOf (Ty.text (.bi c t t'))), .bool true]) (by simp [results, Try.results19, go_sem]) rfl ⟨by rw [HM.out]; rfl, hb06.trans (hb7.mono hb06.size)⟩
      · have HV := hid (show (tyOf (strOf (Ty.text (.bi c t t'))).data.toList).isSome = false by rw [strOf_list, tyOf_long (by omega)]; rfl)
        have hl2 : (Ty.text (.bi c t t')).length ≤ 124 := by simp [Ty.text]; omega
        have HM := hid (mkOf_long (h := h) (xs := [x, y]) (by rw [hj]; omega))
        clear hj hrepF
        go_wp2_with (first | (go_at_call 16; refine (typeValidS_at _ _ (by rw [strOf_size]; unfold maxLen; omega) false HV).mono ?_; rintro e w7 ⟨rfl, hb7⟩))
        exact bodyPost_ret (v := .tuple #[.string ⟨#[]⟩, .bool false]) (by simp [results, Try.results19, go_sem]) rfl ⟨by rw [HM.out]; rfl, hb06.trans (hb7.mono hb06.size)⟩

theorem makeTypeS_any (h : ByteArray) (A : Option Addr) (n cap : Nat) (xs : List ByteArray) (w : World) (hxs : Strs w A n xs) (hz : ∀ x ∈ xs, x.size ≤ maxLen) :
    Calls Try.prog 19 #[.string h, .slice A n cap] w (MkEnd w (mkOf h xs)) := by
  by_cases hno : h.size ≠ 1 ∨ ar (h.data.toList.headD 0) ≠ n
  · rw [mkOf_no (by rw [hxs.1]; exact hno)]
    exact makeTypeS_no h A n cap w hno
  · have h1 : h.size = 1 := Decidable.byContradiction fun e => hno (.inl e)
    have ha : ar (h.data.toList.headD 0) = n := Decidable.byContradiction fun e => hno (.inr e)
    have hn2 : n ≤ 2 := by have := ar_le (h.data.toList.headD 0); omega
    obtain ⟨hl, hs⟩ := hxs
    match xs, hl with
    | [], hl =>
      obtain rfl : 0 = n := hl
      exact makeTypeS_0 h A cap w h1 ha
    | [x], hl =>
      obtain rfl : 1 = n := hl
      obtain ⟨g, o, rfl, hg, hc'⟩ := hs Nat.one_pos
      exact makeTypeS_1 h x g o cap w h1 ha hg (hc' 0 x rfl) (hz x (by simp))
    | [x, y], hl =>
      obtain rfl : 2 = n := hl
      obtain ⟨g, o, rfl, hg, hc'⟩ := hs Nat.zero_lt_two
      exact makeTypeS_2 h x y g o cap w h1 ha hg (hc' 0 x rfl) (hc' 1 y rfl) (hz x (by simp)) (hz y (by simp))
    | _ :: _ :: _ :: _, hl => simp at hl; omega

end Go.Proofs.Ytechacocfpobgaa
