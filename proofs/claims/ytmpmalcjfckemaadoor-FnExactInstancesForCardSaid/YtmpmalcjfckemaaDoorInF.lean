/- The instances of a class: InstancesFor in the program and in the model. -/
import Derived.Test.YtmpmalcjfckemaaDoorByC
import Derived.Test.YtmpmalcjfckemaaDoorKeep
import Derived.Test.YtmpmalcjfckemaaDoorNv
namespace Go.Proofs.YtmpmalcjfckemaaDoor
open Go.RowKit Go.Maps Go.WideMaps
set_option linter.unusedVariables false

/-- What is answered. -/
def inOf (zs : List (ByteArray × ByteArray)) (is : List Ins) (s : ByteArray) : List Nat := if wdOf zs is && hasNm zs s then idxs (isC s) 0 is else []
theorem inOf_len (zs : List (ByteArray × ByteArray)) (is : List Ins) (s : ByteArray) : (inOf zs is s).length ≤ is.length := by
  unfold inOf
  split
  · exact idxs_length _ _ _
  · exact Nat.zero_le _
theorem OwnK.of_ints {w : World} {base : Nat} {D : Option Addr} {s : List Int} {c : Nat} {l : List Nat} (h : w.ownsInts base 3 .i64 (.slice D s.length c) s) (e : s = zOf l) : OwnK w base (.slice D s.length c) l := by
  subst e
  have h2 := h.1
  unfold OwnK
  rw [zOf_length] at h2 ⊢
  exact h2

set_option maxHeartbeats 1000000 in
set_option maxRecDepth 100000 in
theorem instForI_any (A : Option Addr) (n cap : Nat) (zs : List (ByteArray × ByteArray)) (B : Option Addr) (m cap' : Nat) (is : List Ins) (s : ByteArray) (w : World) (hn : n ≤ maxLen) (ha : Prs w A n zs) (hm : m ≤ maxLen) (hb : Inss w B m is) (hok : ∀ i ∈ is, InsOk i) (ht : tot zs ≤ 1048576) (he : WErrs w) (hs : s.size ≤ maxLen) :
    Calls Tryd.prog 13 #[.agg #[.slice A n cap, .slice B m cap'], .string s] w (TwoK w (inOf zs is s) (wdOf zs is && hasNm zs s)) := by
  have b0 : ∀ o, Below w.heap.size w (w.alloc o) := fun o => (Below.refl _ _).alloc (Nat.le_refl _) o
  obtain ⟨w1, hw1⟩ : ∃ w1, w.alloc (.cells #[.slice A n cap, .slice B m cap'] 34) = w1 := ⟨_, rfl⟩
  have k0 := b0 (.cells #[.slice A n cap, .slice B m cap'] 34)
  have k2 := heap_new1 w (.cells #[.slice A n cap, .slice B m cap'] 34)
  rw [hw1] at k0 k2
  have z1 : w.heap.size < w1.heap.size := by rw [← hw1]; simp only [World.size_alloc]; omega
  have HC := hid (fun (W : World) (hW : Below w1.heap.size w1 W) => show (W.cell? ⟨w.heap.size, 0, none⟩ = some (.slice A n cap) ∧ W.cell? ⟨w.heap.size, 1, none⟩ = some (.slice B m cap')) ∧ Below w.heap.size w W from
    ⟨⟨cell_blk ((hW.block _ z1).trans k2) rfl, cell_blk ((hW.block _ z1).trans k2) rfl⟩, k0.trans (hW.mono k0.size)⟩)
  have HHC := hid (hasClassI_any A n cap zs B m cap' is s w1 hn (ha.below k0) hm (hb.below k0) hok ht (he.below k0))
  have HBY := hid (fun (W : World) (hW : Below w.heap.size w W) (hm : m ≤ 10) => byClass_any A n cap B m cap' is W hm (hb.below hW) hok)
  have HM := hid (fun (h : (wdOf zs is && hasNm zs s) = true) => show m ≤ 10 from by
    simp only [Bool.and_eq_true] at h
    have := (wdOf_is h.1).1
    have := hb.1
    omega)
  have HCO := hid (show inOf zs is s = if (wdOf zs is && hasNm zs s) then idxs (isC s) 0 is else [] from rfl)
  have HKEY := hid (show keyOf Tryd.prog 9 (.string s) = some (.string s.data.toList) from keyOf_string_mk Tryd.underlying9 hs)
  obtain ⟨b, hb'⟩ : ∃ b, (wdOf zs is && hasNm zs s) = b := ⟨_, rfl⟩
  rw [hb'] at HHC HM HCO ⊢
  have HW1 := hid hw1
  clear ha hb hok he k0 k2 hw1 hb'
  go_enter Tryd.func13, Tryd.ntmps13
  go_wp2_with fail
  rw [HW1.out]
  refine HHC.out.mono ?_
  rintro e w2 ⟨rfl, c2⟩
  have B2 := hid c2
  clear c2
  obtain ⟨⟨p0, p1⟩, bel2⟩ := HC.out w2 B2.out
  have BL2 := hid bel2
  cases b
  · go_wp2_with fail
    refine bodyPost_ret (v := .tuple #[.slice none 0 0, .bool false]) (by simp [results, Tryd.results13, go_sem]) rfl ⟨⟨_, rfl, ?_⟩, BL2.out⟩
    rw [HCO.out]
    exact World.ownsRow_nil _ _ _ _
  · have hm10 := HM.out rfl
    have HBM := hid (HBY.out w2 bel2 hm10)
    clear bel2
    go_wp2_with fail
    refine HBM.out.mono ?_
    rintro e w3 ⟨D, rfl, h1, h2, h3⟩
    obtain ⟨v1, s1, hl1, ha1, ho1, hs1, _⟩ := World.ownsGroups.at h1 strLaw Tryd.underlying59 (zeroInts _) (by unfold maxLen; omega) HKEY.out
    have e1 := byD_zs h2 ho1 ha1
    obtain ⟨D1, cc1, rfl⟩ := ints_form ho1
    have HO1 := hid (OwnK.of_ints ho1 e1)
    have B3 := hid (BL2.out.trans (h3.mono BL2.out.size))
    have Z2 := hid (BL2.out.size)
    clear h1 h2 h3 ha1 ho1 e1
    go_wp2_with fail
    refine bodyPost_ret (v := .tuple #[.slice D1 s1.length cc1, .bool true]) (by simp [results, Tryd.results13, go_sem]) rfl ⟨⟨_, rfl, ?_⟩, B3.out⟩
    rw [HCO.out, if_pos trivial]
    exact HO1.out.mono (by have := Z2.out; omega)

set_option maxHeartbeats 4000000 in
set_option maxRecDepth 100000 in
theorem instForS_any (A : Option Addr) (n cap : Nat) (zs : List (ByteArray × ByteArray)) (B : Option Addr) (m cap' : Nat) (is : List Ins) (s : ByteArray) (w : World) (hcap : n ≤ cap) (hcm : cap ≤ maxLen) (ha : Prs w A n zs) (hz : ∀ z ∈ zs, z.2.size ≤ maxLen) (hm : m ≤ 1048576) (hb : Inss w B m is) (hok : ∀ i ∈ is, InsOk i) :
    Calls Tryd.prog 12 #[.agg #[.slice A n cap, .slice B m cap'], .string s] w (TwoK w (inOf zs is s) (wdOf zs is && hasNm zs s)) := by
  obtain ⟨i0, hi0, hz0, hz1, hz2⟩ := info_parts infoIntK
  obtain ⟨k0, k1, k2, k3⟩ := box2 w #[.slice A n cap, .slice B m cap'] 34 #[] 3
  obtain ⟨w1, hw1⟩ : ∃ w1, (w.alloc (.cells #[.slice A n cap, .slice B m cap'] 34)).alloc (.cells #[] 3) = w1 := ⟨_, rfl⟩
  rw [hw1] at k0 k1 k2 k3
  have z1 : w.heap.size + 1 < w1.heap.size := by omega
  have K0 := hid k0
  have HZ1 := hid k1
  have HC := hid (fun (W : World) (hW : Below (w.heap.size + 1) w1 W) => show (W.cell? ⟨w.heap.size, 0, none⟩ = some (.slice A n cap) ∧ W.cell? ⟨w.heap.size, 1, none⟩ = some (.slice B m cap')) ∧ Inss W B m is ∧ Below w.heap.size w W from
    ⟨⟨cell_blk ((hW.block _ (by omega)).trans k2) rfl, cell_blk ((hW.block _ (by omega)).trans k2) rfl⟩, hb.below (k0.trans (hW.mono (by omega))), k0.trans (hW.mono (by omega))⟩)
  have HOE := hid (fun (W : World) (hW : Below w1.heap.size w1 W) => show OwnK W (w.heap.size + 1) (.slice (some ⟨w.heap.size + 1, 0, none⟩) 0 0) [] from
    ⟨rfl, .inr ⟨w.heap.size + 1, 0, #[], rfl, Nat.le_refl _, (hW.block _ z1).trans k3, Nat.le_refl _, by unfold maxLen; omega, rfl, rfl⟩⟩)
  have HHC := hid (hasClassS_any A n cap zs B m cap' is s w1 hcap hcm (ha.below k0) hz (by unfold maxLen; omega) (hb.below k0) hok)
  have HOK := hid hok
  have HL := hid hb.1
  have HCO := hid (show inOf zs is s = if (wdOf zs is && hasNm zs s) then idxs (isC s) 0 is else [] from rfl)
  obtain ⟨b, hb'⟩ : ∃ b, (wdOf zs is && hasNm zs s) = b := ⟨_, rfl⟩
  rw [hb'] at HHC HCO ⊢
  have HW1 := hid hw1
  clear k0 k1 k2 k3 hw1 hb hok ha hb'
  go_enter Tryd.func12, Tryd.ntmps12
  go_wp2_with fail
  rw [HW1.out]
  refine HHC.out.mono ?_
  rintro e w2 ⟨rfl, c2⟩
  have HE := hid (HOE.out w2 c2)
  have B2 := hid (show Below (w.heap.size + 1) w1 w2 from c2.mono (by omega))
  clear c2
  obtain ⟨⟨p0, p1⟩, _, bel2⟩ := HC.out w2 B2.out
  have BL2 := hid bel2
  clear bel2
  cases b
  · go_wp2_with fail
    refine bodyPost_ret (v := .tuple #[.slice (some ⟨w.heap.size + 1, 0, none⟩) 0 0, .bool false]) (by simp [results, Tryd.results12, go_sem]) rfl ⟨⟨_, rfl, ?_⟩, BL2.out⟩
    rw [HCO.out]
    exact HE.out.mono (by omega)
  · go_wp2_with fail
    go_loopw [6, 18] (fun v i wr => ∃ k : Nat, k ≤ m ∧ i = .int .i64 k ∧ OwnK wr (w.heap.size + 1) v (idxs (isC s) 0 (is.take k)) ∧ Below (w.heap.size + 1) w1 wr) (fun _ i _ => m - (intOf i).toNat)
    case atStart => exact ⟨0, Nat.zero_le _, rfl, HE.out, B2.out⟩
    case round =>
      obtain ⟨k, hk, rfl, hown, hbel⟩ := hrel
      have HW := hid hown
      have hfl := idxs_take (isC s) is k
      clear hown p0 p1
      by_cases hlt : k < m
      · have hx : is[k]? = some (is[k]'(by have := HL.out; omega)) := List.getElem?_eq_getElem _
        obtain ⟨_, hin, _⟩ := HC.out wr hbel
        obtain ⟨g, o, rfl, hg, hca⟩ := hin.2 (by omega)
        obtain ⟨ca, cb, E, l, c, cc, _, _⟩ := hca k _ hx
        obtain ⟨⟨ic, it, ns⟩, ex⟩ : ∃ z, is[k]'(by have := HL.out; omega) = z := ⟨_, rfl⟩
        rw [ex] at ca cb hx
        have HTK := hid (idxs_snoc (isC s) hx)
        have hcb : isC s ⟨ic, it, ns⟩ = (ic.toList == s.toList) := rfl
        obtain ⟨q, hq⟩ : ∃ q, (ic.toList == s.toList) = q := ⟨_, rfl⟩
        rw [hq] at hcb
        have HCB := hid hcb
        have BU := hid (hbel.alloc (by have := hbel.size; omega) (.cells #[.string ic, .string it, .slice E l c] 58))
        have HWU := hid (World.ownsRow.alloc HW.out (.cells #[.string ic, .string it, .slice E l c] 58))
        have i1 : (0 : Int) ≤ (k : Int) := by omega
        have i2 : (k : Int) < (m : Int) := by omega
        have zb := hbel.size
        have zk := K0.out.size
        clear hca hx ex hin hcb hbel
        cases q
        · go_wp2_with fail
          go_roundw
          case rel => exact ⟨k + 1, hlt, by go_num, by rw [HTK.out, HCB.out, if_neg (by simp), List.append_nil]; exact HWU.out, BU.out⟩
          case measure => simp [intOf]; omega
        · obtain ⟨L, hL⟩ : ∃ L, idxs (isC s) 0 (is.take k) = L := ⟨_, rfl⟩
          rw [hL] at HWU HTK hfl
          rw [HCB.out] at HTK
          clear hL
          go_wp2_with (at_builtin; refine wpList_append_own _ rfl _ _ 40 rfl (w.heap.size + 1) 3 i0 (.int .i64 0) 1 8 Tryd.underlying40 hi0 hz0 hz1 hz2 rfl (by decide) _ L.length _ rfl (World.ownsRow.alloc HWU.out _) ⟨wr.heap.size + 1, 0, none⟩ 1 1 [.int .i64 (k : Int)] rfl rfl (fun j u hu => by have h := cell_one_new (wr.alloc (.cells #[.string ic, .string it, .slice E l c] 58)) (.int .i64 (k : Int)) 3 j u hu; simpa only [World.size_alloc] using h) ?c2 ?c3 ?c4 ?c5 ?_)
          case c2 => simp [Value.oneCell']
          case c3 => unfold maxLen; omega
          case c4 => omega
          case c5 => first | omega | (simp; omega)
          intro v2 w7 hown7 hg7 hv7
          clear hv7
          have HO7 := hid hown7
          have HG7 := hid hg7
          clear hown7 hg7
          go_wp2_with fail
          go_roundw
          case rel =>
            refine ⟨k + 1, hlt, by go_num, ?_, ?_⟩
            · rw [HTK.out, if_pos trivial]
              unfold OwnK
              rw [zOf_append, List.map_append, List.length_append]
              exact HO7.out
            · exact (BU.out.alloc (by simp; omega) _).grown HG7.out (by simp; omega) (fun k' hk' => (HWU.out.lt k' hk').1)
          case measure => simp [intOf]; omega
      · have hkm : k = m := by omega
        subst hkm
        go_wp2_with fail
        have h := HW.out
        rw [List.take_of_length_le (by have := HL.out; omega)] at h
        obtain ⟨A3, c3, rfl, _⟩ := h.form
        refine bodyPost_ret (v := .tuple #[.slice A3 (idxs (isC s) 0 is).length c3, .bool true]) (by simp [results, Tryd.results12, go_sem]) rfl ⟨⟨_, rfl, ?_⟩, (HC.out _ hbel).2.2⟩
        rw [HCO.out, if_pos trivial]
        exact h.mono (by omega)

end Go.Proofs.YtmpmalcjfckemaaDoor
