/- ParseNeed, in the program and in the model. -/
import Derived.Test.YtjpdiahbnhemoaaGreatDoorRdW
import Derived.Test.YtjpdiahbnhemoaaGreatDoorWdT
namespace Go.Proofs.YtjpdiahbnhemoaaGreatDoor
open Go.RowKit
set_option linter.unusedVariables false

/-- What reading a text as a need gives. -/
def PnRes (l : List UInt8) (x y : ByteArray) (f : Bool) : Prop := f = pnF l ∧ ((f = true ∧ x.data.toList = ndC l ∧ y.data.toList = ndY l) ∨ (f = false ∧ x = ⟨#[]⟩ ∧ y = ⟨#[]⟩))
theorem PnRes.same {l : List UInt8} {x y x' y' : ByteArray} {f f' : Bool} (h : PnRes l x y f) (h' : PnRes l x' y' f') : x' = x ∧ y' = y ∧ f' = f := by
  obtain ⟨e, h⟩ := h
  obtain ⟨e', h'⟩ := h'
  have ef : f' = f := by rw [e, e']
  subst ef
  rcases h with ⟨h1, h2, h3⟩ | ⟨h1, h2, h3⟩ <;> rcases h' with ⟨k1, k2, k3⟩ | ⟨k1, k2, k3⟩
  · exact ⟨ba_eq (k2.trans h2.symm), ba_eq (k3.trans h3.symm), rfl⟩
  · rw [h1] at k1; cases k1
  · rw [h1] at k1; cases k1
  · exact ⟨k2.trans h2.symm, k3.trans h3.symm, rfl⟩
theorem pnF_cons (a d : UInt8) (r : List UInt8) : pnF (a :: d :: r) = ((d == 32 && isNm [a]) && (tyOf r).isSome) := by
  rw [Bool.eq_iff_iff, pnF_iff]
  simp only [Bool.and_eq_true, beq_iff_eq]
  constructor
  · rintro ⟨c, t, e, ho⟩
    unfold okN at ho
    rw [Bool.and_eq_true] at ho
    obtain ⟨a', rfl, _⟩ := isNm_one ho.1
    simp only [List.cons_append, List.nil_append, List.cons.injEq] at e
    obtain ⟨rfl, rfl, rfl⟩ := e
    exact ⟨⟨rfl, ho.1⟩, ho.2⟩
  · rintro ⟨⟨rfl, h1⟩, h2⟩
    exact ⟨[a], r, rfl, by unfold okN; rw [h1, h2]; rfl⟩
theorem pnF_short {l : List UInt8} (h : l.length < 3) : pnF l = false := by
  refine Bool.eq_false_iff.2 fun e => ?_
  obtain ⟨c, t, rfl, ho⟩ := (pnF_iff l).1 e
  unfold okN at ho
  rw [Bool.and_eq_true] at ho
  obtain ⟨a', rfl, _⟩ := isNm_one ho.1
  obtain ⟨T, hT⟩ := Option.isSome_iff_exists.1 ho.2
  have := text_pos T
  rw [← (tyOf_text hT).1] at this
  simp only [List.length_append, List.length_cons, List.length_nil] at h
  omega
theorem pnF_vals {a : UInt8} {r : List UInt8} (h : okN [a] r = true) : ndC (a :: 32 :: r) = [a] ∧ ndY (a :: 32 :: r) = r := pnF_val h

theorem u8_32 {d : UInt8} (h : d ≠ 32) : ¬ (d.toNat : Int) = 32 := by
  have : d.toNat ≠ 32 := fun e => h (UInt8.toNat_inj.1 e)
  omega

set_option maxHeartbeats 2000000 in
set_option maxRecDepth 100000 in
theorem parseNeedS_any (s : ByteArray) (hs : s.size ≤ maxLen) (f : Bool) (hf : Hid (pnF s.data.toList = f)) (w : World) :
    Calls Tryz.prog 36 #[.string s] w fun e w' => (∃ x y, e = .returned (.tuple #[.agg #[.string x, .string y], .bool f]) ∧ PnRes s.data.toList x y f) ∧ Below w.heap.size w w' := by
  obtain ⟨w0, hw0⟩ : ∃ w0, w.alloc (.cells #[.string ⟨#[]⟩, .string ⟨#[]⟩] 49) = w0 := ⟨_, rfl⟩
  have z0 : w.heap.size < w0.heap.size := by rw [← hw0]; simp only [World.size_alloc]; omega
  have B0 := hid (show Below w.heap.size w w0 by rw [← hw0]; exact (Below.refl w.heap.size w).alloc (Nat.le_refl _) _)
  have N0 := hid (show w0.heap[w.heap.size]? = some (.cells #[.string ⟨#[]⟩, .string ⟨#[]⟩] 49 (0, 0)) by
    rw [← hw0]
    exact heap_new1 w _)
  have HW0 := hid hw0
  clear hw0
  have n0 := cell_blk N0.out (j := 0) rfl
  have n1 := cell_blk N0.out (j := 1) rfl
  have nf := frz_blk N0.out
  have hlen : s.size = s.data.toList.length := by simp
  have hmx : s.size ≤ 2 ^ 63 - 1 := hs
  by_cases h3 : s.size < 3
  · have h3' : (s.size : Int) < 3 := by omega
    have HNO := hid (pnF_short (l := s.data.toList) (by omega)).symm
    obtain rfl : f = false := by rw [← hf.out]; exact HNO.out.symm
    clear hlen
    go_enter Tryz.func36, Tryz.ntmps36
    go_wp2_with fail
    rw [HW0.out]
    go_wp2_with fail
    refine bodyPost_ret (v := .tuple #[.agg #[.string ⟨#[]⟩, .string ⟨#[]⟩], .bool false]) (by simp [results, Tryz.results36, go_sem, n0, n1]) rfl ⟨⟨_, _, rfl, HNO.out, .inr ⟨rfl, rfl, rfl⟩⟩, ?_⟩
    first | exact B0.out | exact B0.out.trans ((set2_but (rb := w.heap.size) (Nat.le_refl _) _ _).below (Nat.le_refl _))
  · have h3' : ¬ (s.size : Int) < 3 := by omega
    have l1 : 1 < s.size := by omega
    have l1' : (1 : Int) < (s.size : Int) := by omega
    have l1'' : (1 : Int) ≤ (s.size : Int) := by omega
    have l2' : (2 : Int) ≤ (s.size : Int) := by omega
    obtain ⟨a, d, r, hl⟩ : ∃ a d r, s.data.toList = a :: d :: r := by
      rcases he : s.data.toList with _ | ⟨a, _ | ⟨d, r⟩⟩
      · rw [he] at hlen; simp only [List.length_nil] at hlen; omega
      · rw [he] at hlen; simp only [List.length_cons, List.length_nil] at hlen; omega
      · exact ⟨_, _, _, rfl⟩
    have hx1 : s[1] = d := by
      have h := byte_at l1
      rw [hl] at h
      simpa using h.symm
    have HA := hid (show (s.extract 0 1).data.toList = [a] by rw [extract_take, hl]; rfl)
    have HR := hid (show (s.extract 2 s.size).data.toList = r by rw [extract_drop, hl]; rfl)
    obtain ⟨f1, hf1⟩ : ∃ f, isNm [a] = f := ⟨_, rfl⟩
    obtain ⟨f2, hf2⟩ : ∃ f, (tyOf r).isSome = f := ⟨_, rfl⟩
    have HCP := hid (fun (W : World) => l3Capital_any (s.extract 0 1) W)
    rw [HA.out, hf1] at HCP
    have HTV := hid (fun (W : World) => typeValidS_at (s.extract 2 s.size) W (by
      have : (s.extract 2 s.size).size = (s.extract 2 s.size).data.toList.length := by simp
      rw [this, HR.out]
      rw [hl] at hlen
      simp only [List.length_cons] at hlen
      unfold maxLen
      omega) f2 (hid (by rw [HR.out]; exact hf2)))
    have HPN := hid (show pnF s.data.toList = ((d == 32 && f1) && f2) by rw [hl, pnF_cons, hf1, hf2])
    have HL := hid hl
    have HF1 := hid hf1
    have HF2 := hid hf2
    clear hl hf1 hf2 hlen
    by_cases hd : d = 32
    · have hd' : (d.toNat : Int) = 32 := by rw [hd]; rfl
      have HD := hid hd
      clear hd
      rcases f1 with _ | _
      · obtain rfl : f = false := by rw [← hf.out, HPN.out]; simp
        go_enter Tryz.func36, Tryz.ntmps36
        go_wp2_with fail
        refine (HCP.out _).mono ?_
        rintro e w1 ⟨rfl, rfl⟩
        rw [HW0.out]
        go_wp2_with fail
        refine bodyPost_ret (v := .tuple #[.agg #[.string ⟨#[]⟩, .string ⟨#[]⟩], .bool false]) (by simp [results, Tryz.results36, go_sem, n0, n1]) rfl ⟨⟨_, _, rfl, by rw [HPN.out]; simp, .inr ⟨rfl, rfl, rfl⟩⟩, ?_⟩
        first | exact B0.out | exact B0.out.trans ((set2_but (rb := w.heap.size) (Nat.le_refl _) _ _).below (Nat.le_refl _))
      · go_enter Tryz.func36, Tryz.ntmps36
        go_wp2_with fail
        refine (HCP.out _).mono ?_
        rintro e w1 ⟨rfl, rfl⟩
        rw [HW0.out]
        go_wp2_with fail
        refine (HTV.out _).mono ?_
        rintro e w2 ⟨rfl, b2⟩
        have N2 := hid ((b2.block _ z0).trans N0.out)
        have B2 := hid (B0.out.trans (b2.mono (Nat.le_of_lt z0)))
        clear n0 n1 nf b2
        have n0 := cell_blk N2.out (j := 0) rfl
        have n1 := cell_blk N2.out (j := 1) rfl
        have nf := frz_blk N2.out
        rcases f2 with _ | _
        · obtain rfl : f = false := by rw [← hf.out, HPN.out]; simp
          go_wp2_with fail
          refine bodyPost_ret (v := .tuple #[.agg #[.string ⟨#[]⟩, .string ⟨#[]⟩], .bool false]) (by simp [results, Tryz.results36, go_sem, n0, n1]) rfl ⟨⟨_, _, rfl, by rw [HPN.out]; simp, .inr ⟨rfl, rfl, rfl⟩⟩, ?_⟩
          first | exact B2.out | exact B2.out.trans ((set2_but (rb := w.heap.size) (Nat.le_refl _) _ _).below (Nat.le_refl _))
        · obtain rfl : f = true := by rw [← hf.out, HPN.out, HD.out]; rfl
          go_wp2_with fail
          have HOK := hid (show okN [a] r = true by unfold okN; rw [HF1.out, HF2.out]; rfl)
          have hv := pnF_vals HOK.out
          have HLL := hid (show s.data.toList = a :: 32 :: r by rw [HL.out, HD.out])
          have HV1 := hid (show (s.extract 0 1).data.toList = ndC s.data.toList by rw [HLL.out, hv.1, HA.out])
          have HV2 := hid (show (s.extract 2 s.size).data.toList = ndY s.data.toList by rw [HLL.out, hv.2, HR.out])
          clear hv
          go_region
          all_goals
            go_wp2_with fail
            refine bodyPost_ret (v := .tuple #[.agg #[.string (s.extract 0 1), .string (s.extract 2 s.size)], .bool true]) (by simp [results, Tryz.results36, go_sem, n0, n1]) rfl ⟨⟨_, _, rfl, by rw [HPN.out, HD.out]; rfl, .inl ⟨rfl, HV1.out, HV2.out⟩⟩, ?_⟩
            exact B2.out.trans ((set2_but (rb := w.heap.size) (Nat.le_refl _) _ _).below (Nat.le_refl _)).drew
    · have hd' := u8_32 hd
      have HD := hid (show (d == 32) = false from by simpa using hd)
      obtain rfl : f = false := by rw [← hf.out, HPN.out, HD.out]; rfl
      clear hd
      go_enter Tryz.func36, Tryz.ntmps36
      go_wp2_with fail
      rw [HW0.out]
      go_wp2_with fail
      refine bodyPost_ret (v := .tuple #[.agg #[.string ⟨#[]⟩, .string ⟨#[]⟩], .bool false]) (by simp [results, Tryz.results36, go_sem, n0, n1]) rfl ⟨⟨_, _, rfl, by rw [HPN.out, HD.out]; rfl, .inr ⟨rfl, rfl, rfl⟩⟩, ?_⟩
      first | exact B0.out | exact B0.out.trans ((set2_but (rb := w.heap.size) (Nat.le_refl _) _ _).below (Nat.le_refl _))

end Go.Proofs.YtjpdiahbnhemoaaGreatDoor
