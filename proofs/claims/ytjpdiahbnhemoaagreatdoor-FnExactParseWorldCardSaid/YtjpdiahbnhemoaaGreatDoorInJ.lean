/- The program's reader of worlds: an instance; ParseInstance. -/
import Derived.Test.YtjpdiahbnhemoaaGreatDoorInW
import Derived.Test.YtjpdiahbnhemoaaGreatDoorPnN
import Derived.Deep.Cut
namespace Go.Proofs.YtjpdiahbnhemoaaGreatDoor
open Go.RowKit
set_option linter.unusedVariables false

theorem own_heap {w w' : World} {base n k : Nat} {T : TypeId} {v : Value} {xs : List Value} (h : w.ownsRow base T k v n xs) (hb : ∀ g, v.ownBlock = some g → w'.heap[g]? = w.heap[g]?) : w'.ownsRow base T k v n xs := by
  refine ⟨h.1, ?_⟩
  rcases h.2 with hn | ⟨g, cap, cur, rfl, hb0, hgg, rest⟩
  · exact .inl hn
  · exact .inr ⟨g, cap, cur, rfl, hb0, (hb g rfl).trans hgg, rest⟩
theorem own_mono {w : World} {base base' n k : Nat} {T : TypeId} {v : Value} {xs : List Value} (h : w.ownsRow base T k v n xs) (hb : base' ≤ base) : w.ownsRow base' T k v n xs := by
  refine ⟨h.1, ?_⟩
  rcases h.2 with hn | ⟨g, cap, cur, rfl, hb0, rest⟩
  · exact .inl hn
  · exact .inr ⟨g, cap, cur, rfl, Nat.le_trans hb hb0, rest⟩
theorem set1_but {w : World} {k j rb B : Nat} (hk : B ≤ k) (x : Value) : But B rb w (w.setCell ⟨k, j, none⟩ x) :=
  ⟨rfl, rfl, rfl, by simp [World.setCell], fun i hi _ => set1_other (by omega) x⟩
theorem set3_other {w : World} {k rb : Nat} (hne : rb ≠ k) (x y z : Value) : (((w.setCell ⟨k, 0, none⟩ x).setCell ⟨k, 1, none⟩ y).setCell ⟨k, 2, none⟩ z).heap[rb]? = w.heap[rb]? :=
  (set1_other hne z).trans (set2_other hne x y)
theorem set3_but {w : World} {k rb B : Nat} (hk : B ≤ k) (x y z : Value) : But B rb w (((w.setCell ⟨k, 0, none⟩ x).setCell ⟨k, 1, none⟩ y).setCell ⟨k, 2, none⟩ z) :=
  (set2_but hk x y).trans (set1_but hk z)
theorem inBlk {w : World} {k : Nat} {a b c : Value} {T : TypeId} (h : w.heap[k]? = some (.cells #[a, b, c] T (0, 0))) (z : Value) : (w.setCell ⟨k, 2, none⟩ z).heap[k]? = some (.cells #[a, b, z] T (0, 0)) := by
  simp [World.setCell, Array.getElem?_modify, h]

set_option maxHeartbeats 4000000 in
set_option maxRecDepth 100000 in
theorem instance_any (rb : Nat) (s : ByteArray) (b : Bool) (w : World) (hs : s.size ≤ 1048576) (hr : Rw w rb s b) (he : TErrs w) (hoff : Off rb) (X Y : ByteArray) (N : List (ByteArray × ByteArray)) (R : List UInt8) (F : Bool) (hI : Hid (inI s.data.toList = ⟨X, Y, N⟩)) (hR : Hid (inR s.data.toList = R)) (hF : Hid (inF s.data.toList = F)) :
    Calls Tryz.prog 27 #[.pointer (some ⟨rb, 0, none⟩)] w fun e w' => (∃ A c r, e = .returned (.agg #[.string X, .string Y, .slice A N.length c]) ∧ w'.ownsRow w.heap.size 49 2 (.slice A N.length c) N.length (cells2 N) ∧ r.data.toList = R ∧ Rw w' rb r (b || !F)) ∧ But w.heap.size rb w w' := by
  have hlt := hr.lt
  have HE := hid he
  have HOFF := hid hoff
  obtain ⟨w1, hw1⟩ : ∃ w1, w.alloc (.cells #[.string ⟨#[]⟩, .string ⟨#[]⟩, .slice none 0 0] 52) = w1 := ⟨_, rfl⟩
  have B1 := hid (show But w.heap.size rb w w1 by rw [← hw1]; exact But.of_below ((Below.refl _ _).alloc (Nat.le_refl _) _))
  have N1 := hid (show w1.heap[w.heap.size]? = some (.cells #[.string ⟨#[]⟩, .string ⟨#[]⟩, .slice none 0 0] 52 (0, 0)) by rw [← hw1]; exact heap_new1 w _)
  have z1 : w.heap.size < w1.heap.size := by rw [← hw1]; simp only [World.size_alloc]; omega
  have R1 := hid (show Rw w1 rb s b by rw [← hw1]; exact hr.keep (Below.heap_alloc _ _ _ hlt))
  have HW1 := hid hw1
  clear hr he hoff hw1
  go_enter Tryz.func27, Tryz.ntmps27
  go_wp2_with fail
  rw [HW1.out]
  refine (need_any rb s b w1 hs R1.out (HE.out.but (Nat.le_refl _) B1.out HOFF.out) HOFF.out).mono ?_
  rintro e w2 ⟨⟨c, t, r, rfl, hc, ht, hr, R2⟩, b2⟩
  obtain rfl : c = X := by
    have : (inI s.data.toList).c = X := congrArg Ins.c hI.out
    exact ba_eq (hc.trans (by rw [← this]; rfl))
  obtain rfl : t = Y := by
    have : (inI s.data.toList).t = Y := congrArg Ins.t hI.out
    exact ba_eq (ht.trans (by rw [← this]; rfl))
  have B2 := hid (B1.out.step b2)
  have N2 := hid ((b2.block _ z1 (by omega)).trans N1.out)
  have z2 : w.heap.size < w2.heap.size := Nat.lt_of_lt_of_le z1 b2.size
  obtain ⟨w3, hw3⟩ : ∃ w3, w2.alloc (.cells #[.string c, .string t, .slice none 0 0] 52) = w3 := ⟨_, rfl⟩
  have b3 : Below w2.heap.size w2 w3 := by rw [← hw3]; exact (Below.refl _ _).alloc (Nat.le_refl _) _
  have B3 := hid (B2.out.step (But.of_below b3))
  have N3 := hid ((b3.block _ z2).trans N2.out)
  have M3 := hid (show w3.heap[w2.heap.size]? = some (.cells #[.string c, .string t, .slice none 0 0] 52 (0, 0)) by rw [← hw3]; exact heap_new1 w2 _)
  have z3 : w2.heap.size < w3.heap.size := by rw [← hw3]; simp only [World.size_alloc]; omega
  have R3 := hid (R2.keep (b3.block rb (by omega)))
  have HR := hid hr
  have HW3 := hid hw3
  obtain ⟨f, hf⟩ : ∃ f, skB 58 (ndR s.data.toList) = f := ⟨_, rfl⟩
  have HSK := hid (skips_any 58 rb r (b || !ndF s.data.toList) w3 R3.out)
  rw [hr, hf] at HSK
  have HF := hid hf
  clear hc ht hr R2 b2 b3 hw3 hf
  go_wp2_with fail
  rw [HW3.out]
  refine HSK.out.mono ?_
  rintro e w4 ⟨⟨q, rfl, hq, R4⟩, b4⟩
  have B4 := hid (B3.out.step b4)
  have N4 := hid ((b4.block _ (by omega) (by omega)).trans N3.out)
  have M4 := hid ((b4.block _ z3 (by omega)).trans M3.out)
  have z4 : w2.heap.size < w4.heap.size := Nat.lt_of_lt_of_le z3 b4.size
  have R4' := hid R4
  have HQ := hid hq
  clear R4 hq b4
  rcases f with _ | _
  · have n0 := cell_blk N4.out (j := 0) rfl
    have n1 := cell_blk N4.out (j := 1) rfl
    have n2 := cell_blk N4.out (j := 2) rfl
    have nf := frz_blk N4.out
    have m0 := cell_blk M4.out (j := 0) rfl
    have m1 := cell_blk M4.out (j := 1) rfl
    have m2 := cell_blk M4.out (j := 2) rfl
    obtain rfl : N = [] := by
      have : (inI s.data.toList).ns = N := congrArg Ins.ns hI.out
      rw [← this]
      unfold inI
      rw [HF.out]
      rfl
    have HFF := hid (show (b || !ndF s.data.toList) = (b || !F) by
      rw [← hF.out]
      unfold inF
      rw [HF.out]
      simp)
    have HRR := hid (show q.data.toList = R by
      rw [← hR.out, HQ.out]
      unfold inR skR
      rw [HF.out]
      rfl)
    go_wp2_with fail
    refine bodyPost_ret (v := .agg #[.string c, .string t, .slice none 0 0]) (by simp [results, Tryz.results27, go_sem, n0, n1, n2]) rfl ⟨⟨none, 0, q, rfl, World.ownsRow_nil _ _ _ _, HRR.out, ?_⟩, ?_⟩
    · rw [← HFF.out]
      first | exact R4'.out.keep (set3_other (by omega) _ _ _) | exact R4'.out.keep (set2_other (by omega) _ _)
    · first | exact B4.out.trans (set3_but (Nat.le_refl _) _ _ _) | exact B4.out.trans (set2_but (Nat.le_refl _) _ _)
  · have hqs : q.size ≤ 1048576 := by
      rw [list_size HQ.out]
      refine Nat.le_trans (skR_len _ _) (Nat.le_trans (ndR_len _) ?_)
      rw [← list_size (s := s) rfl]
      exact hs
    have HN1 := hid (show nsL q.data.toList = N by
      have : (inI s.data.toList).ns = N := congrArg Ins.ns hI.out
      rw [← this, HQ.out]
      unfold inI
      rw [HF.out]
      rfl)
    have HN2 := hid (show nsR q.data.toList = R by
      rw [← hR.out, HQ.out]
      unfold inR
      rw [HF.out]
      rfl)
    obtain ⟨f2, hf2⟩ : ∃ f, nsF q.data.toList = f := ⟨_, rfl⟩
    have HN3 := hid hf2
    have HFF := hid (show (b || !ndF s.data.toList || !f2) = (b || !F) by
      rw [← hF.out, ← hf2, HQ.out]
      unfold inF
      rw [HF.out]
      cases b <;> cases ndF s.data.toList <;> rfl)
    clear hf2
    go_wp2_with fail
    refine (needs_any rb q _ w4 hqs R4'.out (HE.out.but (Nat.le_refl _) B4.out HOFF.out) HOFF.out N R f2 HN1 HN2 HN3).mono ?_
    rintro e w5 ⟨⟨g, cp, q2, rfl, ho, hq2, R5⟩, b5⟩
    have hg5 := ho.lt g rfl
    have B5 := hid (B4.out.step b5)
    have N5 := hid ((b5.block _ (by omega) (by omega)).trans N4.out)
    have M5 := hid ((b5.block _ z4 (by omega)).trans M4.out)
    have O5 := hid ho
    have HQ2 := hid hq2
    have R5' := hid R5
    have z5 := b5.size
    have mf := frz_blk M5.out
    have c0 := cell_blk M5.out (j := 2) rfl
    obtain ⟨w6, hw6⟩ : ∃ w6, w5.setCell ⟨w2.heap.size, 2, none⟩ (.slice (some ⟨g, 0, none⟩) N.length cp) = w6 := ⟨_, rfl⟩
    have h6 : ∀ k, k ≠ w2.heap.size → w6.heap[k]? = w5.heap[k]? := fun k hk => by rw [← hw6]; exact set1_other hk _
    have B6 := hid (show But w.heap.size rb w w6 by rw [← hw6]; exact B5.out.trans (set1_but (by omega) _))
    have N6 := hid ((h6 w.heap.size (by omega)).trans N5.out)
    have M6 := hid (show w6.heap[w2.heap.size]? = some (.cells #[.string c, .string t, .slice (some ⟨g, 0, none⟩) N.length cp] 52 (0, 0)) by rw [← hw6]; exact inBlk M5.out _)
    have O6 := hid (own_heap (w' := w6) (own_mono ho (show w.heap.size ≤ w4.heap.size by omega)) fun k hk => h6 k (by simp only [Value.ownBlock, Option.some.injEq] at hk; omega))
    have RW6 := hid (R5.keep (h6 rb (by omega)))
    have HW6 := hid hw6
    clear b5 ho hq2 R5 hw6
    have n0 := cell_blk N6.out (j := 0) rfl
    have n1 := cell_blk N6.out (j := 1) rfl
    have n2 := cell_blk N6.out (j := 2) rfl
    have nf := frz_blk N6.out
    have m0 := cell_blk M6.out (j := 0) rfl
    have m1 := cell_blk M6.out (j := 1) rfl
    have m2 := cell_blk M6.out (j := 2) rfl
    go_upto_region 4 with fail
    rw [HW6.out]
    go_wp2_with fail
    refine bodyPost_ret (v := .agg #[.string c, .string t, .slice (some ⟨g, 0, none⟩) N.length cp]) (by simp [results, Tryz.results27, go_sem, n0, n1, n2]) rfl ⟨⟨some ⟨g, 0, none⟩, cp, q2, rfl, ?_, HQ2.out, ?_⟩, ?_⟩
    · exact own_heap O6.out fun k hk => set3_other (by simp only [Value.ownBlock, Option.some.injEq] at hk; omega) _ _ _
    · rw [← HFF.out]
      exact RW6.out.keep (set3_other (by omega) _ _ _)
    · exact B6.out.trans (set3_but (Nat.le_refl _) _ _ _)

theorem insZero : (Tryz.prog.info? 52).map (fun i => (i.zero, i.size, i.bytes)) = some (some (.agg #[.string ⟨#[]⟩, .string ⟨#[]⟩, .slice none 0 0]), 3, 56) := by kernel_rfl

end Go.Proofs.YtjpdiahbnhemoaaGreatDoor
