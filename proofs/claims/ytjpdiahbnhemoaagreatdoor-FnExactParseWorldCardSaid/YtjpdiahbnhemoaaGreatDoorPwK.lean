/- The program's reader of worlds: a class. The program's reader of worlds: a world. ParseWorld in the program. -/
import Derived.Test.YtjpdiahbnhemoaaGreatDoorInJ
import Derived.Test.YtjpdiahbnhemoaaGreatDoorPwW
import Derived.Test.YtjpdiahbnhemoaaGreatDoorArgsC
import Derived.Test.YtjpdiahbnhemoaaGreatDoorMrkX
import Derived.Test.YtjpdiahbnhemoaaGreatDoorCh5
import Derived.Deep.Cut
import Derived.Deep.AppendLies
namespace Go.Proofs.YtjpdiahbnhemoaaGreatDoor
open Go.RowKit
set_option linter.unusedVariables false

theorem asc_of {m : ByteArray} (h : m.data.toList.all (fun c => decide (c.toNat < 128)) = true) : Asc m := fun j b hb => by
  have := List.all_eq_true.1 h b (List.mem_of_getElem? hb)
  simpa using this
theorem set1_two {w : World} {k : Nat} {a b : Value} {T : TypeId} (h : w.heap[k]? = some (.cells #[a, b] T (0, 0))) (z : Value) : (w.setCell ⟨k, 1, none⟩ z).heap[k]? = some (.cells #[a, z] T (0, 0)) := by
  simp [World.setCell, Array.getElem?_modify, h]
theorem set0_two {w : World} {k : Nat} {a b : Value} {T : TypeId} (h : w.heap[k]? = some (.cells #[a, b] T (0, 0))) (z : Value) : (w.setCell ⟨k, 0, none⟩ z).heap[k]? = some (.cells #[z, b] T (0, 0)) := by
  simp [World.setCell, Array.getElem?_modify, h]

set_option maxHeartbeats 4000000 in
set_option maxRecDepth 100000 in
theorem class_any (rb : Nat) (s : ByteArray) (b : Bool) (w : World) (hs : s.size ≤ 1048576) (hr : Rw w rb s b) (he : ErrAt w 2) (hoff : 2 ≠ rb) (X Y : ByteArray) (R : List UInt8) (F : Bool) (hP : Hid (clP s.data.toList = (X, Y))) (hR : Hid (clR s.data.toList = R)) (hF : Hid (clF s.data.toList = F)) :
    Calls Tryz.prog 25 #[.pointer (some ⟨rb, 0, none⟩)] w fun e w' => (∃ r, e = .returned (.agg #[.string X, .string Y]) ∧ r.data.toList = R ∧ Rw w' rb r (b || !F)) ∧ But w.heap.size rb w w' := by
  have hlt := hr.lt
  have HE := hid he
  have HOFF := hid hoff
  have A3 := hid (asc_of (m := ⟨#[60, 32, 59]⟩) (by decide))
  have A2 := hid (asc_of (m := ⟨#[32, 59]⟩) (by decide))
  obtain ⟨w1, hw1⟩ : ∃ w1, w.alloc (.cells #[.string ⟨#[]⟩, .string ⟨#[]⟩] 47) = w1 := ⟨_, rfl⟩
  have B1 := hid (show But w.heap.size rb w w1 by rw [← hw1]; exact But.of_below ((Below.refl _ _).alloc (Nat.le_refl _) _))
  have N1 := hid (show w1.heap[w.heap.size]? = some (.cells #[.string ⟨#[]⟩, .string ⟨#[]⟩] 47 (0, 0)) by rw [← hw1]; exact heap_new1 w _)
  have z1 : w.heap.size < w1.heap.size := by rw [← hw1]; simp only [World.size_alloc]; omega
  have R1 := hid (show Rw w1 rb s b by rw [← hw1]; exact hr.keep (Below.heap_alloc _ _ _ hlt))
  have HW1 := hid hw1
  clear hr he hoff hw1
  go_enter Tryz.func25, Tryz.ntmps25
  go_wp2_with fail
  rw [HW1.out]
  refine (upTo_any ⟨#[60, 32, 59]⟩ (by decide) (by decide) A3.out rb s b w1 hs R1.out).mono ?_
  rintro e w2 ⟨⟨p, r, rfl, hp, hr, R2⟩, b2⟩
  obtain rfl : p = X := by
    have : (clP s.data.toList).1 = X := congrArg Prod.fst hP.out
    exact ba_eq (hp.trans (by rw [← this]; rfl))
  have B2 := hid (B1.out.step b2)
  have N2 := hid ((b2.block _ z1 (by omega)).trans N1.out)
  have z2 : w.heap.size < w2.heap.size := Nat.lt_of_lt_of_le z1 b2.size
  obtain ⟨w3, hw3⟩ : ∃ w3, w2.alloc (.cells #[.string p, .string ⟨#[]⟩] 47) = w3 := ⟨_, rfl⟩
  have b3 : Below w2.heap.size w2 w3 := by rw [← hw3]; exact (Below.refl _ _).alloc (Nat.le_refl _) _
  have B3 := hid (B2.out.step (But.of_below b3))
  have N3 := hid ((b3.block _ z2).trans N2.out)
  have M3 := hid (show w3.heap[w2.heap.size]? = some (.cells #[.string p, .string ⟨#[]⟩] 47 (0, 0)) by rw [← hw3]; exact heap_new1 w2 _)
  have z3 : w2.heap.size < w3.heap.size := by rw [← hw3]; simp only [World.size_alloc]; omega
  have R3 := hid (R2.keep (b3.block rb (by omega)))
  have HRR := hid (show r.data.toList = clK s.data.toList from hr)
  have HW3 := hid hw3
  obtain ⟨f, hf⟩ : ∃ f, skB 60 (clK s.data.toList) = f := ⟨_, rfl⟩
  have HSK := hid (skips_any 60 rb r b w3 R3.out)
  rw [HRR.out, hf] at HSK
  have HFF := hid hf
  clear hp hr R2 b2 b3 hw3 hf
  go_wp2_with fail
  rw [HW3.out]
  refine HSK.out.mono ?_
  rintro e w4 ⟨⟨q, rfl, hq, R4⟩, b4⟩
  have B4 := hid (B3.out.step b4)
  have N4 := hid ((b4.block _ (by omega) (by omega)).trans N3.out)
  have M4 := hid ((b4.block _ z3 (by omega)).trans M3.out)
  have z4 : w2.heap.size < w4.heap.size := Nat.lt_of_lt_of_le z3 b4.size
  have R4' := hid R4
  have HQ := hid hq
  clear R4 hq b4
  rcases f with _ | _
  · have n0 := cell_blk N4.out (j := 0) rfl
    have n1 := cell_blk N4.out (j := 1) rfl
    have nf := frz_blk N4.out
    have m0 := cell_blk M4.out (j := 0) rfl
    have m1 := cell_blk M4.out (j := 1) rfl
    obtain rfl : Y = ⟨#[]⟩ := by
      have : (clP s.data.toList).2 = Y := congrArg Prod.snd hP.out
      rw [← this]
      refine ba_eq ?_
      unfold clP clS
      rw [HFF.out]
      rfl
    have HG := hid (show b = (b || !F) by
      rw [← hF.out]
      unfold clF
      rw [HFF.out]
      simp)
    have HRQ := hid (show q.data.toList = R by
      rw [← hR.out, HQ.out]
      unfold clR skR
      rw [HFF.out]
      rfl)
    go_wp2_with fail
    refine bodyPost_ret (v := .agg #[.string p, .string ⟨#[]⟩]) (by simp [results, Tryz.results25, go_sem, n0, n1]) rfl ⟨⟨q, rfl, HRQ.out, ?_⟩, ?_⟩
    · rw [← HG.out]
      exact R4'.out.keep (set2_other (by omega) _ _)
    · exact B4.out.trans (set2_but (Nat.le_refl _) _ _)
  · have hqs : q.size ≤ 1048576 := by
      rw [list_size HQ.out]
      refine Nat.le_trans (skR_len _ _) (Nat.le_trans (List.Sublist.length_le (List.dropWhile_sublist _)) ?_)
      rw [← list_size (s := s) rfl]
      exact hs
    go_wp2_with fail
    refine (upTo_any ⟨#[32, 59]⟩ (by decide) (by decide) A2.out rb q b w4 hqs R4'.out).mono ?_
    rintro e w5 ⟨⟨y, r5, rfl, hy, hr5, R5⟩, b5⟩
    have HS := hid (show clS s.data.toList = (skR 60 (clK s.data.toList)).takeWhile (noB mc2) by unfold clS; rw [HFF.out]; rfl)
    obtain rfl : y = Y := by
      have : (clP s.data.toList).2 = Y := congrArg Prod.snd hP.out
      refine ba_eq (hy.trans ?_)
      rw [← this, HQ.out]
      show _ = clS s.data.toList
      rw [HS.out]
      rfl
    have HR5 := hid (show r5.data.toList = R by
      rw [hr5, HQ.out, ← hR.out]
      unfold clR
      rw [HFF.out]
      rfl)
    have HYS := hid (show y.data.toList = clS s.data.toList by
      rw [hy, HQ.out, HS.out]
      rfl)
    have B5 := hid (B4.out.step b5)
    have N5 := hid ((b5.block _ (by omega) (by omega)).trans N4.out)
    have M5 := hid ((b5.block _ z4 (by omega)).trans M4.out)
    have R5' := hid R5
    have z5 : w2.heap.size < w5.heap.size := Nat.lt_of_lt_of_le z4 b5.size
    have mf := frz_blk M5.out
    have c1 := cell_blk M5.out (j := 1) rfl
    obtain ⟨w6, hw6⟩ : ∃ w6, w5.setCell ⟨w2.heap.size, 1, none⟩ (.string y) = w6 := ⟨_, rfl⟩
    have B6 := hid (show But w.heap.size rb w w6 by rw [← hw6]; exact B5.out.trans (set1_but (by omega) _))
    have N6 := hid (show w6.heap[w.heap.size]? = some (.cells #[.string ⟨#[]⟩, .string ⟨#[]⟩] 47 (0, 0)) by rw [← hw6]; exact (set1_other (by omega) _).trans N5.out)
    have M6 := hid (show w6.heap[w2.heap.size]? = some (.cells #[.string p, .string y] 47 (0, 0)) by rw [← hw6]; exact set1_two M5.out _)
    have R6 := hid (show Rw w6 rb r5 b by rw [← hw6]; exact R5.keep (set1_other (by omega) _))
    have z6 : w2.heap.size < w6.heap.size := by rw [← hw6]; simpa [World.setCell] using z5
    have HW6 := hid hw6
    obtain ⟨te, ae, ke, ge⟩ := HE.out.but (Nat.le_refl _) B6.out HOFF.out
    have HG := hid (show (b || !(!y.toList.isEmpty)) = (b || !F) by
      rw [← hF.out]
      unfold clF
      rw [HFF.out, if_pos rfl, ← HYS.out, ByteArray.toList_eq])
    clear hy hr5 R5 b5 hw6
    go_upto_region 4 with fail
    rw [HW6.out]
    clear c1 mf
    have c1 := cell_blk M6.out (j := 1) rfl
    have k6 := ke
    go_wp2_with fail
    refine (expect_any (!y.toList.isEmpty) te ae rb r5 b w6 R6.out).mono ?_
    rintro e w7 ⟨rfl, R7, b7⟩
    have R7' := hid R7
    have B7 := hid (B6.out.step b7)
    have N7 := hid ((b7.block _ (by omega) (by omega)).trans N6.out)
    have M7 := hid ((b7.block _ z6 (by omega)).trans M6.out)
    clear c1 k6 ke R7 b7
    have n0 := cell_blk N7.out (j := 0) rfl
    have n1 := cell_blk N7.out (j := 1) rfl
    have nf := frz_blk N7.out
    have m0 := cell_blk M7.out (j := 0) rfl
    have m1 := cell_blk M7.out (j := 1) rfl
    go_wp2_with fail
    refine bodyPost_ret (v := .agg #[.string p, .string y]) (by simp [results, Tryz.results25, go_sem, n0, n1]) rfl ⟨⟨r5, rfl, HR5.out, ?_⟩, ?_⟩
    · rw [← HG.out]
      exact R7'.out.keep (set2_other (by omega) _ _)
    · exact B7.out.trans (set2_but (Nat.le_refl _) _ _)

end Go.Proofs.YtjpdiahbnhemoaaGreatDoor

namespace Go.Proofs.YtjpdiahbnhemoaaGreatDoor
open Go.RowKit
set_option linter.unusedVariables false

theorem clsInfo : (Tryz.prog.info? 47).map (fun i => (i.zero, i.size, i.bytes)) = some (some (.agg #[.string ⟨#[]⟩, .string ⟨#[]⟩]), 2, 32) := by kernel_rfl
theorem insInfoJ : (Tryz.prog.info? 52).map (fun i => (i.zero, i.size, i.bytes)) = some (some (.agg #[.string ⟨#[]⟩, .string ⟨#[]⟩, .slice none 0 0]), 3, 56) := by kernel_rfl
theorem own_kept' {w w' : World} {base n k g c : Nat} {T : TypeId} {xs : List Value} (h : w.ownsRow base T k (.slice (some ⟨g, 0, none⟩) n c) n xs) (e : w'.heap[g]? = w.heap[g]?) : w'.ownsRow base T k (.slice (some ⟨g, 0, none⟩) n c) n xs :=
  own_heap h fun j hj => by simp only [Value.ownBlock, Option.some.injEq] at hj; rw [← hj]; exact e

/-- The errors of reading and checking a world. -/
structure PErrs (w : World) : Prop where
  chk : WErrs w
  text : ErrAt w 0
theorem PErrs.rd {w : World} (h : PErrs w) : TErrs w := ⟨h.chk.name, h.chk.type, h.text⟩
theorem PErrs.below {w w' : World} (h : PErrs w) (hb : Below w.heap.size w w') : PErrs w' := ⟨h.chk.below hb, h.text.below hb⟩
/-- The reader lies at none of the program's variables. -/
def OffW (rb : Nat) : Prop := Off rb ∧ 2 ≠ rb
structure SErrs (w : World) : Prop where
  rd : TErrs w
  sup : ErrAt w 2
theorem SErrs.but {w w' : World} {rb B : Nat} (h : SErrs w) (hB : w.heap.size ≤ B) (hb : But B rb w w') (hne : OffW rb) : SErrs w' := ⟨h.rd.but hB hb hne.1, h.sup.but hB hb hne.2⟩
theorem PErrs.srd {w : World} (h : PErrs w) : SErrs w := ⟨h.rd, h.chk.supers⟩

/-- A round of the loop that reads classes: T is where the world lies. -/
def CsR (w : World) (rb T lo : Nat) (b : Bool) (m : Nat) (L : List (ByteArray × ByteArray)) (R : List UInt8) (F : Bool) (gk : Nat) (wr : World) : Prop :=
  ∃ (zs : List (ByteArray × ByteArray)) (r : ByteArray) (b1 : Bool) (g cap : Nat), wr.heap[T]? = some (.cells #[.slice (some ⟨g, 0, none⟩) zs.length cap, .slice none 0 0] 25 (0, 0)) ∧
    wr.ownsRow lo 47 2 (.slice (some ⟨g, 0, none⟩) zs.length cap) zs.length (cells2 zs) ∧ g ≠ T ∧ wr.heap[w.heap.size]? = some (.cells #[.slice none 0 0, .slice none 0 0] 25 (0, 0)) ∧
    zs.length + r.size ≤ m + 1 ∧ r.size ≤ gk ∧ zs ++ (tlC gk r.data.toList).1 = L ∧ (tlC gk r.data.toList).2.1 = R ∧ (b1 || !(tlC gk r.data.toList).2.2) = (b || !F) ∧ Rw wr rb r b1 ∧ But w.heap.size rb w wr ∧ T < wr.heap.size
/-- A round of the loop that reads instances. -/
def IsR (w : World) (rb T lo g cap n : Nat) (zs : List (ByteArray × ByteArray)) (b : Bool) (m : Nat) (L : List Ins) (R : List UInt8) (F : Bool) (gk : Nat) (wr : World) : Prop :=
  ∃ (ps : List InP) (r : ByteArray) (b1 : Bool) (B : Option Addr) (c : Nat), wr.heap[T]? = some (.cells #[.slice (some ⟨g, 0, none⟩) n cap, .slice B ps.length c] 25 (0, 0)) ∧
    wr.ownsRow (w.heap.size + 1) 47 2 (.slice (some ⟨g, 0, none⟩) n cap) n (cells2 zs) ∧ wr.ownsRow lo 52 3 (.slice B ps.length c) ps.length (cells3 ps) ∧
    (∀ a, B = some a → InR wr lo a.block ps) ∧ (B = none → ps = []) ∧ wr.heap[w.heap.size]? = some (.cells #[.slice none 0 0, .slice none 0 0] 25 (0, 0)) ∧
    ps.length + r.size ≤ m ∧ r.size ≤ gk ∧ ps.map Prod.fst ++ (tlI gk r.data.toList).1 = L ∧ (tlI gk r.data.toList).2.1 = R ∧ (b1 || !(tlI gk r.data.toList).2.2) = (b || !F) ∧ Rw wr rb r b1 ∧ But w.heap.size rb w wr ∧ lo ≤ wr.heap.size

set_option maxHeartbeats 8000000 in
set_option maxRecDepth 100000 in
theorem world_any (rb : Nat) (s : ByteArray) (b : Bool) (w : World) (hs : s.size ≤ 1048576) (hr : Rw w rb s b) (he : SErrs w) (hoff : OffW rb) (Z : List (ByteArray × ByteArray)) (L : List Ins) (R : List UInt8) (F : Bool) (hZ : Hid (csL s.data.toList = Z)) (hL : Hid (isL s.data.toList = L)) (hR : Hid (isR s.data.toList = R)) (hF : Hid (isF s.data.toList = F)) :
    Calls Tryz.prog 11 #[.pointer (some ⟨rb, 0, none⟩)] w fun e w' => (∃ g c B d lo r, e = .returned (.agg #[.slice (some ⟨g, 0, none⟩) Z.length c, .slice B L.length d]) ∧ w'.ownsRow w.heap.size 47 2 (.slice (some ⟨g, 0, none⟩) Z.length c) Z.length (cells2 Z) ∧ g < lo ∧ lo ≤ w'.heap.size ∧ OwnW w' lo B L.length L ∧ r.data.toList = R ∧ Rw w' rb r (b || !F)) ∧ But w.heap.size rb w w' := by
  have hlt := hr.lt
  have HE := hid he
  have HOFF := hid hoff
  obtain ⟨⟨X, Y⟩, hP⟩ : ∃ p, clP s.data.toList = p := ⟨_, rfl⟩
  obtain ⟨R0, hR0⟩ : ∃ p, clR s.data.toList = p := ⟨_, rfl⟩
  obtain ⟨F0, hF0⟩ : ∃ p, clF s.data.toList = p := ⟨_, rfl⟩
  have HP := hid hP
  have HR0 := hid hR0
  have HF0 := hid hF0
  obtain ⟨w1, hw1⟩ : ∃ w1, w.alloc (.cells #[.slice none 0 0, .slice none 0 0] 25) = w1 := ⟨_, rfl⟩
  have B1 := hid (show But w.heap.size rb w w1 by rw [← hw1]; exact But.of_below ((Below.refl _ _).alloc (Nat.le_refl _) _))
  have N1 := hid (show w1.heap[w.heap.size]? = some (.cells #[.slice none 0 0, .slice none 0 0] 25 (0, 0)) by rw [← hw1]; exact heap_new1 w _)
  have z1 : w.heap.size < w1.heap.size := by rw [← hw1]; simp only [World.size_alloc]; omega
  have R1 := hid (show Rw w1 rb s b by rw [← hw1]; exact hr.keep (Below.heap_alloc _ _ _ hlt))
  have HW1 := hid hw1
  clear hr he hoff hw1 hP hR0 hF0
  go_enter Tryz.func11, Tryz.ntmps11
  go_wp2_with fail
  rw [HW1.out]
  refine (class_any rb s b w1 hs R1.out (HE.out.but (Nat.le_refl _) B1.out HOFF.out).sup HOFF.out.2 X Y R0 F0 HP HR0 HF0).mono ?_
  rintro e w2 ⟨⟨r, rfl, hr, R2⟩, b2⟩
  obtain ⟨T, hT⟩ : ∃ T, w2.heap.size + 1 = T := ⟨_, rfl⟩
  obtain ⟨w3, hw3⟩ : ∃ w3, (w2.alloc (.cells #[.string X, .string Y] 47)).alloc (.cells #[.slice (some ⟨w2.heap.size, 0, none⟩) 1 1, .slice none 0 0] 25) = w3 := ⟨_, rfl⟩
  have z2 : w1.heap.size ≤ w2.heap.size := b2.size
  have b3 : Below w2.heap.size w2 w3 := by rw [← hw3]; exact ((Below.refl _ _).alloc (Nat.le_refl _) _).alloc (by simp only [World.size_alloc]; omega) _
  have z3 : w3.heap.size = w2.heap.size + 2 := by rw [← hw3]; simp only [World.size_alloc]
  have B3 := hid ((B1.out.step b2).step (But.of_below b3))
  have N3 := hid ((b3.block w.heap.size (by omega)).trans ((b2.block w.heap.size z1 (by omega)).trans N1.out))
  have T3 := hid (show w3.heap[T]? = some (.cells #[.slice (some ⟨w2.heap.size, 0, none⟩) 1 1, .slice none 0 0] 25 (0, 0)) by
    rw [← hw3, ← hT]
    have := heap_new1 (w2.alloc (.cells #[.string X, .string Y] 47)) (.cells #[.slice (some ⟨w2.heap.size, 0, none⟩) 1 1, .slice none 0 0] 25)
    rw [World.size_alloc] at this
    exact this)
  have E3 := hid (show w3.heap[w2.heap.size]? = some (.cells #[.string X, .string Y] 47 (0, 0)) by
    rw [← hw3, Below.heap_alloc _ _ _ (by simp only [World.size_alloc]; omega)]
    exact heap_new1 w2 _)
  have R3 := hid (R2.keep (b3.block rb (by omega)))
  have HRR := hid hr
  have HW3 := hid hw3
  have HT := hid hT
  clear hr R2 b2 b3 hw3
  go_wp2_with fail
  rw [HW3.out]
  clear hT
  have hT := HT.out
  have HZ := hid (show csL s.data.toList = Z from hZ.out)
  go_loopg [] r.size (fun gk wr => CsR w rb T (w.heap.size + 1) b s.size Z (csR s.data.toList) (csF s.data.toList) gk wr)
  case atStart =>
    have hsz : r.size ≤ s.size := by
      have := clP_tot s.data.toList
      rw [HR0.out] at this
      rw [list_size HRR.out, list_size (s := s) rfl]
      omega
    refine ⟨[(X, Y)], r, b || !F0, w2.heap.size, 1, T3.out, ⟨rfl, .inr ⟨w2.heap.size, 1, #[.string X, .string Y], rfl, by omega, E3.out, Nat.le_refl _, by unfold maxLen; omega, rfl, rfl⟩⟩, by omega, N3.out, by simp only [List.length_cons, List.length_nil]; omega, Nat.le_refl _, ?_, ?_, ?_, R3.out, B3.out, by omega⟩
    · rw [← HZ.out, list_size HRR.out, HRR.out, ← HR0.out]
      unfold csL
      rw [HP.out]
      rfl
    · rw [list_size HRR.out, HRR.out, ← HR0.out]
      rfl
    · rw [list_size HRR.out, HRR.out, ← HR0.out]
      unfold csF
      rw [HF0.out]
      cases b <;> cases F0 <;> rfl
  case round =>
    obtain ⟨zs, q, b1, g, cap, hTT, hown, hgT, hN, hzl, hqn, hl1, hl2, hl3, hrw, hbut, hTl⟩ := hrel
    have zr := hbut.size
    obtain ⟨n, hn⟩ : ∃ n, zs.length = n := ⟨_, rfl⟩
    obtain ⟨xs, hxs⟩ : ∃ xs, cells2 zs = xs := ⟨_, rfl⟩
    rw [hn] at hTT hzl
    rw [hn, hxs] at hown
    have hgb : w.heap.size + 1 ≤ g ∧ g < wr.heap.size := hown.lt g rfl
    have hT0 : T ≠ rb := by omega
    have HN := hid hn
    have HXS := hid hxs
    have HOWN := hid hown
    have HTT := hid hTT
    have HNN := hid hN
    have HBUT := hid hbut
    have HL1 := hid hl1
    have HL2 := hid hl2
    have HL3 := hid hl3
    have HRW := hid hrw
    obtain ⟨f, hf⟩ : ∃ f, skB 32 q.data.toList = f := ⟨_, rfl⟩
    have HSK := hid (skips_any 32 rb q b1 wr hrw)
    rw [hf] at HSK
    have HFF := hid hf
    clear hown hbut hn hxs hl1 hl2 hl3 hrw hf hTT hN
    go_wp2_with fail
    refine HSK.out.mono ?_
    rintro e w5 ⟨⟨q2, rfl, hq2, R5⟩, b5⟩
    have z5 := b5.size
    have B5 := hid (HBUT.out.trans (b5.mono zr))
    have O5 := hid (b5.own HOWN.out (by omega))
    have T5 := hid ((b5.block T hTl hT0).trans HTT.out)
    have N5 := hid ((b5.block w.heap.size (by omega) (by omega)).trans HNN.out)
    have R5' := hid R5
    have HQ2 := hid hq2
    clear b5 R5 hq2
    rcases f with _ | _
    · have hn := tlC_no (n := gk) HFF.out
      have h1 := HL1.out
      have h2 := HL2.out
      have h3 := HL3.out
      rw [hn] at h1 h2 h3
      simp only [List.append_nil] at h1 h2
      subst h1
      have HZL := hid (show zs.length = n from HN.out)
      have hz5 : w.heap.size < w5.heap.size := by omega
      have hT5 : T < w5.heap.size := by omega
      have hg5 : g < w5.heap.size := by omega
      obtain ⟨lo, hlo⟩ : ∃ lo, w5.heap.size = lo := ⟨_, rfl⟩
      have HLO := hid hlo
      have HZ0 := hid (show isL s.data.toList = L from hL.out)
      have hq2m : q2.size ≤ s.size := by
        have h := csL_len s.data.toList
        rw [← h2] at h
        rw [list_size HQ2.out, list_size (s := s) rfl]
        have h3 : skR 32 q.data.toList = q.data.toList := skR_eq HFF.out
        have h4 : 1 ≤ (csL s.data.toList).length := by unfold csL; simp
        rw [h3]
        omega
      have HQR := hid (show q2.data.toList = csR s.data.toList by rw [HQ2.out, skR_eq HFF.out, h2])
      have HB1 := hid (show b1 = (b || !csF s.data.toList) by rw [← h3]; simp)
      go_wp2_with fail
      go_loopg [] q2.size (fun gk wr => IsR w rb T lo g cap n zs b s.size L R F gk wr)
      case atStart =>
        refine ⟨[], q2, b1, none, 0, T5.out, ?_, World.ownsRow_nil _ _ _ _, fun a h => (by cases h), fun _ => rfl, N5.out, by simp only [List.length_nil]; omega, Nat.le_refl _, ?_, ?_, ?_, R5'.out, B5.out, by omega⟩
        · rw [HXS.out]
          exact O5.out
        · rw [← HZ0.out, list_size HQR.out, HQR.out]
          rfl
        · rw [← hR.out, list_size HQR.out, HQR.out]
          rfl
        · rw [← hF.out, HB1.out, list_size HQR.out, HQR.out]
          unfold isF
          cases b <;> cases csF s.data.toList <;> rfl
      case round =>
        obtain ⟨ps, v, b3, B, c, hTT, hown, hrow, hinr, hnil, hN, hzl, hqn, hl1, hl2, hl3, hrw, hbut, hlo3⟩ := hrel
        have zr := hbut.size
        have hT0 : T ≠ rb := by omega
        obtain ⟨k, hk⟩ : ∃ k, ps.length = k := ⟨_, rfl⟩
        obtain ⟨ys, hys⟩ : ∃ ys, cells3 ps = ys := ⟨_, rfl⟩
        rw [hk] at hTT hzl
        rw [hk, hys] at hrow
        have hBlt : ∀ j, (Value.slice B k c).ownBlock = some j → lo ≤ j ∧ j < wr.heap.size := fun j hj => hrow.lt j hj
        have HK := hid hk
        have HYS := hid hys
        have HOWN := hid hown
        have HROW := hid hrow
        have HINR := hid hinr
        have HNIL := hid hnil
        have HTT := hid hTT
        have HNN := hid hN
        have HBUT := hid hbut
        have HL1 := hid hl1
        have HL2 := hid hl2
        have HL3 := hid hl3
        have HBLT := hid hBlt
        obtain ⟨f, hf⟩ : ∃ f, skB 59 v.data.toList = f := ⟨_, rfl⟩
        have HSK := hid (skips_any 59 rb v b3 wr hrw)
        rw [hf] at HSK
        have HG := hid hf
        clear hown hrow hinr hnil hbut hk hys hl1 hl2 hl3 hrw hf hTT hN hBlt
        go_wp2_with fail
        refine HSK.out.mono ?_
        rintro e w7 ⟨⟨v2, rfl, hv2, R7⟩, b7⟩
        have z7 := b7.size
        have B7 := hid (HBUT.out.trans (b7.mono zr))
        have O7 := hid (b7.own HOWN.out (by omega))
        have I7 := hid (b7.own HROW.out (by omega))
        have T7 := hid ((b7.block T (by omega) hT0).trans HTT.out)
        have N7 := hid ((b7.block w.heap.size (by omega) (by omega)).trans HNN.out)
        have J7 := hid (fun a (ha : B = some a) => (HINR.out a ha).keep (w' := w7) z7 fun j h1 h2 _ => b7.block j h2 (by omega))
        have R7' := hid R7
        have HV2 := hid hv2
        clear b7 R7 hv2
        rcases f with _ | _
        · have hn := tlI_no (n := gk) HG.out
          have h1 := HL1.out
          have h2 := HL2.out
          have h3 := HL3.out
          rw [hn] at h1 h2 h3
          simp only [List.append_nil] at h1 h2
          have n0 := cell_blk N7.out (j := 0) rfl
          have n1 := cell_blk N7.out (j := 1) rfl
          have nf := frz_blk N7.out
          have t0 := cell_blk T7.out (j := 0) rfl
          have t1 := cell_blk T7.out (j := 1) rfl
          go_wp2_with fail
          have hkL : k = L.length := by rw [← h1, List.length_map]; exact HK.out.symm
          have hset : ∀ j, j ≠ w.heap.size → ((w7.setCell ⟨w.heap.size, 0, none⟩ (.slice (some ⟨g, 0, none⟩) n cap)).setCell ⟨w.heap.size, 1, none⟩ (.slice B k c)).heap[j]? = w7.heap[j]? := fun j hj => set2_other hj _ _
          refine bodyPost_ret (v := .agg #[.slice (some ⟨g, 0, none⟩) n cap, .slice B k c]) (by simp [results, Tryz.results11, go_sem, n0, n1]) rfl ⟨⟨g, cap, B, c, lo, v2, by rw [← HZL.out, hkL], ?_, by omega, by simp only [World.setCell, Array.size_modify]; omega, ?_, ?_, ?_⟩, ?_⟩
          · have h := own_kept' (own_mono O7.out (Nat.le_succ _)) (hset g (by omega))
            rw [HZL.out]
            exact h
          · rw [← hkL]
            rcases B with _ | a
            · have hps := HNIL.out rfl
              rw [hps] at h1
              exact .inl ⟨rfl, by rw [← HK.out, hps]; rfl, h1.symm⟩
            · obtain ⟨gB, rfl⟩ : ∃ gB, a = ⟨gB, 0, none⟩ := by
                rcases I7.out.2 with ⟨hA, _⟩ | ⟨gB, cB, cur, hA, _⟩
                · cases hA
                · injection hA with hA1 _ _
                  injection hA1 with hA1
                  exact ⟨gB, hA1⟩
              have hgB := I7.out.lt gB rfl
              have hI := I7.out
              rw [← HYS.out] at hI
              refine .inr ⟨gB, ps, rfl, hgB.1, h1, (RowI.of hI).keep (hset gB (by omega)), (J7.out _ rfl).keep (by simp only [World.setCell, Array.size_modify]; omega) fun j hj1 _ _ => hset j (by omega)⟩
          · rw [HV2.out, skR_eq HG.out]
            exact h2
          · have h3' : b3 = (b || !F) := by rw [← h3]; simp
            rw [← h3']
            exact R7'.out.keep (hset rb (by omega))
          · exact B7.out.trans (set2_but (Nat.le_refl _) _ _)
        · have hv2s : v2.size < v.size := by
            rw [list_size HV2.out, list_size (s := v) rfl]
            exact skR_lt HG.out
          obtain ⟨gk', rfl⟩ : ∃ k, gk = k + 1 := ⟨gk - 1, by omega⟩
          obtain ⟨⟨X3, Y3, N3'⟩, hI3⟩ : ∃ p, inI v2.data.toList = p := ⟨_, rfl⟩
          obtain ⟨Rq, hR3⟩ : ∃ p, inR v2.data.toList = p := ⟨_, rfl⟩
          obtain ⟨Fq, hF3⟩ : ∃ p, inF v2.data.toList = p := ⟨_, rfl⟩
          have HI3 := hid hI3
          have HR3 := hid hR3
          have HF3 := hid hF3
          have HCA := hid (instance_any rb v2 b3 w7.drew (by omega) R7'.out ((HE.out.but (Nat.le_refl _) B7.out HOFF.out).rd.below (Below.refl _ _).drew) HOFF.out.1 X3 Y3 N3' Rq Fq HI3 HR3 HF3)
          obtain ⟨i1, hi10, hz10, hz11, hz12⟩ := info_parts insInfoJ
          have HK4 := hid (fun (w4 : World) (hb4 : But w7.drew.heap.size rb w7.drew w4) => show w7.heap.size ≤ w4.heap.size ∧ w4.cell? ⟨T, 1, none⟩ = some (.slice B k c) ∧
              (∀ o, (w4.alloc o).cell? ⟨T, 1, none⟩ = some (.slice B k c)) ∧ w4.ownsRow lo 52 3 (.slice B k c) k ys ∧
              w4.heap[T]? = some (.cells #[.slice (some ⟨g, 0, none⟩) n cap, .slice B k c] 25 (0, 0)) from by
            have z4 : w7.heap.size ≤ w4.heap.size := hb4.size
            have e4 : w4.heap[T]? = w7.heap[T]? := hb4.block T (show T < w7.heap.size by omega) hT0
            have e4' := e4.trans T7.out
            refine ⟨z4, cell_blk e4' rfl, fun o => (World.cell?_alloc_lt _ _ _ (by show T < _; omega)).trans (cell_blk e4' rfl), own_heap I7.out fun j hj => ?_, e4'⟩
            have := HBLT.out j hj
            exact hb4.block j (show j < w7.heap.size by omega) (by omega))
          have HG5 := hid (fun (w4 w6 : World) (o : Obj) (hg : (w4.alloc o).grownBy w6 (Value.slice B k c).ownBlock) (z4 : w7.heap.size ≤ w4.heap.size) (e4 : w4.heap[T]? = some (.cells #[.slice (some ⟨g, 0, none⟩) n cap, .slice B k c] 25 (0, 0))) =>
            show w6.heap[T]? = some (.cells #[.slice (some ⟨g, 0, none⟩) n cap, .slice B k c] 25 (0, 0)) from by
              rw [hg.block _ (by simp only [World.size_alloc]; omega) (fun h => by have := HBLT.out T h.symm; omega), Below.heap_alloc _ _ _ (by omega)]
              exact e4)
          have t1 := cell_blk T7.out (j := 1) rfl
          clear hI3 hR3 hF3
          go_wp2_with fail
          go_region_law
            (first
              | (refine step_append_lies _ (by rfl) _ _ _ (by rfl) lo 52 i1 _ 3 56 Tryz.underlying23 hi10 hz10 hz11 hz12 rfl (by omega) (.slice B k c) k ys (by rfl) (hown4.alloc _)
                   ⟨w4.heap.size, 0, none⟩ 1 1 [.string X3, .string Y3, .slice A4 N3'.length c4] (by rfl) (by rfl) (World.news_of_block (cs := #[.string X3, .string Y3, .slice A4 N3'.length c4]) (t := 52) (fr := (0, 0)) (heap_alloc_new w4 _)) (by simp [Value.oneCell'])
                   (by omega) (by simp only [maxLen]; omega) (by omega) (by simp only [World.size_alloc]; omega) (w4.heap.size + 1) (by simp) ?_
                 intro gg cap6 w6 hown6 hg6 hat6 hlt6
                 have e6 := HG5.out w4 w6 _ hg6 z4 E4.out
                 have c6 := cell_blk e6 (j := 1) rfl
                 have f6 := frz_blk e6
                 have E6 := hid e6
                 have HO6 := hid hown6
                 clear e6 hown6)
              | (go_simp
                 go_at_call 27
                 refine HCA.out.mono ?_
                 intro e w4 hend
                 obtain ⟨⟨A4, c4, r4, rfl, ho4, hr4, R4⟩, hb4⟩ := hend
                 obtain ⟨z4, q4, q5, hown4, e4⟩ := HK4.out w4 hb4
                 have E4 := hid e4
                 have R4' := hid R4
                 have HR4 := hid hr4
                 have HO4 := hid ho4
                 clear e4 R4 hr4 ho4))
          all_goals
            go_wp2_with fail
            go_roundg gk'
            case measure => omega
            case rel =>
              have zb6 := hg6.size
              simp only [World.size_alloc] at zb6
              have hggT : gg ≠ T := by
                rcases hat6 with h | h
                · have := HBLT.out gg h; omega
                · omega
              have hk5 : ∀ j, j < w4.heap.size → (Value.slice B k c).ownBlock ≠ some j → j ≠ T → (w6.setCell ⟨T, 1, none⟩ (.slice (some ⟨gg, 0, none⟩) (k + 1) cap6)).heap[j]? = w4.heap[j]? := fun j h1 h2 h3 => by
                rw [Below.heap_setCell _ _ _ _ h3, hg6.block _ (by simp only [World.size_alloc]; omega) (fun h => h2 h.symm), Below.heap_alloc _ _ _ h1]
              have hfar : ∀ j, j < lo ∨ wr.heap.size ≤ j → (Value.slice B k c).ownBlock ≠ some j := fun j hj h => by have := HBLT.out j h; omega
              have hb4' : But w7.heap.size rb w7 w4 := ⟨hb4.os, hb4.tape, hb4.output, hb4.size, hb4.block⟩
              have B4 : But w.heap.size rb w w4 := B7.out.trans (hb4'.mono B7.out.size)
              have hlen := in_len v2.data.toList
              rw [HI3.out, HR3.out] at hlen
              have hr4s : r4.size ≤ v2.size := by
                rw [list_size HR4.out, list_size (s := v2) rfl]
                omega
              have hy := tlI_yes (n := gk') HG.out
              have h1 := HL1.out
              have h2 := HL2.out
              have h3 := HL3.out
              rw [hy, ← HV2.out, HI3.out, HR3.out, HF3.out, ← HR4.out] at h1 h2 h3
              have hW : ∀ j, j < w7.heap.size → (Value.slice B k c).ownBlock ≠ some j → j ≠ T → j ≠ rb → (w6.setCell ⟨T, 1, none⟩ (.slice (some ⟨gg, 0, none⟩) (k + 1) cap6)).heap[j]? = w7.heap[j]? := fun j h1 h2 h3 h4 =>
                (hk5 j (by omega) h2 h3).trans (hb4'.block j h1 h4)
              have hWz : w7.heap.size ≤ (w6.setCell ⟨T, 1, none⟩ (.slice (some ⟨gg, 0, none⟩) (k + 1) cap6)).heap.size := by simp only [World.setCell, Array.size_modify]; omega
              have hnew : OwnN (w6.setCell ⟨T, 1, none⟩ (.slice (some ⟨gg, 0, none⟩) (k + 1) cap6)) w7.heap.size A4 N3'.length N3' := by
                refine OwnN.of (own_heap (show w4.ownsRow w7.heap.size 49 2 (.slice A4 N3'.length c4) N3'.length (cells2 N3') from HO4.out) fun j hj => ?_)
                have := HO4.out.lt j hj
                have h7 : w7.heap.size ≤ j := this.1
                exact hk5 j this.2 (hfar j (.inr (by omega))) (by omega)
              have hold : InR (w6.setCell ⟨T, 1, none⟩ (.slice (some ⟨gg, 0, none⟩) (k + 1) cap6)) lo gg ps ∧ ∀ (j : Nat) q a, ps[j]? = some q → q.2.1 = some a → a.block < w7.heap.size := by
                rcases B with _ | a
                · rw [HNIL.out rfl]
                  exact ⟨⟨fun j p h => by simp at h, fun j k p q a b _ h => by simp at h⟩, fun j q a h => by simp at h⟩
                · have hJ := J7.out a rfl
                  refine ⟨(hJ.keep hWz fun j hj1 hj2 hj3 => hW j hj2 (fun h => hj3 (by simpa [Value.ownBlock] using h.symm)) (by omega) (by omega)).move2 (b := w7.heap.size) (fun j q b hj hb => hJ.lt j q b hj hb) ?_, fun j q b hj hb => hJ.lt j q b hj hb⟩
                  rcases hat6 with h | h
                  · exact .inl (by simpa [Value.ownBlock] using h.symm)
                  · exact .inr (by omega)
              refine ⟨ps ++ [(⟨X3, Y3, N3'⟩, (A4, c4))], r4, b3 || !Fq, some ⟨gg, 0, none⟩, cap6, ?_, ?_, ?_, ?_, fun h => (by cases h), ?_, by rw [List.length_append, HK.out]; simp only [List.length_cons, List.length_nil]; omega, by omega, ?_, h2, ?_, ?_, ?_, by simp only [World.setCell, Array.size_modify]; omega⟩
              · rw [List.length_append, HK.out]
                exact set1_two E6.out _
              · exact own_kept' O7.out (hW g (by omega) (hfar g (.inl (by omega))) hgT (by omega))
              · rw [List.length_append, HK.out, cells3_snoc, HYS.out]
                exact own_kept' HO6.out (Below.heap_setCell _ _ _ _ hggT)
              · intro a ha
                injection ha with ha
                subst ha
                refine hold.1.snoc hnew (by omega) (fun a ha => ?_) hold.2
                have h7 := (OwnN.of (show w4.ownsRow w7.heap.size 49 2 (.slice A4 N3'.length c4) N3'.length (cells2 N3') from HO4.out)).at a ha
                show a.block ≠ gg
                rcases hat6 with h | h
                · have := HBLT.out gg h; omega
                · omega
              · exact (hW w.heap.size (by omega) (hfar _ (.inl (by omega))) (by omega) (by omega)).trans N7.out
              · rw [← h1]
                simp
              · rw [← h3]
                cases b3 <;> cases Fq <;> rfl
              · exact R4'.out.keep (hk5 rb (by have := R4'.out.lt; omega) (hfar _ (.inl (by omega))) (by omega))
              · refine But.trans ⟨hg6.os.trans B4.os, hg6.tape.trans B4.tape, hg6.output.trans B4.output, by have := B4.size; omega, fun j hj hn => ?_⟩ (set1_but (by omega) _)
                rw [hg6.block j (by simp only [World.size_alloc]; omega) (fun h => hfar j (.inl (by omega)) h.symm), Below.heap_alloc _ _ _ (by omega)]
                exact B4.block j hj hn
    · have hq2s : q2.size < q.size := by
        rw [list_size HQ2.out, list_size (s := q) rfl]
        exact skR_lt HFF.out
      obtain ⟨gk', rfl⟩ : ∃ k, gk = k + 1 := ⟨gk - 1, by omega⟩
      obtain ⟨⟨X2, Y2⟩, hP2⟩ : ∃ p, clP q2.data.toList = p := ⟨_, rfl⟩
      obtain ⟨Rq, hR2⟩ : ∃ p, clR q2.data.toList = p := ⟨_, rfl⟩
      obtain ⟨Fq, hF2⟩ : ∃ p, clF q2.data.toList = p := ⟨_, rfl⟩
      have HP2 := hid hP2
      have HR2 := hid hR2
      have HF2 := hid hF2
      have HCA := hid (class_any rb q2 b1 w5.drew (by omega) R5'.out (HE.out.but (Nat.le_refl _) B5.out HOFF.out).sup HOFF.out.2 X2 Y2 Rq Fq HP2 HR2 HF2)
      obtain ⟨i0, hi0, hz0, hz1, hz2⟩ := info_parts clsInfo
      have HK4 := hid (fun (w4 : World) (hb4 : But w5.drew.heap.size rb w5.drew w4) => show w5.heap.size ≤ w4.heap.size ∧ w4.cell? ⟨T, 0, none⟩ = some (.slice (some ⟨g, 0, none⟩) n cap) ∧
          (∀ o, (w4.alloc o).cell? ⟨T, 0, none⟩ = some (.slice (some ⟨g, 0, none⟩) n cap)) ∧ w4.ownsRow (w.heap.size + 1) 47 2 (.slice (some ⟨g, 0, none⟩) n cap) n xs ∧
          w4.heap[T]? = some (.cells #[.slice (some ⟨g, 0, none⟩) n cap, .slice none 0 0] 25 (0, 0)) from by
        have z4 : w5.heap.size ≤ w4.heap.size := hb4.size
        have e4 : w4.heap[T]? = w5.heap[T]? := hb4.block T (show T < w5.heap.size by omega) hT0
        have eg : w4.heap[g]? = w5.heap[g]? := hb4.block g (show g < w5.heap.size by omega) (by omega)
        have e4' := e4.trans T5.out
        exact ⟨z4, cell_blk e4' rfl, fun o => (World.cell?_alloc_lt _ _ _ (by show T < _; omega)).trans (cell_blk e4' rfl), own_kept' O5.out eg, e4'⟩)
      have HG5 := hid (fun (w4 w6 : World) (o : Obj) (hg : (w4.alloc o).grownBy w6 (Value.slice (some ⟨g, 0, none⟩) n cap).ownBlock) (z4 : w5.heap.size ≤ w4.heap.size) (e4 : w4.heap[T]? = some (.cells #[.slice (some ⟨g, 0, none⟩) n cap, .slice none 0 0] 25 (0, 0))) =>
        show w6.heap[T]? = some (.cells #[.slice (some ⟨g, 0, none⟩) n cap, .slice none 0 0] 25 (0, 0)) from by
          rw [hg.block _ (by simp only [World.size_alloc]; omega) (fun h => hgT (by simpa [Value.ownBlock] using h.symm)), Below.heap_alloc _ _ _ (by omega)]
          exact e4)
      have t0 := cell_blk T5.out (j := 0) rfl
      clear hP2 hR2 hF2
      go_wp2_with fail
      go_region_law
        (first
          | (refine step_append_lies _ (by rfl) _ _ _ (by rfl) (w.heap.size + 1) 47 i0 _ 2 32 Tryz.underlying22 hi0 hz0 hz1 hz2 rfl (by omega) (.slice (some ⟨g, 0, none⟩) n cap) n xs (by rfl) (hown4.alloc _)
               ⟨w4.heap.size, 0, none⟩ 1 1 [.string X2, .string Y2] (by rfl) (by rfl) (World.news_of_block (cs := #[.string X2, .string Y2]) (t := 47) (fr := (0, 0)) (heap_alloc_new w4 _)) (by simp [Value.oneCell'])
               (by omega) (by simp only [maxLen]; omega) (by omega) (by simp only [World.size_alloc]; omega) (w4.heap.size + 1) (by simp) ?_
             intro gg cap6 w6 hown6 hg6 hat6 hlt6
             have e6 := HG5.out w4 w6 _ hg6 z4 E4.out
             have c6 := cell_blk e6 (j := 0) rfl
             have f6 := frz_blk e6
             have E6 := hid e6
             have HO6 := hid hown6
             clear e6 hown6)
          | (go_simp
             go_at_call 25
             refine HCA.out.mono ?_
             intro e w4 hend
             obtain ⟨⟨r4, rfl, hr4, R4⟩, hb4⟩ := hend
             obtain ⟨z4, q4, q5, hown4, e4⟩ := HK4.out w4 hb4
             have E4 := hid e4
             have R4' := hid R4
             have HR4 := hid hr4
             clear e4 R4 hr4))
      all_goals
        go_wp2_with fail
        go_roundg gk'
        case measure => omega
        case rel =>
          have zb6 := hg6.size
          simp only [World.size_alloc] at zb6
          have hgg : gg = g ∨ gg = w4.heap.size + 1 := by
            rcases hat6 with h | h
            · simp only [Value.ownBlock, Option.some.injEq] at h; exact .inl h.symm
            · exact .inr h
          have hggT : gg ≠ T := by omega
          have hk5 : ∀ j, j < w4.heap.size → j ≠ g → j ≠ T → (w6.setCell ⟨T, 0, none⟩ (.slice (some ⟨gg, 0, none⟩) (n + 1) cap6)).heap[j]? = w4.heap[j]? := fun j h1 h2 h3 => by
            rw [Below.heap_setCell _ _ _ _ h3, hg6.block _ (by simp only [World.size_alloc]; omega) (by simp [Value.ownBlock]; omega), Below.heap_alloc _ _ _ h1]
          have B4 : But w.heap.size rb w w4 := B5.out.trans ((show But w5.heap.size rb w5 w4 from ⟨hb4.os, hb4.tape, hb4.output, hb4.size, hb4.block⟩).mono B5.out.size)
          have hr4s : r4.size ≤ q2.size := by
            have := clP_tot q2.data.toList
            rw [HR2.out] at this
            rw [list_size HR4.out, list_size (s := q2) rfl]
            omega
          have hy := tlC_yes (n := gk') HFF.out
          have h1 := HL1.out
          have h2 := HL2.out
          have h3 := HL3.out
          rw [hy, ← HQ2.out, HP2.out, HR2.out, HF2.out, ← HR4.out] at h1 h2 h3
          refine ⟨zs ++ [(X2, Y2)], r4, b1 || !Fq, gg, cap6, ?_, ?_, hggT, ?_, by rw [List.length_append, HN.out]; simp only [List.length_cons, List.length_nil]; omega, by omega, ?_, h2, ?_, ?_, ?_, ?_⟩
          · rw [List.length_append, HN.out]
            exact set0_two E6.out _
          · rw [List.length_append, HN.out, cells2_snoc, HXS.out]
            exact own_kept' HO6.out (Below.heap_setCell _ _ _ _ hggT)
          · rw [hk5 _ (by omega) (by omega) (by omega), hb4.block _ (show w.heap.size < w5.heap.size by omega) (by omega)]
            exact N5.out
          · rw [← h1]
            simp
          · rw [← h3]
            cases b1 <;> cases Fq <;> rfl
          · exact R4'.out.keep (hk5 rb (by have := R4'.out.lt; omega) (by omega) (by omega))
          · refine But.trans ⟨hg6.os.trans B4.os, hg6.tape.trans B4.tape, hg6.output.trans B4.output, by have := B4.size; omega, fun j hj hn => ?_⟩ (set1_but (by omega) _)
            rw [hg6.block j (by simp only [World.size_alloc]; omega) (by simp [Value.ownBlock]; omega), Below.heap_alloc _ _ _ (by omega)]
            exact B4.block j hj hn
          · simp only [World.setCell, Array.size_modify]
            omega

end Go.Proofs.YtjpdiahbnhemoaaGreatDoor

namespace Go.Proofs.YtjpdiahbnhemoaaGreatDoor
open Go.RowKit
set_option linter.unusedVariables false

set_option maxHeartbeats 2000000 in
set_option maxRecDepth 100000 in
theorem end2_any (rb : Nat) (s : ByteArray) (b : Bool) (w : World) (hr : Rw w rb s b) (he : TErrs w) :
    Calls Tryz.prog 13 #[.pointer (some ⟨rb, 0, none⟩)] w fun e w' => (∃ v, e = .returned v ∧ IsErr v (b || !s.data.toList.isEmpty)) ∧ Rw w' rb s (b || !s.data.toList.isEmpty) ∧ But w.heap.size rb w w' := by
  obtain ⟨t1, a1, k1, g1⟩ := he.text
  have hlt := hr.lt
  have HR := hid hr
  have HC0 := hid (fun (W : World) (hW : Below w.heap.size w W) => show W.cell? ⟨rb, 0, none⟩ = some (.string s) ∧ W.cell? ⟨0, 0, none⟩ = some (.iface t1 (.pointer (some a1))) from by
    obtain ⟨v, _, hb⟩ := HR.out
    exact ⟨cell_below (cell_blk hb (j := 0) rfl) hlt hW, cell_below k1 g1 hW⟩)
  clear hr he k1
  obtain ⟨C, HC⟩ : ∃ C : World → Prop, Hid (∀ w', C w' ↔ Below w.heap.size w w') := ⟨_, hid fun _ => Iff.rfl⟩
  have HCC := hid (fun (W : World) (hW : C W) => HC0.out W ((HC.out W).1 hW))
  have HC1 := hid ((HC.out w.drew).2 (Below.refl _ _).drew)
  have hiso : s.data.toList.isEmpty = s.toList.isEmpty := by rw [ByteArray.toList_eq]
  obtain ⟨f, hf⟩ : ∃ f, s.toList.isEmpty = f := ⟨_, rfl⟩
  rw [hiso, hf]
  have hf2 : (s.toList == []) = f := by rw [← hf]; cases s.toList <;> rfl
  clear hiso
  go_enter Tryz.func13, Tryz.ntmps13
  go_wp2_with fail
  refine wp_region_loose (C := C) 7 (by kernel_rfl) (by kernel_rfl) HC1.out ?_
  simp only [List.take_succ_cons, List.take_zero]
  refine walk_by fun W hnil hval hcall hany hskip => ?_
  iterate 7 (first
    | (refine hval _ _ _ _ (fun _ => by rfl) ⟨_, fun q hq w' hw' => by
         obtain ⟨x0, x1⟩ := HCC.out w' hw'
         first | (go_simp; done) | (go_simp; rfl), ?_⟩
       simp only [Act.put, List.setIfInBounds_toArray, List.set_cons_zero, List.set_cons_succ]))
  refine hnil _ _ ?_
  intro qv hqv w' hw'
  simp only [List.drop_succ_cons, List.drop_zero]
  have hb' := (HC.out w').1 hw'
  have HR2 := hid (HR.out.keep (hb'.block rb hlt))
  clear hnil hval hcall hany
  go_wp2_with fail
  refine (expect_any f t1 a1 rb s b w' HR2.out).mono ?_
  rintro e w2 ⟨rfl, hr2, b2⟩
  obtain ⟨v2, hv2, hb2⟩ := hr2
  have q1 := cell_blk hb2 (j := 1) rfl
  have BB := hid ((But.of_below hb').step (b2.mono (Nat.le_refl _)))
  have HV2 := hid hv2
  have HRR2 := hid (show Rw w2 rb s (b || !f) from ⟨v2, hv2, hb2⟩)
  clear hb2 hv2 b2
  go_wp2_with fail
  go_ret
  exact ⟨⟨v2, rfl, HV2.out⟩, HRR2.out, BB.out⟩

set_option maxHeartbeats 4000000 in
set_option maxRecDepth 100000 in
theorem parseWorldI_any (s : ByteArray) (hs : s.size ≤ 1048576) (Z : List (ByteArray × ByteArray)) (L : List Ins) (f : Bool) (hV : Hid (pwV s.data.toList = (Z, L, f))) (w : World) (he : PErrs w) :
    Calls Tryz.prog 5 #[.string s] w fun e w' => (∃ A c B d lo, e = .returned (.tuple #[.agg #[.slice A Z.length c, .slice B L.length d], .bool f]) ∧ w'.ownsRow w.heap.size 47 2 (.slice A Z.length c) Z.length (cells2 Z) ∧ (∀ a, A = some a → a.block < lo) ∧ w.heap.size ≤ lo ∧ lo ≤ w'.heap.size ∧ OwnW w' lo B L.length L) ∧ Below w.heap.size w w' := by
  have HE := hid he
  have gs : ∀ k, ErrAt w k → k < w.heap.size := fun k h => by obtain ⟨_, _, _, h⟩ := h; exact h
  have g1 := gs _ he.chk.name
  have g2 := gs _ he.chk.type
  have g3 := gs _ he.text
  have g4 := gs _ he.chk.supers
  have HOFF := hid (show OffW (w.heap.size + 1) from ⟨⟨by omega, by omega, by omega⟩, by omega⟩)
  clear he gs
  obtain ⟨Z', hZ⟩ : ∃ i, csL s.data.toList = i := ⟨_, rfl⟩
  obtain ⟨L', hL⟩ : ∃ i, isL s.data.toList = i := ⟨_, rfl⟩
  obtain ⟨R, hR⟩ : ∃ i, isR s.data.toList = i := ⟨_, rfl⟩
  obtain ⟨F, hF⟩ : ∃ i, isF s.data.toList = i := ⟨_, rfl⟩
  have hlen := isL_len s.data.toList
  rw [hZ, hL, hR, ← list_size (s := s) rfl] at hlen
  have HZ := hid hZ
  have HL := hid hL
  have HR := hid hR
  have HF := hid hF
  clear hZ hL hR hF
  obtain ⟨w0, hw0⟩ : ∃ w0, (w.alloc (.cells #[.slice none 0 0, .slice none 0 0] 25)).alloc (.cells #[.string s, .nilIface] 36) = w0 := ⟨_, rfl⟩
  have z0 : w.heap.size + 1 < w0.heap.size := by rw [← hw0]; simp only [World.size_alloc]; omega
  have B0 := hid (show Below w.heap.size w w0 by rw [← hw0]; exact ((Below.refl w.heap.size w).alloc (Nat.le_refl _) _).alloc (by simp only [World.size_alloc]; omega) _)
  have N0 := hid (show w0.heap[w.heap.size]? = some (.cells #[.slice none 0 0, .slice none 0 0] 25 (0, 0)) by
    rw [← hw0, Below.heap_alloc _ _ _ (by simp only [World.size_alloc]; omega)]
    exact heap_new1 w _)
  have R0 := hid (show Rw w0 (w.heap.size + 1) s false from ⟨.nilIface, IsErr.nil, by
    rw [← hw0]
    have := heap_new1 (w.alloc (.cells #[.slice none 0 0, .slice none 0 0] 25)) (.cells #[.string s, .nilIface] 36)
    rw [World.size_alloc] at this
    exact this⟩)
  have HW0 := hid hw0
  clear hw0
  go_enter Tryz.func5, Tryz.ntmps5
  go_wp2_with fail
  rw [HW0.out]
  refine (world_any (w.heap.size + 1) s false w0 hs R0.out (HE.out.below B0.out).srd HOFF.out Z' L' R F HZ HL HR HF).mono ?_
  rintro e w1 ⟨⟨g, c, B, d, lo, r, rfl, ho, hglo, hlo, hW, hr, R1⟩, b1⟩
  have z1 := b1.size
  have hgb := ho.lt g rfl
  have hlow : w.heap.size + 2 ≤ lo := by omega
  have R1' := hid R1
  have HRR := hid hr
  have O1 := hid (own_mono ho (show w.heap.size ≤ w0.heap.size by omega))
  have P1 := hid (own_pairs ho)
  have W1 := hid hW
  have N1 := hid ((b1.block w.heap.size (by omega) (by omega)).trans N0.out)
  have B1 := hid (B0.out.trans (b1.below' (B' := w.heap.size) (by omega) (by omega)))
  obtain ⟨w2, hw2⟩ : ∃ w2, w1.alloc (.cells #[.slice (some ⟨g, 0, none⟩) Z'.length c, .slice B L'.length d] 25) = w2 := ⟨_, rfl⟩
  have M2 := hid (show w2.heap[w1.heap.size]? = some (.cells #[.slice (some ⟨g, 0, none⟩) Z'.length c, .slice B L'.length d] 25 (0, 0)) by rw [← hw2]; exact heap_new1 w1 _)
  have HA2 := hid (show Below w1.heap.size w1 w2 by rw [← hw2]; exact (Below.refl _ _).alloc (Nat.le_refl _) _)
  have z2 : w1.heap.size < w2.heap.size := by rw [← hw2]; simp only [World.size_alloc]; omega
  have HW2 := hid hw2
  clear R1 hr b1 ho hw2 hW
  go_wp2_with fail
  rw [HW2.out]
  have HTOT := hid (show tot Z' ≤ 1048576 by
    have h1 := csL_len s.data.toList
    have h4 : 1 ≤ (csL s.data.toList).length := by unfold csL; simp
    rw [HZ.out, ← list_size (s := s) rfl] at h1
    rw [HZ.out] at h4
    omega)
  have hZl : Z'.length ≤ 1048577 := by omega
  have hLl : L'.length ≤ 1048577 := by omega
  have HIT := hid (fun i (hi : i ∈ L') => show insTot i ≤ 1048576 by
    have h1 := inssTot_mem hi
    have h2 : 1 ≤ Z'.length := by rw [← HZ.out]; unfold csL; simp
    omega)
  have HPE := hid (fun (W : World) (hb : But w2.heap.size (w.heap.size + 1) w2 W) => show PErrs W from
    HE.out.below (B1.out.trans ((HA2.out.mono (by omega)).trans (hb.below' (by omega) (by omega)))))
  obtain ⟨rb, hrb⟩ : ∃ rb, w.heap.size + 1 = rb := ⟨_, rfl⟩
  obtain ⟨e0, he0⟩ : ∃ e0, (false || !F || !r.data.toList.isEmpty) = e0 := ⟨_, rfl⟩
  have HCHK := hid (fun (W : World) (hb : But w2.heap.size (w.heap.size + 1) w2 W) => wcheck_any (some ⟨g, 0, none⟩) Z'.length c Z' B L'.length d L' W (by unfold maxLen; omega)
    (by
      obtain ⟨_, _, e, _, hp⟩ := P1.out
      simp only [Value.slice.injEq] at e
      obtain ⟨rfl, _, rfl⟩ := e
      exact hp.keep (by have := hb.size; omega) fun a ha => by
        injection ha with ha
        rw [← ha]
        exact (hb.block g (by omega) (by omega)).trans (HA2.out.block g hgb.2))
    (by unfold maxLen; omega)
    ((W1.out.keep (w' := W) (by have := hb.size; omega) fun k h1 h2 => (hb.block k (by omega) (by omega)).trans (HA2.out.block k h2)).inss fun i hi => by
      have := HIT.out i hi
      unfold insTot at this
      unfold maxLen
      omega)
    (fun i hi => insTot_ok (HIT.out i hi)) HTOT.out (HPE.out W hb).chk)
  obtain ⟨C, HC⟩ : ∃ C : World → Prop, Hid (∀ w', C w' ↔ But w2.heap.size (w.heap.size + 1) w2 w' ∧ (Rw w' (w.heap.size + 1) r (false || !F) ∨ Rw w' (w.heap.size + 1) r e0)) := ⟨_, hid fun _ => Iff.rfl⟩
  have HEND := hid (fun (W : World) (hW : C W) => show Calls Tryz.prog 13 #[.pointer (some ⟨w.heap.size + 1, 0, none⟩)] W fun e w' => (∃ v, e = .returned v ∧ IsErr v e0) ∧ C w' from by
    obtain ⟨hb, hR⟩ := (HC.out W).1 hW
    rcases hR with hR | hR
    · refine (end2_any (w.heap.size + 1) r (false || !F) W hR (HPE.out W hb).rd).mono fun e w' h => ?_
      rw [he0] at h
      exact ⟨h.1, (HC.out w').2 ⟨hb.step h.2.2, .inr h.2.1⟩⟩
    · refine (end2_any (w.heap.size + 1) r e0 W hR (HPE.out W hb).rd).mono fun e w' h => ?_
      have he1 : (e0 || !r.data.toList.isEmpty) = e0 := by rw [← he0]; cases (!r.data.toList.isEmpty) <;> simp
      rw [he1] at h
      exact ⟨h.1, (HC.out w').2 ⟨hb.step h.2.2, .inr h.2.1⟩⟩)
  have HCK := hid (fun (W : World) (hW : C W) => show Calls Tryz.prog 14 #[.agg #[.slice (some ⟨g, 0, none⟩) Z'.length c, .slice B L'.length d]] W fun e w' => (∃ v, e = .returned v ∧ IsErr v (!wdOf Z' L')) ∧ C w' from by
    obtain ⟨hb, hR⟩ := (HC.out W).1 hW
    refine (HCHK.out W hb).mono fun e w' h => ⟨h.1, (HC.out w').2 ⟨hb.step (But.of_below h.2), ?_⟩⟩
    have hz : w.heap.size + 1 < W.heap.size := by have := hb.size; omega
    rcases hR with hR | hR
    · exact .inl (hR.keep (h.2.block _ hz))
    · exact .inr (hR.keep (h.2.block _ hz)))
  have HCC := hid (fun (W : World) (hW : C W) => show W.cell? ⟨w1.heap.size, 0, none⟩ = some (.slice (some ⟨g, 0, none⟩) Z'.length c) ∧ W.cell? ⟨w1.heap.size, 1, none⟩ = some (.slice B L'.length d) from by
    have h := (((HC.out W).1 hW).1.block w1.heap.size z2 (by omega)).trans M2.out
    exact ⟨cell_blk h rfl, cell_blk h rfl⟩)
  have HC1 := hid ((HC.out w2.drew).2 ⟨(But.refl _ _ _).drew1, .inl (R1'.out.keep (HA2.out.block _ (by omega)))⟩)
  obtain ⟨f1, hf1⟩ : ∃ f, (!wdOf Z' L') = f := ⟨_, rfl⟩
  rw [hf1] at HCK
  have HPF := hid (show (e0 || f1) = !pwF s.data.toList by
    rw [← he0, ← hf1]
    unfold pwF
    rw [HRR.out, HR.out, HF.out, HZ.out, HL.out]
    cases F <;> cases R.isEmpty <;> simp)
  clear he0 hf1 hrb
  refine wp_region_loose (C := C) 4 (by kernel_rfl) (by kernel_rfl) HC1.out ?_
  simp only [List.take_succ_cons, List.take_zero]
  refine walk_by fun W hnil hval hcall hany hskip => ?_
  iterate 4 (first
    | (refine hval _ _ _ _ (fun _ => by rfl) ⟨_, fun q hq w' hw' => by
         obtain ⟨x0, x1⟩ := HCC.out w' hw'
         first | (go_simp; done) | (go_simp; rfl), ?_⟩
       simp only [Act.put, List.setIfInBounds_toArray, List.set_cons_zero, List.set_cons_succ])
    | (refine hany _ _ _ _ (fun _ => by rfl) ⟨13, _, fun v => IsErr v e0, fun q hq w' hw' => ⟨by first | (go_simp; done) | (go_simp; rfl), (HEND.out w' hw').mono fun e w'' h => ⟨h.1.choose, h.1.choose_spec.1, h.1.choose_spec.2, h.2⟩⟩, ?_⟩
       simp only [Act.put, List.setIfInBounds_toArray, List.set_cons_zero, List.set_cons_succ])
    | (refine hany _ _ _ _ (fun _ => by rfl) ⟨14, _, fun v => IsErr v f1, fun q hq w' hw' => ⟨by first | (go_simp; done) | (go_simp; rfl), (HCK.out w' hw').mono fun e w'' h => ⟨h.1.choose, h.1.choose_spec.1, h.1.choose_spec.2, h.2⟩⟩, ?_⟩
       simp only [Act.put, List.setIfInBounds_toArray, List.set_cons_zero, List.set_cons_succ]))
  refine hnil _ _ ?_
  intro q hq w' hw'
  simp only [List.drop_succ_cons, List.drop_zero]
  obtain ⟨hb', _⟩ := (HC.out w').1 hw'
  obtain ⟨hq1, hq2, _⟩ := hq
  clear hnil hval hcall hany hskip
  obtain ⟨v2, hv2⟩ : ∃ v, q.headD undef = v := ⟨_, rfl⟩
  obtain ⟨v1, hv1⟩ : ∃ v, q.tail.headD undef = v := ⟨_, rfl⟩
  rw [hv2] at hq1 ⊢
  rw [hv1] at hq2 ⊢
  have HQ := hid hq1
  have HP := hid hq2
  have HB' := hid hb'
  clear hq1 hq2 hv2 hv1 hb' HCC HCK HEND HCHK HC1 HPE
  have HM := hid ((HB'.out.block w1.heap.size z2 (by omega)).trans M2.out)
  obtain ⟨p, hp⟩ : ∃ p, pwF s.data.toList = p := ⟨_, rfl⟩
  rw [hp] at HPF
  have HPP := hid hp
  clear hp
  cases p
  · have e := hV.out
    rw [pwV_no HPP.out] at e
    injection e with e1 e2
    injection e2 with e2 e3
    subst e1 e2 e3
    rcases HP.out.form with rfl | ⟨T1, P1, rfl⟩ <;> rcases HQ.out.form with rfl | ⟨T2, P2, rfl⟩
    all_goals
      go_wp2_with (first
        | (go_at_call 12
           refine (joinNew2 _ _ _ _ _ HP.out HQ.out).mono ?_
           rintro e w5 ⟨⟨v5, rfl, hv5⟩, b5⟩
           rw [HPF.out] at hv5
           obtain ⟨T, P, rfl⟩ := hv5.true
           have B5 := hid (HB'.out.step (But.of_below b5))
           have M5 := hid ((b5.block w1.heap.size (by have := HB'.out.size; omega)).trans HM.out)
           have BW := hid (show Below w.heap.size w w5 from B1.out.trans ((HA2.out.mono (by omega)).trans (B5.out.below' (by omega) (by omega))))
           have N5 := hid ((B5.out.block w.heap.size (by omega) (by omega)).trans ((HA2.out.block _ (by omega)).trans N1.out))
           have n0 := cell_blk N5.out (j := 0) rfl
           have n1 := cell_blk N5.out (j := 1) rfl
           have nf := frz_blk N5.out
           have m0 := cell_blk M5.out (j := 0) rfl
           have m1 := cell_blk M5.out (j := 1) rfl
           clear b5)
        | fail)
      refine bodyPost_ret (v := .tuple #[.agg #[.slice none 0 0, .slice none 0 0], .bool false]) (by simp [results, Tryz.results5, go_sem, n0, n1]) rfl ⟨⟨none, 0, none, 0, w.heap.size, rfl, World.ownsRow_nil _ _ _ _, fun a h => (by cases h), Nat.le_refl _, by have := BW.out.size; first | exact this | (simp only [World.setCell, Array.size_modify]; exact this), .inl ⟨rfl, rfl, rfl⟩⟩, ?_⟩
      first | exact BW.out | exact BW.out.trans ((set2_but (rb := w.heap.size) (Nat.le_refl _) _ _).below (Nat.le_refl _))
  · have e := hV.out
    rw [pwV_yes HPP.out, HZ.out, HL.out] at e
    injection e with e1 e2
    injection e2 with e2 e3
    subst e1 e2 e3
    rcases HP.out.form with rfl | ⟨T1, P1, rfl⟩ <;> rcases HQ.out.form with rfl | ⟨T2, P2, rfl⟩
    all_goals
      go_wp2_with (first
        | (go_at_call 12
           refine (joinNew2 _ _ _ _ _ HP.out HQ.out).mono ?_
           rintro e w5 ⟨⟨v5, rfl, hv5⟩, b5⟩
           rw [HPF.out] at hv5
           obtain rfl := hv5.false
           have B5 := hid (HB'.out.step (But.of_below b5))
           have M5 := hid ((b5.block w1.heap.size (by have := HB'.out.size; omega)).trans HM.out)
           have BW := hid (show Below w.heap.size w w5 from B1.out.trans ((HA2.out.mono (by omega)).trans (B5.out.below' (by omega) (by omega))))
           have N5 := hid ((B5.out.block w.heap.size (by omega) (by omega)).trans ((HA2.out.block _ (by omega)).trans N1.out))
           have n0 := cell_blk N5.out (j := 0) rfl
           have n1 := cell_blk N5.out (j := 1) rfl
           have nf := frz_blk N5.out
           have m0 := cell_blk M5.out (j := 0) rfl
           have m1 := cell_blk M5.out (j := 1) rfl
           clear b5)
        | fail)
      have hset : ∀ j, j ≠ w.heap.size → ((w5.setCell ⟨w.heap.size, 0, none⟩ (.slice (some ⟨g, 0, none⟩) Z'.length c)).setCell ⟨w.heap.size, 1, none⟩ (.slice B L'.length d)).heap[j]? = w5.heap[j]? := fun j hj => set2_other hj _ _
      have hk : ∀ j, w.heap.size + 2 ≤ j → j < w1.heap.size → ((w5.setCell ⟨w.heap.size, 0, none⟩ (.slice (some ⟨g, 0, none⟩) Z'.length c)).setCell ⟨w.heap.size, 1, none⟩ (.slice B L'.length d)).heap[j]? = w1.heap[j]? := fun j h1 h2 =>
        (hset j (by omega)).trans ((B5.out.block j (by omega) (by omega)).trans (HA2.out.block j h2))
      refine bodyPost_ret (v := .tuple #[.agg #[.slice (some ⟨g, 0, none⟩) Z'.length c, .slice B L'.length d], .bool true]) (by simp [results, Tryz.results5, go_sem, n0, n1]) rfl ⟨⟨_, c, B, d, lo, rfl, own_kept' O1.out (hk g (by omega) hgb.2), fun a h => by injection h with h; rw [← h]; exact hglo, by omega, by have := B5.out.size; simp only [World.setCell, Array.size_modify]; omega, ?_⟩, ?_⟩
      · exact W1.out.keep (by have := B5.out.size; simp only [World.setCell, Array.size_modify]; omega) fun k h1 h2 => hk k (by omega) h2
      · exact BW.out.trans ((set2_but (rb := w.heap.size) (Nat.le_refl _) _ _).below (Nat.le_refl _))

end Go.Proofs.YtjpdiahbnhemoaaGreatDoor
