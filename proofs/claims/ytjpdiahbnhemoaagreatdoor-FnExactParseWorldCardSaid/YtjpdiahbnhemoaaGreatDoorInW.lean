/- The program's reader of worlds: needs, instance. -/
import Derived.Test.YtjpdiahbnhemoaaGreatDoorRdW
import Derived.Test.YtjpdiahbnhemoaaGreatDoorPrI
import Derived.Test.YtjpdiahbnhemoaaGreatDoorArgsN
import Derived.Test.YtjpdiahbnhemoaaGreatDoorArgsB
import Derived.Deep.AppendLies
import Derived.OwnWalk
namespace Go.Proofs.YtjpdiahbnhemoaaGreatDoor
open Go.RowKit
set_option linter.unusedVariables false

/-- How much is left to read. -/
def restLen (w : World) (rb : Nat) : Nat := match w.cell? ⟨rb, 0, none⟩ with
  | some (.string s) => s.size
  | _ => 0
theorem Rw.rest {w : World} {rb : Nat} {s : ByteArray} {b : Bool} (h : Rw w rb s b) : restLen w rb = s.size := by
  obtain ⟨v, _, h⟩ := h
  unfold restLen
  rw [show w.cell? ⟨rb, 0, none⟩ = some (.string s) from cell_blk h (j := 0) rfl]
theorem But.own {w w' : World} {rb base n : Nat} {T : TypeId} {k : Nat} {v : Value} {xs : List Value} (hb : But w.heap.size rb w w') (h : w.ownsRow base T k v n xs) (hlt : rb < base) : w'.ownsRow base T k v n xs := by
  refine h.kept (row := some rb) ⟨hb.os, hb.tape, hb.output, hb.size, fun k hk hn => hb.block k hk (fun e => hn (by rw [e]))⟩ ?_
  rcases hv : v.ownBlock with _ | g
  · exact .inl rfl
  · refine .inr fun e => ?_
    have := h.lt g hv
    simp only [Option.some.injEq] at e
    omega
theorem list_size {s : ByteArray} {l : List UInt8} (h : s.data.toList = l) : s.size = l.length := by rw [← h]; simp

/-- A round of the loop that reads needs. -/
def NsR (w : World) (rb : Nat) (b : Bool) (m : Nat) (L : List (ByteArray × ByteArray)) (R : List UInt8) (F : Bool) (v : Value) (wr : World) : Prop :=
  ∃ (zs : List (ByteArray × ByteArray)) (r : ByteArray) (b1 : Bool) (n g cap : Nat), v = .slice (some ⟨g, 0, none⟩) zs.length cap ∧ wr.ownsRow w.heap.size 49 2 v zs.length (cells2 zs) ∧ zs.length + r.size ≤ m + 1 ∧ r.size ≤ n ∧
    zs ++ (tlN n r.data.toList).1 = L ∧ (tlN n r.data.toList).2.1 = R ∧ (b1 || !(tlN n r.data.toList).2.2) = (b || !F) ∧ Rw wr rb r b1 ∧ But w.heap.size rb w wr

set_option maxHeartbeats 4000000 in
set_option maxRecDepth 100000 in
theorem needs_any (rb : Nat) (s : ByteArray) (b : Bool) (w : World) (hs : s.size ≤ 1048576) (hr : Rw w rb s b) (he : TErrs w) (hoff : Off rb) (L : List (ByteArray × ByteArray)) (R : List UInt8) (F : Bool) (hL : Hid (nsL s.data.toList = L)) (hR : Hid (nsR s.data.toList = R)) (hF : Hid (nsF s.data.toList = F)) :
    Calls Tryz.prog 43 #[.pointer (some ⟨rb, 0, none⟩)] w fun e w' => (∃ g c r, e = .returned (.slice (some ⟨g, 0, none⟩) L.length c) ∧ w'.ownsRow w.heap.size 49 2 (.slice (some ⟨g, 0, none⟩) L.length c) L.length (cells2 L) ∧ r.data.toList = R ∧ Rw w' rb r (b || !F)) ∧ But w.heap.size rb w w' := by
  have hlt := hr.lt
  have HR := hid hr
  have HE := hid he
  have HOFF := hid hoff
  obtain ⟨i0, hi0, hz0, hz1, hz2⟩ := info_parts needInfo
  clear hr he hoff
  go_enter Tryz.func43, Tryz.ntmps43
  go_wp2_with fail
  refine (need_any rb s b w hs HR.out HE.out HOFF.out).mono ?_
  rintro e w1 ⟨⟨c, t, r, rfl, hc, ht, hr, R1⟩, b1⟩
  have z1 := b1.size
  have B1 := hid b1
  have R1' := hid R1
  have HC := hid hc
  have HT := hid ht
  have HRR := hid hr
  clear b1 R1 hc ht hr
  go_wp2_with fail
  go_loopw [3] (fun v wr => NsR w rb b s.size L R F v wr) (fun _ wr => restLen wr rb)
  case atStart =>
    have hsz : r.size ≤ s.size := by
      rw [list_size HRR.out, list_size (s := s) rfl]
      exact ndR_len _
    have hct : (c, t) = ndP s.data.toList := Prod.ext (ba_eq (HC.out.trans (strOf_data _).symm)) (ba_eq (HT.out.trans (strOf_data _).symm))
    refine ⟨[(c, t)], r, b || !ndF s.data.toList, r.size, w1.heap.size, 1, rfl, ⟨rfl, .inr ⟨w1.heap.size, 1, #[.string c, .string t], rfl, z1, heap_alloc_new w1 _, Nat.le_refl _, by unfold maxLen; omega, rfl, rfl⟩⟩, by simp only [List.length_cons, List.length_nil]; omega, Nat.le_refl _, ?_, ?_, ?_, R1'.out.keep (Below.heap_alloc _ _ _ (by omega)), B1.out.trans (But.of_below ((Below.refl _ _).alloc (by omega) _))⟩
    · rw [← hL.out, hct, list_size HRR.out, HRR.out]; rfl
    · rw [← hR.out, list_size HRR.out, HRR.out]; rfl
    · rw [← hF.out, list_size HRR.out, HRR.out]
      unfold nsF
      cases b <;> cases ndF s.data.toList <;> rfl
  case round =>
    obtain ⟨zs, q, b1, n, g, cap, rfl, hown, hzl, hqn, hl1, hl2, hl3, hrw, hbut⟩ := hrel
    have HRW := hid hrw
    have HBUT := hid hbut
    have HL1 := hid hl1
    have HL2 := hid hl2
    have HL3 := hid hl3
    have zr := hbut.size
    have hrest := hrw.rest
    have HREST := hid hrest
    obtain ⟨k, hk⟩ : ∃ k, zs.length = k := ⟨_, rfl⟩
    obtain ⟨xs, hxs⟩ : ∃ xs, cells2 zs = xs := ⟨_, rfl⟩
    rw [hk] at hzl
    rw [hk, hxs] at hown
    rw [hk]
    have HK := hid hk
    have HXS := hid hxs
    have HOWN := hid hown
    have hgb : w.heap.size ≤ g ∧ g < wr.heap.size := hown.lt g rfl
    obtain ⟨f, hf⟩ : ∃ f, skB 38 q.data.toList = f := ⟨_, rfl⟩
    have HSK := hid (skips_any 38 rb q b1 wr hrw)
    rw [hf] at HSK
    have HF := hid hf
    clear hown hbut hk hxs hl1 hl2 hl3 hrw hf hrest
    go_wp2_with fail
    refine HSK.out.mono ?_
    rintro e w2 ⟨⟨q2, rfl, hq2, R2⟩, b2⟩
    have z2 := b2.size
    have B2 := hid (HBUT.out.trans (b2.mono zr))
    have O2 := hid (b2.own HOWN.out hlt)
    have R2' := hid R2
    have HQ2 := hid hq2
    clear b2 R2 hq2
    rcases f with _ | _
    · go_wp2_with fail
      go_ret
      have hn := tlN_no (n := n) HF.out
      have h1 := HL1.out
      have h2 := HL2.out
      have h3 := HL3.out
      rw [hn] at h1 h2 h3
      simp only [List.append_nil] at h1
      have hq : q2.data.toList = q.data.toList := by
        rw [HQ2.out]
        unfold skR
        rw [HF.out]
        rfl
      have hzL : k = L.length := by rw [← HK.out, h1]
      refine ⟨⟨g, cap, q2, by rw [hzL]; rfl, ?_, by rw [hq]; exact h2, ?_⟩, B2.out⟩
      · have := O2.out
        rw [← HXS.out, h1, hzL] at this
        exact this
      · have h3' : b1 = (b || !F) := by rw [← h3]; simp
        rw [← h3']
        exact R2'.out
    · have hq2s : q2.size < q.size := by
        rw [list_size HQ2.out, list_size (s := q) rfl]
        exact skR_lt HF.out
      have hq2m : q2.size ≤ 1048576 := by omega
      obtain ⟨n', rfl⟩ : ∃ n', n = n' + 1 := ⟨n - 1, by omega⟩
      go_wp2_with fail
      refine (need_any rb q2 b1 w2 hq2m R2'.out (HE.out.but (Nat.le_refl _) B2.out HOFF.out) HOFF.out).mono ?_
      rintro e w3 ⟨⟨c2, t2, r2, rfl, hc2, ht2, hr2, R3⟩, b3⟩
      have z3 := b3.size
      have B3 := hid (B2.out.trans (b3.mono B2.out.size))
      have O3 := hid (b3.own O2.out hlt)
      have R3' := hid R3
      have HC2 := hid hc2
      have HT2 := hid ht2
      have HR2 := hid hr2
      have hg3 : g < w3.heap.size := by omega
      clear b3 R3 hc2 ht2 hr2
      go_wp2_with (first
        | (at_builtin; refine wpList_append_lies _ rfl _ _ 50 rfl w.heap.size 49 i0 _ 2 32 Tryz.underlying50 hi0 hz0 hz1 hz2 rfl (by decide) _ _ _ rfl (O3.out.alloc _) ⟨w3.heap.size, 0, none⟩ 1 1 [.string c2, .string t2] rfl rfl ?c1 ?c2 (by decide) ?c3 ?c4 ?c5 (w3.heap.size + 1) (World.size_alloc _ _) ?_)
        | fail)
      case c1 => exact World.news_of_block (heap_alloc_new w3 _)
      case c2 => simp [Value.oneCell']
      case c3 => unfold maxLen; omega
      case c4 => omega
      case c5 => simp only [World.size_alloc]; omega
      intro g5 cap5 w5 hown5 hg5 hat5 q5
      have HO5 := hid hown5
      have z5 := hg5.size
      simp only [World.size_alloc] at z5
      clear hown5
      go_wp2_with fail
      go_roundw
      case rel =>
        have hr2s : r2.size ≤ q2.size := by
          rw [list_size HR2.out, list_size (s := q2) rfl]
          exact ndR_len _
        have hct : (c2, t2) = ndP q2.data.toList := Prod.ext (ba_eq (HC2.out.trans (strOf_data _).symm)) (ba_eq (HT2.out.trans (strOf_data _).symm))
        have hy := tlN_yes (n := n') HF.out
        have h1 := HL1.out
        have h2 := HL2.out
        have h3 := HL3.out
        rw [hy, ← HQ2.out, ← HR2.out] at h1 h2 h3
        have hblk : w5.heap[rb]? = w3.heap[rb]? := by
          rw [hg5.block rb (by simp only [World.size_alloc]; omega) (by simp [Value.ownBlock]; omega)]
          exact Below.heap_alloc _ _ _ (by omega)
        refine ⟨zs ++ [(c2, t2)], r2, b1 || !ndF q2.data.toList, n', g5, cap5, by rw [List.length_append, HK.out]; rfl, ?_, by rw [List.length_append, HK.out]; simp only [List.length_cons, List.length_nil]; omega, by omega, ?_, h2, ?_, R3'.out.keep hblk, ?_⟩
        · rw [List.length_append, HK.out, cells2_snoc, HXS.out]
          exact HO5.out
        · rw [← h1, hct]
          simp
        · rw [← h3]
          cases b1 <;> cases ndF q2.data.toList <;> rfl
        · have h1 := B3.out
          refine ⟨hg5.os.trans h1.os, hg5.tape.trans h1.tape, hg5.output.trans h1.output, by have := h1.size; omega, fun j hj hn => ?_⟩
          rw [hg5.block j (by simp only [World.size_alloc]; omega) (by simp [Value.ownBlock]; omega), Below.heap_alloc _ _ _ (by omega)]
          exact h1.block j hj hn
      case measure =>
        have hblk : w5.heap[rb]? = w3.heap[rb]? := by
          rw [hg5.block rb (by simp only [World.size_alloc]; omega) (by simp [Value.ownBlock]; omega)]
          exact Below.heap_alloc _ _ _ (by omega)
        have hr2s : r2.size ≤ q2.size := by
          rw [list_size HR2.out, list_size (s := q2) rfl]
          exact ndR_len _
        rw [(R3'.out.keep hblk).rest, HREST.out]
        omega

end Go.Proofs.YtjpdiahbnhemoaaGreatDoor
