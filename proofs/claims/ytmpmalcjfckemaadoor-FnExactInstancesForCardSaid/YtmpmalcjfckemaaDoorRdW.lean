/- The program's reader of worlds: upTo, skips, expect, need, end. -/
import Derived.Test.YtmpmalcjfckemaaDoorIxA
import Derived.Test.YtmpmalcjfckemaaDoorPrW
import Derived.Test.YtmpmalcjfckemaaDoorCh5
namespace Go.Proofs.YtmpmalcjfckemaaDoor
open Go.RowKit
set_option linter.unusedVariables false

theorem indexAny_split {m : List UInt8} : ∀ (l : List UInt8), (Lib.indexAny l m = -1 ∧ l.takeWhile (noB m) = l ∧ l.dropWhile (noB m) = []) ∨ ∃ k : Nat, Lib.indexAny l m = (k : Int) ∧ k < l.length ∧ l.takeWhile (noB m) = l.take k ∧ l.dropWhile (noB m) = l.drop k
  | [] => .inl ⟨rfl, rfl, rfl⟩
  | c :: l => by
    have ih := indexAny_split (m := m) l
    rcases hc : m.contains c with _ | _
    · have hn : noB m c = true := by unfold noB; rw [hc]; rfl
      rcases ih with ⟨h1, h2, h3⟩ | ⟨k, h1, hk, h2, h3⟩
      · refine .inl ⟨Lib.indexAny_none ?_, ?_, ?_⟩
        · intro j b hj hb
          rcases j with _ | j
          · simp at hb; rw [← hb]; exact hc
          · have hb' : l[j]? = some b := by simpa using hb
            rcases hcb : m.contains b with _ | _
            · rfl
            · exfalso
              have hmem : b ∈ l.takeWhile (noB m) := by rw [h2]; exact List.mem_of_getElem? hb'
              have : noB m b = true := List.all_eq_true.1 (List.all_takeWhile (p := noB m) (l := l)) b hmem
              unfold noB at this
              rw [hcb] at this
              cases this
        · rw [List.takeWhile_cons, hn, if_pos rfl, h2]
        · rw [List.dropWhile_cons, hn, if_pos rfl, h3]
      · have hhit : ∃ x, l[k]? = some x ∧ m.contains x = true := by
          refine ⟨l[k], List.getElem?_eq_getElem hk, ?_⟩
          have e : l.dropWhile (noB m) = l[k] :: l.drop (k + 1) := by rw [h3, List.drop_eq_getElem_cons hk]
          rcases dropWhile_ends (m := m) l with h | ⟨c', r, h, hh⟩
          · rw [h] at e; cases e
          · rw [h] at e
            injection e with e1 _
            rw [← e1]
            unfold noB at hh
            simpa using hh
        obtain ⟨x, hx1, hx2⟩ := hhit
        refine .inr ⟨k + 1, Lib.indexAny_hit (x := x) ?_ (by simpa using hx1) hx2, by simp; omega, ?_, ?_⟩
        · intro j b hj hb
          rcases j with _ | j
          · simp at hb; rw [← hb]; exact hc
          · have hb' : l[j]? = some b := by simpa using hb
            rcases hcb : m.contains b with _ | _
            · rfl
            · exfalso
              have hmem : b ∈ l.takeWhile (noB m) := by
                rw [h2]
                exact List.mem_of_getElem? (i := j) (by rw [List.getElem?_take, if_pos (by omega)]; exact hb')
              have : noB m b = true := List.all_eq_true.1 (List.all_takeWhile (p := noB m) (l := l)) b hmem
              unfold noB at this
              rw [hcb] at this
              cases this
        · rw [List.takeWhile_cons, hn, if_pos rfl, h2, List.take_succ_cons]
        · rw [List.dropWhile_cons, hn, if_pos rfl, h3, List.drop_succ_cons]
    · have hn : noB m c = false := by unfold noB; rw [hc]; rfl
      refine .inr ⟨0, Lib.indexAny_hit (x := c) (Lib.NoAny.zero _ _) rfl hc, by simp, ?_, ?_⟩
      · rw [List.takeWhile_cons, hn]; rfl
      · rw [List.dropWhile_cons, hn]; rfl

theorem extract_take (s : ByteArray) (k : Nat) : (s.extract 0 k).data.toList = s.data.toList.take k := by
  rw [ByteArray.data_extract, Array.toList_extract, List.extract_eq_take_drop]
  simp
theorem extract_drop (s : ByteArray) (k : Nat) : (s.extract k s.size).data.toList = s.data.toList.drop k := by
  rw [ByteArray.data_extract, Array.toList_extract, List.extract_eq_take_drop]
  have : s.data.toList.length = s.size := by simp
  rw [List.take_of_length_le (by rw [List.length_drop]; omega)]

theorem drop_all (s : ByteArray) : (s.extract s.size s.size).data.toList = [] := by
  rw [extract_drop]
  exact List.drop_eq_nil_of_le (by simp)

theorem hasPrefix_one (l : List UInt8) (m : UInt8) : Lib.hasPrefix l [m] = skB m l := by
  rcases l with _ | ⟨c, l⟩
  · rfl
  · unfold skB
    show (Lib.hasPrefix (c :: l) [m]) = (some c == some m)
    rw [show (some c == some m) = (c == m) from rfl]
    show (m == c && true) = (c == m)
    rw [Bool.and_true, Bool.eq_iff_iff, beq_iff_eq, beq_iff_eq]
    exact ⟨fun h => h.symm, fun h => h.symm⟩
theorem trimPrefix_one (l : List UInt8) (m : UInt8) : Lib.trimPrefix l [m] = skR m l := by
  unfold Lib.trimPrefix skR
  rw [hasPrefix_one]
  rcases h : skB m l with _ | _
  · rfl
  · simp

theorem ErrAt.but {w w' : World} {k rb B : Nat} (h : ErrAt w k) (hB : w.heap.size ≤ B) (hb : But B rb w w') (hne : k ≠ rb) : ErrAt w' k := by
  obtain ⟨t, a, hc, hk⟩ := h
  refine ⟨t, a, ?_, Nat.lt_of_lt_of_le hk hb.size⟩
  rw [World.cell?_of_block (w := w) (w' := w') (a := ⟨k, 0, none⟩) (hb.block k (by omega) hne)]
  exact hc
theorem But.step {rb : Nat} {a b c : World} (h : But a.heap.size rb a b) (k : But b.heap.size rb b c) : But a.heap.size rb a c := h.trans (k.mono h.size)
theorem But.drew1 {rb : Nat} {a b : World} (h : But a.heap.size rb a b) : But a.heap.size rb a b.drew := h.trans ⟨rfl, rfl, rfl, Nat.le_refl _, fun _ _ _ => rfl⟩

theorem set2_other {w : World} {k rb : Nat} (hne : rb ≠ k) (x y : Value) : ((w.setCell ⟨k, 0, none⟩ x).setCell ⟨k, 1, none⟩ y).heap[rb]? = w.heap[rb]? := by
  simp [World.setCell, Array.getElem?_modify, Ne.symm hne]
theorem set2_but {w : World} {k rb B : Nat} (hk : B ≤ k) (x y : Value) : But B rb w ((w.setCell ⟨k, 0, none⟩ x).setCell ⟨k, 1, none⟩ y) :=
  ⟨rfl, rfl, rfl, by simp [World.setCell], fun j hj _ => set2_other (by omega) x y⟩
theorem skR_len (m : UInt8) (l : List UInt8) : (skR m l).length ≤ l.length := by
  unfold skR
  split
  · rw [List.length_tail]; omega
  · exact Nat.le_refl _
theorem ndY_len (l : List UInt8) : (ndY l).length ≤ l.length :=
  Nat.le_trans (List.Sublist.length_le (List.takeWhile_sublist _)) (Nat.le_trans (skR_len _ _) (List.Sublist.length_le (List.dropWhile_sublist _)))

end Go.Proofs.YtmpmalcjfckemaaDoor
