/- HeadOf, VarsOf, IsGround, in the program and in the model. RenameType of the program: a renamed tree, and its text. RenameType, in the program and in the model. -/
import Derived.Test.YtgbbobjkhpplkaaDoorPartsI
import Derived.Lib.OthersKept
import Derived.Deep.AppendLies
import Derived.Laws.IdiomStrings
namespace Go.Proofs.YtgbbobjkhpplkaaDoor
open Go.RowKit

/-- A type's first letter, as a string. -/
def headOf (s : ByteArray) : ByteArray := if (tyOf s.data.toList).isSome = true then strOf [s.data.toList.headD 0] else ⟨#[]⟩
theorem size_pos {s : ByteArray} {t : Ty} (h : tyOf s.data.toList = some t) : 0 < s.size := by
  obtain ⟨e, _, _⟩ := tyOf_text h
  have h1 := text_pos t
  have h2 : s.size = s.data.toList.length := by simp
  rw [h2, e]
  exact h1
/-- The variables' letters, in order. -/
def V6 : ByteArray := { data := #[88, 89, 90, 120, 121, 122] }
theorem V6_size : V6.size = 6 := rfl
theorem V6_ascii : ∀ i, (h : i < V6.size) → (V6[i]'h).toNat < 128 := by
  intro i h
  have h' : i < 6 := h
  match i, h' with
  | 0, _ => exact (by decide : (88 : UInt8).toNat < 128)
  | 1, _ => exact (by decide : (89 : UInt8).toNat < 128)
  | 2, _ => exact (by decide : (90 : UInt8).toNat < 128)
  | 3, _ => exact (by decide : (120 : UInt8).toNat < 128)
  | 4, _ => exact (by decide : (121 : UInt8).toNat < 128)
  | 5, _ => exact (by decide : (122 : UInt8).toNat < 128)
/-- Those of the letters that stand in a text. -/
def varsIn (l vs : List UInt8) : List UInt8 := vs.filter fun c => decide (0 < l.count c)
theorem varsIn_snoc (l : List UInt8) (k : Nat) (h : k < V6.size) :
    varsIn l (V6.data.toList.take (k + 1)) = varsIn l (V6.data.toList.take k) ++ (if 0 < l.count V6[k] then [V6[k]] else []) := by
  rw [take_snoc V6 k h, varsIn, List.filter_append]
  congr 1
  by_cases e : 0 < l.count V6[k]
  · rw [if_pos e]
    simp
    exact List.count_pos_iff.1 e
  · rw [if_neg e]
    simp
    exact fun h => e (List.count_pos_iff.2 h)
theorem varsIn_len (l vs : List UInt8) : (varsIn l vs).length ≤ vs.length := List.length_filter_le _ _

theorem append_list (a : ByteArray) (l : List UInt8) : (a ++ strOf l).data.toList = a.data.toList ++ l := by
  rw [ByteArray.data_append, Array.toList_append]
  rfl
theorem countLetter_at (s : ByteArray) (c : UInt8) (hs : s.size ≤ maxLen) (ha : ∀ i, (h : i < s.size) → (s[i]'h).toNat < 128) (n : Nat) (hn : Hid (s.data.toList.count c = n)) (w : World) :
    Calls Tryd.prog 77 #[.string s, .int .i32 c.toNat] w fun e w' => e = .returned (.int .i64 n) ∧ Below w.heap.size w w' := by
  rw [← hn.out]
  exact countLetter_any s c hs ha w

set_option maxHeartbeats 1000000 in
set_option maxRecDepth 100000 in
theorem varsI_some (s : ByteArray) (hs : s.size ≤ maxLen) (t : Ty) (hty : Hid (tyOf s.data.toList = some t)) (ht : Hid ((tyOf s.data.toList).isSome = true)) (w : World) :
    Calls Tryd.prog 68 #[.string s] w fun e w' => e = .returned (.string (strOf (varsIn s.data.toList V6.data.toList))) ∧ Below w.heap.size w w' := by
  go_enter Tryd.func68, Tryd.ntmps68
  go_wp2_with (go_at_call 37; refine (typeValidI_at s _ hs true ht).mono ?_; rintro e w1 ⟨rfl, hb1⟩)
  have z1 := hb1.size
  go_loopw [3, 5] (fun o _ wr => ∃ (pos : Nat) (b : ByteArray), pos ≤ 6 ∧ o = .string b ∧ b.data.toList = varsIn s.data.toList (V6.data.toList.take pos) ∧ wr.heap[w1.heap.size]? = some (.stringIter V6 pos) ∧ Below w.heap.size w wr ∧ w1.heap.size < wr.heap.size)
    (fun _ _ wr => 6 - wr.iterPos w1.heap.size)
  case atStart => exact ⟨0, ⟨#[]⟩, Nat.zero_le _, rfl, rfl, heap_new1 _ _, hb1.alloc z1 _, by show w1.heap.size < (w1.heap.push _).size; simp⟩
  case round =>
    obtain ⟨pos, b, hp, rfl, hb, hit, hbel, hsz⟩ := hrel
    have hbl : b.size ≤ 6 := by
      have h1 : b.size = b.data.toList.length := by simp
      rw [h1, hb]
      refine Nat.le_trans (varsIn_len _ _) (Nat.le_trans (List.length_take_le _ _) hp)
    have HB := hid hb
    have HIT := hid hit
    have hpos : wr.iterPos w1.heap.size = pos := by unfold World.iterPos; rw [hit]
    have HPOS := hid hpos
    clear hb hit hpos
    by_cases hlt : pos < 6
    · have hnx : ∀ ty, (Instr.next (.pointer (some ⟨w1.heap.size, 0, none⟩)) true ty).run Tryd.prog wr = _ := fun ty => Lib.run_next_ascii_at wr w1.heap.size V6 pos ty HIT.out hlt (V6_ascii pos hlt)
      have hc8 := V6_ascii pos hlt
      have hsn := varsIn_snoc s.data.toList pos hlt
      obtain ⟨c, hc⟩ : ∃ c, V6[pos]'hlt = c := ⟨_, rfl⟩
      rw [hc] at hc8 hsn
      simp only [hc] at hnx
      have HSN := hid hsn
      clear hsn hc
      have HENC := hid (encode_ascii c hc8)
      have hes : (Utf8.encode (c.toNat : Nat)).size ≤ 1 := by rw [HENC.out]; exact Nat.le_refl _
      have HH := hid (Lib.iterAt_heap wr w1.heap.size V6 pos (pos + 1) HIT.out)
      obtain ⟨n, hn⟩ : ∃ n, s.data.toList.count c = n := ⟨_, rfl⟩
      have HN := hid hn
      rw [hn] at HSN
      clear hn
      by_cases hcnt : 0 < n
      · go_wp2_with fail
        refine (countLetter_at s c hs (tyOf_ascii hty.out) n HN _).mono ?_
        rintro e w2 ⟨rfl, hb2⟩
        clear hnx
        go_wp2_with fail
        have hw2 : w2.heap[w1.heap.size]? = some (.stringIter V6 (pos + 1)) := by
          rw [hb2.block _ (by rw [Lib.iterAt_size]; exact hsz)]
          exact HH.out
        have hz2 : wr.heap.size ≤ w2.heap.size := by have := hb2.size; rwa [Lib.iterAt_size] at this
        go_roundw
        case rel =>
          refine ⟨pos + 1, _, hlt, rfl, ?_, hw2, (Lib.below_iterAt hbel z1 V6 (pos + 1)).trans (hb2.mono (by rw [Lib.iterAt_size]; have := hbel.size; omega)), by omega⟩
          rw [HENC.out, append_list, HB.out, HSN.out, if_pos hcnt]
        case measure =>
          rw [HPOS.out]
          unfold World.iterPos
          rw [hw2]
          show 6 - (pos + 1) < 6 - pos
          omega
      · go_wp2_with fail
        refine (countLetter_at s c hs (tyOf_ascii hty.out) n HN _).mono ?_
        rintro e w2 ⟨rfl, hb2⟩
        clear hnx
        go_wp2_with fail
        have hw2 : w2.heap[w1.heap.size]? = some (.stringIter V6 (pos + 1)) := by
          rw [hb2.block _ (by rw [Lib.iterAt_size]; exact hsz)]
          exact HH.out
        have hz2 : wr.heap.size ≤ w2.heap.size := by have := hb2.size; rwa [Lib.iterAt_size] at this
        go_roundw
        case rel =>
          refine ⟨pos + 1, _, hlt, rfl, ?_, hw2, (Lib.below_iterAt hbel z1 V6 (pos + 1)).trans (hb2.mono (by rw [Lib.iterAt_size]; have := hbel.size; omega)), by omega⟩
          rw [HB.out, HSN.out, if_neg hcnt, List.append_nil]
        case measure =>
          rw [HPOS.out]
          unfold World.iterPos
          rw [hw2]
          show 6 - (pos + 1) < 6 - pos
          omega
    · have hnx : ∀ ty, (Instr.next (.pointer (some ⟨w1.heap.size, 0, none⟩)) true ty).run Tryd.prog wr = _ := fun ty => Lib.run_next_end_at wr w1.heap.size V6 pos ty HIT.out hlt
      go_wp2_with fail
      go_ret
      refine ⟨?_, hbel⟩
      have e6 : pos = 6 := by omega
      subst e6
      show Ending.returned (.string b) = .returned (.string _)
      rw [strOf_eq HB.out]
      rfl

set_option maxHeartbeats 400000 in
set_option maxRecDepth 100000 in
theorem varsI_none (s : ByteArray) (hs : s.size ≤ maxLen) (ht : Hid ((tyOf s.data.toList).isSome = false)) (w : World) :
    Calls Tryd.prog 68 #[.string s] w fun e w' => e = .returned (.string ⟨#[]⟩) ∧ Below w.heap.size w w' := by
  go_enter Tryd.func68, Tryd.ntmps68
  go_wp2_with (go_at_call 37; refine (typeValidI_at s _ hs false ht).mono ?_; rintro e w1 ⟨rfl, hb1⟩)
  go_ret
  exact ⟨rfl, hb1⟩

theorem V6_cell (i : Nat) (h : i < 6) : (#[Value.string { data := #[88] }, .string { data := #[89] }, .string { data := #[90] }, .string { data := #[120] }, .string { data := #[121] }, .string { data := #[122] }] : Array Value)[i]? = some (.string (strOf [V6[i]'h])) := by
  match i, h with
  | 0, _ => rfl
  | 1, _ => rfl
  | 2, _ => rfl
  | 3, _ => rfl
  | 4, _ => rfl
  | 5, _ => rfl

/-- What the model's loop adds for a letter. -/
theorem cv_pos (s : ByteArray) (c : UInt8) (hc : isVarB c = true) : (0 < cvOf s (strOf [c])) ↔ ((tyOf s.data.toList).isSome = true ∧ 0 < s.data.toList.count c) := by
  have h1 : (strOf [c]).data.toList.headD 0 = c := rfl
  have h2 : (strOf [c]).size = 1 := rfl
  rw [cvOf, h1]
  by_cases ht : (tyOf s.data.toList).isSome = true
  · rw [if_pos ⟨ht, h2, hc⟩]
    simp only [ht, true_and]
    omega
  · rw [if_neg (fun h => ht h.1)]
    simp [ht]
theorem V6_var (i : Nat) (h : i < 6) : isVarB (V6[i]'h) = true := by
  match i, h with
  | 0, _ => rfl
  | 1, _ => rfl
  | 2, _ => rfl
  | 3, _ => rfl
  | 4, _ => rfl
  | 5, _ => rfl

/-- A type's variables. -/
def varsOf (l : List UInt8) : List UInt8 := if (tyOf l).isSome = true then varsIn l V6.data.toList else []

set_option maxHeartbeats 1000000 in
set_option maxRecDepth 100000 in
theorem varsS_any (s : ByteArray) (hs : s.size ≤ maxLen) (w : World) :
    Calls Tryd.prog 44 #[.string s] w fun e w' => e = .returned (.string (strOf (varsOf s.data.toList))) ∧ Below w.heap.size w w' := by
  go_enter Tryd.func44, Tryd.ntmps44
  go_wp2_with fail
  go_loopw [3, 5, 8] (fun o _ k wr => ∃ (pos : Nat) (b : ByteArray), pos ≤ 6 ∧ k = .int .i64 pos ∧ o = .string b ∧ b.data.toList = (if (tyOf s.data.toList).isSome = true then varsIn s.data.toList (V6.data.toList.take pos) else []) ∧
      wr.heap[w.heap.size]? = some (.cells #[.string { data := #[88] }, .string { data := #[89] }, .string { data := #[90] }, .string { data := #[120] }, .string { data := #[121] }, .string { data := #[122] }] 9 (0, 0)) ∧ Below w.heap.size w wr)
    (fun _ _ k _ => 6 - (intOf k).toNat)
  case atStart =>
    refine ⟨0, ⟨#[]⟩, Nat.zero_le _, rfl, rfl, ?_, heap_new1 _ _, (Below.refl _ _).alloc (Nat.le_refl _) _⟩
    split <;> rfl
  case round =>
    obtain ⟨pos, b, hp, rfl, rfl, hb, hit, hbel⟩ := hrel
    have hbl : b.size ≤ 6 := by
      have h1 : b.size = b.data.toList.length := by simp
      rw [h1, hb]
      split
      · exact Nat.le_trans (varsIn_len _ _) (Nat.le_trans (List.length_take_le _ _) hp)
      · exact Nat.zero_le _
    have HB := hid hb
    have HIT := hid hit
    clear hb hit
    by_cases hlt : pos < 6
    · have hsn := varsIn_snoc s.data.toList pos hlt
      have hvar := V6_var pos hlt
      have hce := V6_cell pos hlt
      obtain ⟨c, hc⟩ : ∃ c, V6[pos]'hlt = c := ⟨_, rfl⟩
      rw [hc] at hsn hvar hce
      clear hc
      have HSN := hid hsn
      have hpos := cv_pos s c hvar
      have hvs : (strOf [c]).size ≤ 1 := Nat.le_refl _
      have happ := append_list b [c]
      obtain ⟨v, hv⟩ : ∃ v, strOf [c] = v := ⟨_, rfl⟩
      rw [hv] at hce hpos hvs happ
      clear hsn hv hvar
      obtain ⟨k, hk⟩ : ∃ k, cvOf s v = k := ⟨_, rfl⟩
      rw [hk] at hpos
      have HK := hid hk
      have HAPP := hid happ
      have HPOS := hid hpos
      clear hk hpos happ
      have hcell : wr.cell? ⟨w.heap.size, pos, none⟩ = some (.string v) := by
        unfold World.cell?
        rw [show wr.heap[(⟨w.heap.size, pos, none⟩ : Addr).block]? = _ from HIT.out]
        exact hce
      clear hce
      have zr : w.heap.size < wr.heap.size := (Array.getElem?_eq_some_iff.1 HIT.out).1
      by_cases h0 : 0 < k
      · go_wp2_with fail
        refine (countVarS_at s v hs (by unfold maxLen; omega) _ k HK).mono ?_
        rintro e w2 ⟨rfl, hb2⟩
        go_wp2_with fail
        go_roundw
        case rel =>
          refine ⟨pos + 1, _, hlt, by go_num, rfl, ?_, (hb2.block _ zr).trans HIT.out, hbel.trans (hb2.mono hbel.size)⟩
          obtain ⟨ht, hc⟩ := HPOS.out.1 h0
          rw [HAPP.out, HB.out, if_pos ht, if_pos ht, HSN.out, if_pos hc]
        case measure => simp [intOf]; omega
      · go_wp2_with fail
        refine (countVarS_at s v hs (by unfold maxLen; omega) _ k HK).mono ?_
        rintro e w2 ⟨rfl, hb2⟩
        go_wp2_with fail
        go_roundw
        case rel =>
          refine ⟨pos + 1, _, hlt, by go_num, rfl, ?_, (hb2.block _ zr).trans HIT.out, hbel.trans (hb2.mono hbel.size)⟩
          rw [HB.out]
          by_cases ht : (tyOf s.data.toList).isSome = true
          · rw [if_pos ht, if_pos ht, HSN.out, if_neg (fun hc => absurd (HPOS.out.2 ⟨ht, hc⟩) (by omega)), List.append_nil]
          · rw [if_neg ht, if_neg ht]
        case measure => simp [intOf]; omega
    · go_wp2_with fail
      go_ret
      refine ⟨?_, hbel⟩
      have e6 : pos = 6 := by omega
      subst e6
      show Ending.returned (.string b) = .returned (.string _)
      rw [strOf_eq HB.out]
      rfl

theorem varsI_any (s : ByteArray) (hs : s.size ≤ maxLen) (w : World) :
    Calls Tryd.prog 68 #[.string s] w fun e w' => e = .returned (.string (strOf (varsOf s.data.toList))) ∧ Below w.heap.size w w' := by
  cases ht : tyOf s.data.toList with
  | none =>
    have hts : (tyOf s.data.toList).isSome = false := by rw [ht]; rfl
    rw [varsOf, hts, if_neg (by decide)]
    exact varsI_none s hs hts w
  | some t =>
    have hts : (tyOf s.data.toList).isSome = true := by rw [ht]; rfl
    rw [varsOf, hts, if_pos rfl]
    exact varsI_some s hs t ht hts w

theorem varsI_at (s : ByteArray) (hs : s.size ≤ maxLen) (w : World) (r : ByteArray) (hr : Hid (strOf (varsOf s.data.toList) = r)) :
    Calls Tryd.prog 68 #[.string s] w fun e w' => e = .returned (.string r) ∧ Below w.heap.size w w' := by
  rw [← hr.out]
  exact varsI_any s hs w
theorem varsS_at (s : ByteArray) (hs : s.size ≤ maxLen) (w : World) (r : ByteArray) (hr : Hid (strOf (varsOf s.data.toList) = r)) :
    Calls Tryd.prog 44 #[.string s] w fun e w' => e = .returned (.string r) ∧ Below w.heap.size w w' := by
  rw [← hr.out]
  exact varsS_any s hs w

/-- A type without variables. -/
def groundB (l : List UInt8) : Bool := (tyOf l).isSome && (varsOf l).isEmpty

end Go.Proofs.YtgbbobjkhpplkaaDoor

namespace Go.Proofs.YtgbbobjkhpplkaaDoor
open Go.RowKit

/-- A capital letter in place of a small variable. -/
def capB (c : UInt8) : UInt8 := if 120 ≤ c ∧ c ≤ 122 then c - 120 + 88 else c
def Ty.ren : Ty → Ty
  | .lf c => .lf (capB c)
  | .un c a => .un c a.ren
  | .bi c a b => .bi c a.ren b.ren
theorem capB_ar (c : UInt8) (h : ar c = 0) : ar (capB c) = 0 := by
  revert h
  refine u8_all (p := fun c => ar c = 0 → ar (capB c) = 0) ?_ c
  decide +kernel
theorem capB_var (c : UInt8) (h : isVarB c = true) : isVarB (capB c) = true := by
  revert h
  refine u8_all (p := fun c => isVarB c = true → isVarB (capB c) = true) ?_ c
  decide +kernel
theorem capB_con (c : UInt8) (h : isVarB c = false) : capB c = c := by
  revert h
  refine u8_all (p := fun c => isVarB c = false → capB c = c) ?_ c
  decide +kernel
theorem ren_ok {t : Ty} (h : t.ok) : t.ren.ok := by
  induction t with
  | lf c => exact capB_ar c h
  | un c a ih => exact ⟨h.1, ih h.2⟩
  | bi c a b iha ihb => exact ⟨h.1, iha h.2.1, ihb h.2.2⟩
theorem capB_head (c : UInt8) (h : 0 < ar c) : capB c = c := by
  revert h
  refine u8_all (p := fun c => 0 < ar c → capB c = c) ?_ c
  decide +kernel
theorem ren_text {t : Ty} (h : t.ok) : t.ren.text = t.text.map capB := by
  induction t with
  | lf c => rfl
  | un c a ih =>
    have e : capB c = c := capB_head c (by rw [h.1]; decide)
    simp [Ty.ren, Ty.text, ih h.2, e]
    exact ⟨rfl, rfl⟩
  | bi c a b iha ihb =>
    have e : capB c = c := capB_head c (by rw [h.1]; decide)
    simp [Ty.ren, Ty.text, iha h.2.1, ihb h.2.2, e]
    exact ⟨rfl, rfl, rfl⟩

theorem cap_sub (c : UInt8) (h : (120 : Int) ≤ c.toNat) (h' : (c.toNat : Int) ≤ 122) : (c.toNat : Int) - 120 + 88 = (capB c).toNat := by
  have h1 : 120 ≤ c.toNat := by omega
  have h2 : c.toNat ≤ 122 := by omega
  clear h h'
  revert h1 h2
  refine u8_all (p := fun c => 120 ≤ c.toNat → c.toNat ≤ 122 → (c.toNat : Int) - 120 + 88 = (capB c).toNat) ?_ c
  decide +kernel
theorem cap_same (c : UInt8) (h : ¬ ((120 : Int) ≤ c.toNat ∧ (c.toNat : Int) ≤ 122)) : capB c = c := by
  have h1 : ¬ (120 ≤ c.toNat ∧ c.toNat ≤ 122) := by omega
  clear h
  revert h1
  refine u8_all (p := fun c => ¬ (120 ≤ c.toNat ∧ c.toNat ≤ 122) → capB c = c) ?_ c
  decide +kernel

theorem ta_var_var (b : Nat) (w : World) : (Instr.typeAssert (.iface 102 (.pointer (some ⟨b, 0, none⟩))) 86 102 true).run Tryd.prog w = .ok (.tuple #[.pointer (some ⟨b, 0, none⟩), .bool true]) w := by kernel_rfl
theorem ta_con_var (b : Nat) (w : World) : (Instr.typeAssert (.iface 126 (.pointer (some ⟨b, 0, none⟩))) 86 102 true).run Tryd.prog w = .ok (.tuple #[.pointer none, .bool false]) w := by kernel_rfl
theorem ta_con_cst (b : Nat) (w : World) : (Instr.typeAssert (.iface 126 (.pointer (some ⟨b, 0, none⟩))) 86 119 true).run Tryd.prog w = .ok (.tuple #[.pointer none, .bool false]) w := by kernel_rfl
theorem ta_cst_var (b : Nat) (w : World) : (Instr.typeAssert (.iface 119 (.pointer (some ⟨b, 0, none⟩))) 86 102 true).run Tryd.prog w = .ok (.tuple #[.pointer none, .bool false]) w := by kernel_rfl
theorem ta_cst_cst (b : Nat) (w : World) : (Instr.typeAssert (.iface 119 (.pointer (some ⟨b, 0, none⟩))) 86 119 true).run Tryd.prog w = .ok (.tuple #[.pointer (some ⟨b, 0, none⟩), .bool true]) w := by kernel_rfl

/-- A letter of the program's own variables, or one of the others that it uses. -/
def isVarX (c : UInt8) : Bool := isVarB c || c == 82 || c == 83 || c == 84 || c == 114 || c == 115 || c == 116
theorem isVarX_ok {c : UInt8} (h : ar c = 0) : isVarX c = isVarB c := by
  revert h
  refine u8_all (p := fun c => ar c = 0 → isVarX c = isVarB c) ?_ c
  decide +kernel

theorem capX_var (c : UInt8) (h : isVarX c = true) : isVarX (capB c) = true := by
  revert h
  refine u8_all (p := fun c => isVarX c = true → isVarX (capB c) = true) ?_ c
  decide +kernel

/-- Variables replaced. -/
def Ty.sub (σ : UInt8 → Ty) : Ty → Ty
  | .lf c => if isVarX c = true then σ c else .lf c
  | .un c a => .un c (a.sub σ)
  | .bi c a b => .bi c (a.sub σ) (b.sub σ)
theorem ren_sub {t : Ty} (h : t.ok) : t.sub (fun c => .lf (capB c)) = t.ren := by
  induction t with
  | lf c =>
    rcases hv : isVarX c with _ | _
    · have : isVarB c = false := by rw [← isVarX_ok h]; exact hv
      simp [Ty.sub, Ty.ren, hv, capB_con c this]
    · simp [Ty.sub, Ty.ren, hv]
  | un c a ih => simp [Ty.sub, Ty.ren, ih h.2]
  | bi c a b iha ihb => simp [Ty.sub, Ty.ren, iha h.2.1, ihb h.2.2]

/-- As Rep, the memory in blocks of S. -/
def RepP (w : World) (S : Nat → Prop) : Ty → Value → Prop
  | .lf c, v => ∃ b, S b ∧ ((isVarX c = true ∧ v = .iface 102 (.pointer (some ⟨b, 0, none⟩)) ∧ w.heap[b]? = some (.cells #[.int .u8 c.toNat] 125 (0, 0))) ∨
      (isVarX c = false ∧ v = .iface 126 (.pointer (some ⟨b, 0, none⟩)) ∧ w.heap[b]? = some (.cells #[.int .u8 c.toNat] 127 (0, 0))))
  | .un c a, v => ∃ b g cap x, S b ∧ S g ∧ v = .iface 119 (.pointer (some ⟨b, 0, none⟩)) ∧
      w.heap[b]? = some (.cells #[.int .u8 c.toNat, .slice (some ⟨g, 0, none⟩) 1 cap] 123 (0, 0)) ∧ w.cell? ⟨g, 0, none⟩ = some x ∧ RepP w S a x
  | .bi c a a', v => ∃ b g cap x x', S b ∧ S g ∧ v = .iface 119 (.pointer (some ⟨b, 0, none⟩)) ∧
      w.heap[b]? = some (.cells #[.int .u8 c.toNat, .slice (some ⟨g, 0, none⟩) 2 cap] 123 (0, 0)) ∧ w.cell? ⟨g, 0, none⟩ = some x ∧ w.cell? ⟨g, 1, none⟩ = some x' ∧ RepP w S a x ∧ RepP w S a' x'
theorem RepP.keep {w w' : World} {S S' : Nat → Prop} {t : Ty} : ∀ {v : Value}, RepP w S t v → (∀ k, S k → S' k ∧ w'.heap[k]? = w.heap[k]?) → RepP w' S' t v := by
  induction t with
  | lf c =>
    rintro v ⟨b, h1, h3⟩ hk
    refine ⟨b, (hk b h1).1, ?_⟩
    rw [(hk b h1).2]
    exact h3
  | un c a ih =>
    rintro v ⟨b, g, cap, x, h1, h3, h5, h6, h7, h8⟩ hk
    refine ⟨b, g, cap, x, (hk b h1).1, (hk g h3).1, h5, (hk b h1).2.trans h6, ?_, ih h8 hk⟩
    rw [World.cell?_of_block (w := w) (hk g h3).2]
    exact h7
  | bi c a a' ih ih' =>
    rintro v ⟨b, g, cap, x, x', h1, h3, h5, h6, h7, h7', h8, h9⟩ hk
    refine ⟨b, g, cap, x, x', (hk b h1).1, (hk g h3).1, h5, (hk b h1).2.trans h6, ?_, ?_, ih h8 hk, ih' h9 hk⟩
    · rw [World.cell?_of_block (w := w) (hk g h3).2]
      exact h7
    · rw [World.cell?_of_block (w := w) (hk g h3).2]
      exact h7'
theorem RepP.form {w : World} {S : Nat → Prop} {t : Ty} {v : Value} (hr : RepP w S t v) : ∃ T b, v = .iface T (.pointer (some ⟨b, 0, none⟩)) ∧ S b := by
  cases t with
  | lf c =>
    obtain ⟨b, h1, ⟨_, rfl, _⟩ | ⟨_, rfl, _⟩⟩ := hr
    · exact ⟨_, b, rfl, h1⟩
    · exact ⟨_, b, rfl, h1⟩
  | un c a => obtain ⟨b, g, cap, x, h1, _, rfl, _⟩ := hr; exact ⟨_, b, rfl, h1⟩
  | bi c a a' => obtain ⟨b, g, cap, x, x', h1, _, rfl, _⟩ := hr; exact ⟨_, b, rfl, h1⟩
theorem RepP.rep {w : World} {S : Nat → Prop} {lo hi : Nat} (hS : ∀ k, S k → lo ≤ k ∧ k < hi) {t : Ty} (ho : t.ok) : ∀ {v : Value}, RepP w S t v → Rep w lo hi t v := by
  induction t with
  | lf c =>
    rintro v ⟨b, h1, h3⟩
    rw [isVarX_ok ho] at h3
    exact ⟨b, (hS b h1).1, (hS b h1).2, h3⟩
  | un c a ih =>
    rintro v ⟨b, g, cap, x, h1, h3, h5, h6, h7, h8⟩
    exact ⟨b, g, cap, x, (hS b h1).1, (hS b h1).2, (hS g h3).1, (hS g h3).2, h5, h6, h7, ih ho.2 h8⟩
  | bi c a a' ih ih' =>
    rintro v ⟨b, g, cap, x, x', h1, h3, h5, h6, h7, h7', h8, h9⟩
    exact ⟨b, g, cap, x, x', (hS b h1).1, (hS b h1).2, (hS g h3).1, (hS g h3).2, h5, h6, h7, h7', ih ho.2.1 h8, ih' ho.2.2 h9⟩
theorem Rep.repP {w : World} {lo hi : Nat} {t : Ty} (ho : t.ok) : ∀ {v : Value}, Rep w lo hi t v → RepP w (fun k => lo ≤ k ∧ k < hi) t v := by
  induction t with
  | lf c =>
    rintro v ⟨b, h1, h2, h3⟩
    rw [← isVarX_ok ho] at h3
    exact ⟨b, ⟨h1, h2⟩, h3⟩
  | un c a ih =>
    rintro v ⟨b, g, cap, x, h1, h2, h3, h4, h5, h6, h7, h8⟩
    exact ⟨b, g, cap, x, ⟨h1, h2⟩, ⟨h3, h4⟩, h5, h6, h7, ih ho.2 h8⟩
  | bi c a a' ih ih' =>
    rintro v ⟨b, g, cap, x, x', h1, h2, h3, h4, h5, h6, h7, h7', h8, h9⟩
    exact ⟨b, g, cap, x, x', ⟨h1, h2⟩, ⟨h3, h4⟩, h5, h6, h7, h7', ih ho.2.1 h8, ih' ho.2.2 h9⟩

/-- A function of the program that gives σ c for a variable c, in blocks of S' or new ones; w0: what it must find unchanged. -/
def Gives (fn : Nat) (cap : Array Value) (w0 : World) (S S' : Nat → Prop) (σ : UInt8 → Ty) : Prop :=
  ∀ (w : World) (b : Nat) (c : UInt8), Below w0.heap.size w0 w → S b → isVarX c = true → w.heap[b]? = some (.cells #[.int .u8 c.toNat] 125 (0, 0)) →
    Calls Tryd.prog fn (#[.pointer (some ⟨b, 0, none⟩)] ++ cap) w fun e w' => ∃ T b', e = .returned (.iface T (.pointer (some ⟨b', 0, none⟩))) ∧
      RepP w' (fun k => S' k ∨ (w.heap.size ≤ k ∧ k < w'.heap.size)) (σ c) (.iface T (.pointer (some ⟨b', 0, none⟩))) ∧ Below w.heap.size w w'

end Go.Proofs.YtgbbobjkhpplkaaDoor

namespace Go.Proofs.YtgbbobjkhpplkaaDoor
open Go.RowKit

/-- A renamed type's text. -/
def renOf (l : List UInt8) : List UInt8 := if (tyOf l).isSome = true then l.map capB else []

end Go.Proofs.YtgbbobjkhpplkaaDoor
