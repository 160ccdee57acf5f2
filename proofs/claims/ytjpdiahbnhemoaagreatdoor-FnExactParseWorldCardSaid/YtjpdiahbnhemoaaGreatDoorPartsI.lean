/- SizeOf and DepthOf, in the program and in the model. The functions of chapter 1 that look at a type's text alone: HeadOf, CountVar, VarsOf, IsGround, in the program and in the model. The program's text of a node and of its parts: text, partTexts, joinType; and so PartsOf. -/
import Derived.Test.YtjpdiahbnhemoaaGreatDoorSpecT
import Derived.LoopN
import Derived.Test.YtjpdiahbnhemoaaGreatDoorJoin
namespace Go.Proofs.YtjpdiahbnhemoaaGreatDoor
open Go.RowKit

def Ty.size : Ty → Nat
  | .lf _ => 1
  | .un _ a => 1 + a.size
  | .bi _ a b => 1 + a.size + b.size
def Ty.depth : Ty → Nat
  | .lf _ => 0
  | .un _ a => 1 + a.depth
  | .bi _ a b => max (1 + a.depth) (1 + b.depth)
theorem size_text (t : Ty) : t.size ≤ t.text.length := by
  induction t with
  | lf c => simp [Ty.size, Ty.text]
  | un c a ih => simp [Ty.size, Ty.text]; omega
  | bi c a b iha ihb => simp [Ty.size, Ty.text]; omega
theorem depth_size (t : Ty) : t.depth ≤ t.size := by
  induction t with
  | lf c => simp [Ty.size, Ty.depth]
  | un c a ih => simp [Ty.size, Ty.depth]; omega
  | bi c a b iha ihb => simp [Ty.size, Ty.depth]; omega

theorem cell_below {w w' : World} {g k : Nat} {x : Value} (h : w.cell? ⟨g, k, none⟩ = some x) (hg : g < w.heap.size) (hb : Below w.heap.size w w') : w'.cell? ⟨g, k, none⟩ = some x :=
  (hb.cell (p := ⟨g, k, none⟩) hg).trans h
theorem RepN.form {w : World} {S : Nat → Prop} {t : Ty} {h p : Value} (hr : RepN w S t h p) : ∃ (c : UInt8) (A : Option Addr) (m cap : Nat), h = .int .u8 c.toNat ∧ p = .slice A m cap := by
  cases t with
  | lf c => obtain ⟨h1, A, cap, h2⟩ := hr; exact ⟨c, A, 0, cap, h1, h2⟩
  | un c a => obtain ⟨h1, g, cap, _, _, h2, _⟩ := hr; exact ⟨c, _, 1, cap, h1, h2⟩
  | bi c a b => obtain ⟨h1, g, cap, _, _, _, _, h2, _⟩ := hr; exact ⟨c, _, 2, cap, h1, h2⟩
theorem RepN.below {w w' : World} {S : Nat → Prop} {t : Ty} {h p : Value} (hr : RepN w S t h p) (hS : ∀ g, S g → g < w.heap.size) (hb : Below w.heap.size w w') : RepN w' S t h p :=
  hr.keep fun g hg => ⟨hg, hb.block g (hS g hg)⟩

/-- A type's size; -1 for what is none. -/
def sizeOf' (l : List UInt8) : Int := match tyOf l with | some t => (t.size : Nat) | none => -1
theorem tyOf_size {l : List UInt8} {t : Ty} (h : tyOf l = some t) : t.size ≤ 60 := by
  obtain ⟨e, _, hl⟩ := tyOf_text h
  have := size_text t
  rw [e] at hl
  omega

end Go.Proofs.YtjpdiahbnhemoaaGreatDoor

namespace Go.Proofs.YtjpdiahbnhemoaaGreatDoor
open Go.RowKit

/-- A string out of a list of bytes. -/
def strOf (l : List UInt8) : ByteArray := ⟨l.toArray⟩
theorem strOf_list (l : List UInt8) : (strOf l).data.toList = l := by simp [strOf]
theorem strOf_eq {s : ByteArray} {l : List UInt8} (h : s.data.toList = l) : s = strOf l := by
  cases s with
  | mk d =>
    cases d with
    | mk x => simp at h; subst h; rfl

theorem ascii_of (c : UInt8) (h : 0 ≤ ar c) : c.toNat < 128 := by
  revert h
  refine u8_all (p := fun c => 0 ≤ ar c → c.toNat < 128) ?_ c
  decide +kernel

theorem encode_ascii (c : UInt8) (h : c.toNat < 128) : Utf8.encode (c.toNat : Nat) = strOf [c] := by
  revert h
  refine u8_all (p := fun c => c.toNat < 128 → Utf8.encode (c.toNat : Nat) = strOf [c]) ?_ c
  decide +kernel

theorem take_snoc (s : ByteArray) (k : Nat) (h : k < s.size) : s.data.toList.take (k + 1) = s.data.toList.take k ++ [s[k]] := by
  rw [List.take_succ_eq_append_getElem (by simpa using h)]; rfl
theorem count_snoc (s : ByteArray) (c : UInt8) (k : Nat) (h : k < s.size) :
    ((s.data.toList.take (k + 1)).count c : Nat) = (s.data.toList.take k).count c + (if ((s[k].toNat : Int) == c.toNat) = true then 1 else 0) := by
  rw [take_snoc s k h, List.count_append]
  congr 1
  by_cases e : s[k] = c
  · simp [e]
  · have h1 : ¬ (s[k].toNat = c.toNat) := fun h => e (UInt8.toNat_inj.1 h)
    have h2 : ¬ ((s[k].toNat : Int) = c.toNat) := by omega
    simp [e, h2]

set_option maxHeartbeats 400000 in
set_option maxRecDepth 100000 in
theorem countLetter_any (s : ByteArray) (c : UInt8) (hs : s.size ≤ maxLen) (ha : ∀ i, (h : i < s.size) → (s[i]'h).toNat < 128) (w : World) :
    Calls Tryz.prog 80 #[.string s, .int .i32 c.toNat] w fun e w' => e = .returned (.int .i64 (s.data.toList.count c)) ∧ Below w.heap.size w w' := by
  unfold maxLen at hs
  go_enter Tryz.func80, Tryz.ntmps80
  go_wp2
  go_loopw [5] (fun n w' => ∃ (pos : Nat), pos ≤ s.size ∧ w' = w.iter s pos ∧ n = .int .i64 ((s.data.toList.take pos).count c : Nat)) (fun _ w' => s.size - w'.iterPos w.heap.size)
  case atStart => exact ⟨0, Nat.zero_le _, rfl, rfl⟩
  case round =>
    obtain ⟨pos, hp, rfl, rfl⟩ := hrel
    by_cases hlt : pos < s.size
    · have hnx : ∀ ty, (Instr.next (.pointer (some ⟨w.heap.size, 0, none⟩)) true ty).run Tryz.prog (w.iter s pos) = _ := fun ty => run_next_ascii w s pos ty hlt (ha pos hlt)
      have hcnt : (s.data.toList.take pos).count c ≤ pos := Nat.le_trans List.count_le_length (List.length_take_le _ _)
      have hsn := count_snoc s c pos hlt
      have HSN := hid hsn
      clear hsn
      go_wp2
      · have h : (↑s[pos].toNat == (c.toNat : Int)) = true := by assumption
        go_roundw
        case rel => exact ⟨pos + 1, hlt, rfl, by rw [HSN.out, if_pos h]; go_num⟩
        case measure => simp; omega
      · have h : (↑s[pos].toNat == (c.toNat : Int)) = false := by assumption
        go_roundw
        case rel => exact ⟨pos + 1, hlt, rfl, by rw [HSN.out, if_neg (by rw [h]; decide)]; rfl⟩
        case measure => simp; omega
    · have hnx : ∀ ty, (Instr.next (.pointer (some ⟨w.heap.size, 0, none⟩)) true ty).run Tryz.prog (w.iter s pos) = _ := fun ty => run_next_end w s pos ty hlt
      go_wp2
      go_ret
      exact ⟨ret_int (by rw [List.take_of_length_le (by simp; omega)]), (Below.refl _ _).alloc (Nat.le_refl _) _⟩

theorem text_ascii {t : Ty} (h : t.ok) : ∀ x ∈ t.text, x.toNat < 128 := by
  induction t with
  | lf c =>
    intro x hx
    simp [Ty.text] at hx
    subst hx
    exact ascii_of x (by rw [show ar x = 0 from h]; decide)
  | un c a ih =>
    intro x hx
    simp [Ty.text] at hx
    rcases hx with rfl | rfl | hx | rfl
    · exact ascii_of x (by rw [h.1]; decide)
    · decide
    · exact ih h.2 x hx
    · decide
  | bi c a b iha ihb =>
    intro x hx
    simp [Ty.text] at hx
    rcases hx with rfl | rfl | hx | rfl | hx | rfl
    · exact ascii_of x (by rw [h.1]; decide)
    · decide
    · exact iha h.2.1 x hx
    · decide
    · exact ihb h.2.2 x hx
    · decide
theorem tyOf_ascii {s : ByteArray} {t : Ty} (h : tyOf s.data.toList = some t) : ∀ i, (h : i < s.size) → (s[i]'h).toNat < 128 := by
  intro i hi
  obtain ⟨e, ho, _⟩ := tyOf_text h
  have hm : s[i] ∈ s.data.toList := by
    rw [List.mem_iff_getElem]
    exact ⟨i, by simpa using hi, rfl⟩
  rw [e] at hm
  exact text_ascii ho _ hm

set_option maxHeartbeats 400000 in
set_option maxRecDepth 100000 in
theorem countVarS_bad (s v : ByteArray) (hs : s.size ≤ maxLen) (hv : v.size ≤ maxLen) (b : Bool) (ht : Hid ((tyOf s.data.toList).isSome = b)) (hb : b = false ∨ v.size ≠ 1) (w : World) :
    Calls Tryz.prog 69 #[.string s, .string v] w fun e w' => e = .returned (.int .i64 (-1)) ∧ Below w.heap.size w w' := by
  have hm := hv
  unfold maxLen at hm
  by_cases hb1 : b = false
  · subst hb1
    go_enter Tryz.func69, Tryz.ntmps69
    go_wp2_with (go_at_call 52; refine (typeValidS_at s _ hs false ht).mono ?_; rintro e w1 ⟨rfl, hb1⟩)
    go_ret
    exact ⟨rfl, hb1⟩
  · have hb2 : b = true := by simpa using hb1
    have h1 : v.size ≠ 1 := by
      rcases hb with h | h
      · exact absurd h hb1
      · exact h
    have hz : ((v.size : Int) != 1) = true := by simp only [bne_iff_ne, ne_eq]; omega
    clear h1
    subst hb2
    clear hb hb1
    go_enter Tryz.func69, Tryz.ntmps69
    go_wp2_with (go_at_call 52; refine (typeValidS_at s _ hs true ht).mono ?_; rintro e w1 ⟨rfl, hb1⟩)
    go_ret
    exact ⟨rfl, hb1⟩

theorem l1Variable_at (c : UInt8) (k : Bool) (h : Hid (isVarB c = k)) (w : World) :
    Calls Tryz.prog 54 #[.int .u8 c.toNat] w fun e w' => e = .returned (.bool k) ∧ w = w' := by
  rw [← h.out]
  exact (l1Variable_any c w).mono fun _ _ ⟨h1, h2⟩ => ⟨h1, h2.symm⟩
theorem below_drewN' {B : Nat} {a w : World} (h : Below B a w) (n : Nat) : Below B a (w.drewN n) := ⟨h.os, h.tape, h.output, h.size, h.block⟩

set_option maxHeartbeats 400000 in
set_option maxRecDepth 100000 in
theorem countVarS_no (s v : ByteArray) (hs : s.size ≤ maxLen) (h0 : 0 < v.size) (hz : ((v.size : Int) != 1) = false) (ht : Hid ((tyOf s.data.toList).isSome = true)) (hb : Hid (isVarB v[0] = false)) (w : World) :
    Calls Tryz.prog 69 #[.string s, .string v] w fun e w' => e = .returned (.int .i64 (-1)) ∧ Below w.heap.size w w' := by
  go_enter Tryz.func69, Tryz.ntmps69
  go_wp2_with (first | (go_at_call 52; refine (typeValidS_at s _ hs true ht).mono ?_; rintro e w1 ⟨rfl, hb1⟩) | (go_at_call 54; refine (l1Variable_at _ false hb _).mono ?_; rintro e w' ⟨rfl, rfl⟩))
  go_ret
  exact ⟨rfl, hb1⟩

set_option maxHeartbeats 400000 in
set_option maxRecDepth 100000 in
theorem countVarS_yes (s v : ByteArray) (hs : s.size ≤ maxLen) (h0 : 0 < v.size) (hz : ((v.size : Int) != 1) = false) (ht : Hid ((tyOf s.data.toList).isSome = true)) (hb : Hid (isVarB v[0] = true)) (w : World) :
    Calls Tryz.prog 69 #[.string s, .string v] w fun e w' => e = .returned (.int .i64 (s.data.toList.count v[0] : Nat)) ∧ Below w.heap.size w w' := by
  have hm := hs
  unfold maxLen at hm
  go_enter Tryz.func69, Tryz.ntmps69
  go_wp2_with (first | (go_at_call 52; refine (typeValidS_at s _ hs true ht).mono ?_; rintro e w1 ⟨rfl, hb1⟩) | (go_at_call 54; refine (l1Variable_at _ true hb _).mono ?_; rintro e w' ⟨rfl, rfl⟩))
  go_loopw [5, 6, 23] (fun n i k wr => ∃ (pos m : Nat), pos ≤ s.size ∧ wr = w1.drewN m ∧ k = .int .i64 pos ∧ n = .int .i64 ((s.data.toList.take pos).count v[0] : Nat)) (fun _ _ k _ => s.size - (intOf k).toNat)
  case atStart => exact ⟨0, 0, Nat.zero_le _, rfl, rfl, rfl⟩
  case round =>
    obtain ⟨pos, m, hp, rfl, rfl, rfl⟩ := hrel
    by_cases hlt : pos < s.size
    · have hcnt : (s.data.toList.take pos).count v[0] ≤ pos := Nat.le_trans List.count_le_length (List.length_take_le _ _)
      have HSN := hid (count_snoc s v[0] pos hlt)
      have hi1 : (0 : Int) ≤ (pos : Int) := by omega
      have hi2 : (pos : Int) < (s.size : Int) := by omega
      have hi3 : (0 : Int) < (v.size : Int) := by omega
      go_wp2_with fail
      go_quiet (fail)
      go_wp2_with fail
      · have h : (↑s[pos].toNat == (v[0].toNat : Int)) = true := by assumption
        go_roundw
        case rel => exact ⟨pos + 1, _, hlt, rfl, by go_num, by rw [HSN.out, if_pos h]; go_num⟩
        case measure => simp [intOf]; omega
      · have h : (↑s[pos].toNat == (v[0].toNat : Int)) = false := by assumption
        go_roundw
        case rel => exact ⟨pos + 1, _, hlt, rfl, by go_num, by rw [HSN.out, if_neg (by rw [h]; decide)]; rfl⟩
        case measure => simp [intOf]; omega
    · go_wp2_with fail
      go_ret
      exact ⟨ret_int (by rw [List.take_of_length_le (by simp; omega)]), below_drewN' hb1 m⟩

/-- How often a variable stands in a type; -1 where there is no such type or variable. -/
def cvOf (s v : ByteArray) : Int :=
  if (tyOf s.data.toList).isSome = true ∧ v.size = 1 ∧ isVarB (v.data.toList.headD 0) = true then (s.data.toList.count (v.data.toList.headD 0) : Nat) else -1

theorem head_at (v : ByteArray) (h : 0 < v.size) : v.data.toList.headD 0 = v[0] := by
  have e : v.data.toList[0]? = some v[0] := by
    rw [List.getElem?_eq_getElem (by simpa using h)]
    rfl
  cases hl : v.data.toList with
  | nil => rw [hl] at e; cases e
  | cons x l => rw [hl] at e; simpa using e

theorem countVarS_at (s v : ByteArray) (hs : s.size ≤ maxLen) (hv : v.size ≤ maxLen) (w : World) (k : Int) (hk : Hid (cvOf s v = k)) :
    Calls Tryz.prog 69 #[.string s, .string v] w fun e w' => e = .returned (.int .i64 k) ∧ Below w.heap.size w w' := by
  have hk := hk.out
  cases ht : tyOf s.data.toList with
  | none =>
    have e : k = -1 := by rw [← hk]; simp [cvOf, ht]
    subst e
    exact countVarS_bad s v hs hv false (by show (tyOf _).isSome = false; rw [ht]; rfl) (.inl rfl) w
  | some t =>
    have hts : Hid ((tyOf s.data.toList).isSome = true) := by show (tyOf _).isSome = true; rw [ht]; rfl
    by_cases h1 : v.size = 1
    · have hz : ((v.size : Int) != 1) = false := by simp [h1]
      have h0 : 0 < v.size := by omega
      cases hb : isVarB v[0] with
      | false =>
        have e : k = -1 := by rw [← hk, cvOf, head_at v h0, if_neg (by rw [hb]; simp)]
        subst e
        exact countVarS_no s v hs h0 hz hts hb w
      | true =>
        have e : k = (s.data.toList.count v[0] : Nat) := by rw [← hk, cvOf, head_at v h0, if_pos ⟨hts.out, h1, hb⟩]
        subst e
        exact countVarS_yes s v hs h0 hz hts hb w
    · have e : k = -1 := by rw [← hk]; simp [cvOf, h1]
      subst e
      exact countVarS_bad s v hs hv true hts (.inr h1) w

end Go.Proofs.YtjpdiahbnhemoaaGreatDoor

namespace Go.Proofs.YtjpdiahbnhemoaaGreatDoor
open Go.RowKit

theorem Rep.form {w : World} {lo hi : Nat} {t : Ty} {v : Value} (hr : Rep w lo hi t v) : ∃ T b, v = .iface T (.pointer (some ⟨b, 0, none⟩)) ∧ lo ≤ b ∧ b < hi := by
  cases t with
  | lf c =>
    obtain ⟨b, h1, h2, ⟨_, rfl, _⟩ | ⟨_, rfl, _⟩⟩ := hr
    · exact ⟨_, b, rfl, h1, h2⟩
    · exact ⟨_, b, rfl, h1, h2⟩
  | un c a => obtain ⟨b, g, cap, x, h1, h2, _, _, rfl, _⟩ := hr; exact ⟨_, b, rfl, h1, h2⟩
  | bi c a a' => obtain ⟨b, g, cap, x, x', h1, h2, _, _, rfl, _⟩ := hr; exact ⟨_, b, rfl, h1, h2⟩

/-- The text of a node, by its method. -/
def TextBy (t : Ty) : Prop := ∀ (lo hi T b : Nat) (w : World), Rep w lo hi t (.iface T (.pointer (some ⟨b, 0, none⟩))) → hi ≤ w.heap.size → t.ok → t.text.length ≤ 100000000000 →
  ∃ fn, (∀ w, (method 259 T (.pointer (some ⟨b, 0, none⟩)) "loop.example/instancesearch/impl.text").run Tryz.prog w = .ok (fn, .pointer (some ⟨b, 0, none⟩)) w) ∧
    (∀ args w, (callFunc fn args).run Tryz.prog w = .ok (.enter fn args) w) ∧
    Calls Tryz.prog fn #[.pointer (some ⟨b, 0, none⟩)] w fun e w' => e = .returned (.string (strOf t.text)) ∧ Below w.heap.size w w'

theorem stringInfo : (Tryz.prog.info? 9).map (fun i => (i.zero, i.size, i.bytes)) = some (some (.string ⟨#[]⟩), 1, 16) := by kernel_rfl

theorem own1 {w : World} {base : Nat} {e : TypeId} {v x : Value} (h : w.ownsRow base e 1 v 1 [x]) :
    ∃ g cap, v = .slice (some ⟨g, 0, none⟩) 1 cap ∧ base ≤ g ∧ g < w.heap.size ∧ w.cell? ⟨g, 0, none⟩ = some x ∧ 1 ≤ cap := by
  rcases h.2 with ⟨_, h0⟩ | ⟨g, cap, cur, rfl, hb, hg, hc, _, hz, ht⟩
  · cases h0
  · have c0 : cur[0]? = some x := by
      have := congrArg (·[0]?) ht
      simpa [List.getElem?_take] using this
    refine ⟨g, cap, rfl, hb, (Array.getElem?_eq_some_iff.1 hg).1, ?_, hc⟩
    unfold World.cell?
    rw [show w.heap[(⟨g, 0, none⟩ : Addr).block]? = _ from hg]
    exact c0

theorem news1 (w : World) (x : Value) (T : TypeId) : ∀ j u, [x][j]? = some u → (w.alloc (.cells #[x] T)).cell? ((⟨w.heap.size, 0, none⟩ : Addr).add j) = some u := by
  intro j u hj
  have e : j = 0 := by
    have := (List.getElem?_eq_some_iff.1 hj).1
    simp at this
    omega
  subst e
  simp only [List.getElem?_cons_zero, Option.some.injEq] at hj
  subst hj
  exact cell_new1 _ _ _

theorem strOf_size (l : List UInt8) : (strOf l).size = l.length := by
  show l.toArray.size = l.length
  simp

theorem join_two (x y sep : List UInt8) : Lib.join [x, y] sep = x ++ (sep ++ y) := by
  rw [Lib.join_cons]
  simp [Lib.joinTail]

end Go.Proofs.YtjpdiahbnhemoaaGreatDoor
