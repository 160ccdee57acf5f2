/- SizeOf and DepthOf, in the program and in the model. The functions of chapter 1 that look at a type's text alone: HeadOf, CountVar, VarsOf, IsGround, in the program and in the model. The program's text of a node and of its parts: text, partTexts, joinType; and so PartsOf. -/
import Derived.Test.YtlpfgiegapelmaaDoorSpecT
import Derived.LoopN
import Derived.Test.YtlpfgiegapelmaaDoorJoin
namespace Go.Proofs.YtlpfgiegapelmaaDoor
open Go.RowKit

def Ty.size : Ty → Nat
  | .lf _ => 1
  | .un _ a => 1 + a.size
  | .bi _ a b => 1 + a.size + b.size
def Ty.depth : Ty → Nat
  | .lf _ => 0
  | .un _ a => 1 + a.depth
  | .bi _ a b => max (1 + a.depth) (1 + b.depth)
theorem size_text (t : Ty) : t.size ≤ t.text.length := by
  induction t with
  | lf c => simp [Ty.size, Ty.text]
  | un c a ih => simp [Ty.size, Ty.text]; omega
  | bi c a b iha ihb => simp [Ty.size, Ty.text]; omega
theorem depth_size (t : Ty) : t.depth ≤ t.size := by
  induction t with
  | lf c => simp [Ty.size, Ty.depth]
  | un c a ih => simp [Ty.size, Ty.depth]; omega
  | bi c a b iha ihb => simp [Ty.size, Ty.depth]; omega

theorem cell_below {w w' : World} {g k : Nat} {x : Value} (h : w.cell? ⟨g, k, none⟩ = some x) (hg : g < w.heap.size) (hb : Below w.heap.size w w') : w'.cell? ⟨g, k, none⟩ = some x :=
  (hb.cell (p := ⟨g, k, none⟩) hg).trans h
theorem RepN.form {w : World} {S : Nat → Prop} {t : Ty} {h p : Value} (hr : RepN w S t h p) : ∃ (c : UInt8) (A : Option Addr) (m cap : Nat), h = .int .u8 c.toNat ∧ p = .slice A m cap := by
  cases t with
  | lf c => obtain ⟨h1, A, cap, h2⟩ := hr; exact ⟨c, A, 0, cap, h1, h2⟩
  | un c a => obtain ⟨h1, g, cap, _, _, h2, _⟩ := hr; exact ⟨c, _, 1, cap, h1, h2⟩
  | bi c a b => obtain ⟨h1, g, cap, _, _, _, _, h2, _⟩ := hr; exact ⟨c, _, 2, cap, h1, h2⟩
theorem RepN.below {w w' : World} {S : Nat → Prop} {t : Ty} {h p : Value} (hr : RepN w S t h p) (hS : ∀ g, S g → g < w.heap.size) (hb : Below w.heap.size w w') : RepN w' S t h p :=
  hr.keep fun g hg => ⟨hg, hb.block g (hS g hg)⟩

/-- A type's size; -1 for what is none. -/
def sizeOf' (l : List UInt8) : Int := match tyOf l with | some t => (t.size : Nat) | none => -1
theorem tyOf_size {l : List UInt8} {t : Ty} (h : tyOf l = some t) : t.size ≤ 60 := by
  obtain ⟨e, _, hl⟩ := tyOf_text h
  have := size_text t
  rw [e] at hl
  omega

end Go.Proofs.YtlpfgiegapelmaaDoor

namespace Go.Proofs.YtlpfgiegapelmaaDoor
open Go.RowKit

/-- A string out of a list of bytes. -/
def strOf (l : List UInt8) : ByteArray := ⟨l.toArray⟩
theorem strOf_list (l : List UInt8) : (strOf l).data.toList = l := by simp [strOf]
theorem strOf_eq {s : ByteArray} {l : List UInt8} (h : s.data.toList = l) : s = strOf l := by
  cases s with
  | mk d =>
    cases d with
    | mk x => simp at h; subst h; rfl

theorem ascii_of (c : UInt8) (h : 0 ≤ ar c) : c.toNat < 128 := by
  revert h
  refine u8_all (p := fun c => 0 ≤ ar c → c.toNat < 128) ?_ c
  decide +kernel

theorem encode_ascii (c : UInt8) (h : c.toNat < 128) : Utf8.encode (c.toNat : Nat) = strOf [c] := by
  revert h
  refine u8_all (p := fun c => c.toNat < 128 → Utf8.encode (c.toNat : Nat) = strOf [c]) ?_ c
  decide +kernel

theorem take_snoc (s : ByteArray) (k : Nat) (h : k < s.size) : s.data.toList.take (k + 1) = s.data.toList.take k ++ [s[k]] := by
  rw [List.take_succ_eq_append_getElem (by simpa using h)]; rfl
theorem count_snoc (s : ByteArray) (c : UInt8) (k : Nat) (h : k < s.size) :
    ((s.data.toList.take (k + 1)).count c : Nat) = (s.data.toList.take k).count c + (if ((s[k].toNat : Int) == c.toNat) = true then 1 else 0) := by
  rw [take_snoc s k h, List.count_append]
  congr 1
  by_cases e : s[k] = c
  · simp [e]
  · have h1 : ¬ (s[k].toNat = c.toNat) := fun h => e (UInt8.toNat_inj.1 h)
    have h2 : ¬ ((s[k].toNat : Int) = c.toNat) := by omega
    simp [e, h2]

theorem text_ascii {t : Ty} (h : t.ok) : ∀ x ∈ t.text, x.toNat < 128 := by
  induction t with
  | lf c =>
    intro x hx
    simp [Ty.text] at hx
    subst hx
    exact ascii_of x (by rw [show ar x = 0 from h]; decide)
  | un c a ih =>
    intro x hx
    simp [Ty.text] at hx
    rcases hx with rfl | rfl | hx | rfl
    · exact ascii_of x (by rw [h.1]; decide)
    · decide
    · exact ih h.2 x hx
    · decide
  | bi c a b iha ihb =>
    intro x hx
    simp [Ty.text] at hx
    rcases hx with rfl | rfl | hx | rfl | hx | rfl
    · exact ascii_of x (by rw [h.1]; decide)
    · decide
    · exact iha h.2.1 x hx
    · decide
    · exact ihb h.2.2 x hx
    · decide
theorem tyOf_ascii {s : ByteArray} {t : Ty} (h : tyOf s.data.toList = some t) : ∀ i, (h : i < s.size) → (s[i]'h).toNat < 128 := by
  intro i hi
  obtain ⟨e, ho, _⟩ := tyOf_text h
  have hm : s[i] ∈ s.data.toList := by
    rw [List.mem_iff_getElem]
    exact ⟨i, by simpa using hi, rfl⟩
  rw [e] at hm
  exact text_ascii ho _ hm

theorem below_drewN' {B : Nat} {a w : World} (h : Below B a w) (n : Nat) : Below B a (w.drewN n) := ⟨h.os, h.tape, h.output, h.size, h.block⟩

/-- How often a variable stands in a type; -1 where there is no such type or variable. -/
def cvOf (s v : ByteArray) : Int :=
  if (tyOf s.data.toList).isSome = true ∧ v.size = 1 ∧ isVarB (v.data.toList.headD 0) = true then (s.data.toList.count (v.data.toList.headD 0) : Nat) else -1

theorem head_at (v : ByteArray) (h : 0 < v.size) : v.data.toList.headD 0 = v[0] := by
  have e : v.data.toList[0]? = some v[0] := by
    rw [List.getElem?_eq_getElem (by simpa using h)]
    rfl
  cases hl : v.data.toList with
  | nil => rw [hl] at e; cases e
  | cons x l => rw [hl] at e; simpa using e

end Go.Proofs.YtlpfgiegapelmaaDoor

namespace Go.Proofs.YtlpfgiegapelmaaDoor
open Go.RowKit

theorem stringInfo : (Tryd.prog.info? 9).map (fun i => (i.zero, i.size, i.bytes)) = some (some (.string ⟨#[]⟩), 1, 16) := by kernel_rfl

theorem own1 {w : World} {base : Nat} {e : TypeId} {v x : Value} (h : w.ownsRow base e 1 v 1 [x]) :
    ∃ g cap, v = .slice (some ⟨g, 0, none⟩) 1 cap ∧ base ≤ g ∧ g < w.heap.size ∧ w.cell? ⟨g, 0, none⟩ = some x ∧ 1 ≤ cap := by
  rcases h.2 with ⟨_, h0⟩ | ⟨g, cap, cur, rfl, hb, hg, hc, _, hz, ht⟩
  · cases h0
  · have c0 : cur[0]? = some x := by
      have := congrArg (·[0]?) ht
      simpa [List.getElem?_take] using this
    refine ⟨g, cap, rfl, hb, (Array.getElem?_eq_some_iff.1 hg).1, ?_, hc⟩
    unfold World.cell?
    rw [show w.heap[(⟨g, 0, none⟩ : Addr).block]? = _ from hg]
    exact c0

theorem news1 (w : World) (x : Value) (T : TypeId) : ∀ j u, [x][j]? = some u → (w.alloc (.cells #[x] T)).cell? ((⟨w.heap.size, 0, none⟩ : Addr).add j) = some u := by
  intro j u hj
  have e : j = 0 := by
    have := (List.getElem?_eq_some_iff.1 hj).1
    simp at this
    omega
  subst e
  simp only [List.getElem?_cons_zero, Option.some.injEq] at hj
  subst hj
  exact cell_new1 _ _ _

theorem join_at (g m cap : Nat) (xs : List ByteArray) (w : World) (hm : xs.length = m) (hcells : ∀ (j : Nat) x, xs[j]? = some x → w.cell? ⟨g, 0 + j, none⟩ = some (.string x)) (hg : g < w.heap.size) (hc : m ≤ cap) (hN : m ≤ 2)
    (r : ByteArray) (hr : Hid (strOf (Lib.join (xs.map (·.data.toList)) [44]) = r)) (hl : r.size ≤ 1000000000000) :
    Calls Tryd.prog 69 #[.slice (some ⟨g, 0, none⟩) m cap, .string { data := #[44] }] w fun e w' => e = .returned (.string r) ∧ Below w.heap.size w w' := by
  subst hm
  have hl' : (Lib.join (xs.map (·.data.toList)) [44]).length ≤ 1000000000000 := by
    have h := hl
    rw [← hr.out] at h
    exact h
  rw [← hr.out]
  exact Tryd.strings_Join g 0 cap xs { data := #[44] } w hcells hg (by omega) hc (by exact Nat.le_trans hl' (by decide))

set_option maxHeartbeats 400000 in
set_option maxRecDepth 100000 in
theorem joinType_any (hd : ByteArray) (g m cap : Nat) (xs : List ByteArray) (w : World) (hm : xs.length = m) (hcells : ∀ (j : Nat) x, xs[j]? = some x → w.cell? ⟨g, 0 + j, none⟩ = some (.string x)) (hg : g < w.heap.size) (hc : m ≤ cap) (hN : m ≤ 2) (h0 : 0 < m) (hh : hd.size ≤ 1)
    (r : ByteArray) (hr : Hid (strOf (Lib.join (xs.map (·.data.toList)) [44]) = r)) (hl : r.size ≤ 1000000000000) :
    Calls Tryd.prog 59 #[.string hd, .slice (some ⟨g, 0, none⟩) m cap] w fun e w' => e = .returned (.string (strOf (hd.data.toList ++ 40 :: (r.data.toList ++ [41])))) ∧ Below w.heap.size w w' := by
  have HC := hid hcells
  have HM := hid hm
  clear hcells hm
  have hf : ((m : Int) == 0) = false := by simp; omega
  go_enter Tryd.func59, Tryd.ntmps59
  go_wp2_with fail
  refine (join_at g m cap xs _ HM.out HC.out hg hc hN r hr hl).mono ?_
  rintro e w1 ⟨rfl, hb1⟩
  go_wp2_with fail
  go_ret
  refine ⟨?_, hb1⟩
  show Ending.returned (.string _) = .returned (.string _)
  congr 2
  exact strOf_eq (by simp [ByteArray.data_append])

theorem strOf_size (l : List UInt8) : (strOf l).size = l.length := by
  show l.toArray.size = l.length
  simp

theorem join_two (x y sep : List UInt8) : Lib.join [x, y] sep = x ++ (sep ++ y) := by
  rw [Lib.join_cons]
  simp [Lib.joinTail]

end Go.Proofs.YtlpfgiegapelmaaDoor
