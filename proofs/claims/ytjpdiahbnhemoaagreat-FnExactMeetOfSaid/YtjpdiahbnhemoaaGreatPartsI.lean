/- SizeOf and DepthOf, in the program and in the model. The functions of chapter 1 that look at a type's text alone: HeadOf, CountVar, VarsOf, IsGround, in the program and in the model. The program's text of a node and of its parts: text, partTexts, joinType; and so PartsOf. -/
import Derived.Test.YtjpdiahbnhemoaaGreatSpecT
import Derived.LoopN
import Derived.Test.YtjpdiahbnhemoaaGreatJoin
namespace Go.Proofs.YtjpdiahbnhemoaaGreat
open Go.RowKit

def Ty.size : Ty → Nat
  | .lf _ => 1
  | .un _ a => 1 + a.size
  | .bi _ a b => 1 + a.size + b.size
def Ty.depth : Ty → Nat
  | .lf _ => 0
  | .un _ a => 1 + a.depth
  | .bi _ a b => max (1 + a.depth) (1 + b.depth)
theorem size_text (t : Ty) : t.size ≤ t.text.length := by
  induction t with
  | lf c => simp [Ty.size, Ty.text]
  | un c a ih => simp [Ty.size, Ty.text]; omega
  | bi c a b iha ihb => simp [Ty.size, Ty.text]; omega
theorem depth_size (t : Ty) : t.depth ≤ t.size := by
  induction t with
  | lf c => simp [Ty.size, Ty.depth]
  | un c a ih => simp [Ty.size, Ty.depth]; omega
  | bi c a b iha ihb => simp [Ty.size, Ty.depth]; omega

theorem m_var_parts (b : Nat) (w : World) : (method 268 75 (.pointer (some ⟨b, 0, none⟩)) "loop.example/instancesearch/impl.parts").run Tryz.prog w = .ok (106, .pointer (some ⟨b, 0, none⟩)) w := by kernel_rfl
theorem m_var_text (b : Nat) (w : World) : (method 268 75 (.pointer (some ⟨b, 0, none⟩)) "loop.example/instancesearch/impl.text").run Tryz.prog w = .ok (107, .pointer (some ⟨b, 0, none⟩)) w := by kernel_rfl
theorem m_con_parts (b : Nat) (w : World) : (method 268 111 (.pointer (some ⟨b, 0, none⟩)) "loop.example/instancesearch/impl.parts").run Tryz.prog w = .ok (122, .pointer (some ⟨b, 0, none⟩)) w := by kernel_rfl
theorem m_con_text (b : Nat) (w : World) : (method 268 111 (.pointer (some ⟨b, 0, none⟩)) "loop.example/instancesearch/impl.text").run Tryz.prog w = .ok (123, .pointer (some ⟨b, 0, none⟩)) w := by kernel_rfl
theorem m_cst_parts (b : Nat) (w : World) : (method 268 107 (.pointer (some ⟨b, 0, none⟩)) "loop.example/instancesearch/impl.parts").run Tryz.prog w = .ok (109, .pointer (some ⟨b, 0, none⟩)) w := by kernel_rfl
theorem m_cst_text (b : Nat) (w : World) : (method 268 107 (.pointer (some ⟨b, 0, none⟩)) "loop.example/instancesearch/impl.text").run Tryz.prog w = .ok (110, .pointer (some ⟨b, 0, none⟩)) w := by kernel_rfl

set_option maxHeartbeats 400000 in
theorem parts_var (b : Nat) (w : World) : Calls Tryz.prog 106 #[.pointer (some ⟨b, 0, none⟩)] w fun e w' => e = .returned (.slice none 0 0) ∧ w = w' := by
  go_enter Tryz.func106, Tryz.ntmps106
  go_wp2
  go_ret
  exact ⟨rfl, rfl⟩
set_option maxHeartbeats 400000 in
theorem parts_con (b : Nat) (w : World) : Calls Tryz.prog 122 #[.pointer (some ⟨b, 0, none⟩)] w fun e w' => e = .returned (.slice none 0 0) ∧ w = w' := by
  go_enter Tryz.func122, Tryz.ntmps122
  go_wp2
  go_ret
  exact ⟨rfl, rfl⟩
set_option maxHeartbeats 400000 in
theorem parts_cst (b : Nat) (g m cap : Nat) (w : World) (h : w.cell? ⟨b, 1, none⟩ = some (.slice (some ⟨g, 0, none⟩) m cap)) : Calls Tryz.prog 109 #[.pointer (some ⟨b, 0, none⟩)] w fun e w' => e = .returned (.slice (some ⟨g, 0, none⟩) m cap) ∧ w = w' := by
  go_enter Tryz.func109, Tryz.ntmps109
  go_wp2
  go_ret
  exact ⟨rfl, rfl⟩

theorem cell_below {w w' : World} {g k : Nat} {x : Value} (h : w.cell? ⟨g, k, none⟩ = some x) (hg : g < w.heap.size) (hb : Below w.heap.size w w') : w'.cell? ⟨g, k, none⟩ = some x :=
  (hb.cell (p := ⟨g, k, none⟩) hg).trans h
theorem RepN.form {w : World} {S : Nat → Prop} {t : Ty} {h p : Value} (hr : RepN w S t h p) : ∃ (c : UInt8) (A : Option Addr) (m cap : Nat), h = .int .u8 c.toNat ∧ p = .slice A m cap := by
  cases t with
  | lf c => obtain ⟨h1, A, cap, h2⟩ := hr; exact ⟨c, A, 0, cap, h1, h2⟩
  | un c a => obtain ⟨h1, g, cap, _, _, h2, _⟩ := hr; exact ⟨c, _, 1, cap, h1, h2⟩
  | bi c a b => obtain ⟨h1, g, cap, _, _, _, _, h2, _⟩ := hr; exact ⟨c, _, 2, cap, h1, h2⟩
theorem RepN.below {w w' : World} {S : Nat → Prop} {t : Ty} {h p : Value} (hr : RepN w S t h p) (hS : ∀ g, S g → g < w.heap.size) (hb : Below w.heap.size w w') : RepN w' S t h p :=
  hr.keep fun g hg => ⟨hg, hb.block g (hS g hg)⟩

/-- A type's size; -1 for what is none. -/
def sizeOf' (l : List UInt8) : Int := match tyOf l with | some t => (t.size : Nat) | none => -1
theorem tyOf_size {l : List UInt8} {t : Ty} (h : tyOf l = some t) : t.size ≤ 60 := by
  obtain ⟨e, _, hl⟩ := tyOf_text h
  have := size_text t
  rw [e] at hl
  omega

end Go.Proofs.YtjpdiahbnhemoaaGreat

namespace Go.Proofs.YtjpdiahbnhemoaaGreat
open Go.RowKit

/-- A string out of a list of bytes. -/
def strOf (l : List UInt8) : ByteArray := ⟨l.toArray⟩
theorem strOf_list (l : List UInt8) : (strOf l).data.toList = l := by simp [strOf]
theorem strOf_eq {s : ByteArray} {l : List UInt8} (h : s.data.toList = l) : s = strOf l := by
  cases s with
  | mk d =>
    cases d with
    | mk x => simp at h; subst h; rfl

theorem ascii_of (c : UInt8) (h : 0 ≤ ar c) : c.toNat < 128 := by
  revert h
  refine u8_all (p := fun c => 0 ≤ ar c → c.toNat < 128) ?_ c
  decide +kernel

theorem encode_ascii (c : UInt8) (h : c.toNat < 128) : Utf8.encode (c.toNat : Nat) = strOf [c] := by
  revert h
  refine u8_all (p := fun c => c.toNat < 128 → Utf8.encode (c.toNat : Nat) = strOf [c]) ?_ c
  decide +kernel

set_option maxHeartbeats 400000 in
set_option maxRecDepth 100000 in
theorem letterText_any (c : UInt8) (hc : c.toNat < 128) (w : World) :
    Calls Tryz.prog 42 #[.int .u8 c.toNat] w fun e w' => e = .returned (.string (strOf [c])) ∧ w' = w := by
  go_enter Tryz.func42, Tryz.ntmps42
  go_wp2
  go_ret
  exact ⟨by show Ending.returned (.string (Utf8.encode (c.toNat : Nat))) = _; rw [encode_ascii c hc], rfl⟩

theorem take_snoc (s : ByteArray) (k : Nat) (h : k < s.size) : s.data.toList.take (k + 1) = s.data.toList.take k ++ [s[k]] := by
  rw [List.take_succ_eq_append_getElem (by simpa using h)]; rfl
theorem count_snoc (s : ByteArray) (c : UInt8) (k : Nat) (h : k < s.size) :
    ((s.data.toList.take (k + 1)).count c : Nat) = (s.data.toList.take k).count c + (if ((s[k].toNat : Int) == c.toNat) = true then 1 else 0) := by
  rw [take_snoc s k h, List.count_append]
  congr 1
  by_cases e : s[k] = c
  · simp [e]
  · have h1 : ¬ (s[k].toNat = c.toNat) := fun h => e (UInt8.toNat_inj.1 h)
    have h2 : ¬ ((s[k].toNat : Int) = c.toNat) := by omega
    simp [e, h2]

theorem text_ascii {t : Ty} (h : t.ok) : ∀ x ∈ t.text, x.toNat < 128 := by
  induction t with
  | lf c =>
    intro x hx
    simp [Ty.text] at hx
    subst hx
    exact ascii_of x (by rw [show ar x = 0 from h]; decide)
  | un c a ih =>
    intro x hx
    simp [Ty.text] at hx
    rcases hx with rfl | rfl | hx | rfl
    · exact ascii_of x (by rw [h.1]; decide)
    · decide
    · exact ih h.2 x hx
    · decide
  | bi c a b iha ihb =>
    intro x hx
    simp [Ty.text] at hx
    rcases hx with rfl | rfl | hx | rfl | hx | rfl
    · exact ascii_of x (by rw [h.1]; decide)
    · decide
    · exact iha h.2.1 x hx
    · decide
    · exact ihb h.2.2 x hx
    · decide
theorem tyOf_ascii {s : ByteArray} {t : Ty} (h : tyOf s.data.toList = some t) : ∀ i, (h : i < s.size) → (s[i]'h).toNat < 128 := by
  intro i hi
  obtain ⟨e, ho, _⟩ := tyOf_text h
  have hm : s[i] ∈ s.data.toList := by
    rw [List.mem_iff_getElem]
    exact ⟨i, by simpa using hi, rfl⟩
  rw [e] at hm
  exact text_ascii ho _ hm

theorem l1Variable_at (c : UInt8) (k : Bool) (h : Hid (isVarB c = k)) (w : World) :
    Calls Tryz.prog 29 #[.int .u8 c.toNat] w fun e w' => e = .returned (.bool k) ∧ w = w' := by
  rw [← h.out]
  exact (l1Variable_any c w).mono fun _ _ ⟨h1, h2⟩ => ⟨h1, h2.symm⟩
theorem below_drewN' {B : Nat} {a w : World} (h : Below B a w) (n : Nat) : Below B a (w.drewN n) := ⟨h.os, h.tape, h.output, h.size, h.block⟩

/-- How often a variable stands in a type; -1 where there is no such type or variable. -/
def cvOf (s v : ByteArray) : Int :=
  if (tyOf s.data.toList).isSome = true ∧ v.size = 1 ∧ isVarB (v.data.toList.headD 0) = true then (s.data.toList.count (v.data.toList.headD 0) : Nat) else -1

theorem head_at (v : ByteArray) (h : 0 < v.size) : v.data.toList.headD 0 = v[0] := by
  have e : v.data.toList[0]? = some v[0] := by
    rw [List.getElem?_eq_getElem (by simpa using h)]
    rfl
  cases hl : v.data.toList with
  | nil => rw [hl] at e; cases e
  | cons x l => rw [hl] at e; simpa using e

end Go.Proofs.YtjpdiahbnhemoaaGreat

namespace Go.Proofs.YtjpdiahbnhemoaaGreat
open Go.RowKit

theorem cf_text_var (args : Array Value) (w : World) : (callFunc 107 args).run Tryz.prog w = .ok (.enter 107 args) w := by kernel_rfl
theorem cf_text_con (args : Array Value) (w : World) : (callFunc 123 args).run Tryz.prog w = .ok (.enter 123 args) w := by kernel_rfl
theorem cf_text_cst (args : Array Value) (w : World) : (callFunc 110 args).run Tryz.prog w = .ok (.enter 110 args) w := by kernel_rfl

theorem Rep.form {w : World} {lo hi : Nat} {t : Ty} {v : Value} (hr : Rep w lo hi t v) : ∃ T b, v = .iface T (.pointer (some ⟨b, 0, none⟩)) ∧ lo ≤ b ∧ b < hi := by
  cases t with
  | lf c =>
    obtain ⟨b, h1, h2, ⟨_, rfl, _⟩ | ⟨_, rfl, _⟩⟩ := hr
    · exact ⟨_, b, rfl, h1, h2⟩
    · exact ⟨_, b, rfl, h1, h2⟩
  | un c a => obtain ⟨b, g, cap, x, h1, h2, _, _, rfl, _⟩ := hr; exact ⟨_, b, rfl, h1, h2⟩
  | bi c a a' => obtain ⟨b, g, cap, x, x', h1, h2, _, _, rfl, _⟩ := hr; exact ⟨_, b, rfl, h1, h2⟩

/-- The text of a node, by its method. -/
def TextBy (t : Ty) : Prop := ∀ (lo hi T b : Nat) (w : World), Rep w lo hi t (.iface T (.pointer (some ⟨b, 0, none⟩))) → hi ≤ w.heap.size → t.ok → t.text.length ≤ 100000000000 →
  ∃ fn, (∀ w, (method 268 T (.pointer (some ⟨b, 0, none⟩)) "loop.example/instancesearch/impl.text").run Tryz.prog w = .ok (fn, .pointer (some ⟨b, 0, none⟩)) w) ∧
    (∀ args w, (callFunc fn args).run Tryz.prog w = .ok (.enter fn args) w) ∧
    Calls Tryz.prog fn #[.pointer (some ⟨b, 0, none⟩)] w fun e w' => e = .returned (.string (strOf t.text)) ∧ Below w.heap.size w w'

theorem stringInfo : (Tryz.prog.info? 9).map (fun i => (i.zero, i.size, i.bytes)) = some (some (.string ⟨#[]⟩), 1, 16) := by kernel_rfl

theorem own1 {w : World} {base : Nat} {e : TypeId} {v x : Value} (h : w.ownsRow base e 1 v 1 [x]) :
    ∃ g cap, v = .slice (some ⟨g, 0, none⟩) 1 cap ∧ base ≤ g ∧ g < w.heap.size ∧ w.cell? ⟨g, 0, none⟩ = some x ∧ 1 ≤ cap := by
  rcases h.2 with ⟨_, h0⟩ | ⟨g, cap, cur, rfl, hb, hg, hc, _, hz, ht⟩
  · cases h0
  · have c0 : cur[0]? = some x := by
      have := congrArg (·[0]?) ht
      simpa [List.getElem?_take] using this
    refine ⟨g, cap, rfl, hb, (Array.getElem?_eq_some_iff.1 hg).1, ?_, hc⟩
    unfold World.cell?
    rw [show w.heap[(⟨g, 0, none⟩ : Addr).block]? = _ from hg]
    exact c0

theorem news1 (w : World) (x : Value) (T : TypeId) : ∀ j u, [x][j]? = some u → (w.alloc (.cells #[x] T)).cell? ((⟨w.heap.size, 0, none⟩ : Addr).add j) = some u := by
  intro j u hj
  have e : j = 0 := by
    have := (List.getElem?_eq_some_iff.1 hj).1
    simp at this
    omega
  subst e
  simp only [List.getElem?_cons_zero, Option.some.injEq] at hj
  subst hj
  exact cell_new1 _ _ _

set_option maxHeartbeats 1000000 in
set_option maxRecDepth 100000 in
theorem partTexts_un (c : UInt8) (a : Ty) (ih : TextBy a) (lo hi b : Nat) (w : World) (hr : Rep w lo hi (.un c a) (.iface 107 (.pointer (some ⟨b, 0, none⟩)))) (hh : hi ≤ w.heap.size) (ho : a.ok) (hl : a.text.length ≤ 100000000000) :
    Calls Tryz.prog 112 #[.iface 107 (.pointer (some ⟨b, 0, none⟩))] w fun e w' =>
      ∃ g cap, e = .returned (.slice (some ⟨g, 0, none⟩) 1 cap) ∧ 1 ≤ cap ∧ w.heap.size ≤ g ∧ g < w'.heap.size ∧ w'.cell? ⟨g, 0, none⟩ = some (.string (strOf a.text)) ∧ Below w.heap.size w w' ∧ w'.ownsRow w.heap.size 9 1 (.slice (some ⟨g, 0, none⟩) 1 cap) 1 [.string (strOf a.text)] := by
  obtain ⟨i0, hi0, hz0, hz1, hz2⟩ := info_parts stringInfo
  obtain ⟨b', g, cap, x, h1, h2, h3, h4, hv, hb, hx, hrep⟩ := hr
  obtain rfl : b = b' := by
    simp only [Value.iface.injEq, Value.pointer.injEq, Option.some.injEq, Addr.mk.injEq, true_and, and_true] at hv
    exact hv
  clear hv
  obtain ⟨T, bx, rfl, hx1, hx2⟩ := hrep.form
  obtain ⟨fn, hm, hcf, hcall⟩ := ih lo hi T bx w hrep hh ho hl
  have HCALL := hid hcall
  clear hcall
  obtain ⟨c0, c1, _⟩ := two_cells hb
  have hmp := m_cst_parts b
  have HB := hid hb
  clear hb
  go_enter Tryz.func112, Tryz.ntmps112
  go_wp2_with (go_at_call 109; refine (parts_cst _ _ _ _ _ c1).mono ?_; rintro e w' ⟨rfl, rfl⟩)
  refine wp_loop_rounds 2 ?_
  rw [rounds_succ]
  go_wp2_with fail
  refine HCALL.out.mono ?_
  rintro e w1 ⟨rfl, hb1⟩
  clear hm hcf
  go_wp2_with (at_builtin; refine wpList_append_own _ rfl _ _ 154 rfl w.heap.size 9 i0 (.string ⟨#[]⟩) 1 16 Tryz.underlying154 hi0 hz0 hz1 hz2 rfl (by decide) (.slice none 0 0) 0 [] rfl ⟨rfl, .inl ⟨rfl, rfl⟩⟩ ⟨w1.heap.size, 0, none⟩ 1 1 [.string (strOf a.text)] rfl rfl ?c1 ?c2 ?c3 ?c4 ?c5 ?_)
  case c1 => exact news1 _ _ _
  case c2 =>
    intro u hu
    simp only [List.mem_singleton] at hu
    subst hu
    rfl
  case c3 => decide
  case c4 => decide
  case c5 => have := hb1.size; simp only [World.size_alloc]; omega
  intro v2 w2 hown2 hg2 hv2
  clear hv2
  have z2 := hg2.size
  simp only [World.size_alloc] at z2
  obtain ⟨g2, cap2, rfl, q1, q2, q3, q4⟩ := own1 hown2
  have Q3 := hid q3
  have HOW := hid hown2
  clear q3 hown2
  have hbw : Below w.heap.size w w2 := (hb1.alloc hb1.size _).grown hg2 (by have := hb1.size; simp only [World.size_alloc]; omega) (by intro k hk; simp [Value.ownBlock] at hk)
  go_wp2_with fail
  rw [rounds_succ]
  go_wp2_with fail
  go_ret
  exact ⟨g2, cap2, rfl, q4, q1, q2, Q3.out, hbw, HOW.out⟩

set_option maxHeartbeats 1000000 in
set_option maxRecDepth 100000 in
theorem partTexts_bi (c : UInt8) (a a' : Ty) (ih : TextBy a) (ih' : TextBy a') (lo hi b : Nat) (w : World) (hr : Rep w lo hi (.bi c a a') (.iface 107 (.pointer (some ⟨b, 0, none⟩)))) (hh : hi ≤ w.heap.size) (ho : a.ok) (ho' : a'.ok) (hl : a.text.length ≤ 100000000000) (hl' : a'.text.length ≤ 100000000000) :
    Calls Tryz.prog 112 #[.iface 107 (.pointer (some ⟨b, 0, none⟩))] w fun e w' =>
      ∃ g cap, e = .returned (.slice (some ⟨g, 0, none⟩) 2 cap) ∧ 2 ≤ cap ∧ w.heap.size ≤ g ∧ g < w'.heap.size ∧ w'.cell? ⟨g, 0, none⟩ = some (.string (strOf a.text)) ∧ w'.cell? ⟨g, 1, none⟩ = some (.string (strOf a'.text)) ∧ Below w.heap.size w w' ∧ w'.ownsRow w.heap.size 9 1 (.slice (some ⟨g, 0, none⟩) 2 cap) 2 [.string (strOf a.text), .string (strOf a'.text)] := by
  obtain ⟨i0, hi0, hz0, hz1, hz2⟩ := info_parts stringInfo
  obtain ⟨b', g, cap, x, x', h1, h2, h3, h4, hv, hb, hx, hx', hrep, hrep'⟩ := hr
  obtain rfl : b = b' := by
    simp only [Value.iface.injEq, Value.pointer.injEq, Option.some.injEq, Addr.mk.injEq, true_and, and_true] at hv
    exact hv
  clear hv
  obtain ⟨T, bx, rfl, hx1, hx2⟩ := hrep.form
  obtain ⟨T', bx', rfl, hx1', hx2'⟩ := hrep'.form
  obtain ⟨fn, hm, hcf, hcall⟩ := ih lo hi T bx w hrep hh ho hl
  have HCALL := hid hcall
  clear hcall
  obtain ⟨c0, c1, _⟩ := two_cells hb
  have hmp := m_cst_parts b
  have HB := hid hb
  have HX' := hid hx'
  clear hb hx'
  go_enter Tryz.func112, Tryz.ntmps112
  go_wp2_with (go_at_call 109; refine (parts_cst _ _ _ _ _ c1).mono ?_; rintro e w' ⟨rfl, rfl⟩)
  refine wp_loop_rounds 3 ?_
  rw [rounds_succ]
  go_wp2_with fail
  refine HCALL.out.mono ?_
  rintro e w1 ⟨rfl, hb1⟩
  clear hm hcf
  go_wp2_with (at_builtin; refine wpList_append_own _ rfl _ _ 154 rfl w.heap.size 9 i0 (.string ⟨#[]⟩) 1 16 Tryz.underlying154 hi0 hz0 hz1 hz2 rfl (by decide) (.slice none 0 0) 0 [] rfl ⟨rfl, .inl ⟨rfl, rfl⟩⟩ ⟨w1.heap.size, 0, none⟩ 1 1 [.string (strOf a.text)] rfl rfl ?c1 ?c2 ?c3 ?c4 ?c5 ?_)
  case c1 => exact news1 _ _ _
  case c2 =>
    intro u hu
    simp only [List.mem_singleton] at hu
    subst hu
    rfl
  case c3 => decide
  case c4 => decide
  case c5 => have := hb1.size; simp only [World.size_alloc]; omega
  intro v2 w2 hown2 hg2 hv2
  clear hv2
  have z2 := hg2.size
  simp only [World.size_alloc] at z2
  obtain ⟨g2, cap2, rfl, q1, q2, q3, q4⟩ := own1 hown2
  clear q3
  have hbw : Below w.heap.size w w2 := (hb1.alloc hb1.size _).grown hg2 (by have := hb1.size; simp only [World.size_alloc]; omega) (by intro k hk; simp [Value.ownBlock] at hk)
  have hrep2 : Rep w2 lo hi a' (.iface T' (.pointer (some ⟨bx', 0, none⟩))) := hrep'.keep (Nat.le_refl _) (Nat.le_refl _) fun k _ hk => hbw.block k (by omega)
  obtain ⟨fn', hm', hcf', hcall'⟩ := ih' lo hi T' bx' w2 hrep2 (by have := hbw.size; omega) ho' hl'
  have HCALL' := hid hcall'
  clear hcall'
  have hx2c : w2.cell? ⟨g, 1, none⟩ = some (.iface T' (.pointer (some ⟨bx', 0, none⟩))) := cell_below HX'.out (by omega) hbw
  have HOWN := hid hown2
  clear hown2
  go_wp2_with fail
  rw [rounds_succ]
  go_wp2_with fail
  refine HCALL'.out.mono ?_
  rintro e w3 ⟨rfl, hb3⟩
  clear hm' hcf' hx2c
  have hown3 : w3.ownsRow w.heap.size 9 1 (.slice (some ⟨g2, 0, none⟩) 1 cap2) 1 [.string (strOf a.text)] := own_kept HOWN.out (hb3.block g2 q2)
  go_wp2_with (at_builtin; refine wpList_append_own _ rfl _ _ 154 rfl w.heap.size 9 i0 (.string ⟨#[]⟩) 1 16 Tryz.underlying154 hi0 hz0 hz1 hz2 rfl (by decide) _ _ _ rfl (hown3.alloc _) ⟨w3.heap.size, 0, none⟩ 1 1 [.string (strOf a'.text)] rfl rfl ?d1 ?d2 ?d3 ?d4 ?d5 ?_)
  case d1 => exact news1 _ _ _
  case d2 =>
    intro u hu
    simp only [List.mem_singleton] at hu
    subst hu
    rfl
  case d3 => decide
  case d4 => decide
  case d5 => have := hb3.size; have := hbw.size; simp only [World.size_alloc]; omega
  intro v4 w4 hown4 hg4 hv4
  clear hv4 hown3
  have z4 := hg4.size
  simp only [World.size_alloc] at z4
  have hcap4 : ∃ g4 cap4, v4 = .slice (some ⟨g4, 0, none⟩) 2 cap4 ∧ 2 ≤ cap4 := by
    rcases hown4.2 with ⟨_, h0⟩ | ⟨g4, cap4, cur, hv, _, _, hc, _⟩
    · cases h0
    · exact ⟨g4, cap4, hv, hc⟩
  obtain ⟨g4, cap4, hv4, hc4⟩ := hcap4
  subst hv4
  obtain ⟨g5, cap5, hv5, y1, y2, y3, y4⟩ := own2 hown4
  simp only [Value.slice.injEq, Option.some.injEq, Addr.mk.injEq, true_and, and_true] at hv5
  obtain ⟨e1, e2⟩ := hv5
  subst e1
  clear e2
  have Y3 := hid y3
  have Y4 := hid y4
  have HOW := hid hown4
  clear y3 y4 hown4
  have hbw3 := hbw.trans (hb3.mono hbw.size)
  have hbw4 : Below w.heap.size w w4 := (hbw3.alloc hbw3.size _).grown hg4 (by have := hbw3.size; simp only [World.size_alloc]; omega) (by intro k hk; simp [Value.ownBlock] at hk; omega)
  go_wp2_with fail
  rw [rounds_succ]
  go_wp2_with fail
  go_ret
  exact ⟨g4, cap4, rfl, hc4, y1, y2, Y3.out, Y4.out, hbw4, HOW.out⟩

theorem join_at (g m cap : Nat) (xs : List ByteArray) (w : World) (hm : xs.length = m) (hcells : ∀ (j : Nat) x, xs[j]? = some x → w.cell? ⟨g, 0 + j, none⟩ = some (.string x)) (hg : g < w.heap.size) (hc : m ≤ cap) (hN : m ≤ 2)
    (r : ByteArray) (hr : Hid (strOf (Lib.join (xs.map (·.data.toList)) [44]) = r)) (hl : r.size ≤ 1000000000000) :
    Calls Tryz.prog 113 #[.slice (some ⟨g, 0, none⟩) m cap, .string { data := #[44] }] w fun e w' => e = .returned (.string r) ∧ Below w.heap.size w w' := by
  subst hm
  have hl' : (Lib.join (xs.map (·.data.toList)) [44]).length ≤ 1000000000000 := by
    have h := hl
    rw [← hr.out] at h
    exact h
  rw [← hr.out]
  exact Tryz.strings_Join g 0 cap xs { data := #[44] } w hcells hg (by omega) hc (by exact Nat.le_trans hl' (by decide))

set_option maxHeartbeats 400000 in
set_option maxRecDepth 100000 in
theorem joinType_any (hd : ByteArray) (g m cap : Nat) (xs : List ByteArray) (w : World) (hm : xs.length = m) (hcells : ∀ (j : Nat) x, xs[j]? = some x → w.cell? ⟨g, 0 + j, none⟩ = some (.string x)) (hg : g < w.heap.size) (hc : m ≤ cap) (hN : m ≤ 2) (h0 : 0 < m) (hh : hd.size ≤ 1)
    (r : ByteArray) (hr : Hid (strOf (Lib.join (xs.map (·.data.toList)) [44]) = r)) (hl : r.size ≤ 1000000000000) :
    Calls Tryz.prog 111 #[.string hd, .slice (some ⟨g, 0, none⟩) m cap] w fun e w' => e = .returned (.string (strOf (hd.data.toList ++ 40 :: (r.data.toList ++ [41])))) ∧ Below w.heap.size w w' := by
  have HC := hid hcells
  have HM := hid hm
  clear hcells hm
  have hf : ((m : Int) == 0) = false := by simp; omega
  go_enter Tryz.func111, Tryz.ntmps111
  go_wp2_with fail
  refine (join_at g m cap xs _ HM.out HC.out hg hc hN r hr hl).mono ?_
  rintro e w1 ⟨rfl, hb1⟩
  go_wp2_with fail
  go_ret
  refine ⟨?_, hb1⟩
  show Ending.returned (.string _) = .returned (.string _)
  congr 2
  exact strOf_eq (by simp [ByteArray.data_append])

set_option maxHeartbeats 400000 in
theorem text_var_any (b : Nat) (c : UInt8) (w : World) (hb : w.cell? ⟨b, 0, none⟩ = some (.int .u8 c.toNat)) (hc : c.toNat < 128) :
    Calls Tryz.prog 107 #[.pointer (some ⟨b, 0, none⟩)] w fun e w' => e = .returned (.string (strOf [c])) ∧ Below w.heap.size w w' := by
  go_enter Tryz.func107, Tryz.ntmps107
  go_wp2_with (go_at_call 42; refine (letterText_any c hc _).mono ?_; rintro e w' ⟨rfl, rfl⟩)
  go_ret
  exact ⟨rfl, Below.refl _ _⟩
set_option maxHeartbeats 400000 in
theorem text_con_any (b : Nat) (c : UInt8) (w : World) (hb : w.cell? ⟨b, 0, none⟩ = some (.int .u8 c.toNat)) (hc : c.toNat < 128) :
    Calls Tryz.prog 123 #[.pointer (some ⟨b, 0, none⟩)] w fun e w' => e = .returned (.string (strOf [c])) ∧ Below w.heap.size w w' := by
  go_enter Tryz.func123, Tryz.ntmps123
  go_wp2_with (go_at_call 42; refine (letterText_any c hc _).mono ?_; rintro e w' ⟨rfl, rfl⟩)
  go_ret
  exact ⟨rfl, Below.refl _ _⟩

theorem strOf_size (l : List UInt8) : (strOf l).size = l.length := by
  show l.toArray.size = l.length
  simp

set_option maxHeartbeats 400000 in
set_option maxRecDepth 100000 in
theorem text_un (c : UInt8) (a : Ty) (ih : TextBy a) (lo hi b : Nat) (w : World) (hr : Rep w lo hi (.un c a) (.iface 107 (.pointer (some ⟨b, 0, none⟩)))) (hh : hi ≤ w.heap.size) (ho : (Ty.un c a).ok) (hl : (Ty.un c a).text.length ≤ 100000000000) :
    Calls Tryz.prog 110 #[.pointer (some ⟨b, 0, none⟩)] w fun e w' => e = .returned (.string (strOf (Ty.un c a).text)) ∧ Below w.heap.size w w' := by
  have hc : c.toNat < 128 := ascii_of c (by rw [ho.1]; decide)
  have hla : a.text.length ≤ 100000000000 := by simp [Ty.text] at hl; omega
  have hcell : w.cell? ⟨b, 0, none⟩ = some (.int .u8 c.toNat) := by
    obtain ⟨b', g, cap, x, h1, h2, h3, h4, hv, hb, hx, hrep⟩ := hr
    simp only [Value.iface.injEq, Value.pointer.injEq, Option.some.injEq, Addr.mk.injEq, true_and, and_true] at hv
    subst hv
    exact (two_cells hb).1
  have HP := hid (partTexts_un c a ih lo hi b w hr hh ho.2 hla)
  obtain ⟨r, hr'⟩ : ∃ r, strOf a.text = r := ⟨_, rfl⟩
  have hrl : r.size ≤ 100000000000 := by rw [← hr', strOf_size]; exact hla
  have HR := hid hr'
  rw [hr'] at HP
  clear hr'
  obtain ⟨hd, hhd⟩ : ∃ hd, strOf [c] = hd := ⟨_, rfl⟩
  have HD := hid hhd
  have hhs : hd.size ≤ 1 := by rw [← hhd]; exact Nat.le_refl _
  have HL := hid (letterText_any c hc w)
  rw [hhd] at HL
  clear hhd
  go_enter Tryz.func110, Tryz.ntmps110
  go_wp2_with (go_at_call 42; refine HL.out.mono ?_; rintro e w' ⟨rfl, rfl⟩)
  refine HP.out.mono ?_
  rintro e w1 ⟨g, cap, rfl, hcap, hg1, hg2, hx, hb1, _⟩
  have HX := hid hx
  clear hx
  go_wp2_with fail
  refine (joinType_any hd g 1 cap [r] w1 rfl (fun j x hj => ?_) hg2 hcap (by decide) (by decide) hhs r ?_ (by omega)).mono ?_
  · have e : j = 0 := by
      have := (List.getElem?_eq_some_iff.1 hj).1
      simp at this
      omega
    subst e
    simp only [List.getElem?_cons_zero, Option.some.injEq] at hj
    subst hj
    exact HX.out
  · show strOf (Lib.join [r.data.toList] [44]) = r
    rw [Lib.join_one, ← HR.out, strOf_list]
  rintro e w2 ⟨rfl, hb2⟩
  go_wp2_with fail
  go_ret
  refine ⟨?_, hb1.trans (hb2.mono hb1.size)⟩
  show Ending.returned (.string _) = .returned (.string _)
  rw [← HR.out, ← HD.out, strOf_list, strOf_list]
  rfl

theorem join_two (x y sep : List UInt8) : Lib.join [x, y] sep = x ++ (sep ++ y) := by
  rw [Lib.join_cons]
  simp [Lib.joinTail]

set_option maxHeartbeats 400000 in
set_option maxRecDepth 100000 in
theorem text_bi (c : UInt8) (a a' : Ty) (ih : TextBy a) (ih' : TextBy a') (lo hi b : Nat) (w : World) (hr : Rep w lo hi (.bi c a a') (.iface 107 (.pointer (some ⟨b, 0, none⟩)))) (hh : hi ≤ w.heap.size) (ho : (Ty.bi c a a').ok) (hl : (Ty.bi c a a').text.length ≤ 100000000000) :
    Calls Tryz.prog 110 #[.pointer (some ⟨b, 0, none⟩)] w fun e w' => e = .returned (.string (strOf (Ty.bi c a a').text)) ∧ Below w.heap.size w w' := by
  have hc : c.toNat < 128 := ascii_of c (by rw [ho.1]; decide)
  have hla : a.text.length ≤ 100000000000 := by simp [Ty.text] at hl; omega
  have hla' : a'.text.length ≤ 100000000000 := by simp [Ty.text] at hl; omega
  have hcell : w.cell? ⟨b, 0, none⟩ = some (.int .u8 c.toNat) := by
    obtain ⟨b', g, cap, x, x', h1, h2, h3, h4, hv, hb, hx, hx', hrep, hrep'⟩ := hr
    simp only [Value.iface.injEq, Value.pointer.injEq, Option.some.injEq, Addr.mk.injEq, true_and, and_true] at hv
    subst hv
    exact (two_cells hb).1
  have HP := hid (partTexts_bi c a a' ih ih' lo hi b w hr hh ho.2.1 ho.2.2 hla hla')
  obtain ⟨r, hr'⟩ : ∃ r, strOf (a.text ++ ([44] ++ a'.text)) = r := ⟨_, rfl⟩
  have hrl : r.size ≤ 300000000000 := by rw [← hr', strOf_size]; simp; omega
  have HR := hid hr'
  clear hr'
  obtain ⟨hd, hhd⟩ : ∃ hd, strOf [c] = hd := ⟨_, rfl⟩
  have HD := hid hhd
  have hhs : hd.size ≤ 1 := by rw [← hhd]; exact Nat.le_refl _
  have HL := hid (letterText_any c hc w)
  rw [hhd] at HL
  clear hhd
  go_enter Tryz.func110, Tryz.ntmps110
  go_wp2_with (go_at_call 42; refine HL.out.mono ?_; rintro e w' ⟨rfl, rfl⟩)
  refine HP.out.mono ?_
  rintro e w1 ⟨g, cap, rfl, hcap, hg1, hg2, hx, hy, hb1, _⟩
  have HX := hid hx
  have HY := hid hy
  clear hx hy
  go_wp2_with fail
  refine (joinType_any hd g 2 cap [strOf a.text, strOf a'.text] w1 rfl (fun j x hj => ?_) hg2 hcap (by decide) (by decide) hhs r ?_ (by omega)).mono ?_
  · match j, hj with
    | 0, hj =>
      simp only [List.getElem?_cons_zero, Option.some.injEq] at hj
      subst hj
      exact HX.out
    | 1, hj =>
      simp only [List.getElem?_cons_succ, List.getElem?_cons_zero, Option.some.injEq] at hj
      subst hj
      exact HY.out
  · show strOf (Lib.join [(strOf a.text).data.toList, (strOf a'.text).data.toList] [44]) = r
    rw [join_two, ← HR.out, strOf_list, strOf_list]
  rintro e w2 ⟨rfl, hb2⟩
  go_wp2_with fail
  go_ret
  refine ⟨?_, hb1.trans (hb2.mono hb1.size)⟩
  show Ending.returned (.string _) = .returned (.string _)
  rw [← HR.out, ← HD.out, strOf_list, strOf_list]
  simp [Ty.text]

theorem textBy_any (t : Ty) : TextBy t := by
  induction t with
  | lf c =>
    intro lo hi T b w hr hh ho hl
    have hc : c.toNat < 128 := ascii_of c (by rw [show ar c = 0 from ho]; decide)
    obtain ⟨b', h1, h2, ⟨hv, he, hb⟩ | ⟨hv, he, hb⟩⟩ := hr
    · simp only [Value.iface.injEq, Value.pointer.injEq, Option.some.injEq, Addr.mk.injEq, and_true] at he
      obtain ⟨rfl, rfl⟩ := he
      exact ⟨_, m_var_text b, cf_text_var, text_var_any b c w (cell_of1 hb) hc⟩
    · simp only [Value.iface.injEq, Value.pointer.injEq, Option.some.injEq, Addr.mk.injEq, and_true] at he
      obtain ⟨rfl, rfl⟩ := he
      exact ⟨_, m_con_text b, cf_text_con, text_con_any b c w (cell_of1 hb) hc⟩
  | un c a ih =>
    intro lo hi T b w hr hh ho hl
    have hT : T = 107 := by
      obtain ⟨_, _, _, _, _, _, _, _, hv, _⟩ := hr
      simp only [Value.iface.injEq] at hv
      exact hv.1
    subst hT
    exact ⟨_, m_cst_text b, cf_text_cst, text_un c a ih lo hi b w hr hh ho hl⟩
  | bi c a a' iha ihb =>
    intro lo hi T b w hr hh ho hl
    have hT : T = 107 := by
      obtain ⟨_, _, _, _, _, _, _, _, _, hv, _⟩ := hr
      simp only [Value.iface.injEq] at hv
      exact hv.1
    subst hT
    exact ⟨_, m_cst_text b, cf_text_cst, text_bi c a a' iha ihb lo hi b w hr hh ho hl⟩

end Go.Proofs.YtjpdiahbnhemoaaGreat
