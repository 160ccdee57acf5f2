/- HeadOf, VarsOf, IsGround, in the program and in the model. RenameType of the program: a renamed tree, and its text. RenameType, in the program and in the model. -/
import Derived.Test.YtjpdiahbnhemoaaGreatPartsI
import Derived.Lib.OthersKept
import Derived.Deep.AppendLies
import Derived.Laws.IdiomStrings
namespace Go.Proofs.YtjpdiahbnhemoaaGreat
open Go.RowKit

/-- A type's first letter, as a string. -/
def headOf (s : ByteArray) : ByteArray := if (tyOf s.data.toList).isSome = true then strOf [s.data.toList.headD 0] else ⟨#[]⟩
theorem size_pos {s : ByteArray} {t : Ty} (h : tyOf s.data.toList = some t) : 0 < s.size := by
  obtain ⟨e, _, _⟩ := tyOf_text h
  have h1 := text_pos t
  have h2 : s.size = s.data.toList.length := by simp
  rw [h2, e]
  exact h1
/-- The variables' letters, in order. -/
def V6 : ByteArray := { data := #[88, 89, 90, 120, 121, 122] }
theorem V6_size : V6.size = 6 := rfl
theorem V6_ascii : ∀ i, (h : i < V6.size) → (V6[i]'h).toNat < 128 := by
  intro i h
  have h' : i < 6 := h
  match i, h' with
  | 0, _ => exact (by decide : (88 : UInt8).toNat < 128)
  | 1, _ => exact (by decide : (89 : UInt8).toNat < 128)
  | 2, _ => exact (by decide : (90 : UInt8).toNat < 128)
  | 3, _ => exact (by decide : (120 : UInt8).toNat < 128)
  | 4, _ => exact (by decide : (121 : UInt8).toNat < 128)
  | 5, _ => exact (by decide : (122 : UInt8).toNat < 128)
/-- Those of the letters that stand in a text. -/
def varsIn (l vs : List UInt8) : List UInt8 := vs.filter fun c => decide (0 < l.count c)
theorem varsIn_snoc (l : List UInt8) (k : Nat) (h : k < V6.size) :
    varsIn l (V6.data.toList.take (k + 1)) = varsIn l (V6.data.toList.take k) ++ (if 0 < l.count V6[k] then [V6[k]] else []) := by
  rw [take_snoc V6 k h, varsIn, List.filter_append]
  congr 1
  by_cases e : 0 < l.count V6[k]
  · rw [if_pos e]
    simp
    exact List.count_pos_iff.1 e
  · rw [if_neg e]
    simp
    exact fun h => e (List.count_pos_iff.2 h)
theorem varsIn_len (l vs : List UInt8) : (varsIn l vs).length ≤ vs.length := List.length_filter_le _ _

theorem append_list (a : ByteArray) (l : List UInt8) : (a ++ strOf l).data.toList = a.data.toList ++ l := by
  rw [ByteArray.data_append, Array.toList_append]
  rfl
theorem V6_cell (i : Nat) (h : i < 6) : (#[Value.string { data := #[88] }, .string { data := #[89] }, .string { data := #[90] }, .string { data := #[120] }, .string { data := #[121] }, .string { data := #[122] }] : Array Value)[i]? = some (.string (strOf [V6[i]'h])) := by
  match i, h with
  | 0, _ => rfl
  | 1, _ => rfl
  | 2, _ => rfl
  | 3, _ => rfl
  | 4, _ => rfl
  | 5, _ => rfl

/-- What the model's loop adds for a letter. -/
theorem cv_pos (s : ByteArray) (c : UInt8) (hc : isVarB c = true) : (0 < cvOf s (strOf [c])) ↔ ((tyOf s.data.toList).isSome = true ∧ 0 < s.data.toList.count c) := by
  have h1 : (strOf [c]).data.toList.headD 0 = c := rfl
  have h2 : (strOf [c]).size = 1 := rfl
  rw [cvOf, h1]
  by_cases ht : (tyOf s.data.toList).isSome = true
  · rw [if_pos ⟨ht, h2, hc⟩]
    simp only [ht, true_and]
    omega
  · rw [if_neg (fun h => ht h.1)]
    simp [ht]
theorem V6_var (i : Nat) (h : i < 6) : isVarB (V6[i]'h) = true := by
  match i, h with
  | 0, _ => rfl
  | 1, _ => rfl
  | 2, _ => rfl
  | 3, _ => rfl
  | 4, _ => rfl
  | 5, _ => rfl

/-- A type's variables. -/
def varsOf (l : List UInt8) : List UInt8 := if (tyOf l).isSome = true then varsIn l V6.data.toList else []

/-- A type without variables. -/
def groundB (l : List UInt8) : Bool := (tyOf l).isSome && (varsOf l).isEmpty

end Go.Proofs.YtjpdiahbnhemoaaGreat

namespace Go.Proofs.YtjpdiahbnhemoaaGreat
open Go.RowKit

/-- A capital letter in place of a small variable. -/
def capB (c : UInt8) : UInt8 := if 120 ≤ c ∧ c ≤ 122 then c - 120 + 88 else c
def Ty.ren : Ty → Ty
  | .lf c => .lf (capB c)
  | .un c a => .un c a.ren
  | .bi c a b => .bi c a.ren b.ren
theorem capB_ar (c : UInt8) (h : ar c = 0) : ar (capB c) = 0 := by
  revert h
  refine u8_all (p := fun c => ar c = 0 → ar (capB c) = 0) ?_ c
  decide +kernel
theorem capB_var (c : UInt8) (h : isVarB c = true) : isVarB (capB c) = true := by
  revert h
  refine u8_all (p := fun c => isVarB c = true → isVarB (capB c) = true) ?_ c
  decide +kernel
theorem capB_con (c : UInt8) (h : isVarB c = false) : capB c = c := by
  revert h
  refine u8_all (p := fun c => isVarB c = false → capB c = c) ?_ c
  decide +kernel
theorem ren_ok {t : Ty} (h : t.ok) : t.ren.ok := by
  induction t with
  | lf c => exact capB_ar c h
  | un c a ih => exact ⟨h.1, ih h.2⟩
  | bi c a b iha ihb => exact ⟨h.1, iha h.2.1, ihb h.2.2⟩
theorem capB_head (c : UInt8) (h : 0 < ar c) : capB c = c := by
  revert h
  refine u8_all (p := fun c => 0 < ar c → capB c = c) ?_ c
  decide +kernel
theorem ren_text {t : Ty} (h : t.ok) : t.ren.text = t.text.map capB := by
  induction t with
  | lf c => rfl
  | un c a ih =>
    have e : capB c = c := capB_head c (by rw [h.1]; decide)
    simp [Ty.ren, Ty.text, ih h.2, e]
    exact ⟨rfl, rfl⟩
  | bi c a b iha ihb =>
    have e : capB c = c := capB_head c (by rw [h.1]; decide)
    simp [Ty.ren, Ty.text, iha h.2.1, ihb h.2.2, e]
    exact ⟨rfl, rfl, rfl⟩

theorem cap_sub (c : UInt8) (h : (120 : Int) ≤ c.toNat) (h' : (c.toNat : Int) ≤ 122) : (c.toNat : Int) - 120 + 88 = (capB c).toNat := by
  have h1 : 120 ≤ c.toNat := by omega
  have h2 : c.toNat ≤ 122 := by omega
  clear h h'
  revert h1 h2
  refine u8_all (p := fun c => 120 ≤ c.toNat → c.toNat ≤ 122 → (c.toNat : Int) - 120 + 88 = (capB c).toNat) ?_ c
  decide +kernel
theorem cap_same (c : UInt8) (h : ¬ ((120 : Int) ≤ c.toNat ∧ (c.toNat : Int) ≤ 122)) : capB c = c := by
  have h1 : ¬ (120 ≤ c.toNat ∧ c.toNat ≤ 122) := by omega
  clear h
  revert h1
  refine u8_all (p := fun c => ¬ (120 ≤ c.toNat ∧ c.toNat ≤ 122) → capB c = c) ?_ c
  decide +kernel

theorem ta_var_var (b : Nat) (w : World) : (Instr.typeAssert (.iface 75 (.pointer (some ⟨b, 0, none⟩))) 48 75 true).run Tryz.prog w = .ok (.tuple #[.pointer (some ⟨b, 0, none⟩), .bool true]) w := by kernel_rfl
theorem ta_con_var (b : Nat) (w : World) : (Instr.typeAssert (.iface 111 (.pointer (some ⟨b, 0, none⟩))) 48 75 true).run Tryz.prog w = .ok (.tuple #[.pointer none, .bool false]) w := by kernel_rfl
theorem ta_con_cst (b : Nat) (w : World) : (Instr.typeAssert (.iface 111 (.pointer (some ⟨b, 0, none⟩))) 48 107 true).run Tryz.prog w = .ok (.tuple #[.pointer none, .bool false]) w := by kernel_rfl
theorem ta_cst_var (b : Nat) (w : World) : (Instr.typeAssert (.iface 107 (.pointer (some ⟨b, 0, none⟩))) 48 75 true).run Tryz.prog w = .ok (.tuple #[.pointer none, .bool false]) w := by kernel_rfl
theorem ta_cst_cst (b : Nat) (w : World) : (Instr.typeAssert (.iface 107 (.pointer (some ⟨b, 0, none⟩))) 48 107 true).run Tryz.prog w = .ok (.tuple #[.pointer (some ⟨b, 0, none⟩), .bool true]) w := by kernel_rfl

/-- A letter of the program's own variables, or one of the others that it uses. -/
def isVarX (c : UInt8) : Bool := isVarB c || c == 82 || c == 83 || c == 84 || c == 114 || c == 115 || c == 116
theorem isVarX_ok {c : UInt8} (h : ar c = 0) : isVarX c = isVarB c := by
  revert h
  refine u8_all (p := fun c => ar c = 0 → isVarX c = isVarB c) ?_ c
  decide +kernel

theorem capX_var (c : UInt8) (h : isVarX c = true) : isVarX (capB c) = true := by
  revert h
  refine u8_all (p := fun c => isVarX c = true → isVarX (capB c) = true) ?_ c
  decide +kernel

/-- Variables replaced. -/
def Ty.sub (σ : UInt8 → Ty) : Ty → Ty
  | .lf c => if isVarX c = true then σ c else .lf c
  | .un c a => .un c (a.sub σ)
  | .bi c a b => .bi c (a.sub σ) (b.sub σ)
theorem ren_sub {t : Ty} (h : t.ok) : t.sub (fun c => .lf (capB c)) = t.ren := by
  induction t with
  | lf c =>
    rcases hv : isVarX c with _ | _
    · have : isVarB c = false := by rw [← isVarX_ok h]; exact hv
      simp [Ty.sub, Ty.ren, hv, capB_con c this]
    · simp [Ty.sub, Ty.ren, hv]
  | un c a ih => simp [Ty.sub, Ty.ren, ih h.2]
  | bi c a b iha ihb => simp [Ty.sub, Ty.ren, iha h.2.1, ihb h.2.2]

/-- As Rep, the memory in blocks of S. -/
def RepP (w : World) (S : Nat → Prop) : Ty → Value → Prop
  | .lf c, v => ∃ b, S b ∧ ((isVarX c = true ∧ v = .iface 75 (.pointer (some ⟨b, 0, none⟩)) ∧ w.heap[b]? = some (.cells #[.int .u8 c.toNat] 88 (0, 0))) ∨
      (isVarX c = false ∧ v = .iface 111 (.pointer (some ⟨b, 0, none⟩)) ∧ w.heap[b]? = some (.cells #[.int .u8 c.toNat] 112 (0, 0))))
  | .un c a, v => ∃ b g cap x, S b ∧ S g ∧ v = .iface 107 (.pointer (some ⟨b, 0, none⟩)) ∧
      w.heap[b]? = some (.cells #[.int .u8 c.toNat, .slice (some ⟨g, 0, none⟩) 1 cap] 110 (0, 0)) ∧ w.cell? ⟨g, 0, none⟩ = some x ∧ RepP w S a x
  | .bi c a a', v => ∃ b g cap x x', S b ∧ S g ∧ v = .iface 107 (.pointer (some ⟨b, 0, none⟩)) ∧
      w.heap[b]? = some (.cells #[.int .u8 c.toNat, .slice (some ⟨g, 0, none⟩) 2 cap] 110 (0, 0)) ∧ w.cell? ⟨g, 0, none⟩ = some x ∧ w.cell? ⟨g, 1, none⟩ = some x' ∧ RepP w S a x ∧ RepP w S a' x'
theorem RepP.keep {w w' : World} {S S' : Nat → Prop} {t : Ty} : ∀ {v : Value}, RepP w S t v → (∀ k, S k → S' k ∧ w'.heap[k]? = w.heap[k]?) → RepP w' S' t v := by
  induction t with
  | lf c =>
    rintro v ⟨b, h1, h3⟩ hk
    refine ⟨b, (hk b h1).1, ?_⟩
    rw [(hk b h1).2]
    exact h3
  | un c a ih =>
    rintro v ⟨b, g, cap, x, h1, h3, h5, h6, h7, h8⟩ hk
    refine ⟨b, g, cap, x, (hk b h1).1, (hk g h3).1, h5, (hk b h1).2.trans h6, ?_, ih h8 hk⟩
    rw [World.cell?_of_block (w := w) (hk g h3).2]
    exact h7
  | bi c a a' ih ih' =>
    rintro v ⟨b, g, cap, x, x', h1, h3, h5, h6, h7, h7', h8, h9⟩ hk
    refine ⟨b, g, cap, x, x', (hk b h1).1, (hk g h3).1, h5, (hk b h1).2.trans h6, ?_, ?_, ih h8 hk, ih' h9 hk⟩
    · rw [World.cell?_of_block (w := w) (hk g h3).2]
      exact h7
    · rw [World.cell?_of_block (w := w) (hk g h3).2]
      exact h7'
theorem RepP.form {w : World} {S : Nat → Prop} {t : Ty} {v : Value} (hr : RepP w S t v) : ∃ T b, v = .iface T (.pointer (some ⟨b, 0, none⟩)) ∧ S b := by
  cases t with
  | lf c =>
    obtain ⟨b, h1, ⟨_, rfl, _⟩ | ⟨_, rfl, _⟩⟩ := hr
    · exact ⟨_, b, rfl, h1⟩
    · exact ⟨_, b, rfl, h1⟩
  | un c a => obtain ⟨b, g, cap, x, h1, _, rfl, _⟩ := hr; exact ⟨_, b, rfl, h1⟩
  | bi c a a' => obtain ⟨b, g, cap, x, x', h1, _, rfl, _⟩ := hr; exact ⟨_, b, rfl, h1⟩
theorem RepP.rep {w : World} {S : Nat → Prop} {lo hi : Nat} (hS : ∀ k, S k → lo ≤ k ∧ k < hi) {t : Ty} (ho : t.ok) : ∀ {v : Value}, RepP w S t v → Rep w lo hi t v := by
  induction t with
  | lf c =>
    rintro v ⟨b, h1, h3⟩
    rw [isVarX_ok ho] at h3
    exact ⟨b, (hS b h1).1, (hS b h1).2, h3⟩
  | un c a ih =>
    rintro v ⟨b, g, cap, x, h1, h3, h5, h6, h7, h8⟩
    exact ⟨b, g, cap, x, (hS b h1).1, (hS b h1).2, (hS g h3).1, (hS g h3).2, h5, h6, h7, ih ho.2 h8⟩
  | bi c a a' ih ih' =>
    rintro v ⟨b, g, cap, x, x', h1, h3, h5, h6, h7, h7', h8, h9⟩
    exact ⟨b, g, cap, x, x', (hS b h1).1, (hS b h1).2, (hS g h3).1, (hS g h3).2, h5, h6, h7, h7', ih ho.2.1 h8, ih' ho.2.2 h9⟩
theorem Rep.repP {w : World} {lo hi : Nat} {t : Ty} (ho : t.ok) : ∀ {v : Value}, Rep w lo hi t v → RepP w (fun k => lo ≤ k ∧ k < hi) t v := by
  induction t with
  | lf c =>
    rintro v ⟨b, h1, h2, h3⟩
    rw [← isVarX_ok ho] at h3
    exact ⟨b, ⟨h1, h2⟩, h3⟩
  | un c a ih =>
    rintro v ⟨b, g, cap, x, h1, h2, h3, h4, h5, h6, h7, h8⟩
    exact ⟨b, g, cap, x, ⟨h1, h2⟩, ⟨h3, h4⟩, h5, h6, h7, ih ho.2 h8⟩
  | bi c a a' ih ih' =>
    rintro v ⟨b, g, cap, x, x', h1, h2, h3, h4, h5, h6, h7, h7', h8, h9⟩
    exact ⟨b, g, cap, x, x', ⟨h1, h2⟩, ⟨h3, h4⟩, h5, h6, h7, h7', ih ho.2.1 h8, ih' ho.2.2 h9⟩

/-- A function of the program that gives σ c for a variable c, in blocks of S' or new ones; w0: what it must find unchanged. -/
def Gives (fn : Nat) (cap : Array Value) (w0 : World) (S S' : Nat → Prop) (σ : UInt8 → Ty) : Prop :=
  ∀ (w : World) (b : Nat) (c : UInt8), Below w0.heap.size w0 w → S b → isVarX c = true → w.heap[b]? = some (.cells #[.int .u8 c.toNat] 88 (0, 0)) →
    Calls Tryz.prog fn (#[.pointer (some ⟨b, 0, none⟩)] ++ cap) w fun e w' => ∃ T b', e = .returned (.iface T (.pointer (some ⟨b', 0, none⟩))) ∧
      RepP w' (fun k => S' k ∨ (w.heap.size ≤ k ∧ k < w'.heap.size)) (σ c) (.iface T (.pointer (some ⟨b', 0, none⟩))) ∧ Below w.heap.size w w'

set_option maxHeartbeats 1600000 in
set_option maxRecDepth 100000 in
theorem replace_any (σ : UInt8 → Ty) (fn : Nat) (fcap : Array Value) (hcf : ∀ args w, (callFunc fn args).run Tryz.prog w = .ok (.enter fn args) w) (w0 : World) (S S' : Nat → Prop) (hF : Gives fn fcap w0 S S' σ)
    (hS : ∀ k, S k → k < w0.heap.size) (hS' : ∀ k, S' k → k < w0.heap.size) (t : Ty) : ∀ (v : Value) (w : World), Below w0.heap.size w0 w → RepP w S t v →
    Calls Tryz.prog 59 #[v, .func (.func fn) #[] fcap] w fun e w' => ∃ T b, e = .returned (.iface T (.pointer (some ⟨b, 0, none⟩))) ∧
      RepP w' (fun k => S k ∨ S' k ∨ (w.heap.size ≤ k ∧ k < w'.heap.size)) (t.sub σ) (.iface T (.pointer (some ⟨b, 0, none⟩))) ∧ Below w.heap.size w w' := by
  have HF := hid hF
  clear hF
  induction t with
  | lf c =>
    rintro v w hw0 ⟨b, h1, ⟨hv, rfl, hb⟩ | ⟨hv, rfl, hb⟩⟩
    · have HC := hid (HF.out w b c hw0 h1 hv hb)
      have t1 := ta_var_var b
      have HE := hid (show (Ty.lf c).sub σ = σ c by simp [Ty.sub, hv])
      clear hb hv hw0
      go_enter Tryz.func59, Tryz.ntmps59
      go_wp2_with fail
      refine HC.out.mono ?_
      rintro e w1 ⟨T, b', rfl, hrep, hb1⟩
      go_wp2_with fail
      go_ret
      refine ⟨T, b', rfl, ?_, hb1⟩
      rw [HE.out]
      exact hrep.keep fun k hk => ⟨.inr hk, rfl⟩
    · have t1 := ta_con_var b
      have t2 := ta_con_cst b
      have HE := hid (show (Ty.lf c).sub σ = .lf c by simp [Ty.sub, hv])
      go_enter Tryz.func59, Tryz.ntmps59
      go_wp2_with fail
      go_ret
      refine ⟨_, b, rfl, ?_, Below.refl _ _⟩
      rw [HE.out]
      exact ⟨b, .inl h1, .inr ⟨hv, rfl, hb⟩⟩
  | un c a ih =>
    rintro v w hw0 ⟨b, g, cap, x, h1, h3, rfl, hb, hx, hrep⟩
    have z0 := hw0.size
    have h2 := hS b h1
    have h4 := hS g h3
    have h5 : ∀ k, S k → k < w.heap.size := fun k hk => Nat.lt_of_lt_of_le (hS k hk) z0
    have h6 : ∀ k, S' k → k < w.heap.size := fun k hk => Nat.lt_of_lt_of_le (hS' k hk) z0
    obtain ⟨i0, hi0, hz0, hz1, hz2⟩ := info_parts nodeInfo
    obtain ⟨T, bx, rfl, _⟩ := hrep.form
    obtain ⟨c0, c1, _⟩ := two_cells hb
    have HB := hid hb
    clear hb
    have t1 := ta_cst_var b
    have t2 := ta_cst_cst b
    go_enter Tryz.func59, Tryz.ntmps59
    go_wp2_with fail
    refine wp_loop_rounds 2 ?_
    rw [rounds_succ]
    go_wp2_with fail
    refine (ih _ w hw0 hrep).mono ?_
    rintro e w1 ⟨T1, b1, rfl, hrep1, hb1⟩
    have k0 := cell_below c0 (by omega) hb1
    have K0 := hid k0
    go_wp2_with (at_builtin; refine wpList_append_own _ rfl _ _ 99 rfl w.heap.size 48 i0 .nilIface 1 16 Tryz.underlying99 hi0 hz0 hz1 hz2 rfl (by decide) (.slice none 0 0) 0 [] rfl ⟨rfl, .inl ⟨rfl, rfl⟩⟩ ⟨w1.heap.size, 0, none⟩ 1 1 [.iface T1 (.pointer (some ⟨b1, 0, none⟩))] rfl rfl ?c1 ?c2 ?c3 ?c4 ?c5 ?_)
    case c1 => exact news1 _ _ _
    case c2 =>
      intro u hu
      simp only [List.mem_singleton] at hu
      subst hu
      rfl
    case c3 => decide
    case c4 => decide
    case c5 => have := hb1.size; simp only [World.size_alloc]; omega
    intro v2 w2 hown2 hg2 hv2
    clear hv2
    have z1 := hb1.size
    have z2 := hg2.size
    simp only [World.size_alloc] at z2
    obtain ⟨g2, cap2, rfl, q1, q2, q3, q4⟩ := own1 hown2
    have Q3 := hid q3
    clear q3 hown2
    have hbw : Below w.heap.size w w2 := (hb1.alloc hb1.size _).grown hg2 (by simp only [World.size_alloc]; omega) (by intro k hk; simp [Value.ownBlock] at hk)
    have hk2 : ∀ k, k < w1.heap.size → w2.heap[k]? = w1.heap[k]? := fun k hk => (hg2.block k (by simp only [World.size_alloc]; omega) (by simp [Value.ownBlock])).trans (Below.heap_alloc _ _ _ hk)
    have m0 := cell_below c0 (by omega) hbw
    have HK2 := hid hk2
    clear hk2 k0
    go_wp2_with fail
    rw [rounds_succ]
    go_wp2_with fail
    go_ret
    refine ⟨_, _, rfl, ⟨w2.heap.size, g2, cap2, .iface T1 (.pointer (some ⟨b1, 0, none⟩)), .inr (.inr ⟨by omega, by simp only [World.size_alloc]; omega⟩), .inr (.inr ⟨by omega, by simp only [World.size_alloc]; omega⟩), rfl, heap_new1 _ _, ?_, ?_⟩, hbw.alloc hbw.size _⟩
    · rw [World.cell?_of_block (w := w2) (Below.heap_alloc _ _ _ q2)]
      exact Q3.out
    · refine hrep1.keep fun k hk => ?_
      have hk' : k < w1.heap.size := by
        rcases hk with hk | hk | hk
        · have := h5 k hk; omega
        · have := h6 k hk; omega
        · exact hk.2
      refine ⟨?_, (Below.heap_alloc _ _ _ (by omega)).trans (HK2.out k hk')⟩
      rcases hk with hk | hk | hk
      · exact .inl hk
      · exact .inr (.inl hk)
      · exact .inr (.inr ⟨hk.1, by simp only [World.size_alloc]; omega⟩)
  | bi c a a' iha ihb =>
    rintro v w hw0 ⟨b, g, cap, x, x', h1, h3, rfl, hb, hx, hx', hrep, hrep'⟩
    have z0 := hw0.size
    have h2 := hS b h1
    have h4 := hS g h3
    have h5 : ∀ k, S k → k < w.heap.size := fun k hk => Nat.lt_of_lt_of_le (hS k hk) z0
    have h6 : ∀ k, S' k → k < w.heap.size := fun k hk => Nat.lt_of_lt_of_le (hS' k hk) z0
    obtain ⟨i0, hi0, hz0, hz1, hz2⟩ := info_parts nodeInfo
    obtain ⟨T, bx, rfl, _⟩ := hrep.form
    obtain ⟨T', bx', rfl, _⟩ := hrep'.form
    obtain ⟨c0, c1, _⟩ := two_cells hb
    have HB := hid hb
    have HX' := hid hx'
    clear hb hx'
    have t1 := ta_cst_var b
    have t2 := ta_cst_cst b
    go_enter Tryz.func59, Tryz.ntmps59
    go_wp2_with fail
    refine wp_loop_rounds 3 ?_
    rw [rounds_succ]
    go_wp2_with fail
    refine (iha _ w hw0 hrep).mono ?_
    rintro e w1 ⟨T1, b1, rfl, hrep1, hb1⟩
    go_wp2_with (at_builtin; refine wpList_append_lies _ rfl _ _ 99 rfl w.heap.size 48 i0 .nilIface 1 16 Tryz.underlying99 hi0 hz0 hz1 hz2 rfl (by decide) (.slice none 0 0) 0 [] rfl ⟨rfl, .inl ⟨rfl, rfl⟩⟩ ⟨w1.heap.size, 0, none⟩ 1 1 [.iface T1 (.pointer (some ⟨b1, 0, none⟩))] rfl rfl ?c1 ?c2 (by decide) ?c3 ?c4 ?c5 (w1.heap.size + 1) (World.size_alloc _ _) ?_)
    case c1 => exact news1 _ _ _
    case c2 =>
      intro u hu
      simp only [List.mem_singleton] at hu
      subst hu
      rfl
    case c3 => decide
    case c4 => decide
    case c5 => have := hb1.size; simp only [World.size_alloc]; omega
    intro g2 cap2 w2 hown2 hg2 hat2 q2
    have z1 := hb1.size
    have z2 := hg2.size
    simp only [World.size_alloc] at z2
    have hg2n : g2 = w1.heap.size + 1 := by
      rcases hat2 with h | h
      · cases h
      · exact h
    have HG2 := hid hg2n
    have q1 : w.heap.size ≤ g2 := by omega
    have hg2a : w1.heap.size ≤ g2 := by omega
    clear hat2 hg2n
    have hbw : Below w.heap.size w w2 := (hb1.alloc hb1.size _).grown hg2 (by simp only [World.size_alloc]; omega) (by intro k hk; simp [Value.ownBlock] at hk)
    have hk2 : ∀ k, k < w1.heap.size → w2.heap[k]? = w1.heap[k]? := fun k hk => (hg2.block k (by simp only [World.size_alloc]; omega) (by simp [Value.ownBlock])).trans (Below.heap_alloc _ _ _ hk)
    have HK2 := hid hk2
    clear hk2
    have hrep2 : RepP w2 S a' (.iface T' (.pointer (some ⟨bx', 0, none⟩))) := hrep'.keep fun k hk => ⟨hk, hbw.block k (h5 k hk)⟩
    have hx2c : w2.cell? ⟨g, 1, none⟩ = some (.iface T' (.pointer (some ⟨bx', 0, none⟩))) := cell_below HX'.out (by omega) hbw
    have HOWN := hid hown2
    clear hown2
    go_wp2_with fail
    rw [rounds_succ]
    go_wp2_with fail
    refine (ihb _ w2 (hw0.trans (hbw.mono z0)) hrep2).mono ?_
    rintro e w3 ⟨T3, b3, rfl, hrep3, hb3⟩
    clear hx2c
    have z3 := hb3.size
    have hown3 : w3.ownsRow w.heap.size 48 1 (.slice (some ⟨g2, 0, none⟩) 1 cap2) 1 [.iface T1 (.pointer (some ⟨b1, 0, none⟩))] := own_kept HOWN.out (hb3.block g2 q2)
    go_wp2_with (at_builtin; refine wpList_append_own _ rfl _ _ 99 rfl w.heap.size 48 i0 .nilIface 1 16 Tryz.underlying99 hi0 hz0 hz1 hz2 rfl (by decide) _ _ _ rfl (hown3.alloc _) ⟨w3.heap.size, 0, none⟩ 1 1 [.iface T3 (.pointer (some ⟨b3, 0, none⟩))] rfl rfl ?d1 ?d2 ?d3 ?d4 ?d5 ?_)
    case d1 => exact news1 _ _ _
    case d2 =>
      intro u hu
      simp only [List.mem_singleton] at hu
      subst hu
      rfl
    case d3 => decide
    case d4 => decide
    case d5 => simp only [World.size_alloc]; omega
    intro v4 w4 hown4 hg4 hv4
    clear hv4 hown3
    have z4 := hg4.size
    simp only [World.size_alloc] at z4
    obtain ⟨g4, cap4, rfl, y1, y2, y3, y4⟩ := own2 hown4
    have Y3 := hid y3
    have Y4 := hid y4
    clear y3 y4 hown4
    have hbw3 := hbw.trans (hb3.mono hbw.size)
    have hbw4 : Below w.heap.size w w4 := (hbw3.alloc hbw3.size _).grown hg4 (by have := hbw3.size; simp only [World.size_alloc]; omega) (by intro k hk; simp [Value.ownBlock] at hk; omega)
    have hk4 : ∀ k, k < w3.heap.size → k ≠ g2 → w4.heap[k]? = w3.heap[k]? := fun k hk hn => (hg4.block k (by simp only [World.size_alloc]; omega) (by simp [Value.ownBlock]; omega)).trans (Below.heap_alloc _ _ _ hk)
    have HK4 := hid hk4
    clear hk4
    have m0 := cell_below c0 (by omega) hbw4
    go_wp2_with fail
    rw [rounds_succ]
    go_wp2_with fail
    go_ret
    refine ⟨_, _, rfl, ⟨w4.heap.size, g4, cap4, .iface T1 (.pointer (some ⟨b1, 0, none⟩)), .iface T3 (.pointer (some ⟨b3, 0, none⟩)), .inr (.inr ⟨by omega, by simp only [World.size_alloc]; omega⟩), .inr (.inr ⟨by omega, by simp only [World.size_alloc]; omega⟩), rfl, heap_new1 _ _, ?_, ?_, ?_, ?_⟩, hbw4.alloc hbw4.size _⟩
    · rw [World.cell?_of_block (w := w4) (Below.heap_alloc _ _ _ y2)]
      exact Y3.out
    · rw [World.cell?_of_block (w := w4) (Below.heap_alloc _ _ _ y2)]
      exact Y4.out
    · refine hrep1.keep fun k hk => ?_
      have hk' : k < w1.heap.size := by
        rcases hk with hk | hk | hk
        · have := h5 k hk; omega
        · have := h6 k hk; omega
        · exact hk.2
      refine ⟨?_, ?_⟩
      · rcases hk with hk | hk | hk
        · exact .inl hk
        · exact .inr (.inl hk)
        · exact .inr (.inr ⟨hk.1, by simp only [World.size_alloc]; omega⟩)
      · rw [Below.heap_alloc _ _ _ (by omega), HK4.out k (by omega) (by omega), hb3.block k (by omega)]
        exact HK2.out k hk'
    · refine hrep3.keep fun k hk => ?_
      have hk' : k < w3.heap.size ∧ k ≠ g2 := by
        rcases hk with hk | hk | hk
        · have := h5 k hk; omega
        · have := h6 k hk; omega
        · omega
      refine ⟨?_, ?_⟩
      · rcases hk with hk | hk | hk
        · exact .inl hk
        · exact .inr (.inl hk)
        · exact .inr (.inr ⟨by omega, by simp only [World.size_alloc]; omega⟩)
      · rw [Below.heap_alloc _ _ _ (by omega)]
        exact HK4.out k hk'.1 hk'.2

end Go.Proofs.YtjpdiahbnhemoaaGreat

namespace Go.Proofs.YtjpdiahbnhemoaaGreat
open Go.RowKit

/-- A renamed type's text. -/
def renOf (l : List UInt8) : List UInt8 := if (tyOf l).isSome = true then l.map capB else []

theorem conv_one (w : World) (c : UInt8) : (convert 73 9 (.slice (some ⟨w.heap.size, 0, none⟩) 1 1)).run Tryz.prog (w.alloc (.cells #[.int .u8 c.toNat] 5)) = .ok (.string (strOf [c])) (w.alloc (.cells #[.int .u8 c.toNat] 5)) := by
  refine run_convert_bytes_back _ _ _ 5 ⟨w.heap.size, 0, none⟩ 1 [c] Tryz.underlying73 Tryz.underlying5 Tryz.underlying9 (fun j hj => ?_)
  have e : j = 0 := by simp at hj; omega
  subst e
  exact cell_new1 _ _ _

end Go.Proofs.YtjpdiahbnhemoaaGreat
