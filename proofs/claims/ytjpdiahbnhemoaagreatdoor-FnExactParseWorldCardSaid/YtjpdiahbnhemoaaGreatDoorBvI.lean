/- Bindings in plain words: whether they are valid, and what they bind. Bindings read, in the program. -/
import Derived.Test.YtjpdiahbnhemoaaGreatDoorArgsB
import Derived.Test.YtjpdiahbnhemoaaGreatDoorRen
import Derived.OwnWalk
namespace Go.Proofs.YtjpdiahbnhemoaaGreatDoor
open Go.RowKit

/-- Whether bindings are valid, behind the letter last. -/
def bvGo (last : UInt8) : List (ByteArray × ByteArray) → Bool
  | [] => true
  | z :: zs => match z.1.data.toList with
    | [c] => isVarB c && (tyOf z.2.data.toList).isSome && decide (last < c) && bvGo c zs
    | _ => false
def bvOf (zs : List (ByteArray × ByteArray)) : Bool := bvGo 0 zs
/-- What variables stand for, one binding more. -/
def bstep (f : UInt8 → Option Ty) (z : ByteArray × ByteArray) : UInt8 → Option Ty :=
  match z.1.data.toList, tyOf z.2.data.toList with
  | [c], some t => fun d => if d = c then some t else f d
  | _, _ => f
def bmap (zs : List (ByteArray × ByteArray)) : UInt8 → Option Ty := zs.foldl bstep (fun _ => none)

theorem bvGo_bad {last : UInt8} {z : ByteArray × ByteArray} {zs : List (ByteArray × ByteArray)} (h : ∀ c, z.1.data.toList = [c] → isVarB c = true → (tyOf z.2.data.toList).isSome = true → last < c → False) : bvGo last (z :: zs) = false := by
  unfold bvGo
  split
  · rename_i c e
    have := h c e
    rcases h1 : isVarB c with _ | _
    · simp
    · rcases h2 : (tyOf z.2.data.toList).isSome with _ | _
      · simp
      · have hh : ¬ last < c := fun hh => this h1 h2 hh
        simp [hh]
  · rfl
theorem bvGo_good {last c : UInt8} {z : ByteArray × ByteArray} {zs : List (ByteArray × ByteArray)} (h1 : z.1.data.toList = [c]) (h2 : isVarB c = true) (h3 : (tyOf z.2.data.toList).isSome = true) (h4 : last < c) : bvGo last (z :: zs) = bvGo c zs := by
  rw [bvGo, h1]
  simp [h2, h3, h4]
theorem bstep_at {f : UInt8 → Option Ty} {c : UInt8} {t : Ty} {z : ByteArray × ByteArray} (h1 : z.1.data.toList = [c]) (h2 : tyOf z.2.data.toList = some t) : bstep f z = fun d => if d = c then some t else f d := by
  unfold bstep
  rw [h1, h2]
theorem bmap_snoc (zs : List (ByteArray × ByteArray)) (z : ByteArray × ByteArray) : bmap (zs ++ [z]) = bstep (bmap zs) z := by
  unfold bmap
  rw [List.foldl_append]
  rfl
/-- A text that is one letter. -/
theorem tyOf_lf {l : List UInt8} {c : UInt8} : tyOf l = some (.lf c) ↔ l = [c] ∧ ar c = 0 := by
  constructor
  · intro h
    obtain ⟨e, o, _⟩ := tyOf_text h
    exact ⟨e, o⟩
  · rintro ⟨rfl, h⟩
    exact tyOf_of (t := .lf c) h (by simp [Ty.text])
/-- Where a variable's letter stands among all of them. -/
def idxX (c : UInt8) : Nat := (Lib.indexByte [88, 89, 90, 120, 121, 122, 82, 83, 84, 114, 115, 116] c).toNat
theorem idxX_int (c : UInt8) (h : isVarX c = true) : Lib.indexByte [88, 89, 90, 120, 121, 122, 82, 83, 84, 114, 115, 116] c = (idxX c : Int) ∧ idxX c < 12 := by
  revert h
  refine u8_all (p := fun c => isVarX c = true → Lib.indexByte [88, 89, 90, 120, 121, 122, 82, 83, 84, 114, 115, 116] c = (idxX c : Int) ∧ idxX c < 12) ?_ c
  decide +kernel
theorem idxX_let (c : UInt8) (h : isVarX c = true) : ([88, 89, 90, 120, 121, 122, 82, 83, 84, 114, 115, 116] : List UInt8)[idxX c]? = some c := by
  revert h
  refine u8_all (p := fun c => isVarX c = true → ([88, 89, 90, 120, 121, 122, 82, 83, 84, 114, 115, 116] : List UInt8)[idxX c]? = some c) ?_ c
  decide +kernel
theorem idxX_inj {c d : UInt8} (h : isVarX c = true) (h' : isVarX d = true) (e : idxX c = idxX d) : c = d := by
  have h1 := idxX_let c h
  rw [e, idxX_let d h'] at h1
  injection h1 with h1
  exact h1.symm
theorem isVarB_X {c : UInt8} (h : isVarB c = true) : isVarX c = true := by
  unfold isVarX
  simp [h]

end Go.Proofs.YtjpdiahbnhemoaaGreatDoor

namespace Go.Proofs.YtjpdiahbnhemoaaGreatDoor
open Go.RowKit

/-- How readVariable ends. -/
def VarEnd (w : World) (l : List UInt8) (e : Ending) (w' : World) : Prop :=
  Below w.heap.size w w' ∧ (((∀ c, l = [c] → isVarB c = true → False) ∧ e = .returned (.tuple #[.pointer none, .bool false])) ∨
    ∃ c b, l = [c] ∧ isVarB c = true ∧ e = .returned (.tuple #[.pointer (some ⟨b, 0, none⟩), .bool true]) ∧ w.heap.size ≤ b ∧ b < w'.heap.size ∧ w'.heap[b]? = some (.cells #[.int .u8 c.toNat] 131 (0, 0)))

theorem ta_nil_var (w : World) : (Instr.typeAssert .nilIface 93 80 true).run Tryz.prog w = .ok (.tuple #[.pointer none, .bool false]) w := by kernel_rfl

set_option maxHeartbeats 400000 in
set_option maxRecDepth 100000 in
theorem readVariable_any (s : ByteArray) (hs : s.size ≤ maxLen) (w : World) : Calls Tryz.prog 45 #[.string s] w (VarEnd w s.data.toList) := by
  go_enter Tryz.func45, Tryz.ntmps45
  go_wp2_with fail
  refine (readType_any s _ hs).mono ?_
  rintro e w1 ⟨hb, ⟨hn, rfl⟩ | ⟨t, T, b, hs1, rfl, hrep⟩⟩
  · have HN := hid hn
    clear hn
    have t0 := ta_nil_var w1
    go_wp2_with fail
    refine bodyPost_ret (v := .tuple #[.pointer none, .bool false]) (by simp [results, Tryz.results45, go_sem]) rfl ⟨hb, .inl ⟨fun c e1 e2 => ?_, rfl⟩⟩
    have := tyOf_lf.2 ⟨e1, var_ar _ e2⟩
    rw [HN.out] at this
    cases this
  · have HS := hid hs1
    clear hs1
    cases t with
    | lf c =>
      obtain ⟨b', h1, h2, ⟨hv, hf, hb1⟩ | ⟨hv, hf, hb1⟩⟩ := hrep
      · have HB1 := hid hb1
        simp only [Value.iface.injEq, Value.pointer.injEq, Option.some.injEq, Addr.mk.injEq, and_true] at hf
        obtain ⟨rfl, rfl⟩ := hf
        clear hb1
        have t0 := ta_var_var b w1
        go_wp2_with fail
        refine bodyPost_ret (v := .tuple #[.pointer (some ⟨b, 0, none⟩), .bool true]) (by simp [results, Tryz.results45, go_sem]) rfl ⟨hb, .inr ⟨c, b, (tyOf_lf.1 HS.out).1, hv, rfl, h1, h2, HB1.out⟩⟩
      · simp only [Value.iface.injEq, Value.pointer.injEq, Option.some.injEq, Addr.mk.injEq, and_true] at hf
        obtain ⟨rfl, rfl⟩ := hf
        clear hb1
        have t0 := ta_con_var b w1
        go_wp2_with fail
        refine bodyPost_ret (v := .tuple #[.pointer none, .bool false]) (by simp [results, Tryz.results45, go_sem]) rfl ⟨hb, .inl ⟨fun d e1 e2 => ?_, rfl⟩⟩
        have h := tyOf_lf.2 ⟨e1, var_ar _ e2⟩
        rw [HS.out] at h
        injection h with h
        injection h with h
        subst h
        rw [hv] at e2
        cases e2
    | un c a =>
      obtain ⟨b', g, cap, x, h1, h2, h3, h4, hf, _⟩ := hrep
      simp only [Value.iface.injEq, Value.pointer.injEq, Option.some.injEq, Addr.mk.injEq, and_true] at hf
      obtain ⟨rfl, rfl⟩ := hf
      have t0 := ta_cst_var b w1
      go_wp2_with fail
      refine bodyPost_ret (v := .tuple #[.pointer none, .bool false]) (by simp [results, Tryz.results45, go_sem]) rfl ⟨hb, .inl ⟨fun d e1 e2 => ?_, rfl⟩⟩
      have h := tyOf_lf.2 ⟨e1, var_ar _ e2⟩
      rw [HS.out] at h
      injection h with h
      cases h
    | bi c a a' =>
      obtain ⟨b', g, cap, x, x', h1, h2, h3, h4, hf, _⟩ := hrep
      simp only [Value.iface.injEq, Value.pointer.injEq, Option.some.injEq, Addr.mk.injEq, and_true] at hf
      obtain ⟨rfl, rfl⟩ := hf
      have t0 := ta_cst_var b w1
      go_wp2_with fail
      refine bodyPost_ret (v := .tuple #[.pointer none, .bool false]) (by simp [results, Tryz.results45, go_sem]) rfl ⟨hb, .inl ⟨fun d e1 e2 => ?_, rfl⟩⟩
      have h := tyOf_lf.2 ⟨e1, var_ar _ e2⟩
      rw [HS.out] at h
      injection h with h
      cases h

set_option maxHeartbeats 400000 in
theorem strings_IndexByte_any (s : ByteArray) (c : UInt8) (w : World) (k : Int) (hk : Hid (Lib.indexByte s.data.toList c = k)) :
    Calls Tryz.prog 75 #[.string s, .int .u8 c.toNat] w fun e w' => e = .returned (.int .i64 k) ∧ w' = w := by
  have hc : (c.toNat : Int).toNat.toUInt8 = c := by simp
  have HC := hid hc
  clear hc
  go_enter Tryz.func75, Tryz.ntmps75
  go_wp2_with (go_at_call 85; refine (stringslite_IndexByte_any _ _ _).mono ?_; rintro e w' ⟨rfl, rfl⟩; rw [HC.out, hk.out])
  go_ret
  exact ⟨rfl, rfl⟩

theorem two_cells' {w : World} {b : Nat} {h p : Value} {T : TypeId} (e : w.heap[b]? = some (.cells #[h, p] T (0, 0))) :
    w.cell? ⟨b, 0, none⟩ = some h ∧ w.cell? ⟨b, 1, none⟩ = some p ∧ ∀ k, w.frozen? ⟨b, k, none⟩ = false := by
  refine ⟨?_, ?_, fun k => ?_⟩
  · unfold World.cell?; rw [show w.heap[(⟨b, 0, none⟩ : Addr).block]? = _ from e]; rfl
  · unfold World.cell?; rw [show w.heap[(⟨b, 1, none⟩ : Addr).block]? = _ from e]; rfl
  · unfold World.frozen?; rw [show w.heap[(⟨b, k, none⟩ : Addr).block]? = _ from e]; simp

end Go.Proofs.YtjpdiahbnhemoaaGreatDoor
