/- Bindings in plain words: whether they are valid, and what they bind. Bindings read, in the program. -/
import Derived.Test.YtjpdiahbnhemoaaArgsB
import Derived.Test.YtjpdiahbnhemoaaRen
import Derived.OwnWalk
namespace Go.Proofs.Ytjpdiahbnhemoaa
open Go.RowKit

/-- Whether bindings are valid, behind the letter last. -/
def bvGo (last : UInt8) : List (ByteArray × ByteArray) → Bool
  | [] => true
  | z :: zs => match z.1.data.toList with
    | [c] => isVarB c && (tyOf z.2.data.toList).isSome && decide (last < c) && bvGo c zs
    | _ => false
def bvOf (zs : List (ByteArray × ByteArray)) : Bool := bvGo 0 zs
/-- What variables stand for, one binding more. -/
def bstep (f : UInt8 → Option Ty) (z : ByteArray × ByteArray) : UInt8 → Option Ty :=
  match z.1.data.toList, tyOf z.2.data.toList with
  | [c], some t => fun d => if d = c then some t else f d
  | _, _ => f
def bmap (zs : List (ByteArray × ByteArray)) : UInt8 → Option Ty := zs.foldl bstep (fun _ => none)

theorem bvGo_bad {last : UInt8} {z : ByteArray × ByteArray} {zs : List (ByteArray × ByteArray)} (h : ∀ c, z.1.data.toList = [c] → isVarB c = true → (tyOf z.2.data.toList).isSome = true → last < c → False) : bvGo last (z :: zs) = false := by
  unfold bvGo
  split
  · rename_i c e
    have := h c e
    rcases h1 : isVarB c with _ | _
    · simp
    · rcases h2 : (tyOf z.2.data.toList).isSome with _ | _
      · simp
      · have hh : ¬ last < c := fun hh => this h1 h2 hh
        simp [hh]
  · rfl
theorem bvGo_good {last c : UInt8} {z : ByteArray × ByteArray} {zs : List (ByteArray × ByteArray)} (h1 : z.1.data.toList = [c]) (h2 : isVarB c = true) (h3 : (tyOf z.2.data.toList).isSome = true) (h4 : last < c) : bvGo last (z :: zs) = bvGo c zs := by
  rw [bvGo, h1]
  simp [h2, h3, h4]
theorem bstep_at {f : UInt8 → Option Ty} {c : UInt8} {t : Ty} {z : ByteArray × ByteArray} (h1 : z.1.data.toList = [c]) (h2 : tyOf z.2.data.toList = some t) : bstep f z = fun d => if d = c then some t else f d := by
  unfold bstep
  rw [h1, h2]
theorem bmap_snoc (zs : List (ByteArray × ByteArray)) (z : ByteArray × ByteArray) : bmap (zs ++ [z]) = bstep (bmap zs) z := by
  unfold bmap
  rw [List.foldl_append]
  rfl
/-- A text that is one letter. -/
theorem tyOf_lf {l : List UInt8} {c : UInt8} : tyOf l = some (.lf c) ↔ l = [c] ∧ ar c = 0 := by
  constructor
  · intro h
    obtain ⟨e, o, _⟩ := tyOf_text h
    exact ⟨e, o⟩
  · rintro ⟨rfl, h⟩
    exact tyOf_of (t := .lf c) h (by simp [Ty.text])
/-- Where a variable's letter stands among all of them. -/
def idxX (c : UInt8) : Nat := (Lib.indexByte [88, 89, 90, 120, 121, 122, 82, 83, 84, 114, 115, 116] c).toNat
theorem idxX_int (c : UInt8) (h : isVarX c = true) : Lib.indexByte [88, 89, 90, 120, 121, 122, 82, 83, 84, 114, 115, 116] c = (idxX c : Int) ∧ idxX c < 12 := by
  revert h
  refine u8_all (p := fun c => isVarX c = true → Lib.indexByte [88, 89, 90, 120, 121, 122, 82, 83, 84, 114, 115, 116] c = (idxX c : Int) ∧ idxX c < 12) ?_ c
  decide +kernel
theorem idxX_let (c : UInt8) (h : isVarX c = true) : ([88, 89, 90, 120, 121, 122, 82, 83, 84, 114, 115, 116] : List UInt8)[idxX c]? = some c := by
  revert h
  refine u8_all (p := fun c => isVarX c = true → ([88, 89, 90, 120, 121, 122, 82, 83, 84, 114, 115, 116] : List UInt8)[idxX c]? = some c) ?_ c
  decide +kernel
theorem idxX_inj {c d : UInt8} (h : isVarX c = true) (h' : isVarX d = true) (e : idxX c = idxX d) : c = d := by
  have h1 := idxX_let c h
  rw [e, idxX_let d h'] at h1
  injection h1 with h1
  exact h1.symm
theorem isVarB_X {c : UInt8} (h : isVarB c = true) : isVarX c = true := by
  unfold isVarX
  simp [h]

/-- What variables stand for, in the program's memory: at block sb, the trees in blocks of S. -/
def Stnd (w : World) (sb : Nat) (S : Nat → Prop) (f : UInt8 → Option Ty) : Prop :=
  ∃ cur : Array Value, w.heap[sb]? = some (.cells cur 72 (0, 0)) ∧ cur.size = 12 ∧ ∀ c, isVarX c = true → match f c with
    | none => cur[idxX c]? = some .nilIface
    | some t => ∃ v, cur[idxX c]? = some v ∧ RepP w S t v
theorem Stnd.keep {w w' : World} {sb : Nat} {S S' : Nat → Prop} {f : UInt8 → Option Ty} (h : Stnd w sb S f) (hb : w'.heap[sb]? = w.heap[sb]?) (hk : ∀ k, S k → S' k ∧ w'.heap[k]? = w.heap[k]?) : Stnd w' sb S' f := by
  obtain ⟨cur, h1, h2, h3⟩ := h
  refine ⟨cur, hb.trans h1, h2, fun c hc => ?_⟩
  have := h3 c hc
  split at this
  · exact this
  · obtain ⟨v, e1, e2⟩ := this
    exact ⟨v, e1, e2.keep hk⟩
/-- A variable bound. -/
theorem Stnd.set {w : World} {sb : Nat} {S : Nat → Prop} {f : UInt8 → Option Ty} (h : Stnd w sb S f) (hs : ¬ S sb) {c : UInt8} (hc : isVarX c = true) {t : Ty} {v : Value} (hv : RepP w S t v) :
    Stnd (w.setCell ⟨sb, idxX c, none⟩ v) sb S (fun d => if d = c then some t else f d) := by
  obtain ⟨cur, h1, h2, h3⟩ := h
  have hk : ∀ k, S k → S k ∧ (w.setCell ⟨sb, idxX c, none⟩ v).heap[k]? = w.heap[k]? := fun k hk => ⟨hk, Below.heap_setCell _ _ _ _ (by rintro rfl; exact hs hk)⟩
  refine ⟨cur.setIfInBounds (idxX c) v, ?_, by simpa using h2, fun d hd => ?_⟩
  · simp [World.setCell, Array.getElem?_modify, h1]
  · by_cases e : d = c
    · subst e
      simp only [if_true]
      refine ⟨v, ?_, hv.keep hk⟩
      have := (idxX_int d hd).2
      rw [Array.getElem?_setIfInBounds, if_pos rfl, if_pos (by omega)]
    · simp only [if_neg e]
      have h4 := h3 d hd
      have hne : ¬ idxX c = idxX d := fun e' => e (idxX_inj hd hc e'.symm)
      rw [Array.getElem?_setIfInBounds, if_neg hne]
      split at h4
      · exact h4
      · obtain ⟨u, e2, e3⟩ := h4
        exact ⟨u, e2, e3.keep hk⟩
end Go.Proofs.Ytjpdiahbnhemoaa

namespace Go.Proofs.Ytjpdiahbnhemoaa
open Go.RowKit

/-- How readVariable ends. -/
def VarEnd (w : World) (l : List UInt8) (e : Ending) (w' : World) : Prop :=
  Below w.heap.size w w' ∧ (((∀ c, l = [c] → isVarB c = true → False) ∧ e = .returned (.tuple #[.pointer none, .bool false])) ∨
    ∃ c b, l = [c] ∧ isVarB c = true ∧ e = .returned (.tuple #[.pointer (some ⟨b, 0, none⟩), .bool true]) ∧ w.heap.size ≤ b ∧ b < w'.heap.size ∧ w'.heap[b]? = some (.cells #[.int .u8 c.toNat] 125 (0, 0)))

theorem ta_nil_var (w : World) : (Instr.typeAssert .nilIface 66 105 true).run Try.prog w = .ok (.tuple #[.pointer none, .bool false]) w := by kernel_rfl

set_option maxHeartbeats 400000 in
theorem strings_IndexByte_any (s : ByteArray) (c : UInt8) (w : World) (k : Int) (hk : Hid (Lib.indexByte s.data.toList c = k)) :
    Calls Try.prog 77 #[.string s, .int .u8 c.toNat] w fun e w' => e = .returned (.int .i64 k) ∧ w' = w := by
  have hc : (c.toNat : Int).toNat.toUInt8 = c := by simp
  have HC := hid hc
  clear hc
  go_enter Try.func77, Try.ntmps77
  go_wp2_with (go_at_call 99; refine (stringslite_IndexByte_any _ _ _).mono ?_; rintro e w' ⟨rfl, rfl⟩; rw [HC.out, hk.out])
  go_ret
  exact ⟨rfl, rfl⟩

set_option maxHeartbeats 400000 in
set_option maxRecDepth 100000 in
theorem place_any (sb vb : Nat) (c : UInt8) (w : World) (hc : isVarX c = true) (hv : w.heap[vb]? = some (.cells #[.int .u8 c.toNat] 125 (0, 0))) (k : Nat) (hk : Hid (idxX c = k)) :
    Calls Try.prog 108 #[.pointer (some ⟨sb, 0, none⟩), .pointer (some ⟨vb, 0, none⟩)] w fun e w' => e = .returned (.pointer (some ⟨sb, k, none⟩)) ∧ ∃ m, w' = w.drewN m := by
  have c0 := cell_of1 hv
  obtain ⟨hi, hlt⟩ := idxX_int c hc
  rw [hk.out] at hi hlt
  have HI := hid hi
  clear hi hc
  have i1 : (0 : Int) ≤ (k : Int) := by omega
  have i2 : (k : Int) < 12 := by omega
  go_enter Try.func108, Try.ntmps108
  go_wp2_with fail
  go_region_with (go_at_call 77; refine (strings_IndexByte_any { data := #[88, 89, 90, 120, 121, 122, 82, 83, 84, 114, 115, 116] } c _ k HI).mono ?_; rintro e w' ⟨rfl, rfl⟩)
  all_goals
    go_wp2_with fail
    go_ret
    exact ⟨rfl, 1, rfl⟩

set_option maxHeartbeats 400000 in
set_option maxRecDepth 100000 in
theorem set_any (sb vb : Nat) (c : UInt8) (w : World) (hc : isVarX c = true) (hv : w.heap[vb]? = some (.cells #[.int .u8 c.toNat] 125 (0, 0))) (cur : Array Value) (hs : w.heap[sb]? = some (.cells cur 72 (0, 0))) (hz : cur.size = 12) (v : Value) (k : Nat) (hk : Hid (idxX c = k))
    (hv1 : ∃ T p, v = .iface T p) :
    Calls Try.prog 91 #[.pointer (some ⟨sb, 0, none⟩), .pointer (some ⟨vb, 0, none⟩), v] w fun e w' => e = .returned (.tuple #[]) ∧ ∃ m, w' = (w.drewN m).setCell ⟨sb, k, none⟩ v := by
  obtain ⟨T, p, rfl⟩ := hv1
  have hlt := (idxX_int c hc).2
  rw [hk.out] at hlt
  have q0 : w.cell? ⟨sb, k, none⟩ = some cur[k] := cell_blk hs (Array.getElem?_eq_getElem (by omega))
  have f0 : w.frozen? ⟨sb, k, none⟩ = false := frz_blk hs k
  have HV := hid hv
  clear hv hs
  go_enter Try.func91, Try.ntmps91
  go_wp2_with fail
  refine (place_any sb vb c w hc HV.out k hk).mono ?_
  rintro e w' ⟨rfl, m, rfl⟩
  go_wp2_with fail
  go_end0
  exact ⟨rfl, m, rfl⟩

/-- A variable bound, by the program. -/
theorem set_stnd (sb vb : Nat) (c : UInt8) (w : World) (S : Nat → Prop) (f : UInt8 → Option Ty) (t : Ty) (v : Value) (hc : isVarX c = true) (hv : w.heap[vb]? = some (.cells #[.int .u8 c.toNat] 125 (0, 0))) (h : Stnd w sb S f) (hs : ¬ S sb) (hr : RepP w S t v) :
    Calls Try.prog 91 #[.pointer (some ⟨sb, 0, none⟩), .pointer (some ⟨vb, 0, none⟩), v] w fun e w' => e = .returned (.tuple #[]) ∧ Stnd w' sb S (fun d => if d = c then some t else f d) ∧ But w.heap.size sb w w' ∧ w'.heap.size = w.heap.size := by
  have h' := h
  obtain ⟨cur, h1, h2, _⟩ := h'
  obtain ⟨T, b, hT, _⟩ := hr.form
  refine (set_any sb vb c w hc hv cur h1 h2 v _ (hid rfl) ⟨T, _, hT⟩).mono ?_
  rintro e w' ⟨rfl, m, rfl⟩
  refine ⟨rfl, ?_, ((But.refl _ _ _).drewN m).set _ _, by simp [World.setCell]⟩
  exact Stnd.set (w := w.drewN m) (h.keep (S' := S) rfl fun k hk => ⟨hk, rfl⟩) hs hc (hr.keep fun k hk => ⟨hk, rfl⟩)

theorem Stnd.new (w : World) : Stnd (w.alloc (.cells #[.nilIface, .nilIface, .nilIface, .nilIface, .nilIface, .nilIface, .nilIface, .nilIface, .nilIface, .nilIface, .nilIface, .nilIface] 72)) w.heap.size (fun b => w.heap.size < b ∧ b < (w.alloc (.cells #[.nilIface, .nilIface, .nilIface, .nilIface, .nilIface, .nilIface, .nilIface, .nilIface, .nilIface, .nilIface, .nilIface, .nilIface] 72)).heap.size) (fun _ => none) := by
  refine ⟨_, heap_new1 _ _, rfl, fun c hc => ?_⟩
  have h := (idxX_int c hc).2
  obtain ⟨k, hk⟩ : ∃ k, idxX c = k := ⟨_, rfl⟩
  rw [hk] at h ⊢
  have h' : k = 0 ∨ k = 1 ∨ k = 2 ∨ k = 3 ∨ k = 4 ∨ k = 5 ∨ k = 6 ∨ k = 7 ∨ k = 8 ∨ k = 9 ∨ k = 10 ∨ k = 11 := by omega
  rcases h' with h | h | h | h | h | h | h | h | h | h | h | h <;> (subst h; rfl)
theorem two_cells' {w : World} {b : Nat} {h p : Value} {T : TypeId} (e : w.heap[b]? = some (.cells #[h, p] T (0, 0))) :
    w.cell? ⟨b, 0, none⟩ = some h ∧ w.cell? ⟨b, 1, none⟩ = some p ∧ ∀ k, w.frozen? ⟨b, k, none⟩ = false := by
  refine ⟨?_, ?_, fun k => ?_⟩
  · unfold World.cell?; rw [show w.heap[(⟨b, 0, none⟩ : Addr).block]? = _ from e]; rfl
  · unfold World.cell?; rw [show w.heap[(⟨b, 1, none⟩ : Addr).block]? = _ from e]; rfl
  · unfold World.frozen?; rw [show w.heap[(⟨b, k, none⟩ : Addr).block]? = _ from e]; simp

/-- How readBindings ends. -/
def BindEnd (w : World) (zs : List (ByteArray × ByteArray)) (e : Ending) (w' : World) : Prop :=
  Below w.heap.size w w' ∧ ((bvOf zs = false ∧ e = .returned (.tuple #[.pointer none, .bool false])) ∨
    ∃ sb, bvOf zs = true ∧ e = .returned (.tuple #[.pointer (some ⟨sb, 0, none⟩), .bool true]) ∧ w.heap.size ≤ sb ∧ sb < w'.heap.size ∧ Stnd w' sb (fun k => w.heap.size ≤ k ∧ k < w'.heap.size ∧ k ≠ sb) (bmap zs))

end Go.Proofs.Ytjpdiahbnhemoaa
