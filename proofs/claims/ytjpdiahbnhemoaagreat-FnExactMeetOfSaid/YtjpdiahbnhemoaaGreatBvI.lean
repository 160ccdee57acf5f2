/- Bindings in plain words: whether they are valid, and what they bind. Bindings read, in the program. -/
import Derived.Test.YtjpdiahbnhemoaaGreatArgsB
import Derived.Test.YtjpdiahbnhemoaaGreatRen
import Derived.OwnWalk
namespace Go.Proofs.YtjpdiahbnhemoaaGreat
open Go.RowKit

/-- Whether bindings are valid, behind the letter last. -/
def bvGo (last : UInt8) : List (ByteArray × ByteArray) → Bool
  | [] => true
  | z :: zs => match z.1.data.toList with
    | [c] => isVarB c && (tyOf z.2.data.toList).isSome && decide (last < c) && bvGo c zs
    | _ => false
def bvOf (zs : List (ByteArray × ByteArray)) : Bool := bvGo 0 zs
/-- What variables stand for, one binding more. -/
def bstep (f : UInt8 → Option Ty) (z : ByteArray × ByteArray) : UInt8 → Option Ty :=
  match z.1.data.toList, tyOf z.2.data.toList with
  | [c], some t => fun d => if d = c then some t else f d
  | _, _ => f
def bmap (zs : List (ByteArray × ByteArray)) : UInt8 → Option Ty := zs.foldl bstep (fun _ => none)

theorem bvGo_bad {last : UInt8} {z : ByteArray × ByteArray} {zs : List (ByteArray × ByteArray)} (h : ∀ c, z.1.data.toList = [c] → isVarB c = true → (tyOf z.2.data.toList).isSome = true → last < c → False) : bvGo last (z :: zs) = false := by
  unfold bvGo
  split
  · rename_i c e
    have := h c e
    rcases h1 : isVarB c with _ | _
    · simp
    · rcases h2 : (tyOf z.2.data.toList).isSome with _ | _
      · simp
      · have hh : ¬ last < c := fun hh => this h1 h2 hh
        simp [hh]
  · rfl
theorem bvGo_good {last c : UInt8} {z : ByteArray × ByteArray} {zs : List (ByteArray × ByteArray)} (h1 : z.1.data.toList = [c]) (h2 : isVarB c = true) (h3 : (tyOf z.2.data.toList).isSome = true) (h4 : last < c) : bvGo last (z :: zs) = bvGo c zs := by
  rw [bvGo, h1]
  simp [h2, h3, h4]
theorem bstep_at {f : UInt8 → Option Ty} {c : UInt8} {t : Ty} {z : ByteArray × ByteArray} (h1 : z.1.data.toList = [c]) (h2 : tyOf z.2.data.toList = some t) : bstep f z = fun d => if d = c then some t else f d := by
  unfold bstep
  rw [h1, h2]
theorem bmap_snoc (zs : List (ByteArray × ByteArray)) (z : ByteArray × ByteArray) : bmap (zs ++ [z]) = bstep (bmap zs) z := by
  unfold bmap
  rw [List.foldl_append]
  rfl
/-- A text that is one letter. -/
theorem tyOf_lf {l : List UInt8} {c : UInt8} : tyOf l = some (.lf c) ↔ l = [c] ∧ ar c = 0 := by
  constructor
  · intro h
    obtain ⟨e, o, _⟩ := tyOf_text h
    exact ⟨e, o⟩
  · rintro ⟨rfl, h⟩
    exact tyOf_of (t := .lf c) h (by simp [Ty.text])
/-- Where a variable's letter stands among all of them. -/
def idxX (c : UInt8) : Nat := (Lib.indexByte [88, 89, 90, 120, 121, 122, 82, 83, 84, 114, 115, 116] c).toNat
theorem idxX_int (c : UInt8) (h : isVarX c = true) : Lib.indexByte [88, 89, 90, 120, 121, 122, 82, 83, 84, 114, 115, 116] c = (idxX c : Int) ∧ idxX c < 12 := by
  revert h
  refine u8_all (p := fun c => isVarX c = true → Lib.indexByte [88, 89, 90, 120, 121, 122, 82, 83, 84, 114, 115, 116] c = (idxX c : Int) ∧ idxX c < 12) ?_ c
  decide +kernel
theorem idxX_let (c : UInt8) (h : isVarX c = true) : ([88, 89, 90, 120, 121, 122, 82, 83, 84, 114, 115, 116] : List UInt8)[idxX c]? = some c := by
  revert h
  refine u8_all (p := fun c => isVarX c = true → ([88, 89, 90, 120, 121, 122, 82, 83, 84, 114, 115, 116] : List UInt8)[idxX c]? = some c) ?_ c
  decide +kernel
theorem idxX_inj {c d : UInt8} (h : isVarX c = true) (h' : isVarX d = true) (e : idxX c = idxX d) : c = d := by
  have h1 := idxX_let c h
  rw [e, idxX_let d h'] at h1
  injection h1 with h1
  exact h1.symm
theorem isVarB_X {c : UInt8} (h : isVarB c = true) : isVarX c = true := by
  unfold isVarX
  simp [h]

/-- What variables stand for, in the program's memory: at block sb, the trees in blocks of S. -/
def Stnd (w : World) (sb : Nat) (S : Nat → Prop) (f : UInt8 → Option Ty) : Prop :=
  ∃ cur : Array Value, w.heap[sb]? = some (.cells cur 54 (0, 0)) ∧ cur.size = 12 ∧ ∀ c, isVarX c = true → match f c with
    | none => cur[idxX c]? = some .nilIface
    | some t => ∃ v, cur[idxX c]? = some v ∧ RepP w S t v
theorem Stnd.keep {w w' : World} {sb : Nat} {S S' : Nat → Prop} {f : UInt8 → Option Ty} (h : Stnd w sb S f) (hb : w'.heap[sb]? = w.heap[sb]?) (hk : ∀ k, S k → S' k ∧ w'.heap[k]? = w.heap[k]?) : Stnd w' sb S' f := by
  obtain ⟨cur, h1, h2, h3⟩ := h
  refine ⟨cur, hb.trans h1, h2, fun c hc => ?_⟩
  have := h3 c hc
  split at this
  · exact this
  · obtain ⟨v, e1, e2⟩ := this
    exact ⟨v, e1, e2.keep hk⟩
/-- A variable bound. -/
theorem Stnd.set {w : World} {sb : Nat} {S : Nat → Prop} {f : UInt8 → Option Ty} (h : Stnd w sb S f) (hs : ¬ S sb) {c : UInt8} (hc : isVarX c = true) {t : Ty} {v : Value} (hv : RepP w S t v) :
    Stnd (w.setCell ⟨sb, idxX c, none⟩ v) sb S (fun d => if d = c then some t else f d) := by
  obtain ⟨cur, h1, h2, h3⟩ := h
  have hk : ∀ k, S k → S k ∧ (w.setCell ⟨sb, idxX c, none⟩ v).heap[k]? = w.heap[k]? := fun k hk => ⟨hk, Below.heap_setCell _ _ _ _ (by rintro rfl; exact hs hk)⟩
  refine ⟨cur.setIfInBounds (idxX c) v, ?_, by simpa using h2, fun d hd => ?_⟩
  · simp [World.setCell, Array.getElem?_modify, h1]
  · by_cases e : d = c
    · subst e
      simp only [if_true]
      refine ⟨v, ?_, hv.keep hk⟩
      have := (idxX_int d hd).2
      rw [Array.getElem?_setIfInBounds, if_pos rfl, if_pos (by omega)]
    · simp only [if_neg e]
      have h4 := h3 d hd
      have hne : ¬ idxX c = idxX d := fun e' => e (idxX_inj hd hc e'.symm)
      rw [Array.getElem?_setIfInBounds, if_neg hne]
      split at h4
      · exact h4
      · obtain ⟨u, e2, e3⟩ := h4
        exact ⟨u, e2, e3.keep hk⟩
end Go.Proofs.YtjpdiahbnhemoaaGreat

namespace Go.Proofs.YtjpdiahbnhemoaaGreat
open Go.RowKit

/-- How readVariable ends. -/
def VarEnd (w : World) (l : List UInt8) (e : Ending) (w' : World) : Prop :=
  Below w.heap.size w w' ∧ (((∀ c, l = [c] → isVarB c = true → False) ∧ e = .returned (.tuple #[.pointer none, .bool false])) ∨
    ∃ c b, l = [c] ∧ isVarB c = true ∧ e = .returned (.tuple #[.pointer (some ⟨b, 0, none⟩), .bool true]) ∧ w.heap.size ≤ b ∧ b < w'.heap.size ∧ w'.heap[b]? = some (.cells #[.int .u8 c.toNat] 88 (0, 0)))

theorem ta_nil_var (w : World) : (Instr.typeAssert .nilIface 48 75 true).run Tryz.prog w = .ok (.tuple #[.pointer none, .bool false]) w := by kernel_rfl

set_option maxHeartbeats 400000 in
set_option maxRecDepth 100000 in
theorem readVariable_any (s : ByteArray) (hs : s.size ≤ maxLen) (w : World) : Calls Tryz.prog 44 #[.string s] w (VarEnd w s.data.toList) := by
  go_enter Tryz.func44, Tryz.ntmps44
  go_wp2_with fail
  refine (readType_any s _ hs).mono ?_
  rintro e w1 ⟨hb, ⟨hn, rfl⟩ | ⟨t, T, b, hs1, rfl, hrep⟩⟩
  · have HN := hid hn
    clear hn
    have t0 := ta_nil_var w1
    go_wp2_with fail
    refine bodyPost_ret (v := .tuple #[.pointer none, .bool false]) (by simp [results, Tryz.results44, go_sem]) rfl ⟨hb, .inl ⟨fun c e1 e2 => ?_, rfl⟩⟩
    have := tyOf_lf.2 ⟨e1, var_ar _ e2⟩
    rw [HN.out] at this
    cases this
  · have HS := hid hs1
    clear hs1
    cases t with
    | lf c =>
      obtain ⟨b', h1, h2, ⟨hv, hf, hb1⟩ | ⟨hv, hf, hb1⟩⟩ := hrep
      · have HB1 := hid hb1
        simp only [Value.iface.injEq, Value.pointer.injEq, Option.some.injEq, Addr.mk.injEq, and_true] at hf
        obtain ⟨rfl, rfl⟩ := hf
        clear hb1
        have t0 := ta_var_var b w1
        go_wp2_with fail
        refine bodyPost_ret (v := .tuple #[.pointer (some ⟨b, 0, none⟩), .bool true]) (by simp [results, Tryz.results44, go_sem]) rfl ⟨hb, .inr ⟨c, b, (tyOf_lf.1 HS.out).1, hv, rfl, h1, h2, HB1.out⟩⟩
      · simp only [Value.iface.injEq, Value.pointer.injEq, Option.some.injEq, Addr.mk.injEq, and_true] at hf
        obtain ⟨rfl, rfl⟩ := hf
        clear hb1
        have t0 := ta_con_var b w1
        go_wp2_with fail
        refine bodyPost_ret (v := .tuple #[.pointer none, .bool false]) (by simp [results, Tryz.results44, go_sem]) rfl ⟨hb, .inl ⟨fun d e1 e2 => ?_, rfl⟩⟩
        have h := tyOf_lf.2 ⟨e1, var_ar _ e2⟩
        rw [HS.out] at h
        injection h with h
        injection h with h
        subst h
        rw [hv] at e2
        cases e2
    | un c a =>
      obtain ⟨b', g, cap, x, h1, h2, h3, h4, hf, _⟩ := hrep
      simp only [Value.iface.injEq, Value.pointer.injEq, Option.some.injEq, Addr.mk.injEq, and_true] at hf
      obtain ⟨rfl, rfl⟩ := hf
      have t0 := ta_cst_var b w1
      go_wp2_with fail
      refine bodyPost_ret (v := .tuple #[.pointer none, .bool false]) (by simp [results, Tryz.results44, go_sem]) rfl ⟨hb, .inl ⟨fun d e1 e2 => ?_, rfl⟩⟩
      have h := tyOf_lf.2 ⟨e1, var_ar _ e2⟩
      rw [HS.out] at h
      injection h with h
      cases h
    | bi c a a' =>
      obtain ⟨b', g, cap, x, x', h1, h2, h3, h4, hf, _⟩ := hrep
      simp only [Value.iface.injEq, Value.pointer.injEq, Option.some.injEq, Addr.mk.injEq, and_true] at hf
      obtain ⟨rfl, rfl⟩ := hf
      have t0 := ta_cst_var b w1
      go_wp2_with fail
      refine bodyPost_ret (v := .tuple #[.pointer none, .bool false]) (by simp [results, Tryz.results44, go_sem]) rfl ⟨hb, .inl ⟨fun d e1 e2 => ?_, rfl⟩⟩
      have h := tyOf_lf.2 ⟨e1, var_ar _ e2⟩
      rw [HS.out] at h
      injection h with h
      cases h

set_option maxHeartbeats 400000 in
theorem strings_IndexByte_any (s : ByteArray) (c : UInt8) (w : World) (k : Int) (hk : Hid (Lib.indexByte s.data.toList c = k)) :
    Calls Tryz.prog 79 #[.string s, .int .u8 c.toNat] w fun e w' => e = .returned (.int .i64 k) ∧ w' = w := by
  have hc : (c.toNat : Int).toNat.toUInt8 = c := by simp
  have HC := hid hc
  clear hc
  go_enter Tryz.func79, Tryz.ntmps79
  go_wp2_with (go_at_call 87; refine (stringslite_IndexByte_any _ _ _).mono ?_; rintro e w' ⟨rfl, rfl⟩; rw [HC.out, hk.out])
  go_ret
  exact ⟨rfl, rfl⟩

set_option maxHeartbeats 400000 in
set_option maxRecDepth 100000 in
theorem place_any (sb vb : Nat) (c : UInt8) (w : World) (hc : isVarX c = true) (hv : w.heap[vb]? = some (.cells #[.int .u8 c.toNat] 88 (0, 0))) (k : Nat) (hk : Hid (idxX c = k)) :
    Calls Tryz.prog 61 #[.pointer (some ⟨sb, 0, none⟩), .pointer (some ⟨vb, 0, none⟩)] w fun e w' => e = .returned (.pointer (some ⟨sb, k, none⟩)) ∧ ∃ m, w' = w.drewN m := by
  have c0 := cell_of1 hv
  obtain ⟨hi, hlt⟩ := idxX_int c hc
  rw [hk.out] at hi hlt
  have HI := hid hi
  clear hi hc
  have i1 : (0 : Int) ≤ (k : Int) := by omega
  have i2 : (k : Int) < 12 := by omega
  go_enter Tryz.func61, Tryz.ntmps61
  go_wp2_with fail
  go_region_with (go_at_call 79; refine (strings_IndexByte_any { data := #[88, 89, 90, 120, 121, 122, 82, 83, 84, 114, 115, 116] } c _ k HI).mono ?_; rintro e w' ⟨rfl, rfl⟩)
  all_goals
    go_wp2_with fail
    go_ret
    exact ⟨rfl, 1, rfl⟩

set_option maxHeartbeats 400000 in
set_option maxRecDepth 100000 in
theorem set_any (sb vb : Nat) (c : UInt8) (w : World) (hc : isVarX c = true) (hv : w.heap[vb]? = some (.cells #[.int .u8 c.toNat] 88 (0, 0))) (cur : Array Value) (hs : w.heap[sb]? = some (.cells cur 54 (0, 0))) (hz : cur.size = 12) (v : Value) (k : Nat) (hk : Hid (idxX c = k))
    (hv1 : ∃ T p, v = .iface T p) :
    Calls Tryz.prog 45 #[.pointer (some ⟨sb, 0, none⟩), .pointer (some ⟨vb, 0, none⟩), v] w fun e w' => e = .returned (.tuple #[]) ∧ ∃ m, w' = (w.drewN m).setCell ⟨sb, k, none⟩ v := by
  obtain ⟨T, p, rfl⟩ := hv1
  have hlt := (idxX_int c hc).2
  rw [hk.out] at hlt
  have q0 : w.cell? ⟨sb, k, none⟩ = some cur[k] := cell_blk hs (Array.getElem?_eq_getElem (by omega))
  have f0 : w.frozen? ⟨sb, k, none⟩ = false := frz_blk hs k
  have HV := hid hv
  clear hv hs
  go_enter Tryz.func45, Tryz.ntmps45
  go_wp2_with fail
  refine (place_any sb vb c w hc HV.out k hk).mono ?_
  rintro e w' ⟨rfl, m, rfl⟩
  go_wp2_with fail
  go_end0
  exact ⟨rfl, m, rfl⟩

/-- A variable bound, by the program. -/
theorem set_stnd (sb vb : Nat) (c : UInt8) (w : World) (S : Nat → Prop) (f : UInt8 → Option Ty) (t : Ty) (v : Value) (hc : isVarX c = true) (hv : w.heap[vb]? = some (.cells #[.int .u8 c.toNat] 88 (0, 0))) (h : Stnd w sb S f) (hs : ¬ S sb) (hr : RepP w S t v) :
    Calls Tryz.prog 45 #[.pointer (some ⟨sb, 0, none⟩), .pointer (some ⟨vb, 0, none⟩), v] w fun e w' => e = .returned (.tuple #[]) ∧ Stnd w' sb S (fun d => if d = c then some t else f d) ∧ But w.heap.size sb w w' ∧ w'.heap.size = w.heap.size := by
  have h' := h
  obtain ⟨cur, h1, h2, _⟩ := h'
  obtain ⟨T, b, hT, _⟩ := hr.form
  refine (set_any sb vb c w hc hv cur h1 h2 v _ (hid rfl) ⟨T, _, hT⟩).mono ?_
  rintro e w' ⟨rfl, m, rfl⟩
  refine ⟨rfl, ?_, ((But.refl _ _ _).drewN m).set _ _, by simp [World.setCell]⟩
  exact Stnd.set (w := w.drewN m) (h.keep (S' := S) rfl fun k hk => ⟨hk, rfl⟩) hs hc (hr.keep fun k hk => ⟨hk, rfl⟩)

theorem Stnd.new (w : World) : Stnd (w.alloc (.cells #[.nilIface, .nilIface, .nilIface, .nilIface, .nilIface, .nilIface, .nilIface, .nilIface, .nilIface, .nilIface, .nilIface, .nilIface] 54)) w.heap.size (fun b => w.heap.size < b ∧ b < (w.alloc (.cells #[.nilIface, .nilIface, .nilIface, .nilIface, .nilIface, .nilIface, .nilIface, .nilIface, .nilIface, .nilIface, .nilIface, .nilIface] 54)).heap.size) (fun _ => none) := by
  refine ⟨_, heap_new1 _ _, rfl, fun c hc => ?_⟩
  have h := (idxX_int c hc).2
  obtain ⟨k, hk⟩ : ∃ k, idxX c = k := ⟨_, rfl⟩
  rw [hk] at h ⊢
  have h' : k = 0 ∨ k = 1 ∨ k = 2 ∨ k = 3 ∨ k = 4 ∨ k = 5 ∨ k = 6 ∨ k = 7 ∨ k = 8 ∨ k = 9 ∨ k = 10 ∨ k = 11 := by omega
  rcases h' with h | h | h | h | h | h | h | h | h | h | h | h <;> (subst h; rfl)
theorem two_cells' {w : World} {b : Nat} {h p : Value} {T : TypeId} (e : w.heap[b]? = some (.cells #[h, p] T (0, 0))) :
    w.cell? ⟨b, 0, none⟩ = some h ∧ w.cell? ⟨b, 1, none⟩ = some p ∧ ∀ k, w.frozen? ⟨b, k, none⟩ = false := by
  refine ⟨?_, ?_, fun k => ?_⟩
  · unfold World.cell?; rw [show w.heap[(⟨b, 0, none⟩ : Addr).block]? = _ from e]; rfl
  · unfold World.cell?; rw [show w.heap[(⟨b, 1, none⟩ : Addr).block]? = _ from e]; rfl
  · unfold World.frozen?; rw [show w.heap[(⟨b, k, none⟩ : Addr).block]? = _ from e]; simp

/-- How readBindings ends. -/
def BindEnd (w : World) (zs : List (ByteArray × ByteArray)) (e : Ending) (w' : World) : Prop :=
  Below w.heap.size w w' ∧ ((bvOf zs = false ∧ e = .returned (.tuple #[.pointer none, .bool false])) ∨
    ∃ sb, bvOf zs = true ∧ e = .returned (.tuple #[.pointer (some ⟨sb, 0, none⟩), .bool true]) ∧ w.heap.size ≤ sb ∧ sb < w'.heap.size ∧ Stnd w' sb (fun k => w.heap.size ≤ k ∧ k < w'.heap.size ∧ k ≠ sb) (bmap zs))

set_option maxHeartbeats 1000000 in
set_option maxRecDepth 100000 in
theorem readBindings_any (A : Option Addr) (n c : Nat) (zs : List (ByteArray × ByteArray)) (w : World) (ha : Prs w A n zs) (hz : ∀ z ∈ zs, z.1.size ≤ maxLen ∧ z.2.size ≤ maxLen) (hn : n ≤ 1048576) :
    Calls Tryz.prog 23 #[.slice A n c] w (BindEnd w zs) := by
  have HA := hid ha
  have HZ := hid hz
  clear ha hz
  go_enter Tryz.func23, Tryz.ntmps23
  go_wp2_with fail
  have HS0 := hid (Stnd.new w)
  go_loopw [5, 16] (fun l i wr => ∃ (k : Nat) (last : UInt8), k ≤ n ∧ i = .int .i64 k ∧ l = .int .u8 last.toNat ∧ bvOf zs = bvGo last (zs.drop k) ∧
      Stnd wr w.heap.size (fun b => w.heap.size < b ∧ b < wr.heap.size) (bmap (zs.take k)) ∧ Below w.heap.size w wr ∧ w.heap.size < wr.heap.size) (fun _ i _ => n - (intOf i).toNat)
  case atStart => exact ⟨0, 0, Nat.zero_le _, rfl, rfl, rfl, HS0.out, (Below.refl _ _).alloc (Nat.le_refl _) _, by simp only [World.size_alloc]; omega⟩
  case round =>
    obtain ⟨k, last, hk, rfl, rfl, hbv, hst, hbel, hzs⟩ := hrel
    have HBV := hid hbv
    have HST := hid hst
    clear hbv hst
    by_cases hlt : k < n
    · obtain ⟨g, o, rfl, hg, hca⟩ := HA.out.2 (by omega)
      have hx : zs[k]? = some (zs[k]'(by have := HA.out.1; omega)) := List.getElem?_eq_getElem _
      obtain ⟨ca, cb⟩ := hca k _ hx
      have hsz := HZ.out _ (List.mem_of_getElem? hx)
      obtain ⟨⟨x, y⟩, ex⟩ : ∃ z, zs[k]'(by have := HA.out.1; omega) = z := ⟨_, rfl⟩
      rw [ex] at ca cb hx hsz
      have HTK := hid (show zs.take (k + 1) = zs.take k ++ [(x, y)] by rw [List.take_add_one, hx]; rfl)
      have HDR := hid (show zs.drop k = (x, y) :: zs.drop (k + 1) by
        obtain ⟨h1, h2⟩ := List.getElem?_eq_some_iff.1 hx
        rw [List.drop_eq_getElem_cons h1, h2])
      have ca' := cell_below ca hg hbel
      have cb' := cell_below cb hg hbel
      clear hca hx ex ca cb
      have i1 : (0 : Int) ≤ (k : Int) := by omega
      have i2 : (k : Int) < (n : Int) := by omega
      obtain ⟨hsx, hsy⟩ := hsz
      go_wp2_with fail
      refine (readVariable_any x hsx _).mono ?_
      rintro e w1 ⟨hb1, hv⟩
      have z1 := hb1.size
      simp only [World.size_alloc] at z1
      have hyc : w1.cell? ⟨wr.heap.size, 1, none⟩ = some (.string y) := cell_below (two_cells' (heap_new1 wr (.cells #[.string x, .string y] 42))).2.1 (by simp only [World.size_alloc]; omega) hb1
      have hbr : Below wr.heap.size wr w1 := ((Below.refl _ _).alloc (Nat.le_refl _) _).trans (hb1.mono (by simp only [World.size_alloc]; omega))
      rcases hv with ⟨hbad, rfl⟩ | ⟨d, vb, hd1, hd2, rfl, hd3, hd4, hd5⟩
      · have HNO := hid (show bvOf zs = false by rw [HBV.out, HDR.out]; exact bvGo_bad fun c e1 e2 _ _ => hbad c e1 e2)
        clear hbad
        go_wp2_with fail
        refine (readType_any y _ hsy).mono ?_
        rintro e w2 ⟨hb2, ⟨hn2, rfl⟩ | ⟨t, T, tb, hs2, rfl, hrep⟩⟩
        · clear hn2
          go_wp2_with fail
          exact bodyPost_ret (v := .tuple #[.pointer none, .bool false]) (by simp [results, Tryz.results23, go_sem]) rfl ⟨hbel.trans ((hbr.trans (hb2.mono (by omega))).mono (by omega)), .inl ⟨HNO.out, rfl⟩⟩
        · clear hs2
          go_wp2_with fail
          exact bodyPost_ret (v := .tuple #[.pointer none, .bool false]) (by simp [results, Tryz.results23, go_sem]) rfl ⟨hbel.trans ((hbr.trans (hb2.mono (by omega))).mono (by omega)), .inl ⟨HNO.out, rfl⟩⟩
      · have HD1 := hid hd1
        have HD5 := hid hd5
        have hd6 : wr.heap.size ≤ vb := by
          have := hd3
          simp only [World.size_alloc] at this
          omega
        clear hd1 hd5
        go_wp2_with fail
        refine (readType_any y _ hsy).mono ?_
        rintro e w2 ⟨hb2, ⟨hn2, rfl⟩ | ⟨t, T, tb, hs2, rfl, hrep⟩⟩
        · have HNO := hid (show bvOf zs = false by
            rw [HBV.out, HDR.out]
            refine bvGo_bad fun c e1 e2 e3 _ => ?_
            rw [show tyOf (x, y).2.data.toList = none from hn2] at e3
            cases e3)
          clear hn2
          go_wp2_with fail
          exact bodyPost_ret (v := .tuple #[.pointer none, .bool false]) (by simp [results, Tryz.results23, go_sem]) rfl ⟨hbel.trans ((hbr.trans (hb2.mono (by omega))).mono (by omega)), .inl ⟨HNO.out, rfl⟩⟩
        · have HS2 := hid hs2
          clear hs2
          have z2 := hb2.size
          have hv2 := (hb2.block vb hd4).trans HD5.out
          have cv := cell_of1 hv2
          have hbr2 : Below wr.heap.size wr w2 := hbr.trans (hb2.mono (by omega))
          by_cases hle : (d.toNat : Int) ≤ last.toNat
          · have HNO := hid (show bvOf zs = false by
              rw [HBV.out, HDR.out]
              refine bvGo_bad fun c e1 e2 e3 e4 => ?_
              rw [show (x, y).1.data.toList = [d] from HD1.out] at e1
              injection e1 with e1
              subst e1
              have : last.toNat < d.toNat := e4
              omega)
            go_wp2_with fail
            exact bodyPost_ret (v := .tuple #[.pointer none, .bool false]) (by simp [results, Tryz.results23, go_sem]) rfl ⟨hbel.trans (hbr2.mono (by omega)), .inl ⟨HNO.out, rfl⟩⟩
          · have hst2 : Stnd w2 w.heap.size (fun b => w.heap.size < b ∧ b < w2.heap.size) (bmap (zs.take k)) := HST.out.keep (hbr2.block _ hzs) fun k hk => ⟨⟨hk.1, by omega⟩, hbr2.block k hk.2⟩
            have hrep2 : RepP w2 (fun b => w.heap.size < b ∧ b < w2.heap.size) t (.iface T (.pointer (some ⟨tb, 0, none⟩))) := (hrep.repP (tyOf_text HS2.out).2.1).keep fun k hk => ⟨⟨by omega, hk.2⟩, rfl⟩
            have HSET := hid (set_stnd w.heap.size vb d w2 _ _ t _ (isVarB_X hd2) hv2 hst2 (fun h => absurd h.1 (Nat.lt_irrefl _)) hrep2)
            clear hst2 hrep2 hv2
            go_wp2_with fail
            refine HSET.out.mono ?_
            rintro e w3 ⟨rfl, hst3, hbut, hz3⟩
            have HST3 := hid hst3
            clear hst3
            have cv3 : w3.cell? ⟨vb, 0, none⟩ = some (.int .u8 d.toNat) := by
              rw [World.cell?_of_block (w := w2) (hbut.block vb (by omega) (by show vb ≠ w.heap.size; omega))]
              exact cv
            clear cv
            go_wp2_with fail
            go_roundw
            case rel =>
              refine ⟨k + 1, d, hlt, by go_num, rfl, ?_, ?_, (hbel.trans (hbr2.mono (by omega))).trans (hbut.below' (by omega) (Nat.le_refl _)), by omega⟩
              · rw [HBV.out, HDR.out]
                refine bvGo_good HD1.out hd2 ?_ ?_
                · show (tyOf y.data.toList).isSome = true
                  rw [HS2.out]
                  rfl
                · show last.toNat < d.toNat
                  omega
              · rw [HTK.out, bmap_snoc, bstep_at (t := t) HD1.out HS2.out]
                exact HST3.out.keep rfl fun k hk => ⟨⟨hk.1, by omega⟩, rfl⟩
            case measure => simp [intOf]; omega
    · obtain rfl : k = n := by omega
      have hz := hbel.size
      go_wp2_with fail
      refine bodyPost_ret (v := .tuple #[.pointer (some ⟨w.heap.size, 0, none⟩), .bool true]) (by simp [results, Tryz.results23, go_sem]) rfl ⟨hbel, .inr ⟨w.heap.size, ?_, rfl, Nat.le_refl _, hzs, ?_⟩⟩
      · rw [HBV.out, List.drop_of_length_le (by have := HA.out.1; omega)]
        rfl
      · have h := HST.out
        rw [List.take_of_length_le (by have := HA.out.1; omega)] at h
        exact h.keep rfl fun k hk => ⟨⟨by omega, hk.2, by omega⟩, rfl⟩

end Go.Proofs.YtjpdiahbnhemoaaGreat
