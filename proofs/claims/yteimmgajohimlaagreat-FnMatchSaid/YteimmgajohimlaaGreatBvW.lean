/- Bindings in plain words: whether they are valid, and what they bind. -/
import Derived.Test.YteimmgajohimlaaGreatArgsB
import Derived.Test.YteimmgajohimlaaGreatRenI
namespace Go.Proofs.YteimmgajohimlaaGreat
open Go.RowKit

/-- Whether bindings are valid, behind the letter last. -/
def bvGo (last : UInt8) : List (ByteArray × ByteArray) → Bool
  | [] => true
  | z :: zs => match z.1.data.toList with
    | [c] => isVarB c && (tyOf z.2.data.toList).isSome && decide (last < c) && bvGo c zs
    | _ => false
def bvOf (zs : List (ByteArray × ByteArray)) : Bool := bvGo 0 zs
/-- What variables stand for, one binding more. -/
def bstep (f : UInt8 → Option Ty) (z : ByteArray × ByteArray) : UInt8 → Option Ty :=
  match z.1.data.toList, tyOf z.2.data.toList with
  | [c], some t => fun d => if d = c then some t else f d
  | _, _ => f
def bmap (zs : List (ByteArray × ByteArray)) : UInt8 → Option Ty := zs.foldl bstep (fun _ => none)

theorem bvGo_bad {last : UInt8} {z : ByteArray × ByteArray} {zs : List (ByteArray × ByteArray)} (h : ∀ c, z.1.data.toList = [c] → isVarB c = true → (tyOf z.2.data.toList).isSome = true → last < c → False) : bvGo last (z :: zs) = false := by
  unfold bvGo
  split
  · rename_i c e
    have := h c e
    rcases h1 : isVarB c with _ | _
    · simp
    · rcases h2 : (tyOf z.2.data.toList).isSome with _ | _
      · simp
      · have hh : ¬ last < c := fun hh => this h1 h2 hh
        simp [hh]
  · rfl
theorem bvGo_good {last c : UInt8} {z : ByteArray × ByteArray} {zs : List (ByteArray × ByteArray)} (h1 : z.1.data.toList = [c]) (h2 : isVarB c = true) (h3 : (tyOf z.2.data.toList).isSome = true) (h4 : last < c) : bvGo last (z :: zs) = bvGo c zs := by
  rw [bvGo, h1]
  simp [h2, h3, h4]
theorem bstep_at {f : UInt8 → Option Ty} {c : UInt8} {t : Ty} {z : ByteArray × ByteArray} (h1 : z.1.data.toList = [c]) (h2 : tyOf z.2.data.toList = some t) : bstep f z = fun d => if d = c then some t else f d := by
  unfold bstep
  rw [h1, h2]
theorem bmap_snoc (zs : List (ByteArray × ByteArray)) (z : ByteArray × ByteArray) : bmap (zs ++ [z]) = bstep (bmap zs) z := by
  unfold bmap
  rw [List.foldl_append]
  rfl
/-- A text that is one letter. -/
theorem tyOf_lf {l : List UInt8} {c : UInt8} : tyOf l = some (.lf c) ↔ l = [c] ∧ ar c = 0 := by
  constructor
  · intro h
    obtain ⟨e, o, _⟩ := tyOf_text h
    exact ⟨e, o⟩
  · rintro ⟨rfl, h⟩
    exact tyOf_of (t := .lf c) h (by simp [Ty.text])
/-- Where a variable's letter stands among all of them. -/
def idxX (c : UInt8) : Nat := (Lib.indexByte [88, 89, 90, 120, 121, 122, 82, 83, 84, 114, 115, 116] c).toNat
theorem idxX_int (c : UInt8) (h : isVarX c = true) : Lib.indexByte [88, 89, 90, 120, 121, 122, 82, 83, 84, 114, 115, 116] c = (idxX c : Int) ∧ idxX c < 12 := by
  revert h
  refine u8_all (p := fun c => isVarX c = true → Lib.indexByte [88, 89, 90, 120, 121, 122, 82, 83, 84, 114, 115, 116] c = (idxX c : Int) ∧ idxX c < 12) ?_ c
  decide +kernel
theorem idxX_let (c : UInt8) (h : isVarX c = true) : ([88, 89, 90, 120, 121, 122, 82, 83, 84, 114, 115, 116] : List UInt8)[idxX c]? = some c := by
  revert h
  refine u8_all (p := fun c => isVarX c = true → ([88, 89, 90, 120, 121, 122, 82, 83, 84, 114, 115, 116] : List UInt8)[idxX c]? = some c) ?_ c
  decide +kernel
theorem idxX_inj {c d : UInt8} (h : isVarX c = true) (h' : isVarX d = true) (e : idxX c = idxX d) : c = d := by
  have h1 := idxX_let c h
  rw [e, idxX_let d h'] at h1
  injection h1 with h1
  exact h1.symm
theorem isVarB_X {c : UInt8} (h : isVarB c = true) : isVarX c = true := by
  unfold isVarX
  simp [h]

/-- What variables stand for, in the program's memory: at block sb, the trees in blocks of S. -/
def Stnd (w : World) (sb : Nat) (S : Nat → Prop) (f : UInt8 → Option Ty) : Prop :=
  ∃ cur : Array Value, w.heap[sb]? = some (.cells cur 53 (0, 0)) ∧ cur.size = 12 ∧ ∀ c, isVarX c = true → match f c with
    | none => cur[idxX c]? = some .nilIface
    | some t => ∃ v, cur[idxX c]? = some v ∧ RepP w S t v
theorem Stnd.keep {w w' : World} {sb : Nat} {S S' : Nat → Prop} {f : UInt8 → Option Ty} (h : Stnd w sb S f) (hb : w'.heap[sb]? = w.heap[sb]?) (hk : ∀ k, S k → S' k ∧ w'.heap[k]? = w.heap[k]?) : Stnd w' sb S' f := by
  obtain ⟨cur, h1, h2, h3⟩ := h
  refine ⟨cur, hb.trans h1, h2, fun c hc => ?_⟩
  have := h3 c hc
  split at this
  · exact this
  · obtain ⟨v, e1, e2⟩ := this
    exact ⟨v, e1, e2.keep hk⟩
/-- A variable bound. -/
theorem Stnd.set {w : World} {sb : Nat} {S : Nat → Prop} {f : UInt8 → Option Ty} (h : Stnd w sb S f) (hs : ¬ S sb) {c : UInt8} (hc : isVarX c = true) {t : Ty} {v : Value} (hv : RepP w S t v) :
    Stnd (w.setCell ⟨sb, idxX c, none⟩ v) sb S (fun d => if d = c then some t else f d) := by
  obtain ⟨cur, h1, h2, h3⟩ := h
  have hk : ∀ k, S k → S k ∧ (w.setCell ⟨sb, idxX c, none⟩ v).heap[k]? = w.heap[k]? := fun k hk => ⟨hk, Below.heap_setCell _ _ _ _ (by rintro rfl; exact hs hk)⟩
  refine ⟨cur.setIfInBounds (idxX c) v, ?_, by simpa using h2, fun d hd => ?_⟩
  · simp [World.setCell, Array.getElem?_modify, h1]
  · by_cases e : d = c
    · subst e
      simp only [if_true]
      refine ⟨v, ?_, hv.keep hk⟩
      have := (idxX_int d hd).2
      rw [Array.getElem?_setIfInBounds, if_pos rfl, if_pos (by omega)]
    · simp only [if_neg e]
      have h4 := h3 d hd
      have hne : ¬ idxX c = idxX d := fun e' => e (idxX_inj hd hc e'.symm)
      rw [Array.getElem?_setIfInBounds, if_neg hne]
      split at h4
      · exact h4
      · obtain ⟨u, e2, e3⟩ := h4
        exact ⟨u, e2, e3.keep hk⟩
end Go.Proofs.YteimmgajohimlaaGreat
