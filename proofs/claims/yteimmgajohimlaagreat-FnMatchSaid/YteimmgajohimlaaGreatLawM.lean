/- Plain facts on making types, and inTexts. -/
import Derived.Test.YteimmgajohimlaaGreatLawW
import Derived.Test.YteimmgajohimlaaGreatMkI
import Derived.Test.YteimmgajohimlaaGreatParts
namespace Go.Proofs.YteimmgajohimlaaGreat
open Go.RowKit

theorem strOf_data (x : ByteArray) : strOf x.data.toList = x := (strOf_eq rfl).symm
theorem one_letter {h : ByteArray} (h1 : h.size = 1) : ∃ c, h.data.toList = [c] := by
  have hl : h.data.toList.length = 1 := by simpa using h1
  match hx : h.data.toList, hl with
  | [d], _ => exact ⟨d, rfl⟩
theorem mk_tree {h : ByteArray} {xs : List ByteArray} {l : List UInt8} (hm : mkOf h xs = some l) : ∃ T c, h.data.toList = [c] ∧ tyOf l = some T ∧ l.headD 0 = c ∧ T.kids.map (fun a => strOf a.text) = xs := by
  unfold mkOf at hm
  split at hm
  · rename_i hc
    obtain ⟨h1, h2, h3, h4⟩ := hc
    obtain ⟨c, hcl⟩ := one_letter h1
    injection hm with hm
    rw [hcl] at h2 h4 hm
    simp only [List.headD_cons] at h2
    match xs, h2, h3, h4, hm with
    | [], h2, _, h4, hm =>
      subst hm
      exact ⟨.lf c, c, hcl, tyOf_of (t := .lf c) h2 h4, rfl, rfl⟩
    | [x], h2, h3, h4, hm =>
      subst hm
      obtain ⟨a, ha⟩ := Option.isSome_iff_exists.1 (h3 x (by simp))
      obtain ⟨e, o, _⟩ := tyOf_text ha
      have et : joinL [c] [x] = (Ty.un c a).text := by simp [joinL, Ty.text, e]
      rw [et] at h4 ⊢
      exact ⟨.un c a, c, hcl, tyOf_of (t := .un c a) ⟨h2, o⟩ h4, rfl, by simp [Ty.kids, ← e, strOf_data]⟩
    | [x, y], h2, h3, h4, hm =>
      subst hm
      obtain ⟨a, ha⟩ := Option.isSome_iff_exists.1 (h3 x (by simp))
      obtain ⟨b, hb⟩ := Option.isSome_iff_exists.1 (h3 y (by simp))
      obtain ⟨e, o, _⟩ := tyOf_text ha
      obtain ⟨e', o', _⟩ := tyOf_text hb
      have et : joinL [c] [x, y] = (Ty.bi c a b).text := by simp [joinL, Ty.text, e, e']
      rw [et] at h4 ⊢
      exact ⟨.bi c a b, c, hcl, tyOf_of (t := .bi c a b) ⟨h2, o, o'⟩ h4, rfl, by simp [Ty.kids, ← e, ← e', strOf_data]⟩
    | _ :: _ :: _ :: _, h2, _, _, _ =>
      have := ar_le c
      simp at h2
      omega
  · cases hm
theorem mk_head {h : ByteArray} {xs : List ByteArray} {l : List UInt8} (hm : mkOf h xs = some l) : headOf (strOf l) = h := by
  obtain ⟨T, c, h1, h2, h3, _⟩ := mk_tree hm
  rw [headOf, strOf_list, if_pos (by rw [h2]; rfl), h3, ← h1, strOf_data]
theorem mk_parts {h : ByteArray} {xs : List ByteArray} {l : List UInt8} (hm : mkOf h xs = some l) : partsL l = xs := by
  obtain ⟨T, c, _, h2, _, h4⟩ := mk_tree hm
  rw [partsL, h2]
  exact h4
theorem mk_len {h : ByteArray} {xs : List ByteArray} {l : List UInt8} (hm : mkOf h xs = some l) : l.length ≤ 60 := by
  obtain ⟨T, c, _, h2, _, _⟩ := mk_tree hm
  exact (tyOf_text h2).2.2
theorem mk_back {t : ByteArray} {T : Ty} (h : tyOf t.data.toList = some T) : mkOf (headOf t) (partsL t.data.toList) = some t.data.toList := by
  obtain ⟨e, o, z⟩ := tyOf_text h
  have hp : partsL t.data.toList = T.kids.map fun a => strOf a.text := by rw [partsL, h]
  have hh : headOf t = strOf [t.data.toList.headD 0] := by rw [headOf, if_pos (by rw [h]; rfl)]
  rw [hp, hh]
  cases T with
  | lf c =>
    have e' : t.data.toList = [c] := e
    rw [e']
    exact mkOf_yes (h := strOf [c]) rfl o (by simp [Ty.kids]) (by simp [joinL, strOf, Ty.kids])
  | un c a =>
    have hd : t.data.toList.headD 0 = c := by rw [e]; rfl
    have hz : a.text.length ≤ 60 := by rw [e] at z; simp [Ty.text] at z; omega
    rw [hd]
    show mkOf (strOf [c]) [strOf a.text] = _
    have ej : joinL (strOf [c]).data.toList [strOf a.text] = t.data.toList := by rw [e]; simp [joinL, strOf, Ty.text]
    rw [mkOf_yes (h := strOf [c]) (xs := [strOf a.text]) rfl o.1 (by simp [strOf_list, tyOf_of o.2 hz]) (by rw [ej]; exact z), ej]
  | bi c a b =>
    have hd : t.data.toList.headD 0 = c := by rw [e]; rfl
    have hz : a.text.length ≤ 60 ∧ b.text.length ≤ 60 := by rw [e] at z; simp [Ty.text] at z; omega
    rw [hd]
    show mkOf (strOf [c]) [strOf a.text, strOf b.text] = _
    have ej : joinL (strOf [c]).data.toList [strOf a.text, strOf b.text] = t.data.toList := by rw [e]; simp [joinL, strOf, Ty.text]
    rw [mkOf_yes (h := strOf [c]) (xs := [strOf a.text, strOf b.text]) rfl o.1 (by simp [strOf_list, tyOf_of o.2.1 hz.1, tyOf_of o.2.2 hz.2]) (by rw [ej]; exact z), ej]

/-- As PartsEnd, with room. -/
def PartsEndC (w : World) (xs : List ByteArray) (e : Ending) (w' : World) : Prop :=
  ∃ A cap, e = .returned (.slice A xs.length cap) ∧ xs.length ≤ cap ∧ MadeStrs w' w.heap.size A xs.length xs ∧ Below w.heap.size w w'

set_option maxHeartbeats 400000 in
set_option maxRecDepth 100000 in
theorem partTextsC_any (t : Ty) (lo hi : Nat) (v : Value) (w : World) (hr : Rep w lo hi t v) (hh : hi ≤ w.heap.size) (ho : t.ok) (hl : t.text.length ≤ 60) :
    Calls Tryz.prog 147 #[v] w (PartsEndC w (t.kids.map fun a => strOf a.text)) := by
  cases t with
  | lf c =>
    refine (partTexts_any (.lf c) lo hi v w hr hh ho hl).mono ?_
    rintro e w' ⟨A, cap, he, hm, hb⟩
    exact ⟨A, cap, he, Nat.zero_le _, hm, hb⟩
  | un c a =>
    have hv := hr
    obtain ⟨b, _, _, _, _, _, _, _, rfl, _⟩ := hv
    refine (partTexts_un c a (textBy_any a) lo hi b w hr hh ho.2 (by simp [Ty.text] at hl; omega)).mono ?_
    rintro e w' ⟨g, cap, rfl, hc, hg, _, _, hb, hown⟩
    exact ⟨_, cap, rfl, hc, .inr ⟨g, rfl, hg, own_strs (xs := [strOf a.text]) hown⟩, hb⟩
  | bi c a a' =>
    have hv := hr
    obtain ⟨b, _, _, _, _, _, _, _, _, rfl, _⟩ := hv
    refine (partTexts_bi c a a' (textBy_any a) (textBy_any a') lo hi b w hr hh ho.2.1 ho.2.2 (by simp [Ty.text] at hl; omega) (by simp [Ty.text] at hl; omega)).mono ?_
    rintro e w' ⟨g, cap, rfl, hc, hg, _, _, _, hb, hown⟩
    exact ⟨_, cap, rfl, hc, .inr ⟨g, rfl, hg, own_strs (xs := [strOf a.text, strOf a'.text]) hown⟩, hb⟩

theorem depth_text (T : Ty) : T.depth ≤ T.text.length := by
  induction T with
  | lf c => simp [Ty.depth]
  | un c a ih => simp [Ty.depth, Ty.text]; omega
  | bi c a b iha ihb => simp [Ty.depth, Ty.text]; omega
theorem kid_len {T k : Ty} (h : k ∈ T.kids) (hz : T.text.length ≤ 60) : k.text.length ≤ 60 := by
  cases T with
  | lf c => cases h
  | un c a =>
    simp [Ty.kids] at h
    subst h
    simp [Ty.text] at hz
    omega
  | bi c a b =>
    simp [Ty.kids] at h
    simp [Ty.text] at hz
    rcases h with rfl | rfl <;> omega
theorem size_kid {a : Ty} (ho : a.ok) (hz : a.text.length ≤ 60) : sizeOf' (strOf a.text).data.toList = (a.size : Nat) ∧ depthOf' (strOf a.text).data.toList = (a.depth : Nat) := by
  rw [strOf_list, sizeOf', depthOf', tyOf_of ho hz]
  exact ⟨rfl, rfl⟩

end Go.Proofs.YteimmgajohimlaaGreat
