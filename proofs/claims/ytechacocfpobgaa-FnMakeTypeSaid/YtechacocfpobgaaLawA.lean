/- Plain facts on making types, and inTexts. Plain facts on bindings applied. -/
import Derived.Test.YtechacocfpobgaaLawW
import Derived.Test.YtechacocfpobgaaParts
import Derived.Test.YtechacocfpobgaaApW
namespace Go.Proofs.Ytechacocfpobgaa
open Go.RowKit

theorem strOf_back (x : ByteArray) : strOf x.data.toList = x := (strOf_eq rfl).symm
theorem one_letter {h : ByteArray} (h1 : h.size = 1) : ∃ c, h.data.toList = [c] := by
  have hl : h.data.toList.length = 1 := by simpa using h1
  match hx : h.data.toList, hl with
  | [d], _ => exact ⟨d, rfl⟩
theorem mk_tree {h : ByteArray} {xs : List ByteArray} {l : List UInt8} (hm : mkOf h xs = some l) : ∃ T c, h.data.toList = [c] ∧ tyOf l = some T ∧ l.headD 0 = c ∧ T.kids.map (fun a => strOf a.text) = xs := by
  unfold mkOf at hm
  split at hm
  · rename_i hc
    obtain ⟨h1, h2, h3, h4⟩ := hc
    obtain ⟨c, hcl⟩ := one_letter h1
    injection hm with hm
    rw [hcl] at h2 h4 hm
    simp only [List.headD_cons] at h2
    match xs, h2, h3, h4, hm with
    | [], h2, _, h4, hm =>
      subst hm
      exact ⟨.lf c, c, hcl, tyOf_of (t := .lf c) h2 h4, rfl, rfl⟩
    | [x], h2, h3, h4, hm =>
      subst hm
      obtain ⟨a, ha⟩ := Option.isSome_iff_exists.1 (h3 x (by simp))
      obtain ⟨e, o, _⟩ := tyOf_text ha
      have et : joinL [c] [x] = (Ty.un c a).text := by simp [joinL, Ty.text, e]
      rw [et] at h4 ⊢
      exact ⟨.un c a, c, hcl, tyOf_of (t := .un c a) ⟨h2, o⟩ h4, rfl, by simp [Ty.kids, ← e, strOf_back]⟩
    | [x, y], h2, h3, h4, hm =>
      subst hm
      obtain ⟨a, ha⟩ := Option.isSome_iff_exists.1 (h3 x (by simp))
      obtain ⟨b, hb⟩ := Option.isSome_iff_exists.1 (h3 y (by simp))
      obtain ⟨e, o, _⟩ := tyOf_text ha
      obtain ⟨e', o', _⟩ := tyOf_text hb
      have et : joinL [c] [x, y] = (Ty.bi c a b).text := by simp [joinL, Ty.text, e, e']
      rw [et] at h4 ⊢
      exact ⟨.bi c a b, c, hcl, tyOf_of (t := .bi c a b) ⟨h2, o, o'⟩ h4, rfl, by simp [Ty.kids, ← e, ← e', strOf_back]⟩
    | _ :: _ :: _ :: _, h2, _, _, _ =>
      have := ar_le c
      simp at h2
      omega
  · cases hm
theorem mk_head {h : ByteArray} {xs : List ByteArray} {l : List UInt8} (hm : mkOf h xs = some l) : headOf (strOf l) = h := by
  obtain ⟨T, c, h1, h2, h3, _⟩ := mk_tree hm
  rw [headOf, strOf_list, if_pos (by rw [h2]; rfl), h3, ← h1, strOf_back]
theorem mk_parts {h : ByteArray} {xs : List ByteArray} {l : List UInt8} (hm : mkOf h xs = some l) : partsL l = xs := by
  obtain ⟨T, c, _, h2, _, h4⟩ := mk_tree hm
  rw [partsL, h2]
  exact h4
theorem mk_len {h : ByteArray} {xs : List ByteArray} {l : List UInt8} (hm : mkOf h xs = some l) : l.length ≤ 60 := by
  obtain ⟨T, c, _, h2, _, _⟩ := mk_tree hm
  exact (tyOf_text h2).2.2
theorem mk_back {t : ByteArray} {T : Ty} (h : tyOf t.data.toList = some T) : mkOf (headOf t) (partsL t.data.toList) = some t.data.toList := by
  obtain ⟨e, o, z⟩ := tyOf_text h
  have hp : partsL t.data.toList = T.kids.map fun a => strOf a.text := by rw [partsL, h]
  have hh : headOf t = strOf [t.data.toList.headD 0] := by rw [headOf, if_pos (by rw [h]; rfl)]
  rw [hp, hh]
  cases T with
  | lf c =>
    have e' : t.data.toList = [c] := e
    rw [e']
    exact mkOf_yes (h := strOf [c]) rfl o (by simp [Ty.kids]) (by simp [joinL, strOf, Ty.kids])
  | un c a =>
    have hd : t.data.toList.headD 0 = c := by rw [e]; rfl
    have hz : a.text.length ≤ 60 := by rw [e] at z; simp [Ty.text] at z; omega
    rw [hd]
    show mkOf (strOf [c]) [strOf a.text] = _
    have ej : joinL (strOf [c]).data.toList [strOf a.text] = t.data.toList := by rw [e]; simp [joinL, strOf, Ty.text]
    rw [mkOf_yes (h := strOf [c]) (xs := [strOf a.text]) rfl o.1 (by simp [strOf_list, tyOf_of o.2 hz]) (by rw [ej]; exact z), ej]
  | bi c a b =>
    have hd : t.data.toList.headD 0 = c := by rw [e]; rfl
    have hz : a.text.length ≤ 60 ∧ b.text.length ≤ 60 := by rw [e] at z; simp [Ty.text] at z; omega
    rw [hd]
    show mkOf (strOf [c]) [strOf a.text, strOf b.text] = _
    have ej : joinL (strOf [c]).data.toList [strOf a.text, strOf b.text] = t.data.toList := by rw [e]; simp [joinL, strOf, Ty.text]
    rw [mkOf_yes (h := strOf [c]) (xs := [strOf a.text, strOf b.text]) rfl o.1 (by simp [strOf_list, tyOf_of o.2.1 hz.1, tyOf_of o.2.2 hz.2]) (by rw [ej]; exact z), ej]

/-- As PartsEnd, with room. -/
def PartsEndC (w : World) (xs : List ByteArray) (e : Ending) (w' : World) : Prop :=
  ∃ A cap, e = .returned (.slice A xs.length cap) ∧ xs.length ≤ cap ∧ MadeStrs w' w.heap.size A xs.length xs ∧ Below w.heap.size w w'

set_option maxHeartbeats 400000 in
set_option maxRecDepth 100000 in
theorem partTextsC_any (t : Ty) (lo hi : Nat) (v : Value) (w : World) (hr : Rep w lo hi t v) (hh : hi ≤ w.heap.size) (ho : t.ok) (hl : t.text.length ≤ 60) :
    Calls Try.prog 51 #[v] w (PartsEndC w (t.kids.map fun a => strOf a.text)) := by
  cases t with
  | lf c =>
    refine (partTexts_any (.lf c) lo hi v w hr hh ho hl).mono ?_
    rintro e w' ⟨A, cap, he, hm, hb⟩
    exact ⟨A, cap, he, Nat.zero_le _, hm, hb⟩
  | un c a =>
    have hv := hr
    obtain ⟨b, _, _, _, _, _, _, _, rfl, _⟩ := hv
    refine (partTexts_un c a (textBy_any a) lo hi b w hr hh ho.2 (by simp [Ty.text] at hl; omega)).mono ?_
    rintro e w' ⟨g, cap, rfl, hc, hg, _, _, hb, hown⟩
    exact ⟨_, cap, rfl, hc, .inr ⟨g, rfl, hg, own_strs (xs := [strOf a.text]) hown⟩, hb⟩
  | bi c a a' =>
    have hv := hr
    obtain ⟨b, _, _, _, _, _, _, _, _, rfl, _⟩ := hv
    refine (partTexts_bi c a a' (textBy_any a) (textBy_any a') lo hi b w hr hh ho.2.1 ho.2.2 (by simp [Ty.text] at hl; omega) (by simp [Ty.text] at hl; omega)).mono ?_
    rintro e w' ⟨g, cap, rfl, hc, hg, _, _, _, hb, hown⟩
    exact ⟨_, cap, rfl, hc, .inr ⟨g, rfl, hg, own_strs (xs := [strOf a.text, strOf a'.text]) hown⟩, hb⟩

set_option maxHeartbeats 400000 in
set_option maxRecDepth 100000 in
theorem partsIC_any (s : ByteArray) (hs : s.size ≤ maxLen) (w : World) :
    Calls Try.prog 10 #[.string s] w (PartsEndC w (partsL s.data.toList)) := by
  go_enter Try.func10, Try.ntmps10
  go_wp2_with fail
  refine (readType_any s _ hs).mono ?_
  rintro e w1 ⟨hb, ⟨hn, rfl⟩ | ⟨t, T, b, hs1, rfl, hrep⟩⟩
  · have HN := hid hn
    clear hn
    go_wp2_with fail
    go_ret
    have e : partsL s.data.toList = [] := by rw [partsL, HN.out]
    rw [e]
    exact ⟨none, 0, rfl, Nat.le_refl _, .inl ⟨rfl, rfl, rfl⟩, hb⟩
  · have HS := hid hs1
    clear hs1
    obtain ⟨htx, hok, hlen⟩ := tyOf_text HS.out
    have hl : t.text.length ≤ 60 := by rw [← htx]; exact hlen
    have HTX := hid htx
    clear htx
    have HE := hid (show partsL s.data.toList = t.kids.map fun a => strOf a.text by rw [partsL, HS.out])
    go_wp2_with fail
    refine (partTextsC_any t _ _ _ w1 hrep (Nat.le_refl _) hok hl).mono ?_
    rintro e w2 ⟨A, cap, rfl, hc, hm, hb2⟩
    go_wp2_with fail
    go_ret
    rw [HE.out]
    refine ⟨A, cap, by show Ending.returned (.slice A _ cap) = .returned (.slice A _ cap); rw [List.length_map], by rw [List.length_map] at hc ⊢; exact hc, ?_, hb.trans (hb2.mono hb.size)⟩
    rcases hm with h | ⟨g, h1, h2, h3⟩
    · exact .inl h
    · exact .inr ⟨g, h1, Nat.le_trans hb.size h2, h3⟩
theorem depth_text (T : Ty) : T.depth ≤ T.text.length := by
  induction T with
  | lf c => simp [Ty.depth]
  | un c a ih => simp [Ty.depth, Ty.text]; omega
  | bi c a b iha ihb => simp [Ty.depth, Ty.text]; omega
theorem kid_len {T k : Ty} (h : k ∈ T.kids) (hz : T.text.length ≤ 60) : k.text.length ≤ 60 := by
  cases T with
  | lf c => cases h
  | un c a =>
    simp [Ty.kids] at h
    subst h
    simp [Ty.text] at hz
    omega
  | bi c a b =>
    simp [Ty.kids] at h
    simp [Ty.text] at hz
    rcases h with rfl | rfl <;> omega
theorem size_kid {a : Ty} (ho : a.ok) (hz : a.text.length ≤ 60) : sizeOf' (strOf a.text).data.toList = (a.size : Nat) ∧ depthOf' (strOf a.text).data.toList = (a.depth : Nat) := by
  rw [strOf_list, sizeOf', depthOf', tyOf_of ho hz]
  exact ⟨rfl, rfl⟩

set_option maxHeartbeats 1000000 in
set_option maxRecDepth 100000 in
theorem inTexts_same (A B : Option Addr) (n c d : Nat) (xs : List ByteArray) (w : World) (ha : Strs w A n xs) (hb : Strs w B n xs) (hn : n ≤ 1048576) :
    Calls Try.prog 12 #[.slice A n c, .slice B n d] w fun e w' => e = .returned (.bool true) ∧ ∃ m, w' = w.drewN m := by
  have HA := hid ha
  have HB := hid hb
  clear ha hb
  go_enter Try.func12, Try.ntmps12
  go_wp2_with fail
  go_loopw [11] (fun i wr => ∃ k m : Nat, k ≤ n ∧ i = .int .i64 k ∧ wr = w.drewN m) (fun i _ => n - (intOf i).toNat)
  case atStart => exact ⟨0, 0, Nat.zero_le _, rfl, rfl⟩
  case round =>
    obtain ⟨k, m, hk, rfl, rfl⟩ := hrel
    by_cases hlt : k < n
    · obtain ⟨g, o, rfl, _, hca⟩ := HA.out.2 (by omega)
      obtain ⟨g', o', rfl, _, hcb⟩ := HB.out.2 (by omega)
      have hx : xs[k]? = some (xs[k]'(by have := HA.out.1; omega)) := List.getElem?_eq_getElem _
      have ca := hca k _ hx
      have cb := hcb k _ hx
      obtain ⟨x, ex⟩ : ∃ x, xs[k]'(by have := HA.out.1; omega) = x := ⟨_, rfl⟩
      rw [ex] at ca cb
      clear hca hcb hx ex
      have i1 : (0 : Int) ≤ (k : Int) := by omega
      have i2 : (k : Int) < (n : Int) := by omega
      go_wp2_with fail
      go_quiet (fail)
      go_wp2_with fail
      go_roundw
      case rel => exact ⟨k + 1, _, hlt, by go_num, rfl⟩
      case measure => simp [intOf]; omega
    · go_wp2_with fail
      go_ret
      exact ⟨rfl, m, rfl⟩

end Go.Proofs.Ytechacocfpobgaa

namespace Go.Proofs.Ytechacocfpobgaa
open Go.RowKit

theorem bv_fold : ∀ (zs : List (ByteArray × ByteArray)) (last : UInt8) (f : UInt8 → Option Ty), bvGo last zs = true →
    (∀ z ∈ zs, ∃ c t, z.1.data.toList = [c] ∧ last < c ∧ isVarB c = true ∧ tyOf z.2.data.toList = some t ∧ (zs.foldl bstep f) c = some t) ∧ (∀ c, (∀ z ∈ zs, z.1.data.toList ≠ [c]) → (zs.foldl bstep f) c = f c) := by
  intro zs
  induction zs with
  | nil => exact fun _ _ _ => ⟨(fun z hz => by cases hz), fun c _ => rfl⟩
  | cons y ys ih =>
    intro last f h
    unfold bvGo at h
    split at h
    · rename_i d e
      simp only [Bool.and_eq_true, decide_eq_true_eq] at h
      obtain ⟨⟨⟨hv, ht⟩, hl⟩, hr⟩ := h
      obtain ⟨t, ht⟩ := Option.isSome_iff_exists.1 ht
      obtain ⟨i1, i2⟩ := ih d (bstep f y) hr
      have hb : bstep f y = fun c => if c = d then some t else f c := bstep_at e ht
      refine ⟨fun z hz => ?_, fun c hc => ?_⟩
      · rcases List.mem_cons.1 hz with rfl | hz
        · refine ⟨d, t, e, hl, hv, ht, ?_⟩
          show (ys.foldl bstep (bstep f z)) d = some t
          rw [i2 d (fun z hz he => ?_), hb]
          · simp
          · obtain ⟨c, _, h1, h2, _⟩ := i1 z hz
            rw [he] at h1
            injection h1 with h1
            subst h1
            exact absurd h2 (by simp)
        · obtain ⟨c, u, h1, h2, h3, h4, h5⟩ := i1 z hz
          exact ⟨c, u, h1, UInt8.lt_trans hl h2, h3, h4, h5⟩
      · show (ys.foldl bstep (bstep f y)) c = f c
        rw [i2 c (fun z hz => hc z (List.mem_cons_of_mem _ hz)), hb]
        have hne : c ≠ d := fun h => hc y (List.mem_cons_self ..) (by rw [e, h])
        simp [hne]
    · cases h
theorem bv_has {zs : List (ByteArray × ByteArray)} (h : bvOf zs = true) {z : ByteArray × ByteArray} (hz : z ∈ zs) {c : UInt8} (hc : z.1.data.toList = [c]) : isVarB c = true ∧ ∃ t, tyOf z.2.data.toList = some t ∧ bmap zs c = some t := by
  obtain ⟨d, t, h1, _, h3, h4, h5⟩ := (bv_fold zs 0 (fun _ => none) h).1 z hz
  rw [hc] at h1
  injection h1 with h1
  subst h1
  exact ⟨h3, t, h4, h5⟩
theorem bv_not {zs : List (ByteArray × ByteArray)} (h : bvOf zs = true) {c : UInt8} (hc : ∀ z ∈ zs, z.1.data.toList ≠ [c]) : bmap zs c = none := (bv_fold zs 0 (fun _ => none) h).2 c hc

/-- What ApplyBindings needs to come to something. -/
theorem ap_some {zs : List (ByteArray × ByteArray)} {l q : List UInt8} (h : apOf zs l = some q) : bvOf zs = true ∧ ∃ T, tyOf l = some T ∧ (T.sub (once (bmap zs))).text.length ≤ 60 ∧ q = (T.sub (once (bmap zs))).text := by
  unfold apOf at h
  split at h
  · rename_i T h1 h2
    split at h
    · rename_i h3
      injection h with h
      exact ⟨h1, T, h2, h3, h.symm⟩
    · cases h
  · cases h
theorem ap_yes {zs : List (ByteArray × ByteArray)} {l : List UInt8} {T : Ty} (h1 : bvOf zs = true) (h2 : tyOf l = some T) (h3 : (T.sub (once (bmap zs))).text.length ≤ 60) : apOf zs l = some (T.sub (once (bmap zs))).text := by
  unfold apOf
  rw [h1, h2]
  exact if_pos h3
theorem ap_ty {zs : List (ByteArray × ByteArray)} {l q : List UInt8} (h : apOf zs l = some q) : (tyOf q).isSome = true := by
  obtain ⟨_, T, h2, h3, rfl⟩ := ap_some h
  rw [tyOf_of (sub_ok (bmap_fine zs) (tyOf_text h2).2.1).1 h3]
  rfl
theorem ap_kid {zs : List (ByteArray × ByteArray)} {l q : List UInt8} {T : Ty} (hT : tyOf l = some T) (h : apOf zs l = some q) : ∀ a ∈ T.kids, apOf zs a.text = some (a.sub (once (bmap zs))).text := by
  obtain ⟨h1, T', h2, h3, rfl⟩ := ap_some h
  rw [hT] at h2
  injection h2 with h2
  subst h2
  obtain ⟨e, o, z⟩ := tyOf_text hT
  rw [e] at z
  intro a ha
  cases T with
  | lf c => cases ha
  | un c b =>
    simp [Ty.kids] at ha
    subst ha
    simp only [Ty.sub, Ty.text, List.length_append, List.length_cons, List.length_nil] at h3 z
    exact ap_yes h1 (tyOf_of o.2 (by omega)) (by omega)
  | bi c b b' =>
    simp [Ty.kids] at ha
    simp only [Ty.sub, Ty.text, List.length_append, List.length_cons, List.length_nil] at h3 z
    rcases ha with rfl | rfl
    · exact ap_yes h1 (tyOf_of o.2.1 (by omega)) (by omega)
    · exact ap_yes h1 (tyOf_of o.2.2 (by omega)) (by omega)
theorem ap_made {zs : List (ByteArray × ByteArray)} {t : ByteArray} {q : List UInt8} {T : Ty} (hT : tyOf t.data.toList = some T) (h : apOf zs t.data.toList = some q) (hk : T.kids ≠ []) : mkOf (headOf t) (T.kids.map fun a => strOf (a.sub (once (bmap zs))).text) = some q := by
  obtain ⟨h1, T', h2, h3, rfl⟩ := ap_some h
  rw [hT] at h2
  injection h2 with h2
  subst h2
  obtain ⟨e, o, z⟩ := tyOf_text hT
  have hS := tyOf_of (sub_ok (bmap_fine zs) o).1 h3
  have hb := mk_back (t := strOf (T.sub (once (bmap zs))).text) (by rw [strOf_list]; exact hS)
  rw [strOf_list] at hb
  have hp : partsL (T.sub (once (bmap zs))).text = (T.sub (once (bmap zs))).kids.map fun a => strOf a.text := by rw [partsL, hS]
  have hh : headOf (strOf (T.sub (once (bmap zs))).text) = headOf t := by
    rw [headOf, headOf, strOf_list, if_pos (by rw [hS]; rfl), if_pos (by rw [hT]; rfl), e]
    cases T with
    | lf c => exact absurd rfl hk
    | un c a => rfl
    | bi c a b => rfl
  rw [hp, hh] at hb
  rw [← hb]
  cases T with
  | lf c => exact absurd rfl hk
  | un c a => rfl
  | bi c a b => rfl
theorem ap_leaf {zs : List (ByteArray × ByteArray)} {l q : List UInt8} {T : Ty} (hT : tyOf l = some T) (h : apOf zs l = some q) (hk : T.kids = []) : (∀ z ∈ zs, z.1.data.toList = l → q = z.2.data.toList) ∧ ((∀ z ∈ zs, z.1.data.toList ≠ l) → q = l) := by
  obtain ⟨h1, T', h2, h3, rfl⟩ := ap_some h
  rw [hT] at h2
  injection h2 with h2
  subst h2
  obtain ⟨e, o, z⟩ := tyOf_text hT
  cases T with
  | lf c =>
    have e' : l = [c] := e
    subst e'
    refine ⟨fun z hz hc => ?_, fun hn => ?_⟩
    · obtain ⟨hv, t, ht, hb⟩ := bv_has h1 hz hc
      obtain ⟨e2, _, _⟩ := tyOf_text ht
      rw [Ty.sub, if_pos (isVarB_X hv), once, hb, e2]
      rfl
    · have hb := bv_not h1 hn
      rw [Ty.sub]
      split
      · rw [once, hb]; rfl
      · rfl
  | un c a => cases hk
  | bi c a b => cases hk

end Go.Proofs.Ytechacocfpobgaa
