/- PartsOf, in the program and in the model. MakeType in the program. -/
import Derived.Test.YtechacocfpobgaaPartsI
import Derived.Test.YtechacocfpobgaaMarksB
namespace Go.Proofs.Ytechacocfpobgaa
open Go.RowKit

def Ty.kids : Ty → List Ty
  | .lf _ => []
  | .un _ a => [a]
  | .bi _ a b => [a, b]
/-- The texts of a type's parts. -/
def partsL (l : List UInt8) : List ByteArray := match tyOf l with | some t => t.kids.map fun a => strOf a.text | none => []
theorem partsL_len (l : List UInt8) : (partsL l).length ≤ 2 := by
  unfold partsL
  split
  · rename_i t _
    cases t <;> simp [Ty.kids]
  · simp

/-- A slice of strings that a call has made: nil, or a row of its own. -/
def MadeStrs (w : World) (lo : Nat) (A : Option Addr) (n : Nat) (xs : List ByteArray) : Prop :=
  (A = none ∧ n = 0 ∧ xs = []) ∨ ∃ g, A = some ⟨g, 0, none⟩ ∧ lo ≤ g ∧ OwnStrs w g n xs
theorem MadeStrs.strs {w : World} {lo : Nat} {A : Option Addr} {n : Nat} {xs : List ByteArray} (h : MadeStrs w lo A n xs) : Strs w A n xs := by
  rcases h with ⟨rfl, rfl, rfl⟩ | ⟨g, rfl, _, h⟩
  · exact ⟨rfl, fun h => absurd h (Nat.lt_irrefl 0)⟩
  · exact h.strs
theorem own_strs {w : World} {base g n cap : Nat} {xs : List ByteArray} (h : w.ownsRow base 9 1 (.slice (some ⟨g, 0, none⟩) n cap) n (xs.map Value.string)) : OwnStrs w g n xs := by
  obtain ⟨h1, h2 | ⟨g', cap', cur, hv, hb, hg, hn, _, hz, ht⟩⟩ := h
  · cases h2.1
  · simp only [Value.slice.injEq, Option.some.injEq, Addr.mk.injEq, true_and, and_true] at hv
    obtain ⟨rfl, rfl⟩ := hv
    refine ⟨cur, hg, by omega, by simpa using h1, fun j x hj => ?_⟩
    have hl := (List.getElem?_eq_some_iff.1 hj).1
    have h3 := congrArg (·[j]?) ht
    simp only [List.getElem?_take, List.getElem?_map, hj, Option.map_some] at h3
    split at h3
    · simpa using h3
    · cases h3

def PartsEnd (w : World) (xs : List ByteArray) (e : Ending) (w' : World) : Prop :=
  ∃ A cap, e = .returned (.slice A xs.length cap) ∧ MadeStrs w' w.heap.size A xs.length xs ∧ Below w.heap.size w w'

set_option maxHeartbeats 400000 in
set_option maxRecDepth 100000 in
theorem partTexts_any (t : Ty) (lo hi : Nat) (v : Value) (w : World) (hr : Rep w lo hi t v) (hh : hi ≤ w.heap.size) (ho : t.ok) (hl : t.text.length ≤ 60) :
    Calls Try.prog 51 #[v] w (PartsEnd w (t.kids.map fun a => strOf a.text)) := by
  cases t with
  | lf c =>
    obtain ⟨b, h1, h2, ⟨hv, rfl, hb⟩ | ⟨hv, rfl, hb⟩⟩ := hr
    · have hm := m_var_parts b
      go_enter Try.func51, Try.ntmps51
      go_wp2_with (go_at_call 127; refine (parts_var _ _).mono ?_; rintro e w' ⟨rfl, rfl⟩)
      refine wp_loop_rounds 1 ?_
      rw [rounds_succ]
      go_wp2_with fail
      go_ret
      exact ⟨none, 0, rfl, .inl ⟨rfl, rfl, rfl⟩, Below.refl _ _⟩
    · have hm := m_con_parts b
      go_enter Try.func51, Try.ntmps51
      go_wp2_with (go_at_call 134; refine (parts_con _ _).mono ?_; rintro e w' ⟨rfl, rfl⟩)
      refine wp_loop_rounds 1 ?_
      rw [rounds_succ]
      go_wp2_with fail
      go_ret
      exact ⟨none, 0, rfl, .inl ⟨rfl, rfl, rfl⟩, Below.refl _ _⟩
  | un c a =>
    have hv := hr
    obtain ⟨b, _, _, _, _, _, _, _, rfl, _⟩ := hv
    refine (partTexts_un c a (textBy_any a) lo hi b w hr hh ho.2 (by simp [Ty.text] at hl; omega)).mono ?_
    rintro e w' ⟨g, cap, rfl, _, hg, _, _, hb, hown⟩
    exact ⟨_, cap, rfl, .inr ⟨g, rfl, hg, own_strs (xs := [strOf a.text]) hown⟩, hb⟩
  | bi c a a' =>
    have hv := hr
    obtain ⟨b, _, _, _, _, _, _, _, _, rfl, _⟩ := hv
    refine (partTexts_bi c a a' (textBy_any a) (textBy_any a') lo hi b w hr hh ho.2.1 ho.2.2 (by simp [Ty.text] at hl; omega) (by simp [Ty.text] at hl; omega)).mono ?_
    rintro e w' ⟨g, cap, rfl, _, hg, _, _, _, hb, hown⟩
    exact ⟨_, cap, rfl, .inr ⟨g, rfl, hg, own_strs (xs := [strOf a.text, strOf a'.text]) hown⟩, hb⟩

set_option maxHeartbeats 400000 in
set_option maxRecDepth 100000 in
theorem partsI_any (s : ByteArray) (hs : s.size ≤ maxLen) (w : World) :
    Calls Try.prog 10 #[.string s] w (PartsEnd w (partsL s.data.toList)) := by
  go_enter Try.func10, Try.ntmps10
  go_wp2_with fail
  refine (readType_any s _ hs).mono ?_
  rintro e w1 ⟨hb, ⟨hn, rfl⟩ | ⟨t, T, b, hs1, rfl, hrep⟩⟩
  · have HN := hid hn
    clear hn
    go_wp2_with fail
    go_ret
    have e : partsL s.data.toList = [] := by rw [partsL, HN.out]
    rw [e]
    exact ⟨none, 0, rfl, .inl ⟨rfl, rfl, rfl⟩, hb⟩
  · have HS := hid hs1
    clear hs1
    obtain ⟨htx, hok, hlen⟩ := tyOf_text HS.out
    have hl : t.text.length ≤ 60 := by rw [← htx]; exact hlen
    have HTX := hid htx
    clear htx
    have HE := hid (show partsL s.data.toList = t.kids.map fun a => strOf a.text by rw [partsL, HS.out])
    go_wp2_with fail
    refine (partTexts_any t _ _ _ w1 hrep (Nat.le_refl _) hok hl).mono ?_
    rintro e w2 ⟨A, cap, rfl, hm, hb2⟩
    go_wp2_with fail
    go_ret
    rw [HE.out]
    refine ⟨A, cap, by show Ending.returned (.slice A _ cap) = .returned (.slice A _ cap); rw [List.length_map], ?_, hb.trans (hb2.mono hb.size)⟩
    rcases hm with h | ⟨g, h1, h2, h3⟩
    · exact .inl h
    · exact .inr ⟨g, h1, Nat.le_trans hb.size h2, h3⟩

end Go.Proofs.Ytechacocfpobgaa

namespace Go.Proofs.Ytechacocfpobgaa
open Go.RowKit

/-- The text of a letter and parts. -/
def joinL (l : List UInt8) (xs : List ByteArray) : List UInt8 :=
  match xs with
  | [] => l
  | [a] => l ++ 40 :: (a.data.toList ++ [41])
  | a :: b :: _ => l ++ 40 :: (a.data.toList ++ 44 :: (b.data.toList ++ [41]))
/-- What MakeType comes to. -/
def mkOf (h : ByteArray) (xs : List ByteArray) : Option (List UInt8) :=
  if h.size = 1 ∧ ar (h.data.toList.headD 0) = xs.length ∧ (∀ x ∈ xs, (tyOf x.data.toList).isSome = true) ∧ (joinL h.data.toList xs).length ≤ 60 then some (joinL h.data.toList xs) else none
def mkS (o : Option (List UInt8)) : ByteArray := match o with
  | some l => strOf l
  | none => ⟨#[]⟩

theorem ar_le (c : UInt8) : ar c ≤ 2 := by rcases ar_cases c with h | h | h | h <;> omega
theorem mkOf_no {h : ByteArray} {xs : List ByteArray} (hno : h.size ≠ 1 ∨ ar (h.data.toList.headD 0) ≠ xs.length) : mkOf h xs = none := by
  unfold mkOf
  rw [if_neg]
  rintro ⟨h1, h2, _⟩
  rcases hno with e | e
  · exact e h1
  · exact e h2
theorem mkOf_bad {h : ByteArray} {xs : List ByteArray} {x : ByteArray} (hx : x ∈ xs) (hb : (tyOf x.data.toList).isSome = false) : mkOf h xs = none := by
  unfold mkOf
  rw [if_neg]
  rintro ⟨_, _, h3, _⟩
  rw [h3 x hx] at hb
  cases hb
theorem mkOf_long {h : ByteArray} {xs : List ByteArray} (hl : 60 < (joinL h.data.toList xs).length) : mkOf h xs = none := by
  unfold mkOf
  rw [if_neg]
  rintro ⟨_, _, _, h4⟩
  omega

/-- How MakeType ends. -/
def MkEnd (w : World) (o : Option (List UInt8)) (e : Ending) (w' : World) : Prop :=
  e = .returned (.tuple #[.string (mkS o), .bool o.isSome]) ∧ Below w.heap.size w w'

set_option maxHeartbeats 1000000 in
set_option maxRecDepth 100000 in
theorem makeTypeI_no (h : ByteArray) (A : Option Addr) (n cap : Nat) (w : World) 
    (hno : h.size ≠ 1 ∨ ar (h.data.toList.headD 0) ≠ n) :
    Calls Try.prog 18 #[.string h, .slice A n cap] w (MkEnd w none) := by
  by_cases h1 : h.size = 1
  · have h0 : 0 < h.size := by omega
    have hz : ((h.size : Int) != 1) = false := by simp [h1]
    have hd := head_at h h0
    have ha : ar h[0] ≠ n := by
      rcases hno with e | e
      · exact absurd h1 e
      · rw [hd] at e
        exact e
    obtain ⟨c, hc⟩ : ∃ c, h[0] = c := ⟨_, rfl⟩
    rw [hc] at ha
    obtain ⟨k, hk⟩ : ∃ k, ar c = k := ⟨_, rfl⟩
    have HK := hid hk
    rw [hk] at ha
    have hne : (k != (n : Int)) = true := by simp [ha]
    clear hno hd hk ha
    go_enter Try.func18, Try.ntmps18
    go_wp2_with (first | (go_at_call 57; refine (partsNeeded_any _ _).mono ?_; rintro e w' ⟨rfl, rfl⟩; rw [show arI c.toNat = k from HK.out]))
    exact bodyPost_ret (v := .tuple #[.string ⟨#[]⟩, .bool false]) (by simp [results, Try.results18, go_sem]) rfl ⟨rfl, Below.refl _ _⟩
  · have hz : ((h.size : Int) != 1) = true := by simp; omega
    clear hno
    go_enter Try.func18, Try.ntmps18
    go_wp2_with fail
    exact bodyPost_ret (v := .tuple #[.string ⟨#[]⟩, .bool false]) (by simp [results, Try.results18, go_sem]) rfl ⟨rfl, Below.refl _ _⟩

set_option maxHeartbeats 400000 in
set_option maxRecDepth 100000 in
theorem joinTypeO_any (hd : ByteArray) (g o cap : Nat) (xs : List ByteArray) (w : World) (hcells : ∀ (j : Nat) x, xs[j]? = some x → w.cell? ⟨g, o + j, none⟩ = some (.string x)) (hg : g < w.heap.size) (hc : xs.length ≤ cap) (hN : xs.length ≤ 2) (h0 : 0 < xs.length) (hh : hd.size ≤ 1)
    (r : ByteArray) (hr : Hid (strOf (Lib.join (xs.map (·.data.toList)) [44]) = r)) (hl : r.size ≤ 200) (m : Nat) (hm : Hid (xs.length = m)) :
    Calls Try.prog 58 #[.string hd, .slice (some ⟨g, o, none⟩) m cap] w fun e w' => e = .returned (.string (strOf (hd.data.toList ++ 40 :: (r.data.toList ++ [41])))) ∧ Below w.heap.size w w' := by
  have hl' : (Lib.join (xs.map (·.data.toList)) [44]).length ≤ 200 := by
    have h := hl
    rw [← hr.out] at h
    exact h
  have HJ := hid (Try.strings_Join g o cap xs { data := #[44] } w hcells hg (by omega) hc (by exact Nat.le_trans hl' (by decide)))
  have hrr : (⟨(Lib.join (xs.map (·.data.toList)) [44]).toArray⟩ : ByteArray) = r := hr.out
  simp only [hrr, hm.out] at HJ
  rw [hm.out] at h0
  clear hcells hl' hrr hc hN
  have hf : ((m : Int) == 0) = false := by simp; omega
  go_enter Try.func58, Try.ntmps58
  go_wp2_with fail
  refine HJ.out.mono ?_
  rintro e w1 ⟨rfl, hb1⟩
  go_wp2_with fail
  go_ret
  refine ⟨?_, hb1⟩
  show Ending.returned (.string _) = .returned (.string _)
  congr 2
  exact strOf_eq (by simp [ByteArray.data_append])

set_option maxHeartbeats 400000 in
set_option maxRecDepth 100000 in
theorem joinType_nil (hd : ByteArray) (A : Option Addr) (cap : Nat) (w : World) :
    Calls Try.prog 58 #[.string hd, .slice A 0 cap] w fun e w' => e = .returned (.string hd) ∧ w' = w := by
  go_enter Try.func58, Try.ntmps58
  go_wp2_with fail
  go_ret
  exact ⟨rfl, rfl⟩

theorem mkOf_yes {h : ByteArray} {xs : List ByteArray} (h1 : h.size = 1) (h2 : ar (h.data.toList.headD 0) = xs.length) (h3 : ∀ x ∈ xs, (tyOf x.data.toList).isSome = true) (h4 : (joinL h.data.toList xs).length ≤ 60) : mkOf h xs = some (joinL h.data.toList xs) := by
  unfold mkOf
  rw [if_pos ⟨h1, h2, h3, h4⟩]
theorem valid_len {x : ByteArray} (h : (tyOf x.data.toList).isSome = true) : x.size ≤ 60 := by
  obtain ⟨t, ht⟩ := Option.isSome_iff_exists.1 h
  have := (tyOf_text ht).2.2
  simpa using this

theorem one_cell {w : World} {g o : Nat} {x : ByteArray} (h : w.cell? ⟨g, o, none⟩ = some (.string x)) : ∀ (j : Nat) y, [x][j]? = some y → w.cell? ⟨g, o + j, none⟩ = some (.string y) := by
  intro j y hj
  cases j with
  | zero => simp only [List.getElem?_cons_zero, Option.some.injEq] at hj; subst hj; exact h
  | succ j => simp at hj

set_option maxHeartbeats 1000000 in
set_option maxRecDepth 100000 in
theorem makeTypeI_0 (h : ByteArray) (A : Option Addr) (cap : Nat) (w : World) (h1 : h.size = 1) (ha : ar (h.data.toList.headD 0) = (0 : Nat)) :
    Calls Try.prog 18 #[.string h, .slice A 0 cap] w (MkEnd w (mkOf h [])) := by
  rw [mkOf_yes (xs := []) h1 ha (by simp) (by simp [joinL, h1])]
  have h0 : 0 < h.size := by omega
  have hz : ((h.size : Int) != 1) = false := by simp [h1]
  rw [head_at h h0] at ha
  have hl : ¬ (60 : Int) < h.size := by omega
  obtain ⟨c, hc⟩ : ∃ c, h[0] = c := ⟨_, rfl⟩
  rw [hc] at ha
  have HK := hid ha
  have H1 := hid h1
  clear ha h1
  go_enter Try.func18, Try.ntmps18
  go_wp2_with (first | (go_at_call 57; refine (partsNeeded_any _ _).mono ?_; rintro e w' ⟨rfl, rfl⟩; rw [show arI c.toNat = (0 : Nat) from HK.out]))
  refine wp_loop_rounds 1 ?_
  rw [rounds_succ]
  go_wp2_with (first | (go_at_call 58; refine (joinType_nil _ _ _ _).mono ?_; rintro e w' ⟨rfl, rfl⟩))
  refine bodyPost_ret (v := .tuple #[.string h, .bool true]) (by simp [results, Try.results18, go_sem]) rfl ⟨?_, Below.refl _ _⟩
  show Ending.returned (.tuple #[.string h, .bool true]) = .returned (.tuple #[.string (strOf h.data.toList), .bool true])
  rw [← strOf_eq rfl]

set_option maxHeartbeats 1000000 in
set_option maxRecDepth 100000 in
theorem makeTypeI_1 (h x : ByteArray) (g o cap : Nat) (w : World) (h1 : h.size = 1) (ha : ar (h.data.toList.headD 0) = (1 : Nat)) (hg : g < w.heap.size) (hc1 : 1 ≤ cap) (hx : w.cell? ⟨g, o, none⟩ = some (.string x)) (hxs : x.size ≤ maxLen) :
    Calls Try.prog 18 #[.string h, .slice (some ⟨g, o, none⟩) 1 cap] w (MkEnd w (mkOf h [x])) := by
  have h0 : 0 < h.size := by omega
  have hz : ((h.size : Int) != 1) = false := by simp [h1]
  have HA := hid ha
  rw [head_at h h0] at ha
  obtain ⟨c, hc⟩ : ∃ c, h[0] = c := ⟨_, rfl⟩
  rw [hc] at ha
  have HK := hid ha
  have H1 := hid h1
  clear ha h1
  rcases hv : (tyOf x.data.toList).isSome with _ | _
  · rw [mkOf_bad (by simp) hv]
    have HV := hid hv
    clear hv
    go_enter Try.func18, Try.ntmps18
    go_wp2_with (first | (go_at_call 57; refine (partsNeeded_any _ _).mono ?_; rintro e w' ⟨rfl, rfl⟩; rw [show arI c.toNat = (1 : Nat) from HK.out]))
    refine wp_loop_rounds 2 ?_
    rw [rounds_succ]
    go_wp2_with (first | (go_at_call 15; refine (typeValidI_at x _ hxs false HV).mono ?_; rintro e w1 ⟨rfl, hb1⟩))
    exact bodyPost_ret (v := .tuple #[.string ⟨#[]⟩, .bool false]) (by simp [results, Try.results18, go_sem]) rfl ⟨rfl, hb1⟩
  · have HV := hid hv
    have zx := valid_len hv
    have hj : joinL h.data.toList [x] = h.data.toList ++ 40 :: (x.data.toList ++ [41]) := rfl
    have hh1 : h.size ≤ 1 := by have := H1.out; omega
    have zx2 : x.size ≤ 200 := by omega
    have hjo := fun W hx' hg' => joinTypeO_any h g o cap [x] W hx' hg' (by simpa using hc1) (Nat.le_succ 1) Nat.one_pos hh1 x (hid (by simp [Lib.join, strOf])) zx2 1 (hid rfl)
    obtain ⟨q, hq⟩ : ∃ q, strOf (h.data.toList ++ 40 :: (x.data.toList ++ [41])) = q := ⟨_, rfl⟩
    have HQ := hid hq
    have hqs : q.size = (joinL h.data.toList [x]).length := by rw [← hq, strOf_size]; rfl
    have HQS := hid hqs
    simp only [hq] at hjo
    have HJO := hid hjo
    have hqm : q.size ≤ 63 := by
      rw [hqs]
      simp [joinL]
      omega
    have HOK := hid (mkOf_yes (h := h) (xs := [x]) H1.out HA.out (by simpa using hv))
    have HLO := hid (mkOf_long (h := h) (xs := [x]))
    clear hv hq hqs hjo hj
    have HX := hid hx
    by_cases hl : (60 : Int) < q.size
    · go_enter Try.func18, Try.ntmps18
      go_wp2_with (first | (go_at_call 57; refine (partsNeeded_any _ _).mono ?_; rintro e w' ⟨rfl, rfl⟩; rw [show arI c.toNat = (1 : Nat) from HK.out]))
      refine wp_loop_rounds 2 ?_
      rw [rounds_succ]
      go_wp2_with (first | (go_at_call 15; refine (typeValidI_at x _ hxs true HV).mono ?_; rintro e w1 ⟨rfl, hb1⟩))
      rw [rounds_succ]
      have z1 := hb1.size
      have hx1 := cell_below HX.out hg hb1
      go_wp2_with (first | (go_at_call 58; refine (HJO.out _ (one_cell hx1) (by omega)).mono ?_; rintro e w2 ⟨rfl, hb2⟩))
      rw [HLO.out (by rw [← HQS.out]; omega)]
      exact bodyPost_ret (v := .tuple #[.string ⟨#[]⟩, .bool false]) (by simp [results, Try.results18, go_sem]) rfl ⟨rfl, hb1.trans (hb2.mono hb1.size)⟩
    · go_enter Try.func18, Try.ntmps18
      go_wp2_with (first | (go_at_call 57; refine (partsNeeded_any _ _).mono ?_; rintro e w' ⟨rfl, rfl⟩; rw [show arI c.toNat = (1 : Nat) from HK.out]))
      refine wp_loop_rounds 2 ?_
      rw [rounds_succ]
      go_wp2_with (first | (go_at_call 15; refine (typeValidI_at x _ hxs true HV).mono ?_; rintro e w1 ⟨rfl, hb1⟩))
      rw [rounds_succ]
      have z1 := hb1.size
      have hx1 := cell_below HX.out hg hb1
      go_wp2_with (first | (go_at_call 58; refine (HJO.out _ (one_cell hx1) (by omega)).mono ?_; rintro e w2 ⟨rfl, hb2⟩))
      rw [HOK.out (by rw [← HQS.out]; omega)]
      refine bodyPost_ret (v := .tuple #[.string q, .bool true]) (by simp [results, Try.results18, go_sem]) rfl ⟨?_, hb1.trans (hb2.mono hb1.size)⟩
      show Ending.returned (.tuple #[.string q, .bool true]) = .returned (.tuple #[.string (strOf (joinL h.data.toList [x])), .bool true])
      rw [← HQ.out]
      rfl

theorem two_cell {w : World} {g o : Nat} {x y : ByteArray} (h : w.cell? ⟨g, o, none⟩ = some (.string x)) (h' : w.cell? ⟨g, o + 1, none⟩ = some (.string y)) : ∀ (j : Nat) z, [x, y][j]? = some z → w.cell? ⟨g, o + j, none⟩ = some (.string z) := by
  intro j z hj
  match j with
  | 0 => simp only [List.getElem?_cons_zero, Option.some.injEq] at hj; subst hj; exact h
  | 1 => simp only [List.getElem?_cons_succ, List.getElem?_cons_zero, Option.some.injEq] at hj; subst hj; exact h'
  | j + 2 => simp at hj

set_option maxHeartbeats 1000000 in
set_option maxRecDepth 100000 in
theorem makeTypeI_2 (h x y : ByteArray) (g o cap : Nat) (w : World) (h1 : h.size = 1) (ha : ar (h.data.toList.headD 0) = (2 : Nat)) (hg : g < w.heap.size) (hc1 : 2 ≤ cap) (hx : w.cell? ⟨g, o, none⟩ = some (.string x)) (hy : w.cell? ⟨g, o + 1, none⟩ = some (.string y)) (hxs : x.size ≤ maxLen) (hys : y.size ≤ maxLen) :
    Calls Try.prog 18 #[.string h, .slice (some ⟨g, o, none⟩) 2 cap] w (MkEnd w (mkOf h [x, y])) := by
  have h0 : 0 < h.size := by omega
  have hz : ((h.size : Int) != 1) = false := by simp [h1]
  have HA := hid ha
  rw [head_at h h0] at ha
  obtain ⟨c, hc⟩ : ∃ c, h[0] = c := ⟨_, rfl⟩
  rw [hc] at ha
  have HK := hid ha
  have H1 := hid h1
  clear ha h1
  have HX := hid hx
  have HY := hid hy
  clear hy
  rcases hv : (tyOf x.data.toList).isSome with _ | _
  · rw [mkOf_bad (x := x) (by simp) hv]
    have HV := hid hv
    clear hv
    go_enter Try.func18, Try.ntmps18
    go_wp2_with (first | (go_at_call 57; refine (partsNeeded_any _ _).mono ?_; rintro e w' ⟨rfl, rfl⟩; rw [show arI c.toNat = (2 : Nat) from HK.out]))
    refine wp_loop_rounds 3 ?_
    rw [rounds_succ]
    go_wp2_with (first | (go_at_call 15; refine (typeValidI_at x _ hxs false HV).mono ?_; rintro e w1 ⟨rfl, hb1⟩))
    exact bodyPost_ret (v := .tuple #[.string ⟨#[]⟩, .bool false]) (by simp [results, Try.results18, go_sem]) rfl ⟨rfl, hb1⟩
  · have HV := hid hv
    have zx := valid_len hv
    rcases hv' : (tyOf y.data.toList).isSome with _ | _
    · rw [mkOf_bad (x := y) (by simp) hv']
      have HV' := hid hv'
      clear hv hv'
      go_enter Try.func18, Try.ntmps18
      go_wp2_with (first | (go_at_call 57; refine (partsNeeded_any _ _).mono ?_; rintro e w' ⟨rfl, rfl⟩; rw [show arI c.toNat = (2 : Nat) from HK.out]))
      refine wp_loop_rounds 3 ?_
      rw [rounds_succ]
      go_wp2_with (first | (go_at_call 15; refine (typeValidI_at x _ hxs true HV).mono ?_; rintro e w1 ⟨rfl, hb1⟩))
      rw [rounds_succ]
      have hy1 := cell_below HY.out hg hb1
      clear hx
      go_wp2_with (first | (go_at_call 15; refine (typeValidI_at y _ hys false HV').mono ?_; rintro e w2 ⟨rfl, hb2⟩))
      exact bodyPost_ret (v := .tuple #[.string ⟨#[]⟩, .bool false]) (by simp [results, Try.results18, go_sem]) rfl ⟨rfl, hb1.trans (hb2.mono hb1.size)⟩
    · have HV' := hid hv'
      have zy := valid_len hv'
      have hh1 : h.size ≤ 1 := by have := H1.out; omega
      obtain ⟨r, hr⟩ : ∃ r, strOf (x.data.toList ++ 44 :: y.data.toList) = r := ⟨_, rfl⟩
      have hrs : r.size ≤ 200 := by
        rw [← hr, strOf_size]
        simp
        omega
      have hrl : r.data.toList = x.data.toList ++ 44 :: y.data.toList := by rw [← hr, strOf_list]
      have hjo := fun W hx' hg' => joinTypeO_any h g o cap [x, y] W hx' hg' (by simpa using hc1) (Nat.le_refl 2) (Nat.zero_lt_two) hh1 r (hid (by rw [show ([x, y].map (·.data.toList)) = [x.data.toList, y.data.toList] from rfl, join_two]; exact hr)) hrs 2 (hid rfl)
      obtain ⟨q, hq⟩ : ∃ q, strOf (h.data.toList ++ 40 :: (r.data.toList ++ [41])) = q := ⟨_, rfl⟩
      have hqj : strOf (joinL h.data.toList [x, y]) = q := by rw [← hq, hrl]; simp [joinL]
      have HQ := hid hqj
      have hqs : q.size = (joinL h.data.toList [x, y]).length := by rw [← hqj, strOf_size]
      have HQS := hid hqs
      simp only [hq] at hjo
      have HJO := hid hjo
      have hqm : q.size ≤ 124 := by
        rw [hqs]
        simp [joinL]
        omega
      have HOK := hid (mkOf_yes (h := h) (xs := [x, y]) H1.out HA.out (by simpa using ⟨hv, hv'⟩))
      have HLO := hid (mkOf_long (h := h) (xs := [x, y]))
      clear hv hv' hq hqs hjo hqj hr hrl hrs
      by_cases hl : (60 : Int) < q.size
      · go_enter Try.func18, Try.ntmps18
        go_wp2_with (first | (go_at_call 57; refine (partsNeeded_any _ _).mono ?_; rintro e w' ⟨rfl, rfl⟩; rw [show arI c.toNat = (2 : Nat) from HK.out]))
        refine wp_loop_rounds 3 ?_
        rw [rounds_succ]
        go_wp2_with (first | (go_at_call 15; refine (typeValidI_at x _ hxs true HV).mono ?_; rintro e w1 ⟨rfl, hb1⟩))
        rw [rounds_succ]
        have hy1 := cell_below HY.out hg hb1
        clear hx
        go_wp2_with (first | (go_at_call 15; refine (typeValidI_at y _ hys true HV').mono ?_; rintro e w2 ⟨rfl, hb2⟩))
        rw [rounds_succ]
        have hb12 := hb1.trans (hb2.mono hb1.size)
        have z2 := hb12.size
        clear hy1
        have HX2 := hid (cell_below HX.out hg hb12)
        have HY2 := hid (cell_below HY.out hg hb12)
        go_wp2_with (first | (go_at_call 58; refine (HJO.out _ (two_cell HX2.out HY2.out) (by omega)).mono ?_; rintro e w3 ⟨rfl, hb3⟩))
        rw [HLO.out (by rw [← HQS.out]; omega)]
        exact bodyPost_ret (v := .tuple #[.string ⟨#[]⟩, .bool false]) (by simp [results, Try.results18, go_sem]) rfl ⟨rfl, hb12.trans (hb3.mono hb12.size)⟩
      · go_enter Try.func18, Try.ntmps18
        go_wp2_with (first | (go_at_call 57; refine (partsNeeded_any _ _).mono ?_; rintro e w' ⟨rfl, rfl⟩; rw [show arI c.toNat = (2 : Nat) from HK.out]))
        refine wp_loop_rounds 3 ?_
        rw [rounds_succ]
        go_wp2_with (first | (go_at_call 15; refine (typeValidI_at x _ hxs true HV).mono ?_; rintro e w1 ⟨rfl, hb1⟩))
        rw [rounds_succ]
        have hy1 := cell_below HY.out hg hb1
        clear hx
        go_wp2_with (first | (go_at_call 15; refine (typeValidI_at y _ hys true HV').mono ?_; rintro e w2 ⟨rfl, hb2⟩))
        rw [rounds_succ]
        have hb12 := hb1.trans (hb2.mono hb1.size)
        have z2 := hb12.size
        clear hy1
        have HX2 := hid (cell_below HX.out hg hb12)
        have HY2 := hid (cell_below HY.out hg hb12)
        go_wp2_with (first | (go_at_call 58; refine (HJO.out _ (two_cell HX2.out HY2.out) (by omega)).mono ?_; rintro e w3 ⟨rfl, hb3⟩))
        rw [HOK.out (by rw [← HQS.out]; omega)]
        refine bodyPost_ret (v := .tuple #[.string q, .bool true]) (by simp [results, Try.results18, go_sem]) rfl ⟨?_, hb12.trans (hb3.mono hb12.size)⟩
        show Ending.returned (.tuple #[.string q, .bool true]) = .returned (.tuple #[.string (strOf (joinL h.data.toList [x, y])), .bool true])
        rw [HQ.out]

theorem makeTypeI_any (h : ByteArray) (A : Option Addr) (n cap : Nat) (xs : List ByteArray) (w : World) (hc : n ≤ cap) (hxs : Strs w A n xs) (hz : ∀ x ∈ xs, x.size ≤ maxLen) :
    Calls Try.prog 18 #[.string h, .slice A n cap] w (MkEnd w (mkOf h xs)) := by
  by_cases hno : h.size ≠ 1 ∨ ar (h.data.toList.headD 0) ≠ n
  · rw [mkOf_no (by rw [hxs.1]; exact hno)]
    exact makeTypeI_no h A n cap w hno
  · have h1 : h.size = 1 := Decidable.byContradiction fun e => hno (.inl e)
    have ha : ar (h.data.toList.headD 0) = n := Decidable.byContradiction fun e => hno (.inr e)
    have hn2 : n ≤ 2 := by have := ar_le (h.data.toList.headD 0); omega
    obtain ⟨hl, hs⟩ := hxs
    match xs, hl with
    | [], hl =>
      obtain rfl : 0 = n := hl
      exact makeTypeI_0 h A cap w h1 ha
    | [x], hl =>
      obtain rfl : 1 = n := hl
      obtain ⟨g, o, rfl, hg, hc'⟩ := hs Nat.one_pos
      exact makeTypeI_1 h x g o cap w h1 ha hg hc (hc' 0 x rfl) (hz x (by simp))
    | [x, y], hl =>
      obtain rfl : 2 = n := hl
      obtain ⟨g, o, rfl, hg, hc'⟩ := hs Nat.zero_lt_two
      exact makeTypeI_2 h x y g o cap w h1 ha hg hc (hc' 0 x rfl) (hc' 1 y rfl) (hz x (by simp)) (hz y (by simp))
    | _ :: _ :: _ :: _, hl => simp at hl; omega

end Go.Proofs.Ytechacocfpobgaa
