/- MatchType of the program. -/
import Derived.Test.YtmpmalcjfckemaaGreatDoorTxJ
namespace Go.Proofs.YtmpmalcjfckemaaGreatDoor
open Go.RowKit

/-- How readTypes ends. -/
def TypesEnd (w : World) (l l' : List UInt8) (e : Ending) (w' : World) : Prop :=
  Below w.heap.size w w' ∧ (((tyOf l = none ∨ tyOf l' = none) ∧ ∃ v v', e = .returned (.tuple #[v, v', .bool false])) ∨
    ∃ P T T1 b1 T2 b2, tyOf l = some P ∧ tyOf l' = some T ∧ e = .returned (.tuple #[.iface T1 (.pointer (some ⟨b1, 0, none⟩)), .iface T2 (.pointer (some ⟨b2, 0, none⟩)), .bool true]) ∧
      RepP w' (fun k => w.heap.size ≤ k ∧ k < w'.heap.size) P (.iface T1 (.pointer (some ⟨b1, 0, none⟩))) ∧ RepP w' (fun k => w.heap.size ≤ k ∧ k < w'.heap.size) T (.iface T2 (.pointer (some ⟨b2, 0, none⟩))))

set_option maxHeartbeats 800000 in
set_option maxRecDepth 100000 in
theorem readTypes_any (a b : ByteArray) (w : World) (ha : a.size ≤ maxLen) (hb : b.size ≤ maxLen) : Calls Tryz.prog 85 #[.string a, .string b] w (TypesEnd w a.data.toList b.data.toList) := by
  go_enter Tryz.func85, Tryz.ntmps85
  go_wp2_with fail
  refine (readType_any a _ ha).mono ?_
  rintro e w1 ⟨hb1, ⟨hn1, rfl⟩ | ⟨P, T1, b1, hs1, rfl, hr1⟩⟩
  · have HN1 := hid hn1
    clear hn1
    go_wp2_with fail
    refine (readType_any b _ hb).mono ?_
    rintro e w2 ⟨hb2, ⟨hn2, rfl⟩ | ⟨T, T2, b2, hs2, rfl, hr2⟩⟩
    · clear hn2
      go_wp2_with fail
      exact bodyPost_ret (v := .tuple #[.nilIface, .nilIface, .bool false]) (by simp [results, Tryz.results85, go_sem]) rfl ⟨hb1.trans (hb2.mono hb1.size), .inl ⟨.inl HN1.out, _, _, rfl⟩⟩
    · clear hs2 hr2
      go_wp2_with fail
      exact bodyPost_ret (v := .tuple #[.nilIface, .iface T2 (.pointer (some ⟨b2, 0, none⟩)), .bool false]) (by simp [results, Tryz.results85, go_sem]) rfl ⟨hb1.trans (hb2.mono hb1.size), .inl ⟨.inl HN1.out, _, _, rfl⟩⟩
  · have HS1 := hid hs1
    have HR1 := hid hr1
    clear hs1 hr1
    go_wp2_with fail
    refine (readType_any b _ hb).mono ?_
    rintro e w2 ⟨hb2, ⟨hn2, rfl⟩ | ⟨T, T2, b2, hs2, rfl, hr2⟩⟩
    · have HN2 := hid hn2
      clear hn2
      go_wp2_with fail
      exact bodyPost_ret (v := .tuple #[.iface T1 (.pointer (some ⟨b1, 0, none⟩)), .nilIface, .bool false]) (by simp [results, Tryz.results85, go_sem]) rfl ⟨hb1.trans (hb2.mono hb1.size), .inl ⟨.inr HN2.out, _, _, rfl⟩⟩
    · have HS2 := hid hs2
      have HR2 := hid hr2
      clear hs2 hr2
      go_wp2_with fail
      refine bodyPost_ret (v := .tuple #[.iface T1 (.pointer (some ⟨b1, 0, none⟩)), .iface T2 (.pointer (some ⟨b2, 0, none⟩)), .bool true]) (by simp [results, Tryz.results85, go_sem]) rfl ⟨hb1.trans (hb2.mono hb1.size), .inr ⟨P, T, T1, b1, T2, b2, HS1.out, HS2.out, rfl, ?_, ?_⟩⟩
      · exact (HR1.out.repP (tyOf_text HS1.out).2.1).keep fun k hk => ⟨⟨hk.1, Nat.lt_of_lt_of_le hk.2 hb2.size⟩, hb2.block k hk.2⟩
      · exact (HR2.out.repP (tyOf_text HS2.out).2.1).keep fun k hk => ⟨⟨Nat.le_trans hb1.size hk.1, hk.2⟩, rfl⟩

theorem Stnd.none {w : World} {sb : Nat} {S S' : Nat → Prop} (h : Stnd w sb S (fun _ => none)) : Stnd w sb S' (fun _ => none) := h

theorem own_base {w : World} {base base' : Nat} {T : TypeId} {k n : Nat} {v : Value} {xs : List Value} (h : w.ownsRow base T k v n xs) (hb : base' ≤ base) : w.ownsRow base' T k v n xs := by
  refine ⟨h.1, ?_⟩
  rcases h.2 with h | ⟨g, cap, cur, e, h1, rest⟩
  · exact .inl h
  · exact .inr ⟨g, cap, cur, e, Nat.le_trans hb h1, rest⟩

/-- How MatchType ends. -/
def MatchEnd (w : World) (l l' : List UInt8) (e : Ending) (w' : World) : Prop :=
  Below w.heap.size w w' ∧ match mtOf l l' with
    | none => e = .returned (.tuple #[.slice none 0 0, .bool false])
    | some g => ∃ v, e = .returned (.tuple #[v, .bool true]) ∧ w'.ownsRow w.heap.size 176 2 v (told g).length (cells2 (told g))

theorem filterMap_eq {α β : Type} {p q : α → Option β} : ∀ L : List α, (∀ c ∈ L, p c = q c) → L.filterMap p = L.filterMap q := by
  intro L
  induction L with
  | nil => intro _; rfl
  | cons c L ih =>
    intro h
    rw [List.filterMap_cons, List.filterMap_cons, ih fun d hd => h d (List.mem_cons_of_mem _ hd), h c (List.mem_cons_self ..)]
theorem pairs_told {f : UInt8 → Option Ty} : pairs (upto f 12) = told f := by
  unfold pairs told
  refine filterMap_eq _ fun c hc => ?_
  have hv : isVarX c = true := by
    simp only [List.mem_cons, List.not_mem_nil, or_false] at hc
    rcases hc with rfl | rfl | rfl | rfl | rfl | rfl <;> decide
  rw [upto_all, if_pos hv, Option.map_map]
  rfl

set_option maxHeartbeats 1600000 in
set_option maxRecDepth 100000 in
theorem matchType_any (a b : ByteArray) (w : World) (ha : a.size ≤ maxLen) (hb : b.size ≤ maxLen) : Calls Tryz.prog 106 #[.string a, .string b] w (MatchEnd w a.data.toList b.data.toList) := by
  go_enter Tryz.func106, Tryz.ntmps106
  go_wp2_with fail
  refine (readTypes_any a b _ ha hb).mono ?_
  rintro e w1 ⟨hb1, ⟨hn, v, v', rfl⟩ | ⟨P, T, T1, b1, T2, b2, hP, hT, rfl, hr1, hr2⟩⟩
  · have hm : mtOf a.data.toList b.data.toList = none := by
      unfold mtOf
      rcases hn with h | h
      · rw [h]
      · rw [h]
        cases tyOf a.data.toList <;> rfl
    have HM := hid hm
    clear hm hn
    go_wp2_with fail
    refine bodyPost_ret (v := .tuple #[.slice none 0 0, .bool false]) (by simp [results, Tryz.results106, go_sem]) rfl ⟨hb1.alloc hb1.size _, ?_⟩
    rw [HM.out]
  · obtain ⟨_, oP, _⟩ := tyOf_text hP
    obtain ⟨eT, oT, lT⟩ := tyOf_text hT
    obtain ⟨o, ho⟩ : ∃ o, mt P T (fun _ => none) = o := ⟨_, rfl⟩
    have hm : mtOf a.data.toList b.data.toList = o := by
      unfold mtOf
      rw [hP, hT]
      exact ho
    have HM := hid hm
    have HO := hid ho
    have HR1 := hid hr1
    have HR2 := hid hr2
    have HPT := hid (And.intro hP hT)
    have HOP := hid oP
    have HOT := hid oT
    have hlT : T.text.length ≤ 60 := by rw [← eT]; exact lT
    have z1 := hb1.size
    clear hm ho hr1 hr2 hP hT oP oT eT lT
    go_wp2_with fail
    obtain ⟨W1, hW1⟩ : ∃ W1, w1.alloc (.cells #[.nilIface, .nilIface, .nilIface, .nilIface, .nilIface, .nilIface, .nilIface, .nilIface, .nilIface, .nilIface, .nilIface, .nilIface] 126) = W1 := ⟨_, rfl⟩
    have hst0 := Stnd.new w1
    have hbW : Below w1.heap.size w1 W1 := by rw [← hW1]; exact (Below.refl _ _).alloc (Nat.le_refl _) _
    rw [hW1] at hst0 ⊢
    clear hW1
    have zW := hbW.size
    have hM := match_any w1.heap.size T1 b1 T2 b2 W1 (fun k => w.heap.size ≤ k ∧ k < w1.heap.size) P T (HR1.out.keep fun k hk => ⟨hk, hbW.block k hk.2⟩) (HR2.out.keep fun k hk => ⟨hk, hbW.block k hk.2⟩) hst0.none (fun h => absurd h.2 (Nat.lt_irrefl _)) (fun k hk => Nat.lt_of_lt_of_le hk.2 zW) HOP.out HOT.out hlT o HO
    have HMM := hid hM
    clear hM hst0
    go_wp2_with fail
    refine HMM.out.mono ?_
    rintro e w2 ⟨hb2, hr⟩
    have hbA : Below w.heap.size w w2 := hb1.trans ((hbW.mono z1).trans (hb2.below' (by omega) z1))
    cases o with
    | none =>
      obtain rfl : e = .returned (.bool false) := hr
      go_wp2_with fail
      refine bodyPost_ret (v := .tuple #[.slice none 0 0, .bool false]) (by simp [results, Tryz.results106, go_sem]) rfl ⟨hbA, ?_⟩
      rw [HM.out]
    | some g =>
      obtain ⟨rfl, hst⟩ : e = .returned (.bool true) ∧ Stnd w2 w1.heap.size (fun k => w.heap.size ≤ k ∧ k < w1.heap.size) g := hr
      have HST := hid hst
      have z2 := hbA.size
      have z12 : w1.heap.size ≤ w2.heap.size := by have := hb2.size; omega
      have hfine := mtOf_fine HM.out
      have hdom : ∀ c, (upto g 12 c).isSome = true → isVarB c = true := fun c hc => by
        rcases hv : isVarB c with _ | _
        · rw [upto_all, mtOf_dom HM.out hv] at hc
          split at hc <;> cases hc
        · rfl
      have hlen : ∀ c x, upto g 12 c = some x → x.length ≤ 60 := fun c x hx => by
        rw [upto_all] at hx
        split at hx
        · rcases hg : g c with _ | t
          · rw [hg] at hx
            cases hx
          · rw [hg] at hx
            injection hx with hx
            rw [← hx]
            exact (hfine c t hg).2
        · cases hx
      have HLEN := hid hlen
      have HDOM := hid hdom
      have HT := hid (texts_same w1.heap.size w2 _ g hst (fun k hk => Nat.lt_of_lt_of_le hk.2 z12) hfine)
      clear hst hlen hdom hfine
      go_wp2_with fail
      refine HT.out.mono ?_
      rintro e w3 ⟨D, rfl, hown, hrd, hb3⟩
      have HB := hid (bindingsFrom_any w2.heap.size D (upto g 12) w3 hown hrd HDOM.out)
      clear hown hrd
      go_wp2_with fail
      refine HB.out.mono ?_
      rintro e w4 ⟨hb4, ⟨⟨c, x, hx, hlx⟩, _⟩ | ⟨_, v, rfl, hown⟩⟩
      · have := HLEN.out c x hx
        omega
      · have hv := hown
        obtain ⟨A, cp, rfl, _, _⟩ := own_pairs hown
        have HV := hid hv
        clear hown hv
        go_wp2_with fail
        have z3 := hb3.size
        refine bodyPost_ret (v := .tuple #[.slice A (pairs (upto g 12)).length cp, .bool true]) (by simp [results, Tryz.results106, go_sem]) rfl ⟨(hbA.trans (hb3.mono z2)).trans (hb4.mono (by omega)), ?_⟩
        rw [HM.out]
        refine ⟨_, rfl, ?_⟩
        have h := HV.out
        rw [pairs_told] at h ⊢
        exact own_base h (by omega)

end Go.Proofs.YtmpmalcjfckemaaGreatDoor
