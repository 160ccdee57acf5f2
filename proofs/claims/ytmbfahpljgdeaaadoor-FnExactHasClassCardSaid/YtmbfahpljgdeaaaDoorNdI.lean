/- FormatBindings in plain words. FormatBindings in the program. Needs and instances in plain words: their texts. FormatNeed and FormatInstance in the program. -/
import Derived.Test.YtmbfahpljgdeaaaDoorArgsB
import Derived.Lib.Join
import Derived.Test.YtmbfahpljgdeaaaDoorJoin
import Derived.OwnWalk
import Derived.Test.YtmbfahpljgdeaaaDoorArgsN
namespace Go.Proofs.YtmbfahpljgdeaaaDoor
open Go.RowKit

/-- The text of a binding. -/
def bnd (z : ByteArray × ByteArray) : List UInt8 := z.1.data.toList ++ 61 :: z.2.data.toList
def fmtL (zs : List (ByteArray × ByteArray)) : List UInt8 := Lib.join (zs.map bnd) [32]
def fmtB (zs : List (ByteArray × ByteArray)) : ByteArray := if zs = [] then strOf [45] else strOf (fmtL zs)

theorem inter_snoc {α : Type} (sep a : List α) : ∀ l : List (List α), l ≠ [] → sep.intercalate (l ++ [a]) = sep.intercalate l ++ (sep ++ a)
  | [], h => absurd rfl h
  | [x], _ => by simp [List.intercalate]
  | x :: y :: l, _ => by
    have := inter_snoc sep a (y :: l) (by simp)
    simp only [List.intercalate, List.cons_append, List.intersperse_cons_cons, List.flatten_cons, List.append_assoc] at this ⊢
    rw [this]
theorem bnd_len (z : ByteArray × ByteArray) : (bnd z).length = z.1.size + z.2.size + 1 := by
  have e1 : z.1.size = z.1.data.toList.length := by simp
  have e2 : z.2.size = z.2.data.toList.length := by simp
  rw [bnd, e1, e2, List.length_append, List.length_cons]
  omega
theorem fmtL_nil : fmtL [] = [] := rfl
theorem fmtL_one (z : ByteArray × ByteArray) : fmtL [z] = bnd z := by simp [fmtL, Lib.join, List.intercalate]
theorem fmtL_snoc {zs : List (ByteArray × ByteArray)} (h : zs ≠ []) (z : ByteArray × ByteArray) : fmtL (zs ++ [z]) = fmtL zs ++ 32 :: bnd z := by
  unfold fmtL Lib.join
  rw [List.map_append, List.map_singleton, inter_snoc _ _ _ (by simpa using h)]
  rfl
theorem fmtL_cons (z y : ByteArray × ByteArray) (ys : List (ByteArray × ByteArray)) : fmtL (z :: y :: ys) = bnd z ++ 32 :: fmtL (y :: ys) := by
  simp [fmtL, Lib.join, List.intercalate]
theorem fmtL_len (zs : List (ByteArray × ByteArray)) : (fmtL zs).length ≤ zs.length * 2 + tot zs := by
  induction zs with
  | nil => simp [fmtL_nil]
  | cons z zs ih =>
    cases zs with
    | nil =>
      rw [fmtL_one, bnd_len]
      simp [tot]
      omega
    | cons y ys =>
      have e : tot (z :: y :: ys) = z.1.size + z.2.size + tot (y :: ys) := by simp [tot]
      rw [fmtL_cons, List.length_append, List.length_cons, bnd_len, e, List.length_cons]
      omega
theorem fmtL_ne {zs : List (ByteArray × ByteArray)} (h : zs ≠ []) : fmtL zs ≠ [] := by
  intro e
  have h1 : (fmtL zs).length = 0 := by rw [e]; rfl
  match zs with
  | [] => exact h rfl
  | [z] =>
    rw [fmtL_one, bnd_len] at h1
    omega
  | z :: y :: ys =>
    rw [fmtL_cons, List.length_append, bnd_len] at h1
    omega

end Go.Proofs.YtmbfahpljgdeaaaDoor

namespace Go.Proofs.YtmbfahpljgdeaaaDoor
open Go.RowKit

theorem bnd_cat (x y : ByteArray) : x ++ ({ data := #[61] } : ByteArray) ++ y = strOf (bnd (x, y)) := strOf_eq (by simp [ByteArray.data_append, bnd])
theorem own_row {w : World} {base n : Nat} {T : TypeId} {v : Value} {xs : List Value} (h : w.ownsRow base T 1 v n xs) (hn : 0 < n) :
    ∃ g cap, v = .slice (some ⟨g, 0, none⟩) n cap ∧ base ≤ g ∧ g < w.heap.size ∧ n ≤ cap ∧ ∀ (j : Nat) u, xs[j]? = some u → w.cell? ⟨g, j, none⟩ = some u := by
  have hc : ∀ g, v.ownBlock = some g → ∀ j u, xs[j]? = some u → w.cell? ((⟨g, 0, none⟩ : Addr).add j) = some u := fun g hg => h.cells hg
  have hl := h.lt
  obtain ⟨h1, ⟨rfl, rfl⟩ | ⟨g, cap, cur, rfl, hb, hg, hnc, _⟩⟩ := h
  · exact absurd hn (Nat.lt_irrefl 0)
  · refine ⟨g, cap, rfl, hb, (hl g rfl).2, hnc, fun j u hj => ?_⟩
    have := hc g rfl j u hj
    rwa [show (⟨g, 0, none⟩ : Addr).add j = ⟨g, j, none⟩ by unfold Addr.add; split <;> simp_all] at this

/-- Texts with a mark between them; a dash for none. -/
def allW (sep : ByteArray) (xs : List ByteArray) : ByteArray := if xs = [] then { data := #[45] } else strOf (Lib.join (xs.map (·.data.toList)) sep.data.toList)
end Go.Proofs.YtmbfahpljgdeaaaDoor

namespace Go.Proofs.YtmbfahpljgdeaaaDoor
open Go.RowKit

/-- The text of a need. -/
def ndt (z : ByteArray × ByteArray) : List UInt8 := z.1.data.toList ++ 32 :: z.2.data.toList
def ndL (zs : List (ByteArray × ByteArray)) : List UInt8 := Lib.join (zs.map ndt) [38]
theorem ndt_len (z : ByteArray × ByteArray) : (ndt z).length = z.1.size + z.2.size + 1 := by
  have e1 : z.1.size = z.1.data.toList.length := by simp
  have e2 : z.2.size = z.2.data.toList.length := by simp
  rw [ndt, e1, e2, List.length_append, List.length_cons]
  omega
theorem ndL_nil : ndL [] = [] := rfl
theorem ndL_one (z : ByteArray × ByteArray) : ndL [z] = ndt z := by simp [ndL, Lib.join, List.intercalate]
theorem ndL_snoc {zs : List (ByteArray × ByteArray)} (h : zs ≠ []) (z : ByteArray × ByteArray) : ndL (zs ++ [z]) = ndL zs ++ 38 :: ndt z := by
  unfold ndL Lib.join
  rw [List.map_append, List.map_singleton, inter_snoc _ _ _ (by simpa using h)]
  rfl
theorem ndL_cons (z y : ByteArray × ByteArray) (ys : List (ByteArray × ByteArray)) : ndL (z :: y :: ys) = ndt z ++ 38 :: ndL (y :: ys) := by
  simp [ndL, Lib.join, List.intercalate]
theorem ndL_len (zs : List (ByteArray × ByteArray)) : (ndL zs).length ≤ zs.length * 2 + tot zs := by
  induction zs with
  | nil => simp [ndL_nil]
  | cons z zs ih =>
    cases zs with
    | nil =>
      rw [ndL_one, ndt_len]
      simp [tot]
      omega
    | cons y ys =>
      have e : tot (z :: y :: ys) = z.1.size + z.2.size + tot (y :: ys) := by simp [tot]
      rw [ndL_cons, List.length_append, List.length_cons, ndt_len, e, List.length_cons]
      omega
/-- An instance: class, type, needs. -/
structure Ins where
  c : ByteArray
  t : ByteArray
  ns : List (ByteArray × ByteArray)
/-- The text of an instance. -/
def insL (i : Ins) : List UInt8 := ndt (i.c, i.t) ++ (if i.ns = [] then [] else 58 :: ndL i.ns)
def insTot (i : Ins) : Nat := i.c.size + i.t.size + i.ns.length + tot i.ns
theorem insL_len (i : Ins) : (insL i).length ≤ 2 * insTot i + 2 := by
  have h1 := ndt_len (i.c, i.t)
  have h2 := ndL_len i.ns
  unfold insL insTot
  rw [List.length_append, h1]
  dsimp only
  split
  · simp; omega
  · simp; omega

end Go.Proofs.YtmbfahpljgdeaaaDoor

namespace Go.Proofs.YtmbfahpljgdeaaaDoor
open Go.RowKit

theorem own_keep {w w' : World} {base : Nat} {e : TypeId} {size : Nat} {v : Value} {n : Nat} {xs : List Value} (h : w.ownsRow base e size v n xs) (hk : ∀ g, v.ownBlock = some g → w'.heap[g]? = w.heap[g]?) : w'.ownsRow base e size v n xs := by
  refine ⟨h.1, ?_⟩
  rcases h.2 with h' | ⟨g, cap, cur, rfl, hb, hg, r⟩
  · exact .inl h'
  · exact .inr ⟨g, cap, cur, rfl, hb, (hk g rfl).trans hg, r⟩
theorem ndt_cat (x y : ByteArray) : x ++ ({ data := #[32] } : ByteArray) ++ y = strOf (ndt (x, y)) := strOf_eq (by simp [ByteArray.data_append, ndt])

set_option maxHeartbeats 400000 in
set_option maxRecDepth 100000 in
theorem formatNeedI_any (x y : ByteArray) (w : World) (h : x.size + y.size ≤ 1048576) :
    Calls Tryd.prog 89 #[.agg #[.string x, .string y]] w fun e w' => e = .returned (.string (strOf (ndt (x, y)))) ∧ Below w.heap.size w w' := by
  have hx : x.size ≤ 1048576 := by omega
  have hy : y.size ≤ 1048576 := by omega
  have HC := hid (ndt_cat x y)
  go_enter Tryd.func89, Tryd.ntmps89
  go_wp2_with fail
  go_ret
  rw [← HC.out]
  exact ⟨rfl, (Below.refl _ _).alloc (Nat.le_refl _) _⟩

set_option maxHeartbeats 1000000 in
set_option maxRecDepth 100000 in
theorem needTexts_any (A : Option Addr) (n c : Nat) (zs : List (ByteArray × ByteArray)) (w : World) (ha : Prs w A n zs) (h0 : 0 < n) (hn : n + tot zs ≤ 1048576) :
    Calls Tryd.prog 90 #[.slice A n c] w fun e w' => ∃ g cap, e = .returned (.slice (some ⟨g, 0, none⟩) n cap) ∧ g < w'.heap.size ∧ n ≤ cap ∧ (∀ (j : Nat) z, zs[j]? = some z → w'.cell? ⟨g, j, none⟩ = some (.string (strOf (ndt z)))) ∧ Below w.heap.size w w' := by
  have HA := hid ha
  clear ha
  have HT := hid hn
  obtain ⟨i0, hi0, hz0, hz1, hz2⟩ := info_parts stringInfo
  have hn' : n ≤ 1048576 := by omega
  clear hn
  go_enter Tryd.func90, Tryd.ntmps90
  go_wp2_with fail
  go_loopw [3, 8] (fun v i wr => ∃ k : Nat, k ≤ n ∧ i = .int .i64 k ∧ wr.ownsRow w.heap.size 9 1 v k ((zs.take k).map fun z => .string (strOf (ndt z))) ∧ Below w.heap.size w wr) (fun _ i _ => n - (intOf i).toNat)
  case atStart => exact ⟨0, Nat.zero_le _, rfl, ⟨rfl, .inl ⟨rfl, rfl⟩⟩, Below.refl _ _⟩
  case round =>
    obtain ⟨k, hk, rfl, hown, hbel⟩ := hrel
    have hsz := hbel.size
    have HW := hid hown
    clear hown
    by_cases hlt : k < n
    · obtain ⟨g, o, rfl, hg, hca⟩ := HA.out.2 (by omega)
      have hx : zs[k]? = some (zs[k]'(by have := HA.out.1; omega)) := List.getElem?_eq_getElem _
      obtain ⟨ca, cb⟩ := hca k _ hx
      have hms := tot_mem (List.mem_of_getElem? hx)
      obtain ⟨⟨x, y⟩, ex⟩ : ∃ z, zs[k]'(by have := HA.out.1; omega) = z := ⟨_, rfl⟩
      rw [ex] at ca cb hx hms
      have hxs : x.size + y.size ≤ 1048576 := by have := HT.out; simp only at hms; omega
      have HX := hid hx
      have ca' := cell_below ca hg hbel
      have cb' := cell_below cb hg hbel
      clear hca hx ex ca cb hms
      have i1 : (0 : Int) ≤ (k : Int) := by omega
      have i2 : (k : Int) < (n : Int) := by omega
      go_wp2_with fail
      refine (formatNeedI_any x y _ hxs).mono ?_
      rintro e w1 ⟨rfl, hb1⟩
      have hb1' := (hbel.alloc hsz _).trans (hb1.mono (by simp only [World.size_alloc]; omega))
      have hz1' := hb1.size
      simp only [World.size_alloc] at hz1'
      have HW1 := hid (own_keep (w' := w1) HW.out fun g' hg' => (hb1.block g' (by have := (HW.out.lt g' hg').2; simp only [World.size_alloc]; omega)).trans (Below.heap_alloc _ _ _ (HW.out.lt g' hg').2))
      go_wp2_with (at_builtin; refine wpList_append_own _ rfl _ _ 87 rfl w.heap.size 9 i0 (.string ⟨#[]⟩) 1 16 Tryd.underlying87 hi0 hz0 hz1 hz2 rfl (by decide) _ k _ rfl (HW1.out.alloc _) ⟨w1.heap.size, 0, none⟩ 1 1 [.string (strOf (ndt (x, y)))] rfl rfl ?c1 ?c2 ?c3 ?c4 ?c5 ?_)
      case c1 =>
        intro j u hj
        rcases j with _ | j
        · simp only [List.getElem?_cons_zero, Option.some.injEq] at hj
          subst hj
          exact cell_new1 w1 _ _
        · simp at hj
      case c2 => simp [Value.oneCell']
      case c3 => unfold maxLen; omega
      case c4 => omega
      case c5 => simp only [World.size_alloc]; omega
      intro v2 w2 hown2 hg2 hv2
      clear hv2
      have HO2 := hid hown2
      have HG2 := hid hg2
      clear hown2 hg2
      go_wp2_with fail
      go_roundw
      case rel =>
        refine ⟨k + 1, hlt, by go_num, ?_, ?_⟩
        · rw [List.take_add_one, HX.out, List.map_append, List.map_take]
          exact HO2.out
        · exact (hb1'.alloc (by omega) _).grown HG2.out (by simp only [World.size_alloc]; omega) (fun k' hk' => (HW.out.lt k' hk').1)
      case measure => simp [intOf]; omega
    · obtain rfl : k = n := by omega
      have hown := HW.out
      have htk : zs.take k = zs := List.take_of_length_le (by have := HA.out.1; omega)
      rw [htk] at hown
      obtain ⟨g, cap, rfl, hg, hgl, hcap, hcell⟩ := own_row hown (by omega)
      have HCELL := hid hcell
      clear hcell hown htk
      go_wp2_with fail
      go_ret
      refine ⟨g, cap, rfl, hgl, hcap, fun j z hz => ?_, hbel⟩
      refine HCELL.out j _ ?_
      rw [List.getElem?_map, hz]
      rfl

/-- Strings joined by '&' in the program. -/
theorem joinI_any (g cap n : Nat) (zs : List (ByteArray × ByteArray)) (w : World) (hz : zs.length = n) (hg : g < w.heap.size) (hc : n ≤ cap) (hcell : ∀ (j : Nat) z, zs[j]? = some z → w.cell? ⟨g, j, none⟩ = some (.string (strOf (ndt z)))) (hn : n + tot zs ≤ 1048576) :
    Calls Tryd.prog 63 #[.slice (some ⟨g, 0, none⟩) n cap, .string { data := #[38] }] w fun e w' => e = .returned (.string (strOf (ndL zs))) ∧ Below w.heap.size w w' := by
  have e1 : (zs.map fun z => strOf (ndt z)).length = n := by rw [List.length_map]; exact hz
  have e2 : (zs.map fun z => strOf (ndt z)).map (·.data.toList) = zs.map ndt := by simp [strOf]
  have hj := Tryd.strings_Join g 0 cap (zs.map fun z => strOf (ndt z)) { data := #[38] } w (fun j x hx => by
    rw [Nat.zero_add]
    rw [List.getElem?_map] at hx
    cases hz : zs[j]? with
    | none => rw [hz] at hx; cases hx
    | some z =>
      rw [hz] at hx
      simp at hx
      subst hx
      exact hcell j z hz) hg (by rw [e1]; omega) (by rw [e1]; exact hc) (by
    have := ndL_len zs
    rw [e2]
    show (ndL zs).length ≤ _
    omega)
  rw [e1, e2] at hj
  exact hj.mono fun e w' h => h

set_option maxHeartbeats 1000000 in
set_option maxRecDepth 100000 in
theorem formatInstanceI_any (x y : ByteArray) (A : Option Addr) (n c : Nat) (zs : List (ByteArray × ByteArray)) (w : World) (ha : Prs w A n zs) (hn : insTot ⟨x, y, zs⟩ ≤ 1048576) :
    Calls Tryd.prog 64 #[.agg #[.string x, .string y, .slice A n c]] w fun e w' => e = .returned (.string (strOf (insL ⟨x, y, zs⟩))) ∧ Below w.heap.size w w' := by
  have hlen := ha.1
  have hn2 : x.size + y.size + n + tot zs ≤ 1048576 := by rw [← hlen]; exact hn
  have HA := hid ha
  have HL := hid hlen
  clear ha hn hlen
  have hs0 : x.size + y.size ≤ 1048576 := by omega
  have hs1 : n + tot zs ≤ 1048576 := by omega
  have hnn : n ≤ 1048576 := by omega
  obtain ⟨q, hq⟩ : ∃ q, strOf (ndt (x, y)) = q := ⟨_, rfl⟩
  have hqs : q.size ≤ 1048577 := by rw [← hq, strOf_size, ndt_len]; simp only; omega
  have HQ := hid hq
  have HN := hid (formatNeedI_any x y (w.alloc (.cells #[.string x, .string y, .slice A n c] 45)) hs0)
  rw [hq] at HN
  clear hq
  go_enter Tryd.func64, Tryd.ntmps64
  go_wp2_with fail
  refine HN.out.mono ?_
  rintro e w1 ⟨rfl, hb1⟩
  have hb1' := ((Below.refl w.heap.size w).alloc (Nat.le_refl _) (.cells #[.string x, .string y, .slice A n c] 45)).trans (hb1.mono (by simp only [World.size_alloc]; omega))
  have hz1 := hb1.size
  simp only [World.size_alloc] at hz1
  have hc2 : w1.cell? ⟨w.heap.size, 2, none⟩ = some (.slice A n c) := cell_blk ((hb1.block _ (by simp only [World.size_alloc]; omega)).trans (heap_new1 w (.cells #[.string x, .string y, .slice A n c] 45))) rfl
  by_cases h0 : n = 0
  · have hz : zs = [] := List.eq_nil_of_length_eq_zero (by rw [HL.out]; exact h0)
    have HE := hid (show strOf (insL ⟨x, y, zs⟩) = q by
      rw [← HQ.out, hz]
      simp [insL])
    subst h0
    clear hz
    go_wp2_with fail
    go_ret
    rw [HE.out]
    exact ⟨rfl, hb1'⟩
  · have h1 : ((n : Int) == 0) = false := by simp; omega
    have HP1 := hid (HA.out.below hb1')
    obtain ⟨r, hr⟩ : ∃ r, strOf (ndL zs) = r := ⟨_, rfl⟩
    have hrs : r.size ≤ 2097152 := by
      rw [← hr, strOf_size]
      have := ndL_len zs
      have := HL.out
      omega
    have HR := hid hr
    have HE := hid (show strOf (insL ⟨x, y, zs⟩) = q ++ ({ data := #[58] } : ByteArray) ++ r by
      symm
      refine strOf_eq ?_
      have hne : zs ≠ [] := by
        rintro rfl
        exact h0 HL.out.symm
      simp [ByteArray.data_append, insL, hne, ← HQ.out, ← HR.out, strOf])
    have hnp : 0 < n := by omega
    go_wp2_with fail
    refine (needTexts_any A n c zs _ HP1.out hnp hs1).mono ?_
    rintro e w2 ⟨g, cap, rfl, hg, hcap, hcell, hb2⟩
    have HJ := hid (joinI_any g cap n zs w2 HL.out hg hcap hcell hs1)
    rw [hr] at HJ
    clear hcell hr
    go_wp2_with fail
    refine HJ.out.mono ?_
    rintro e w3 ⟨rfl, hb3⟩
    go_wp2_with fail
    go_ret
    rw [HE.out]
    exact ⟨rfl, hb1'.trans ((hb2.trans (hb3.mono hb2.size)).mono hb1'.size)⟩

end Go.Proofs.YtmbfahpljgdeaaaDoor
