/- Bindings sorted by their letters, in the program. What a map of texts reads as, in plain words. The texts of what variables stand for, in the program: a map. bindingsFrom of the program: a map of texts ranged over, sorted, handed back. MatchType of the program. -/
import Derived.Test.YtjpdiahbnhemoaaGreatSrt
import Derived.Test.YtjpdiahbnhemoaaGreatArgsB
import Derived.Test.YtjpdiahbnhemoaaGreatMtW
import Derived.Maps.RangeWalk
import Derived.Maps.OwnSet
import Derived.Test.YtjpdiahbnhemoaaGreatMtJ
import Derived.Maps.OwnOps
import Derived.Test.YtjpdiahbnhemoaaGreatMarksB
import Derived.Maps.StringElems
import Derived.Sort.OwnSorted
namespace Go.Proofs.YtjpdiahbnhemoaaGreat
open Go.RowKit Go.Sort Go.Shelf

/-- A letter and its text, as a binding's cells. -/
def enc2 (T : UInt8 → ByteArray) (c : UInt8) : List Value := [.string (Go.Proofs.YtjpdiahbnhemoaaGreat.strOf [c]), .string (T c)]
def pr2 (T : UInt8 → ByteArray) (c : UInt8) : ByteArray × ByteArray := (Go.Proofs.YtjpdiahbnhemoaaGreat.strOf [c], T c)
def cfL (c d : UInt8) : Int := Lib.compareBytes [c] [d]
def leL (c d : UInt8) : Bool := decide (c ≤ d)
theorem lt_cfL (c d : UInt8) : ltOf cfL c d = decide (c < d) := by
  unfold ltOf cfL Lib.compareBytes
  by_cases h : c < d
  · simp [h]
  · by_cases h' : d < c
    · simp [h, h']
    · simp [h, h', Lib.compareBytes]
theorem swoL : SWO (ltOf cfL) where
  irrefl x := by rw [lt_cfL]; simp
  trans x y z h1 h2 := by rw [lt_cfL] at *; simp only [decide_eq_true_eq] at *; exact UInt8.lt_trans h1 h2
  ntrans x y z h1 h2 := by
    rw [lt_cfL] at *
    simp only [decide_eq_false_iff_not, UInt8.not_lt] at *
    exact UInt8.le_trans h2 h1
theorem totL (x y : UInt8) (h1 : ltOf cfL x y = false) (h2 : ltOf cfL y x = false) : x = y := by
  rw [lt_cfL] at *
  simp only [decide_eq_false_iff_not, UInt8.not_lt] at *
  exact UInt8.le_antisymm h2 h1
theorem leL_eq : (fun x y => !(ltOf cfL) y x) = leL := by
  funext x y
  rw [lt_cfL, leL]
  by_cases h : x ≤ y
  · simp [h, UInt8.not_lt.2 h]
  · simp [h, UInt8.not_le.1 h]

theorem cells2_pr (T : UInt8 → ByteArray) (ls : List UInt8) (t : Nat) (h : t < ls.length * 2) : (cells2 (ls.map (pr2 T)))[t]? = (enc2 T ls.toArray[t / 2]!)[t % 2]? := by
  have hj : t / 2 < ls.length := by omega
  obtain ⟨e1, e2⟩ := cells2_at (ls.map (pr2 T)) (t / 2) (pr2 T (ls[t / 2]'hj)) (by rw [List.getElem?_map, List.getElem?_eq_getElem hj]; rfl)
  have hx : ls.toArray[t / 2]! = ls[t / 2]'hj := by simp [hj]
  rw [hx]
  rcases Nat.mod_two_eq_zero_or_one t with h0 | h0
  · rw [h0]
    rw [show t / 2 * 2 = t by omega] at e1
    rw [e1]
    rfl
  · rw [h0]
    rw [show t / 2 * 2 + 1 = t by omega] at e2
    rw [e2]
    rfl
theorem flat_cells (T : UInt8 → ByteArray) (ls : List UInt8) : (flatK (enc2 T) 2 ls.toArray).toList = cells2 (ls.map (pr2 T)) := by
  refine List.ext_getElem? fun t => ?_
  by_cases h : t < ls.length * 2
  · rw [cells2_pr T ls t h, Array.getElem?_toList]
    have hs : t < (flatK (enc2 T) 2 ls.toArray).size := by rw [size_flatK]; simpa using h
    have hg := get_flatK (enc2 T) 2 ls.toArray t (by simpa using h)
    rw [getElem!_pos (flatK (enc2 T) 2 ls.toArray) t hs] at hg
    rw [Array.getElem?_eq_getElem hs, hg]
    have h2 : t % 2 < (enc2 T ls.toArray[t / 2]!).length := by show t % 2 < 2; omega
    rw [getElem!_pos (enc2 T ls.toArray[t / 2]!) (t % 2) h2, List.getElem?_eq_getElem h2]
  · rw [List.getElem?_eq_none (by rw [Array.length_toList, size_flatK]; simpa using h), List.getElem?_eq_none (by rw [cells2_len, List.length_map]; omega)]
theorem take_putId (cur F : Array Value) (h : F.size ≤ cur.size) : (putCells id 0 F cur).toList.take F.size = F.toList := by
  apply List.ext_getElem?
  intro j
  by_cases hj : j < F.size
  · rw [List.getElem?_take_of_lt hj, Array.getElem?_toList]
    simp [putCells, hj, show j < cur.size by omega]
  · rw [List.getElem?_take_eq_none (by omega), List.getElem?_eq_none (by simp; omega)]
theorem heap_sorted2 {α : Type} [Inhabited α] {w : World} {g n : Nat} {os : Array Obj} {cur : Array Value} {e : TypeId} {fr : Nat × Nat} (enc : α → List Value) (d : Array α) (hb : w.heap[g]? = some (.cells cur e fr)) :
    (sortWorldK enc 2 w g 0 n d os).heap[g]? = some (.cells (putCells id 0 (flatK enc 2 d) cur) e fr) := by
  have hg : g < w.heap.size := (Array.getElem?_eq_some_iff.1 hb).1
  unfold sortWorldK putRowK
  rw [heap_grow_old _ _ (by simpa using hg)]
  simp [putRow, mapBlock, Sort.ahead, Array.getElem?_modify, hb, onCells]
theorem grownBy_sorted2 {α : Type} [Inhabited α] {w : World} {g n : Nat} {os : Array Obj} (enc : α → List Value) (d : Array α) : w.grownBy (sortWorldK enc 2 w g 0 n d os) (some g) := by
  unfold sortWorldK putRowK
  refine ⟨rfl, rfl, rfl, by simp, fun k hk hne => ?_⟩
  rw [heap_grow_old _ _ (by simpa using hk)]
  have : g ≠ k := fun e => hne (by rw [e])
  simp [putRow, mapBlock, Sort.ahead, Array.getElem?_modify, this]

theorem cf_cmp (args : Array Value) (w : World) : (callFunc 40 args).run Tryz.prog w = .ok (.enter 40 args) w := by kernel_rfl
set_option maxHeartbeats 400000 in
set_option maxRecDepth 100000 in
theorem cmp_any (a b a' b' : ByteArray) (W : World) : Calls Tryz.prog 40 #[.agg #[.string a, .string b], .agg #[.string a', .string b']] W fun e w' => e = .returned (.int .i64 (Lib.compareBytes a.data.toList a'.data.toList)) ∧ ∃ os, w' = grow W os := by
  obtain ⟨r, hr⟩ : ∃ r, Lib.compareBytes a.data.toList a'.data.toList = r := ⟨_, rfl⟩
  have hc := fun w => Tryz.strings_Compare a a' w
  rw [hr]
  simp only [hr] at hc
  have HC := hid hc
  clear hr hc
  go_enter Tryz.func40, Tryz.ntmps40
  go_wp2_with (go_at_call 41; refine (HC.out _).mono ?_; rintro e w' ⟨rfl, rfl⟩)
  go_ret
  exact ⟨rfl, _, by rw [alloc_eq_grow, alloc_eq_grow, grow_grow]⟩

theorem sort_any (T : UInt8 → ByteArray) (ls : List UInt8) (base g cap : Nat) (cur : Array Value) (w : World) (hbase : base ≤ g) (hb : w.heap[g]? = some (.cells cur 42 (0, 0))) (h1 : ls.length ≤ cap) (h2 : cap ≤ maxLen) (h3 : cur.size = cap * 2) (h4 : cur.toList.take (ls.length * 2) = cells2 (ls.map (pr2 T))) (hl : ls.length ≤ 100) :
    Calls Tryz.prog 39 #[.slice (some ⟨g, 0, none⟩) ls.length cap, .func (.func 40) #[] #[]] w fun e w' =>
      e = .returned (.tuple #[]) ∧ w'.ownsRow base 42 2 (.slice (some ⟨g, 0, none⟩) ls.length cap) ls.length (cells2 ((ls.mergeSort leL).map (pr2 T))) ∧ w.grownBy w' (some g) := by
  have hF := flat_cells T ls
  have hz : (flatK (enc2 T) 2 ls.toArray).size = ls.length * 2 := by rw [size_flatK]; simp
  have hH : HoldsK (enc2 T) 2 w g 0 ls.toArray := by
    intro j hj
    refine ⟨?_, by simp [World.frozen?, hb]⟩
    have hj' : j < ls.length * 2 := by rw [← hz]; exact hj
    have e1 : (cur.toList.take (ls.length * 2))[j]? = (flatK (enc2 T) 2 ls.toArray).toList[j]? := by rw [h4, hF]
    rw [List.getElem?_take_of_lt hj', Array.getElem?_toList, Array.getElem?_toList, Array.getElem?_eq_getElem hj] at e1
    have := cell_blk hb (j := 0 + j) (v := (flatK (enc2 T) 2 ls.toArray)[j]) (by rw [Nat.zero_add]; exact e1)
    rw [this, getElem!_pos (flatK (enc2 T) 2 ls.toArray) j hj]
    rfl
  have hcmp : CmpLays Tryz.prog 40 #[] (enc2 T) 2 cfL g 0 ls.toArray.size w := fun m os dk _ x y => by
    refine (cmp_any _ _ _ _ _).mono ?_
    rintro e w' ⟨rfl, os', rfl⟩
    refine ⟨?_, 0, os', rfl⟩
    rw [strOf_list, strOf_list]
    rfl
  have hS := AnyQ.slices_SortFunc_total Tryz.sortL 2 Tryz.isAgg42 Tryz.sizeOf42 (enc2 T) (fun _ => rfl) (fun x v hv => by simp [enc2] at hv; rcases hv with rfl | rfl <;> rfl) cfL swoL 40 #[] g 0 cap ls.toArray w cf_cmp hcmp hH (Array.getElem?_eq_some_iff.1 hb).1 (by simp; omega) totL
  have hsz : ls.toArray.size = ls.length := by simp
  rw [hsz] at hS
  refine Calls.mono hS ?_
  rintro e w' ⟨rfl, n, os, rfl⟩
  rw [leL_eq]
  have hlm : (ls.mergeSort leL).length = ls.length := List.length_mergeSort ls
  refine ⟨rfl, ⟨by rw [cells2_len, List.length_map, hlm], .inr ⟨g, cap, _, rfl, hbase, heap_sorted2 (enc2 T) _ hb, h1, h2, by simp [putCells, h3], ?_⟩⟩, grownBy_sorted2 (enc2 T) _⟩
  have hF2 := flat_cells T (ls.mergeSort leL)
  have hz2 : (flatK (enc2 T) 2 (ls.mergeSort leL).toArray).size = ls.length * 2 := by rw [size_flatK]; simp
  rw [← hF2, ← hz2]
  exact take_putId _ _ (by rw [hz2, h3]; omega)

end Go.Proofs.YtjpdiahbnhemoaaGreat

namespace Go.Proofs.YtjpdiahbnhemoaaGreat
open Go.RowKit Go.Maps

/-- A map from letters to texts reads as g. -/
def Reads (D : DataW Unit) (g : UInt8 → Option (List UInt8)) : Prop :=
  IsMap D ∧ (∀ l : List UInt8, has D (.string l) = true → ∃ c b, l = [c] ∧ g c = some b) ∧ ∀ c b, g c = some b → has D (.string [c]) = true ∧ ∀ z, D.atKey (.string [c]) z = .lit (.string b)
theorem reads_start : Reads (.map []) (fun _ => none) :=
  ⟨isMap_empty, fun l h => by simp [has] at h, fun c b h => by cases h⟩
theorem keyLit (l : List UInt8) : WideAt.IsKeyLit (.string l) := trivial
theorem reads_put {D : DataW Unit} {g g' : UInt8 → Option (List UInt8)} (h : Reads D g) {c : UInt8} {b : List UInt8} (hc : g' c = some b) (hg : ∀ d, d ≠ c → g' d = g d) : Reads (D.put (.string [c]) (.lit (.string b))) g' := by
  obtain ⟨h1, h2, h3⟩ := h
  refine ⟨h1.put _ _, fun l hl => ?_, fun d b' hd => ?_⟩
  · by_cases e : l = [c]
    · exact ⟨c, b, e, hc⟩
    · rw [has_put_other (by simpa using e)] at hl
      obtain ⟨d, b', e1, e2⟩ := h2 l hl
      refine ⟨d, b', e1, ?_⟩
      rw [hg d (by rintro rfl; exact e e1)]
      exact e2
  · by_cases e : d = c
    · subst e
      rw [hc] at hd
      injection hd with hd
      subst hd
      exact ⟨has_put_same h1 (keyLit _) _, fun z => atKey_put_same h1 (keyLit _) _ z⟩
    · have hne : (Lit.string [d]) ≠ .string [c] := by simpa using e
      rw [hg d e] at hd
      obtain ⟨q1, q2⟩ := h3 d b' hd
      exact ⟨by rw [has_put_other hne]; exact q1, fun z => by rw [atKey_put_other hne]; exact q2 z⟩
theorem reads_skip {D : DataW Unit} {g g' : UInt8 → Option (List UInt8)} (h : Reads D g) (hg : ∀ d, g' d = g d) : Reads D g' := by
  have : g' = g := funext hg
  subst this
  exact h

/-- The letters gone through in the first k rounds. -/
def upto (h : UInt8 → Option Ty) (k : Nat) (c : UInt8) : Option (List UInt8) := if isVarX c = true ∧ idxX c < k then (h c).map Ty.text else none
theorem upto_zero (h : UInt8 → Option Ty) (c : UInt8) : upto h 0 c = none := by simp [upto]
theorem upto_step {h : UInt8 → Option Ty} {k : Nat} {c : UInt8} (hc : isVarX c = true) (hk : idxX c = k) : upto h (k + 1) c = (h c).map Ty.text ∧ ∀ d, d ≠ c → upto h (k + 1) d = upto h k d := by
  refine ⟨if_pos ⟨hc, by omega⟩, fun d hd => ?_⟩
  unfold upto
  by_cases hv : isVarX d = true
  · have hne : idxX d ≠ k := fun e => hd (idxX_inj hv hc (e.trans hk.symm))
    by_cases hlt : idxX d < k
    · rw [if_pos ⟨hv, by omega⟩, if_pos ⟨hv, hlt⟩]
    · rw [if_neg (by rintro ⟨_, h⟩; omega), if_neg (by rintro ⟨_, h⟩; omega)]
  · rw [if_neg (fun h => hv h.1), if_neg (fun h => hv h.1)]
theorem upto_all {h : UInt8 → Option Ty} (c : UInt8) : upto h 12 c = if isVarX c = true then (h c).map Ty.text else none := by
  unfold upto
  by_cases hv : isVarX c = true
  · rw [if_pos ⟨hv, (idxX_int c hv).2⟩, if_pos hv]
  · rw [if_neg (fun h => hv h.1), if_neg hv]
/-- The letter in place k. -/
def letX (k : Nat) : UInt8 := ([88, 89, 90, 120, 121, 122, 82, 83, 84, 114, 115, 116] : List UInt8).getD k 0
theorem letX_var : ∀ k, k < 12 → isVarX (letX k) = true ∧ idxX (letX k) = k ∧ (letX k).toNat < 128 := by decide +kernel

end Go.Proofs.YtjpdiahbnhemoaaGreat

namespace Go.Proofs.YtjpdiahbnhemoaaGreat
open Go.RowKit Go.Maps

theorem keyS : Keyed Tryz.prog 9 := string_keyed Tryz.underlying9

theorem index12 (x0 x1 x2 x3 x4 x5 x6 x7 x8 x9 x10 x11 : Value) : ∀ k : Nat, k < 12 → ∃ x, #[x0, x1, x2, x3, x4, x5, x6, x7, x8, x9, x10, x11][k]? = some x ∧
    ∀ W : World, (Instr.index 52 (.agg #[x0, x1, x2, x3, x4, x5, x6, x7, x8, x9, x10, x11]) (.int .i64 k)).run Tryz.prog W = .ok x W := by
  intro k hk
  match k, hk with
  | 0, _ => exact ⟨x0, rfl, fun W => by kernel_rfl⟩
  | 1, _ => exact ⟨x1, rfl, fun W => by kernel_rfl⟩
  | 2, _ => exact ⟨x2, rfl, fun W => by kernel_rfl⟩
  | 3, _ => exact ⟨x3, rfl, fun W => by kernel_rfl⟩
  | 4, _ => exact ⟨x4, rfl, fun W => by kernel_rfl⟩
  | 5, _ => exact ⟨x5, rfl, fun W => by kernel_rfl⟩
  | 6, _ => exact ⟨x6, rfl, fun W => by kernel_rfl⟩
  | 7, _ => exact ⟨x7, rfl, fun W => by kernel_rfl⟩
  | 8, _ => exact ⟨x8, rfl, fun W => by kernel_rfl⟩
  | 9, _ => exact ⟨x9, rfl, fun W => by kernel_rfl⟩
  | 10, _ => exact ⟨x10, rfl, fun W => by kernel_rfl⟩
  | 11, _ => exact ⟨x11, rfl, fun W => by kernel_rfl⟩
set_option maxRecDepth 100000 in
theorem indexS : ∀ k : Nat, k < 12 → ∀ W : World, (Instr.index 9 (.string ⟨#[88, 89, 90, 120, 121, 122, 82, 83, 84, 114, 115, 116]⟩) (.int .i64 k)).run Tryz.prog W = .ok (.int .u8 (letX k).toNat) W := by
  intro k hk
  match k, hk with
  | 0, _ => exact fun W => by kernel_rfl
  | 1, _ => exact fun W => by kernel_rfl
  | 2, _ => exact fun W => by kernel_rfl
  | 3, _ => exact fun W => by kernel_rfl
  | 4, _ => exact fun W => by kernel_rfl
  | 5, _ => exact fun W => by kernel_rfl
  | 6, _ => exact fun W => by kernel_rfl
  | 7, _ => exact fun W => by kernel_rfl
  | 8, _ => exact fun W => by kernel_rfl
  | 9, _ => exact fun W => by kernel_rfl
  | 10, _ => exact fun W => by kernel_rfl
  | 11, _ => exact fun W => by kernel_rfl

set_option maxHeartbeats 800000 in
set_option maxRecDepth 100000 in
theorem texts_same (sb : Nat) (w : World) (S : Nat → Prop) (f : UInt8 → Option Ty) (hst : Stnd w sb S f) (hSl : ∀ k, S k → k < w.heap.size) (hf : Fine f) :
    Calls Tryz.prog 21 #[.pointer (some ⟨sb, 0, none⟩), .func (.func 48) #[] #[]] w fun e w' => ∃ D, e = .returned (.map (some w.heap.size)) ∧ w'.ownsMap Tryz.prog 9 (plainElem Tryz.prog 9) w.heap.size 12 D ∧ Reads D (upto f 12) ∧ Below w.heap.size w w' := by
  have HST := hid hst
  have HSL := hid hSl
  have hs : sb < w.heap.size := by obtain ⟨cur, h1, _⟩ := hst; exact (Array.getElem?_eq_some_iff.1 h1).1
  obtain ⟨cur, g1, g2, g3⟩ := hst
  have hmm := @run_makeMap Tryz.prog
  obtain ⟨x0, x1, x2, x3, x4, x5, x6, x7, x8, x9, x10, x11, rfl⟩ : ∃ x0 x1 x2 x3 x4 x5 x6 x7 x8 x9 x10 x11, cur = #[x0, x1, x2, x3, x4, x5, x6, x7, x8, x9, x10, x11] := by
    obtain ⟨l⟩ := cur
    match l, g2 with
    | [x0, x1, x2, x3, x4, x5, x6, x7, x8, x9, x10, x11], _ => exact ⟨x0, x1, x2, x3, x4, x5, x6, x7, x8, x9, x10, x11, rfl⟩
  have q0 : w.cell? ⟨sb, 0, none⟩ = some x0 := cell_blk g1 rfl
  have q1 : w.cell? ⟨sb, 1, none⟩ = some x1 := cell_blk g1 rfl
  have q2 : w.cell? ⟨sb, 2, none⟩ = some x2 := cell_blk g1 rfl
  have q3 : w.cell? ⟨sb, 3, none⟩ = some x3 := cell_blk g1 rfl
  have q4 : w.cell? ⟨sb, 4, none⟩ = some x4 := cell_blk g1 rfl
  have q5 : w.cell? ⟨sb, 5, none⟩ = some x5 := cell_blk g1 rfl
  have q6 : w.cell? ⟨sb, 6, none⟩ = some x6 := cell_blk g1 rfl
  have q7 : w.cell? ⟨sb, 7, none⟩ = some x7 := cell_blk g1 rfl
  have q8 : w.cell? ⟨sb, 8, none⟩ = some x8 := cell_blk g1 rfl
  have q9 : w.cell? ⟨sb, 9, none⟩ = some x9 := cell_blk g1 rfl
  have q10 : w.cell? ⟨sb, 10, none⟩ = some x10 := cell_blk g1 rfl
  have q11 : w.cell? ⟨sb, 11, none⟩ = some x11 := cell_blk g1 rfl
  have G3 := hid g3
  clear hSl g3 g2 g1
  go_enter Tryz.func21, Tryz.ntmps21
  go_wp2_with fail
  clear q0 q1 q2 q3 q4 q5 q6 q7 q8 q9 q10 q11
  have HM0 := hid (World.ownsMap_made w Tryz.prog 9 (plainElem (H := Unit) Tryz.prog 9))
  go_loopw [13] (fun i wr => ∃ (k : Nat) (D : DataW Unit), k ≤ 12 ∧ i = .int .i64 k ∧ wr.ownsMap Tryz.prog 9 (plainElem Tryz.prog 9) w.heap.size k D ∧ Reads D (upto f k) ∧ Below w.heap.size w wr) (fun i _ => 12 - (intOf i).toNat)
  case atStart =>
    refine ⟨0, _, Nat.zero_le _, rfl, HM0.out, reads_skip reads_start (upto_zero f), (Below.refl _ _).alloc (Nat.le_refl _) _⟩
  case round =>
    obtain ⟨k, D, hk, rfl, hown, hrd, hbel⟩ := hrel
    have HRD := hid hrd
    clear hrd
    by_cases hlt : k < 12
    · have i1 : (0 : Int) ≤ (k : Int) := by omega
      have i2 : (k : Int) < 12 := by omega
      obtain ⟨x, hx, hix⟩ := index12 x0 x1 x2 x3 x4 x5 x6 x7 x8 x9 x10 x11 k hlt
      have his := indexS k hlt
      obtain ⟨hv, hi, ha⟩ := letX_var k hlt
      obtain ⟨c, hc⟩ : ∃ c, letX k = c := ⟨_, rfl⟩
      rw [hc] at hv hi ha his
      have g4 := G3.out c hv
      rw [hi, hx] at g4
      obtain ⟨hu1, hu2⟩ := upto_step (h := f) hv hi
      have HU1 := hid hu1
      have HU2 := hid hu2
      clear hx hc hu1 hu2 hi
      rcases hfc : f c with _ | t
      · rw [hfc] at g4
        obtain rfl : x = .nilIface := by injection g4
        have HFC := hid hfc
        clear g4 hfc his
        go_wp2_with fail
        go_roundw
        case rel =>
          refine ⟨k + 1, D, hlt, by go_num, hown.mono (by omega), reads_skip HRD.out fun d => ?_, hbel⟩
          by_cases e : d = c
          · subst e
            rw [HU1.out, HFC.out]
            unfold upto
            rw [HFC.out]
            split <;> rfl
          · exact HU2.out d e
        case measure => simp [intOf]; omega
      · rw [hfc] at g4
        obtain ⟨v, e4, g6⟩ := g4
        obtain rfl : x = v := by injection e4
        obtain ⟨T, b, rfl, _⟩ := g6.form
        obtain ⟨hok, hlen⟩ := hf c t hfc
        have HFC := hid hfc
        have HOK := hid hok
        have G6 := hid (g6.keep (S' := S) (w' := wr) fun j hj => ⟨hj, hbel.block j (HSL.out j hj)⟩)
        have zr := hbel.size
        clear e4 g6 hfc hok
        obtain ⟨fn, hm, hcf, hcall⟩ := textBy_any t 0 w.heap.size T b wr (G6.out.rep (fun j hj => ⟨Nat.zero_le _, HSL.out j hj⟩) HOK.out) zr HOK.out (by omega)
        obtain ⟨q, hq⟩ : ∃ q, strOf t.text = q := ⟨_, rfl⟩
        have hqs : q.size ≤ 60 := by rw [← hq, strOf_size]; exact hlen
        have hql : q.data.toList = t.text := by rw [← hq, strOf_list]
        rw [hq] at hcall
        have HCALL := hid hcall
        have HQL := hid hql
        have cs := cf_same
        have kc : keyOf Tryz.prog 9 (.string (strOf [c])) = some (.string [c]) := by
          rw [WideMaps.keyOf_string_mk Tryz.underlying9 (by rw [strOf_size]; unfold maxLen; simp), strOf_list]
        have pe : plainElem (H := Unit) Tryz.prog 9 (.string q) = some (.lit (.string q.data.toList), []) := plainElem_string Tryz.underlying9 (by unfold maxLen; omega)
        rw [hql] at pe
        obtain ⟨lc, hlc⟩ : ∃ lc, strOf [c] = lc := ⟨_, rfl⟩
        have HLC := hid (fun W => letterText_any c ha W)
        simp only [hlc] at HLC kc
        clear hcall hq hql hlc
        go_wp2_with fail
        refine (HLC.out _).mono ?_
        rintro e w1 ⟨rfl, rfl⟩
        go_wp2_with fail
        refine (sameNode_any _ _).mono ?_
        rintro e w1 ⟨rfl, hw1⟩
        obtain rfl := hw1.symm
        go_wp2_with fail
        refine HCALL.out.mono ?_
        rintro e w2 ⟨rfl, hb2⟩
        have hown2 := hown.kept (w' := w2) (row := none) ⟨hb2.os, hb2.tape, hb2.output, hb2.size, fun i hi _ => hb2.block i hi⟩ (by simp)
        clear hm hcf
        go_wp2_with (first
          | (at_mapUpdate; refine wpList_mapUpdate_own _ rfl _ _ _ 57 rfl 9 9 keyS Tryz.underlying57 _ w.heap.size k _ rfl hown2 (by unfold maxLen; omega) _ _ _ rfl rfl kc _ [] pe ?_; intro w3 hown3 hgrow3)
          | fail)
        go_roundw
        case rel =>
          refine ⟨k + 1, _, hlt, by go_num, hown3, reads_put HRD.out (by rw [HU1.out, HFC.out]; rfl) HU2.out, ?_⟩
          exact (hbel.trans (hb2.mono zr)).grown hgrow3 (by have := hb2.size; omega) (by intro j hj; simp at hj; omega)
        case measure => simp [intOf]; omega
    · obtain rfl : k = 12 := by omega
      go_wp2_with fail
      go_ret
      exact ⟨D, rfl, hown, HRD.out, hbel⟩

end Go.Proofs.YtjpdiahbnhemoaaGreat

namespace Go.Proofs.YtjpdiahbnhemoaaGreat
open Go.RowKit Go.Maps Go.Sort

/-- Bindings in the order of their letters. -/
def pairs (g : UInt8 → Option (List UInt8)) : List (ByteArray × ByteArray) :=
  ([88, 89, 90, 120, 121, 122] : List UInt8).filterMap fun c => (g c).map fun b => (Go.Proofs.YtjpdiahbnhemoaaGreat.strOf [c], Go.Proofs.YtjpdiahbnhemoaaGreat.strOf b)
def txt (g : UInt8 → Option (List UInt8)) (c : UInt8) : ByteArray := Go.Proofs.YtjpdiahbnhemoaaGreat.strOf ((g c).getD [])
theorem strOf_list' (x : ByteArray) : Go.Proofs.YtjpdiahbnhemoaaGreat.strOf x.data.toList = x := by cases x; rfl
/-- The letters met so far. -/
structure Coll (g : UInt8 → Option (List UInt8)) (left : Lit → Bool) (ls : List UInt8) : Prop where
  nodup : ls.Nodup
  mem : ∀ c ∈ ls, (g c).isSome = true ∧ left (.string [c]) = false
  all : ∀ c, (g c).isSome = true → left (.string [c]) = true ∨ c ∈ ls
theorem Coll.start {D : DataW Unit} {g : UInt8 → Option (List UInt8)} (h : Reads D g) : Coll g (has D) [] :=
  ⟨List.nodup_nil, (fun c hc => by cases hc), fun c hc =>
    let ⟨b, hb⟩ := Option.isSome_iff_exists.1 hc
    .inl (h.2.2 c b hb).1⟩
theorem Coll.step {g : UInt8 → Option (List UInt8)} {left : Lit → Bool} {ls : List UInt8} (h : Coll g left ls) {c : UInt8} (hc : (g c).isSome = true) (hl : left (.string [c]) = true) : Coll g (fun z => left z && !z.sameKey (.string [c])) (ls ++ [c]) := by
  refine ⟨?_, fun d hd => ?_, fun d hd => ?_⟩
  · rw [List.nodup_append]
    refine ⟨h.nodup, by simp, fun a ha b hb e => ?_⟩
    simp only [List.mem_singleton] at hb
    subst hb
    subst e
    have := (h.mem _ ha).2
    rw [hl] at this
    cases this
  · rcases List.mem_append.1 hd with hd | hd
    · exact ⟨(h.mem d hd).1, by simp [(h.mem d hd).2]⟩
    · simp only [List.mem_singleton] at hd
      subst hd
      exact ⟨hc, by simp [WideAt.sameKey_self (keyLit [d])]⟩
  · by_cases e : d = c
    · exact .inr (by simp [e])
    · rcases h.all d hd with h1 | h1
      · refine .inl ?_
        have hne : (Lit.string [d]) ≠ .string [c] := by simpa using e
        simp [h1, sameKey_ne hne]
      · exact .inr (List.mem_append_left _ h1)
theorem Coll.sorted {g : UInt8 → Option (List UInt8)} {left : Lit → Bool} {ls : List UInt8} (h : Coll g left ls) (hl : ∀ kl, left kl = false) (hg : ∀ c, (g c).isSome = true → isVarB c = true) : (ls.mergeSort leL).map (pr2 (txt g)) = pairs g := by
  have hv : ∀ c, isVarB c = true → c ∈ ([88, 89, 90, 120, 121, 122] : List UInt8) := fun c => by
    refine u8_all (p := fun c => isVarB c = true → c ∈ ([88, 89, 90, 120, 121, 122] : List UInt8)) ?_ c
    decide +kernel
  have tr : ∀ a b c : UInt8, leL a b = true → leL b c = true → leL a c = true := fun a b c h1 h2 => by simp only [leL, decide_eq_true_eq] at *; exact UInt8.le_trans h1 h2
  have to : ∀ a b : UInt8, (leL a b || leL b a) = true := fun a b => by simp only [leL, Bool.or_eq_true, decide_eq_true_eq]; exact UInt8.le_total a b
  have hs : ls.mergeSort leL = ([88, 89, 90, 120, 121, 122] : List UInt8).filter fun c => (g c).isSome := by
    have hp : (ls.mergeSort leL).Perm (([88, 89, 90, 120, 121, 122] : List UInt8).filter fun c => (g c).isSome) := by
      refine (List.mergeSort_perm ls leL).trans ((List.perm_ext_iff_of_nodup h.nodup ((by decide : ([88, 89, 90, 120, 121, 122] : List UInt8).Nodup).filter _)).2 fun c => ?_)
      constructor
      · intro hc
        exact List.mem_filter.2 ⟨hv c (hg c (h.mem c hc).1), (h.mem c hc).1⟩
      · intro hc
        rcases h.all c (List.mem_filter.1 hc).2 with h1 | h1
        · rw [hl] at h1
          cases h1
        · exact h1
    refine List.Perm.eq_of_pairwise (le := fun a b => leL a b = true) (fun a b _ _ h1 h2 => ?_) (List.pairwise_mergeSort tr to ls) (List.Pairwise.filter _ (by decide)) hp
    simp only [leL, decide_eq_true_eq] at h1 h2
    exact UInt8.le_antisymm h1 h2
  rw [hs]
  unfold pairs
  generalize ([88, 89, 90, 120, 121, 122] : List UInt8) = L
  induction L with
  | nil => rfl
  | cons c L ih =>
    rcases hc : g c with _ | b
    · rw [List.filter_cons_of_neg (by simp [hc]), List.filterMap_cons_none (by simp [hc])]
      exact ih
    · rw [List.filter_cons_of_pos (by simp [hc]), List.filterMap_cons_some (b := (Go.Proofs.YtjpdiahbnhemoaaGreat.strOf [c], Go.Proofs.YtjpdiahbnhemoaaGreat.strOf b)) (by simp [hc]), List.map_cons, ih]
      congr 1
      simp [pr2, txt, hc]

/-- How bindingsFrom ends. -/
def FromEnd (g : UInt8 → Option (List UInt8)) (w : World) (e : Ending) (w' : World) : Prop :=
  Below w.heap.size w w' ∧ (((∃ c b, g c = some b ∧ 60 < b.length) ∧ e = .returned (.tuple #[.slice none 0 0, .bool false])) ∨
    ((∀ c b, g c = some b → b.length ≤ 60) ∧ ∃ v, e = .returned (.tuple #[v, .bool true]) ∧ w'.ownsRow w.heap.size 42 2 v (pairs g).length (cells2 (pairs g))))

set_option maxHeartbeats 2000000 in
set_option maxRecDepth 100000 in
theorem bindingsFrom_any (mb : Nat) (D : DataW Unit) (g : UInt8 → Option (List UInt8)) (w : World) (hown : w.ownsMap Tryz.prog 9 (plainElem Tryz.prog 9) mb 12 D) (hrd : Reads D g) (hg : ∀ c, (g c).isSome = true → isVarB c = true) :
    Calls Tryz.prog 20 #[.map (some mb)] w (FromEnd g w) := by
  obtain ⟨i0, hi0, hz0, hz1, hz2⟩ := info_parts bindingInfo
  have hmb := hown.lt
  have hsz := hown.size_le
  have HRD := hid hrd
  have HG := hid hg
  have HC0 := hid (Coll.start hrd)
  clear hrd hg
  go_enter Tryz.func20, Tryz.ntmps20
  go_wp2_with (first
    | (at_range; refine wpList_range_own _ rfl _ 57 rfl 9 9 keyS Tryz.underlying57 _ mb 12 D rfl hown ?_; intro w0 hrg0 hg0 hs0)
    | fail)
  go_frame
  go_loopw [4] (fun v wr => ∃ (left : Lit → Bool) (cnt : Nat) (ls : List UInt8), wr.ranges Tryz.prog 9 (plainElem Tryz.prog 9) mb w.heap.size 12 D left cnt ∧ wr.ownsRow w.heap.size 42 2 v ls.length (cells2 (ls.map (pr2 (txt g)))) ∧
      Hid (Coll g left ls) ∧ ls.length + cnt ≤ 12 ∧ Below w.heap.size w wr ∧ Hid (∀ c ∈ ls, ∀ b, g c = some b → b.length ≤ 60)) (fun _ wr => wr.rangeLeft mb w.heap.size)
  case atStart =>
    exact ⟨_, _, [], hrg0, World.ownsRow_nil _ _ _ _, HC0, by simpa using hsz, ⟨hg0.os, hg0.tape, hg0.output, hg0.size, fun k hk => hg0.block k hk (by simp)⟩, fun c hc => by cases hc⟩
  case round =>
    obtain ⟨left, cnt, ls, hrg, hrow, HC, hlen, hbel, HL⟩ := hrel
    have zr := hbel.size
    go_wp2_with (first
      | (at_next; refine wpList_next_ranges _ rfl _ rfl 9 keyS (plainElem Tryz.prog 9) Value.string Value.string (fun key kl hk => by obtain ⟨s, rfl, _⟩ := WideMaps.string_of_keyOf Tryz.underlying9 hk; exact ⟨s, rfl⟩) (fun v y hv => by obtain ⟨c, rfl, _⟩ := plainElem_string_inv Tryz.underlying9 hv; exact ⟨c, rfl⟩) mb w.heap.size 12 _ _ _ rfl hrg ?_ ?_)
      | fail)
    · intro hc0 hl0
      have hperm := HC.out.sorted hl0 HG.out
      have hlp : (pairs g).length = ls.length := by rw [← hperm, List.length_map, List.length_mergeSort]
      have hall : ∀ c b, g c = some b → b.length ≤ 60 := fun c b hb => by
        rcases HC.out.all c (by rw [hb]; rfl) with h1 | h1
        · rw [hl0] at h1
          cases h1
        · exact HL.out c h1 b hb
      have HP := hid hperm
      have HLP := hid hlp
      have HA := hid hall
      clear hperm hlp hall HL HC hrg hc0 hl0
      rcases hrow.2 with ⟨hnil, hk0⟩ | ⟨g0, cap, cur, hv, hbase, hb, h1, h2, h3, h4⟩
      · subst hnil
        have HROW := hid hrow
        have HK0 := hid hk0
        have hS : ∀ W, Calls Tryz.prog 39 #[.slice none 0 0, .func (.func 40) #[] #[]] W fun e w' => e = .returned (.tuple #[]) ∧ w' = W := fun W => AnyF.slices_SortFunc_none Tryz.sortL none 0 _ W
        clear hrow hk0
        go_wp2_with fail
        refine (hS _).mono ?_
        rintro e w' ⟨rfl, rfl⟩
        go_wp2_with fail
        refine bodyPost_ret (v := .tuple #[.slice none 0 0, .bool true]) (by simp [results, Tryz.results20, go_sem]) rfl ⟨hbel, .inr ⟨HA.out, _, rfl, ?_⟩⟩
        have h0 : ls = [] := List.eq_nil_of_length_eq_zero HK0.out
        have h1 : pairs g = [] := List.eq_nil_of_length_eq_zero (by rw [HLP.out, HK0.out])
        rw [h1]
        exact World.ownsRow_nil _ _ _ _
      · subst hv
        have hS := sort_any (txt g) ls w.heap.size g0 cap cur wr hbase hb h1 h2 h3 h4 (by omega)
        rw [HP.out, ← HLP.out] at hS
        have hln : ls.length = (pairs g).length := HLP.out.symm
        rw [hln]
        have HS := hid hS
        clear hS hrow hb h4 hln
        go_wp2_with fail
        refine HS.out.mono ?_
        rintro e w' ⟨rfl, hown2, hgr2⟩
        have HO2 := hid hown2
        clear hown2
        go_wp2_with fail
        exact bodyPost_ret (v := .tuple #[.slice (some ⟨g0, 0, none⟩) (pairs g).length cap, .bool true]) (by simp [results, Tryz.results20, go_sem]) rfl ⟨hbel.grown hgr2 zr (fun k hk => by simp at hk; omega), .inr ⟨HA.out, _, rfl, HO2.out⟩⟩
    · intro x c kl yd yp w1 cnt1 hkey hlk hv hat hrg1 hlt1 hg1 hs1 hen
      obtain ⟨s, es, rfl, _⟩ := WideMaps.string_of_keyOf Tryz.underlying9 hkey
      obtain rfl : x = s := by injection es
      obtain ⟨c', ec, ey, hc60⟩ := plainElem_string_inv Tryz.underlying9 hv
      obtain rfl : yd = .lit (.string c'.data.toList) := congrArg Prod.fst ey
      obtain rfl : c = c' := by injection ec
      obtain ⟨d, b, hd, hb⟩ := HRD.out.2.1 _ (has_true_of_atKey hat)
      have hat2 := (HRD.out.2.2 d b hb).2 (.map [])
      rw [← hd, hat] at hat2
      have hcb : c.data.toList = b := by
        simp only [DataW.lit.injEq, Lit.string.injEq] at hat2
        exact hat2
      rw [hd] at hlk hrg1
      have hcs : c.size = b.length := by rw [← hcb]; simp
      have hxe : Go.Proofs.YtjpdiahbnhemoaaGreat.strOf [d] = x := by rw [← hd]; exact strOf_list' x
      have hce : txt g d = c := by unfold txt; rw [hb]; show Go.Proofs.YtjpdiahbnhemoaaGreat.strOf b = c; rw [← hcb]; exact strOf_list' c
      have hrow1 := hrow.kept hg1 (by
        cases hob : u4.ownBlock with
        | none => exact Or.inl rfl
        | some k => exact Or.inr (fun e => row_ne_iter hrow hrg (by rw [hob]; exact e.symm)))
      have hm0 : wr.rangeLeft mb w.heap.size = cnt := hrg.left_eq
      have HM0 := hid hm0
      have HB := hid hb
      have HXE := hid hxe
      have HCE := hid hce
      have hb1 : Below w.heap.size w w1 := hbel.grown hg1 zr (fun k hk => by simp at hk; omega)
      have HCS := hid (HC.out.step (c := d) (by rw [hb]; rfl) hlk)
      have z1 := hb1.size
      clear hm0 hb hxe hce hat hat2 hcb hkey hv hlk hrow hrg hs1 hg1 hd hc60 es ec ey
      by_cases hlong : (60 : Int) < c.size
      · go_wp2_with fail
        exact bodyPost_ret (v := .tuple #[.slice none 0 0, .bool false]) (by simp [results, Tryz.results20, go_sem]) rfl ⟨hb1, .inl ⟨⟨d, b, HB.out, by omega⟩, rfl⟩⟩
      · have HRG1 := hid hrg1
        have HRW1 := hid hrow1
        clear hrg1 hrow1
        go_wp2_with (first
          | (at_builtin; refine wpList_append_lies _ rfl _ _ 25 rfl w.heap.size 42 i0 _ 2 32 Tryz.underlying25 hi0 hz0 hz1 hz2 rfl (by decide) _ _ _ rfl (HRW1.out.alloc _) ⟨w1.heap.size, 0, none⟩ 1 1 [.string x, .string c] rfl rfl ?c1 ?c2 (by decide) ?c3 ?c4 ?c5 (w1.heap.size + 1) (World.size_alloc _ _) ?_)
          | fail)
        case c2 => exact ⟨rfl, rfl⟩
        case c3 => unfold maxLen; omega
        case c4 => omega
        case c5 => omega
        intro g3 cap3 w3 hown3 hg3 hat3 q3
        have HO3 := hid hown3
        clear hown3
        go_wp2_with fail
        go_roundw
        case rel =>
          refine ⟨_, cnt1, ls ++ [d], (HRG1.out.alloc _).kept hg3 (row_ne_low HRW1.out hmb) (row_ne_iter HRW1.out HRG1.out), ?_, HCS, by simp; omega, (hb1.alloc z1 _).grown hg3 (by simp only [World.size_alloc]; omega) (fun k hk => by have := HRW1.out.lt k hk; omega), fun a ha b' hb' => ?_⟩
          · have h := HO3.out
            rw [List.map_append, List.length_append]
            show w3.ownsRow _ _ _ _ (ls.length + 1) (cells2 (ls.map (pr2 (txt g)) ++ [(Go.Proofs.YtjpdiahbnhemoaaGreat.strOf [d], txt g d)]))
            rw [cells2_snoc, HXE.out, HCE.out]
            exact h
          · rcases List.mem_append.1 ha with ha | ha
            · exact HL.out a ha b' hb'
            · simp only [List.mem_singleton] at ha
              subst ha
              rw [HB.out] at hb'
              injection hb' with hb'
              subst hb'
              omega
        case measure =>
          rw [HM0.out, ((HRG1.out.alloc _).kept hg3 (row_ne_low HRW1.out hmb) (row_ne_iter HRW1.out HRG1.out)).left_eq]
          exact hlt1

end Go.Proofs.YtjpdiahbnhemoaaGreat

namespace Go.Proofs.YtjpdiahbnhemoaaGreat
open Go.RowKit

/-- How readTypes ends. -/
def TypesEnd (w : World) (l l' : List UInt8) (e : Ending) (w' : World) : Prop :=
  Below w.heap.size w w' ∧ (((tyOf l = none ∨ tyOf l' = none) ∧ ∃ v v', e = .returned (.tuple #[v, v', .bool false])) ∨
    ∃ P T T1 b1 T2 b2, tyOf l = some P ∧ tyOf l' = some T ∧ e = .returned (.tuple #[.iface T1 (.pointer (some ⟨b1, 0, none⟩)), .iface T2 (.pointer (some ⟨b2, 0, none⟩)), .bool true]) ∧
      RepP w' (fun k => w.heap.size ≤ k ∧ k < w'.heap.size) P (.iface T1 (.pointer (some ⟨b1, 0, none⟩))) ∧ RepP w' (fun k => w.heap.size ≤ k ∧ k < w'.heap.size) T (.iface T2 (.pointer (some ⟨b2, 0, none⟩))))

set_option maxHeartbeats 800000 in
set_option maxRecDepth 100000 in
theorem readTypes_any (a b : ByteArray) (w : World) (ha : a.size ≤ maxLen) (hb : b.size ≤ maxLen) : Calls Tryz.prog 18 #[.string a, .string b] w (TypesEnd w a.data.toList b.data.toList) := by
  go_enter Tryz.func18, Tryz.ntmps18
  go_wp2_with fail
  refine (readType_any a _ ha).mono ?_
  rintro e w1 ⟨hb1, ⟨hn1, rfl⟩ | ⟨P, T1, b1, hs1, rfl, hr1⟩⟩
  · have HN1 := hid hn1
    clear hn1
    go_wp2_with fail
    refine (readType_any b _ hb).mono ?_
    rintro e w2 ⟨hb2, ⟨hn2, rfl⟩ | ⟨T, T2, b2, hs2, rfl, hr2⟩⟩
    · clear hn2
      go_wp2_with fail
      exact bodyPost_ret (v := .tuple #[.nilIface, .nilIface, .bool false]) (by simp [results, Tryz.results18, go_sem]) rfl ⟨hb1.trans (hb2.mono hb1.size), .inl ⟨.inl HN1.out, _, _, rfl⟩⟩
    · clear hs2 hr2
      go_wp2_with fail
      exact bodyPost_ret (v := .tuple #[.nilIface, .iface T2 (.pointer (some ⟨b2, 0, none⟩)), .bool false]) (by simp [results, Tryz.results18, go_sem]) rfl ⟨hb1.trans (hb2.mono hb1.size), .inl ⟨.inl HN1.out, _, _, rfl⟩⟩
  · have HS1 := hid hs1
    have HR1 := hid hr1
    clear hs1 hr1
    go_wp2_with fail
    refine (readType_any b _ hb).mono ?_
    rintro e w2 ⟨hb2, ⟨hn2, rfl⟩ | ⟨T, T2, b2, hs2, rfl, hr2⟩⟩
    · have HN2 := hid hn2
      clear hn2
      go_wp2_with fail
      exact bodyPost_ret (v := .tuple #[.iface T1 (.pointer (some ⟨b1, 0, none⟩)), .nilIface, .bool false]) (by simp [results, Tryz.results18, go_sem]) rfl ⟨hb1.trans (hb2.mono hb1.size), .inl ⟨.inr HN2.out, _, _, rfl⟩⟩
    · have HS2 := hid hs2
      have HR2 := hid hr2
      clear hs2 hr2
      go_wp2_with fail
      refine bodyPost_ret (v := .tuple #[.iface T1 (.pointer (some ⟨b1, 0, none⟩)), .iface T2 (.pointer (some ⟨b2, 0, none⟩)), .bool true]) (by simp [results, Tryz.results18, go_sem]) rfl ⟨hb1.trans (hb2.mono hb1.size), .inr ⟨P, T, T1, b1, T2, b2, HS1.out, HS2.out, rfl, ?_, ?_⟩⟩
      · exact (HR1.out.repP (tyOf_text HS1.out).2.1).keep fun k hk => ⟨⟨hk.1, Nat.lt_of_lt_of_le hk.2 hb2.size⟩, hb2.block k hk.2⟩
      · exact (HR2.out.repP (tyOf_text HS2.out).2.1).keep fun k hk => ⟨⟨Nat.le_trans hb1.size hk.1, hk.2⟩, rfl⟩

theorem Stnd.none {w : World} {sb : Nat} {S S' : Nat → Prop} (h : Stnd w sb S (fun _ => none)) : Stnd w sb S' (fun _ => none) := h

theorem own_base {w : World} {base base' : Nat} {T : TypeId} {k n : Nat} {v : Value} {xs : List Value} (h : w.ownsRow base T k v n xs) (hb : base' ≤ base) : w.ownsRow base' T k v n xs := by
  refine ⟨h.1, ?_⟩
  rcases h.2 with h | ⟨g, cap, cur, e, h1, rest⟩
  · exact .inl h
  · exact .inr ⟨g, cap, cur, e, Nat.le_trans hb h1, rest⟩

/-- How MatchType ends. -/
def MatchEnd (w : World) (l l' : List UInt8) (e : Ending) (w' : World) : Prop :=
  Below w.heap.size w w' ∧ match mtOf l l' with
    | none => e = .returned (.tuple #[.slice none 0 0, .bool false])
    | some g => ∃ v, e = .returned (.tuple #[v, .bool true]) ∧ w'.ownsRow w.heap.size 42 2 v (told g).length (cells2 (told g))

theorem filterMap_eq {α β : Type} {p q : α → Option β} : ∀ L : List α, (∀ c ∈ L, p c = q c) → L.filterMap p = L.filterMap q := by
  intro L
  induction L with
  | nil => intro _; rfl
  | cons c L ih =>
    intro h
    rw [List.filterMap_cons, List.filterMap_cons, ih fun d hd => h d (List.mem_cons_of_mem _ hd), h c (List.mem_cons_self ..)]
theorem pairs_told {f : UInt8 → Option Ty} : pairs (upto f 12) = told f := by
  unfold pairs told
  refine filterMap_eq _ fun c hc => ?_
  have hv : isVarX c = true := by
    simp only [List.mem_cons, List.not_mem_nil, or_false] at hc
    rcases hc with rfl | rfl | rfl | rfl | rfl | rfl <;> decide
  rw [upto_all, if_pos hv, Option.map_map]
  rfl

end Go.Proofs.YtjpdiahbnhemoaaGreat
