/- Bindings sorted by their letters, in the program. -/
import Derived.Test.YtmpmalcjfckemaaGreatDoorSrt
import Derived.Test.YtmpmalcjfckemaaGreatDoorArgsB
namespace Go.Proofs.YtmpmalcjfckemaaGreatDoor
open Go.RowKit Go.Sort Go.Shelf

/-- A letter and its text, as a binding's cells. -/
def enc2 (T : UInt8 → ByteArray) (c : UInt8) : List Value := [.string (Go.Proofs.YtmpmalcjfckemaaGreatDoor.strOf [c]), .string (T c)]
def pr2 (T : UInt8 → ByteArray) (c : UInt8) : ByteArray × ByteArray := (Go.Proofs.YtmpmalcjfckemaaGreatDoor.strOf [c], T c)
def cfL (c d : UInt8) : Int := Lib.compareBytes [c] [d]
def leL (c d : UInt8) : Bool := decide (c ≤ d)
theorem lt_cfL (c d : UInt8) : ltOf cfL c d = decide (c < d) := by
  unfold ltOf cfL Lib.compareBytes
  by_cases h : c < d
  · simp [h]
  · by_cases h' : d < c
    · simp [h, h']
    · simp [h, h', Lib.compareBytes]
theorem swoL : SWO (ltOf cfL) where
  irrefl x := by rw [lt_cfL]; simp
  trans x y z h1 h2 := by rw [lt_cfL] at *; simp only [decide_eq_true_eq] at *; exact UInt8.lt_trans h1 h2
  ntrans x y z h1 h2 := by
    rw [lt_cfL] at *
    simp only [decide_eq_false_iff_not, UInt8.not_lt] at *
    exact UInt8.le_trans h2 h1
theorem totL (x y : UInt8) (h1 : ltOf cfL x y = false) (h2 : ltOf cfL y x = false) : x = y := by
  rw [lt_cfL] at *
  simp only [decide_eq_false_iff_not, UInt8.not_lt] at *
  exact UInt8.le_antisymm h2 h1
theorem leL_eq : (fun x y => !(ltOf cfL) y x) = leL := by
  funext x y
  rw [lt_cfL, leL]
  by_cases h : x ≤ y
  · simp [h, UInt8.not_lt.2 h]
  · simp [h, UInt8.not_le.1 h]

theorem cells2_pr (T : UInt8 → ByteArray) (ls : List UInt8) (t : Nat) (h : t < ls.length * 2) : (cells2 (ls.map (pr2 T)))[t]? = (enc2 T ls.toArray[t / 2]!)[t % 2]? := by
  have hj : t / 2 < ls.length := by omega
  obtain ⟨e1, e2⟩ := cells2_at (ls.map (pr2 T)) (t / 2) (pr2 T (ls[t / 2]'hj)) (by rw [List.getElem?_map, List.getElem?_eq_getElem hj]; rfl)
  have hx : ls.toArray[t / 2]! = ls[t / 2]'hj := by simp [hj]
  rw [hx]
  rcases Nat.mod_two_eq_zero_or_one t with h0 | h0
  · rw [h0]
    rw [show t / 2 * 2 = t by omega] at e1
    rw [e1]
    rfl
  · rw [h0]
    rw [show t / 2 * 2 + 1 = t by omega] at e2
    rw [e2]
    rfl
theorem flat_cells (T : UInt8 → ByteArray) (ls : List UInt8) : (flatK (enc2 T) 2 ls.toArray).toList = cells2 (ls.map (pr2 T)) := by
  refine List.ext_getElem? fun t => ?_
  by_cases h : t < ls.length * 2
  · rw [cells2_pr T ls t h, Array.getElem?_toList]
    have hs : t < (flatK (enc2 T) 2 ls.toArray).size := by rw [size_flatK]; simpa using h
    have hg := get_flatK (enc2 T) 2 ls.toArray t (by simpa using h)
    rw [getElem!_pos (flatK (enc2 T) 2 ls.toArray) t hs] at hg
    rw [Array.getElem?_eq_getElem hs, hg]
    have h2 : t % 2 < (enc2 T ls.toArray[t / 2]!).length := by show t % 2 < 2; omega
    rw [getElem!_pos (enc2 T ls.toArray[t / 2]!) (t % 2) h2, List.getElem?_eq_getElem h2]
  · rw [List.getElem?_eq_none (by rw [Array.length_toList, size_flatK]; simpa using h), List.getElem?_eq_none (by rw [cells2_len, List.length_map]; omega)]
theorem take_putId (cur F : Array Value) (h : F.size ≤ cur.size) : (putCells id 0 F cur).toList.take F.size = F.toList := by
  apply List.ext_getElem?
  intro j
  by_cases hj : j < F.size
  · rw [List.getElem?_take_of_lt hj, Array.getElem?_toList]
    simp [putCells, hj, show j < cur.size by omega]
  · rw [List.getElem?_take_eq_none (by omega), List.getElem?_eq_none (by simp; omega)]
theorem heap_sorted2 {α : Type} [Inhabited α] {w : World} {g n : Nat} {os : Array Obj} {cur : Array Value} {e : TypeId} {fr : Nat × Nat} (enc : α → List Value) (d : Array α) (hb : w.heap[g]? = some (.cells cur e fr)) :
    (sortWorldK enc 2 w g 0 n d os).heap[g]? = some (.cells (putCells id 0 (flatK enc 2 d) cur) e fr) := by
  have hg : g < w.heap.size := (Array.getElem?_eq_some_iff.1 hb).1
  unfold sortWorldK putRowK
  rw [heap_grow_old _ _ (by simpa using hg)]
  simp [putRow, mapBlock, Sort.ahead, Array.getElem?_modify, hb, onCells]
theorem grownBy_sorted2 {α : Type} [Inhabited α] {w : World} {g n : Nat} {os : Array Obj} (enc : α → List Value) (d : Array α) : w.grownBy (sortWorldK enc 2 w g 0 n d os) (some g) := by
  unfold sortWorldK putRowK
  refine ⟨rfl, rfl, rfl, by simp, fun k hk hne => ?_⟩
  rw [heap_grow_old _ _ (by simpa using hk)]
  have : g ≠ k := fun e => hne (by rw [e])
  simp [putRow, mapBlock, Sort.ahead, Array.getElem?_modify, this]

theorem cf_cmp (args : Array Value) (w : World) : (callFunc 178 args).run Tryz.prog w = .ok (.enter 178 args) w := by kernel_rfl
set_option maxHeartbeats 400000 in
set_option maxRecDepth 100000 in
theorem cmp_any (a b a' b' : ByteArray) (W : World) : Calls Tryz.prog 178 #[.agg #[.string a, .string b], .agg #[.string a', .string b']] W fun e w' => e = .returned (.int .i64 (Lib.compareBytes a.data.toList a'.data.toList)) ∧ ∃ os, w' = grow W os := by
  obtain ⟨r, hr⟩ : ∃ r, Lib.compareBytes a.data.toList a'.data.toList = r := ⟨_, rfl⟩
  have hc := fun w => Tryz.strings_Compare a a' w
  rw [hr]
  simp only [hr] at hc
  have HC := hid hc
  clear hr hc
  go_enter Tryz.func178, Tryz.ntmps178
  go_wp2_with (go_at_call 179; refine (HC.out _).mono ?_; rintro e w' ⟨rfl, rfl⟩)
  go_ret
  exact ⟨rfl, _, by rw [alloc_eq_grow, alloc_eq_grow, grow_grow]⟩

theorem sort_any (T : UInt8 → ByteArray) (ls : List UInt8) (base g cap : Nat) (cur : Array Value) (w : World) (hbase : base ≤ g) (hb : w.heap[g]? = some (.cells cur 176 (0, 0))) (h1 : ls.length ≤ cap) (h2 : cap ≤ maxLen) (h3 : cur.size = cap * 2) (h4 : cur.toList.take (ls.length * 2) = cells2 (ls.map (pr2 T))) (hl : ls.length ≤ 100) :
    Calls Tryz.prog 177 #[.slice (some ⟨g, 0, none⟩) ls.length cap, .func (.func 178) #[] #[]] w fun e w' =>
      e = .returned (.tuple #[]) ∧ w'.ownsRow base 176 2 (.slice (some ⟨g, 0, none⟩) ls.length cap) ls.length (cells2 ((ls.mergeSort leL).map (pr2 T))) ∧ w.grownBy w' (some g) := by
  have hF := flat_cells T ls
  have hz : (flatK (enc2 T) 2 ls.toArray).size = ls.length * 2 := by rw [size_flatK]; simp
  have hH : HoldsK (enc2 T) 2 w g 0 ls.toArray := by
    intro j hj
    refine ⟨?_, by simp [World.frozen?, hb]⟩
    have hj' : j < ls.length * 2 := by rw [← hz]; exact hj
    have e1 : (cur.toList.take (ls.length * 2))[j]? = (flatK (enc2 T) 2 ls.toArray).toList[j]? := by rw [h4, hF]
    rw [List.getElem?_take_of_lt hj', Array.getElem?_toList, Array.getElem?_toList, Array.getElem?_eq_getElem hj] at e1
    have := cell_blk hb (j := 0 + j) (v := (flatK (enc2 T) 2 ls.toArray)[j]) (by rw [Nat.zero_add]; exact e1)
    rw [this, getElem!_pos (flatK (enc2 T) 2 ls.toArray) j hj]
    rfl
  have hcmp : CmpLays Tryz.prog 178 #[] (enc2 T) 2 cfL g 0 ls.toArray.size w := fun m os dk _ x y => by
    refine (cmp_any _ _ _ _ _).mono ?_
    rintro e w' ⟨rfl, os', rfl⟩
    refine ⟨?_, 0, os', rfl⟩
    rw [strOf_list, strOf_list]
    rfl
  have hS := AnyQ.slices_SortFunc_total Tryz.sortL 2 Tryz.isAgg176 Tryz.sizeOf176 (enc2 T) (fun _ => rfl) (fun x v hv => by simp [enc2] at hv; rcases hv with rfl | rfl <;> rfl) cfL swoL 178 #[] g 0 cap ls.toArray w cf_cmp hcmp hH (Array.getElem?_eq_some_iff.1 hb).1 (by simp; omega) totL
  have hsz : ls.toArray.size = ls.length := by simp
  rw [hsz] at hS
  refine Calls.mono hS ?_
  rintro e w' ⟨rfl, n, os, rfl⟩
  rw [leL_eq]
  have hlm : (ls.mergeSort leL).length = ls.length := List.length_mergeSort ls
  refine ⟨rfl, ⟨by rw [cells2_len, List.length_map, hlm], .inr ⟨g, cap, _, rfl, hbase, heap_sorted2 (enc2 T) _ hb, h1, h2, by simp [putCells, h3], ?_⟩⟩, grownBy_sorted2 (enc2 T) _⟩
  have hF2 := flat_cells T (ls.mergeSort leL)
  have hz2 : (flatK (enc2 T) 2 (ls.mergeSort leL).toArray).size = ls.length * 2 := by rw [size_flatK]; simp
  rw [← hF2, ← hz2]
  exact take_putId _ _ (by rw [hz2, h3]; omega)

end Go.Proofs.YtmpmalcjfckemaaGreatDoor
