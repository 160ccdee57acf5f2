/- The instances of each class in a map: World.byClass, in the program. -/
import Derived.Test.YtcahcnhpaocdaaaGreatDoorKeep
import Derived.Test.YtcahcnhpaocdaaaGreatDoorInsA
import Derived.Test.YtcahcnhpaocdaaaGreatDoorArgsB
import Derived.Maps.OwnRows
import Derived.Maps.GroupsBeside
import Derived.Maps.Views
import Derived.Deep.RegionLaw
import Derived.Deep.AppendLies
import Derived.Maps.AppendAt
namespace Go.Proofs.YtcahcnhpaocdaaaGreatDoor
open Go.RowKit Go.Maps Go.WideMaps
open Go.ChangeShapes (lits)
set_option linter.unusedVariables false

theorem strLaw : Keyed Tryz.prog 9 := string_keyed Tryz.underlying9
theorem zeroInts (w : World) : (zeroValue 38).run Tryz.prog w = .ok (.slice none 0 0) w := by kernel_rfl
theorem infoInt : (Tryz.prog.info? 3).map (fun i => (i.zero, i.size, i.bytes)) = some (some (.int .i64 0), 1, 8) := by kernel_rfl

theorem groups_alloc {w : World} {base b n : Nat} {e : TypeId} {D : DataW Unit} (h : w.ownsGroups Tryz.prog 9 base e .i64 b n D) (o : Obj) : (w.alloc o).ownsGroups Tryz.prog 9 base e .i64 b n D :=
  World.ownsGroups.kept h (World.grownBy_alloc _ _ none) (by simp) fun _ _ _ x _ => by rcases x.val.ownBlock with _ | _ <;> simp
theorem keyLit_str (l : List UInt8) : WideAt.IsKeyLit (.string l) := by unfold WideAt.IsKeyLit; trivial
/-- What the map has for a class. -/
def gAt (l : List Nat) : DataW Unit := match l with
  | [] => .nil
  | _ => .slice (lits .i64 (zOf l)) []
def ByD (D : DataW Unit) (is : List Ins) : Prop := IsMap D ∧ ∀ s : ByteArray, D.atKey (.string s.data.toList) .nil = gAt (idxs (isC s) 0 is)
theorem lits_inj {xs ys : List Int} (h : lits (H := Unit) .i64 xs = lits .i64 ys) : xs = ys := by
  unfold lits at h
  exact (List.map_inj_right fun a b hab => by cases hab; rfl).1 h
/-- The numbers that a slice of the map owns. -/
theorem byD_zs {w : World} {base : Nat} {e : TypeId} {v : Value} {zs : List Int} {D : DataW Unit} {is : List Ins} {s : ByteArray} (h : ByD D is) (hoi : w.ownsInts base e .i64 v zs) (hat : D.atKey (.string s.data.toList) .nil = rowDatum .i64 v zs) : zs = zOf (idxs (isC s) 0 is) := by
  rw [h.2 s] at hat
  rcases hoi.datum (H := Unit) with ⟨h1, rfl⟩ | h1
  · rw [h1] at hat
    rcases hl : idxs (isC s) 0 is with _ | ⟨x, l⟩
    · rfl
    · rw [hl] at hat
      cases hat
  · rw [h1] at hat
    rcases hl : idxs (isC s) 0 is with _ | ⟨x, l⟩
    · rw [hl] at hat
      cases hat
    · rw [hl] at hat
      injection hat with hat _
      exact (lits_inj hat).symm
/-- One instance more. -/
theorem byD_step {D : DataW Unit} {is : List Ins} {k : Nat} {i : Ins} (h : ByD D (is.take k)) (hi : is[k]? = some i) {d : DataW Unit} (hd : d = .slice (lits .i64 (zOf (idxs (isC i.c) 0 (is.take k)) ++ [(k : Int)])) []) : ByD (D.put (.string i.c.data.toList) d) (is.take (k + 1)) := by
  refine ⟨h.1.put _ _, fun s => ?_⟩
  rw [idxs_snoc (isC s) hi]
  by_cases he : s.data.toList = i.c.data.toList
  · have hs : isC s i = true := by unfold isC; rw [ba_list, he]; simp
    have e : isC s = isC i.c := by funext x; unfold isC; rw [ba_list, ba_list, he]
    rw [he, atKey_put_same h.1 (by exact keyLit_str _), hd, hs, if_pos rfl, e]
    rcases hl : idxs (isC i.c) 0 (is.take k) with _ | ⟨x, l⟩
    · rfl
    · show _ = DataW.slice (lits .i64 (zOf (x :: l ++ [k]))) []
      rw [zOf_append]
      rfl
  · have hs : isC s i = false := by unfold isC; rw [ba_list]; exact Bool.eq_false_iff.2 fun h => he (eq_of_beq h).symm
    rw [atKey_put_other (by intro h'; injection h' with h'; exact he h'), h.2 s, hs, if_neg (by decide), List.append_nil]

theorem own_ne {w : World} {base : Nat} {v : Value} {zs : List Int} {g : Nat} {cs : Array Value} {T : TypeId} {fr : Nat × Nat} (h : w.ownsInts base 3 .i64 v zs) (hb : w.heap[g]? = some (.cells cs T fr)) (hT : T ≠ 3) : v.ownBlock ≠ some g := by
  intro e
  rcases h.1.2 with ⟨rfl, h0⟩ | ⟨g', cap, cur, rfl, _, hg, _⟩
  · cases e
  · have e' : g' = g := by simpa [Value.ownBlock] using e
    subst e'
    rw [hb] at hg
    injection hg with hg
    injection hg with _ h2 _
    exact hT h2
theorem ints_form {w : World} {base : Nat} {e : TypeId} {v : Value} {zs : List Int} (h : w.ownsInts base e .i64 v zs) : ∃ B c, v = .slice B zs.length c := by
  rcases h.1.2 with ⟨rfl, h0⟩ | ⟨g, cap, cur, rfl, _⟩
  · exact ⟨none, 0, by rw [h0]⟩
  · exact ⟨_, _, rfl⟩

/-- A round of the loop. -/
def ByR (w : World) (b : Nat) (is : List Ins) (m : Nat) (i : Value) (wr : World) : Prop :=
  ∃ (k : Nat) (D : DataW Unit), k ≤ m ∧ i = .int .i64 k ∧ wr.ownsGroups Tryz.prog 9 (b + 1) 3 .i64 b k D ∧ ByD D (is.take k) ∧ Below w.heap.size w wr ∧ b + 1 ≤ wr.heap.size

set_option maxHeartbeats 4000000 in
set_option maxRecDepth 100000 in
theorem byClass_any (A : Option Addr) (n cap : Nat) (B : Option Addr) (m cap' : Nat) (is : List Ins) (w : World) (hm : m ≤ 10) (hb : Inss w B m is) (hok : ∀ i ∈ is, InsOk i) :
    Calls Tryz.prog 49 #[.agg #[.slice A n cap, .slice B m cap']] w fun e w' => ∃ D, e = .returned (.map (some (w.heap.size + 1))) ∧ w'.ownsGroups Tryz.prog 9 (w.heap.size + 1 + 1) 3 .i64 (w.heap.size + 1) m D ∧ ByD D is ∧ Below w.heap.size w w' := by
  have hmm := @run_makeMap Tryz.prog
  obtain ⟨i0, hi0, hz0, hz1, hz2⟩ := info_parts infoInt
  have HB := hid hb
  have HOK := hid hok
  have HL := hid hb.1
  clear hb hok
  go_enter Tryz.func49, Tryz.ntmps49
  go_wp2_with fail
  go_loopw [10] (fun i wr => ByR w (w.heap.size + 1) is m i wr) (fun i _ => m - (intOf i).toNat)
  case atStart =>
    refine ⟨0, .map [], Nat.zero_le _, rfl, ?_, ⟨isMap_empty, fun s => rfl⟩, ((Below.refl _ _).alloc (Nat.le_refl _) _).alloc (by simp only [World.size_alloc]; omega) _, by simp only [World.size_alloc]; omega⟩
    have h := World.ownsGroups_made (H := Unit) (w.alloc (.cells #[.slice A n cap, .slice B m cap'] 31)) Tryz.prog 9 3 .i64
    simpa only [World.size_alloc] using h
  case round =>
    obtain ⟨k, D, hk, rfl, hown, hD, hbel, hws⟩ := hrel
    have HW := hid hown
    have HD := hid hD
    clear hown hD hmm
    by_cases hlt : k < m
    · obtain ⟨g, o, rfl, hg, hca⟩ := HB.out.2 (by omega)
      have hx : is[k]? = some (is[k]'(by have := HL.out; omega)) := List.getElem?_eq_getElem _
      obtain ⟨ca, cb, E, l, c, cc, _, _⟩ := hca k _ hx
      have hoi := HOK.out _ (List.mem_of_getElem? hx)
      obtain ⟨⟨x, y, ns⟩, ex⟩ : ∃ z, is[k]'(by have := HL.out; omega) = z := ⟨_, rfl⟩
      rw [ex] at ca cb hx hoi
      have HX := hid hx
      have ca' := cell_below ca hg hbel
      have cb' := cell_below cb hg hbel
      have cc' := cell_below cc hg hbel
      have hxl : x.size ≤ maxLen := hoi.1
      clear hca hx ex ca cb cc hoi
      have i1 : (0 : Int) ≤ (k : Int) := by omega
      have i2 : (k : Int) < (m : Int) := by omega
      obtain ⟨U, hU⟩ : ∃ U, wr.alloc (.cells #[.string x, .string y, .slice E l c] 72) = U := ⟨_, rfl⟩
      have HBU := hid (show Below w.heap.size w U by rw [← hU]; exact hbel.alloc hbel.size _)
      have HUW := hid (show U.ownsGroups Tryz.prog 9 (w.heap.size + 1 + 1) 3 .i64 (w.heap.size + 1) k D by
        rw [← hU]
        exact groups_alloc HW.out _)
      have z0 : wr.heap.size < U.heap.size := by rw [← hU]; simp only [World.size_alloc]; omega
      have hUc := heap_new1 wr (.cells #[.string x, .string y, .slice E l c] 72)
      rw [hU] at hUc
      have HUC := hid hUc
      have hkey : keyOf Tryz.prog 9 (.string x) = some (.string x.data.toList) := keyOf_string_mk Tryz.underlying9 hxl
      have hU1 : U.drew.ownsGroups Tryz.prog 9 (w.heap.size + 1 + 1) 3 .i64 (w.heap.size + 1) k D := HUW.out
      have hU2 : (U.alloc (.cells #[.int .i64 (k : Int)] 3)).drew.ownsGroups Tryz.prog 9 (w.heap.size + 1 + 1) 3 .i64 (w.heap.size + 1) k D := groups_alloc HUW.out _
      obtain ⟨v1, s1, hl1, ha1, ho1, hs1, hb1⟩ := hU1.at strLaw Tryz.underlying75 (zeroInts _) (by unfold maxLen; omega) hkey
      obtain ⟨v2, s2, hl2, ha2, ho2, hs2, hb2⟩ := hU2.at strLaw Tryz.underlying75 (zeroInts _) (by unfold maxLen; omega) hkey
      have e1 := byD_zs HD.out ho1 ha1
      have e2 := byD_zs HD.out ho2 ha2
      obtain ⟨L, hL⟩ : ∃ L, zOf (idxs (isC x) 0 (is.take k)) = L := ⟨_, rfl⟩
      rw [hL] at e1 e2
      obtain rfl : s1 = L := e1
      obtain rfl : s2 = s1 := e2
      have HL2 := hid hL
      obtain ⟨B1, c1, rfl⟩ := ints_form ho1
      obtain ⟨B2, c2, rfl⟩ := ints_form ho2
      have HO1 := hid ho1
      have HO2 := hid ho2
      have HB1 := hid hb1
      have HB2 := hid hb2
      have c0 := fun j v (hv : (#[Value.string x, .string y, .slice E l c] : Array Value)[j]? = some v) => cell_blk (w := U.drew) HUC.out hv
      have q0 : U.drew.cell? ⟨wr.heap.size, 0, none⟩ = some (.string x) := cell_blk HUC.out rfl
      have q1 : (U.alloc (.cells #[.int .i64 (k : Int)] 3)).drew.cell? ⟨wr.heap.size, 0, none⟩ = some (.string x) := cell_blk ((Below.heap_alloc _ _ _ (show wr.heap.size < U.drew.heap.size from z0)).trans HUC.out) rfl
      have HZ0 := hid z0
      have HZW := hid hws
      clear hL ha1 ha2 ho1 ho2 hb1 hb2 hU1 hU2 hkey hUc c0 z0
      go_wp2_with fail
      clear ca' cb' cc'
      go_region_law
        (first
          | (refine step_append_lies _ (by rfl) _ _ _ (by rfl) (w.heap.size + 1 + 1) 3 i0 _ 1 8 Tryz.underlying38 hi0 hz0 hz1 hz2 rfl (by omega) (.slice B1 s2.length c1) s2.length (s2.map (Value.int .i64)) (by rfl) (HO1.out.1.alloc _)
               ⟨U.heap.size, 0, none⟩ 1 1 [.int .i64 (k : Int)] (by rfl) (by rfl) (fun j u hu => cell_one_new U _ _ j u hu) (by simp [Value.oneCell'])
               (by omega) (by simp only [maxLen]; omega) (by omega) (by have := HZ0.out; have := HZW.out; simp; omega) (U.heap.size + 1) (by simp) ?_
             intro gg cap6 w6 hown6 hg6 hat6 hlt6
             obtain ⟨w7, hr7, hown7, hg7⟩ := HB1.out w6 (.slice (some ⟨gg, 0, none⟩) (s2.length + 1) cap6) (s2 ++ [(k : Int)]) ((World.grownBy_alloc U.drew _ _).trans hg6) (HO1.out.appended hown6 (WalkArith.wf_i64 (by omega))) (by simp; omega) (hat6.imp (fun h => by simp only [Value.ownBlock] at h ⊢; exact h.symm) fun h => ⟨gg, rfl, by simp at h ⊢; omega⟩)
             have HO7 := hid hown7
             have HG6 := hid hg6
             have HG7 := hid hg7
             have q2 := cell_blk (w := w6) ((hg6.block wr.heap.size (by have := HZ0.out; simp; omega) (fun e => own_ne HO1.out (show U.drew.heap[wr.heap.size]? = _ from HUC.out) (by decide) e.symm)).trans ((Below.heap_alloc _ _ _ HZ0.out).trans HUC.out)) (j := 0) rfl
             have BW := hid (((HBU.out.alloc HBU.out.size (.cells #[.int .i64 (k : Int)] 3)).drew.grown hg6 (by have := HBU.out.size; simp; omega) fun j hj => by have := (HO1.out.1.lt j hj).1; omega).grown hg7 (Nat.le_trans HBU.out.size (Nat.le_trans (by simp) hg6.size)) fun j hj => by injection hj with hj; omega)
             have Z7 := hid (show w.heap.size + 1 + 1 ≤ w7.heap.size from Nat.le_trans HZW.out (Nat.le_trans (Nat.le_of_lt HZ0.out) (Nat.le_trans (by simp) (Nat.le_trans hg6.size hg7.size))))
             clear hown6 hg6 hown7 hg7)
          | (refine step_append_lies _ (by rfl) _ _ _ (by rfl) (w.heap.size + 1 + 1) 3 i0 _ 1 8 Tryz.underlying38 hi0 hz0 hz1 hz2 rfl (by omega) (.slice B2 s2.length c2) s2.length (s2.map (Value.int .i64)) (by rfl) HO2.out.1
               ⟨U.heap.size, 0, none⟩ 1 1 [.int .i64 (k : Int)] (by rfl) (by rfl) (fun j u hu => cell_one_new U _ _ j u hu) (by simp [Value.oneCell'])
               (by omega) (by simp only [maxLen]; omega) (by omega) (by have := HZ0.out; have := HZW.out; simp; omega) (U.heap.size + 1) (by simp) ?_
             intro gg cap6 w6 hown6 hg6 hat6 hlt6
             obtain ⟨w7, hr7, hown7, hg7⟩ := HB2.out w6 (.slice (some ⟨gg, 0, none⟩) (s2.length + 1) cap6) (s2 ++ [(k : Int)]) hg6 (HO2.out.appended hown6 (WalkArith.wf_i64 (by omega))) (by simp; omega) (hat6.imp (fun h => by simp only [Value.ownBlock] at h ⊢; exact h.symm) fun h => ⟨gg, rfl, by simp at h ⊢; omega⟩)
             have HO7 := hid hown7
             have HG6 := hid hg6
             have HG7 := hid hg7
             have q2 := cell_blk (w := w6) ((hg6.block wr.heap.size (by have := HZ0.out; simp; omega) (fun e => own_ne HO2.out ((Below.heap_alloc _ _ _ (show wr.heap.size < U.drew.heap.size from HZ0.out)).trans HUC.out) (by decide) e.symm)).trans ((Below.heap_alloc _ _ _ HZ0.out).trans HUC.out)) (j := 0) rfl
             have BW := hid (((HBU.out.alloc HBU.out.size (.cells #[.int .i64 (k : Int)] 3)).drew.grown hg6 (by have := HBU.out.size; simp; omega) fun j hj => by have := (HO2.out.1.lt j hj).1; omega).grown hg7 (Nat.le_trans HBU.out.size (Nat.le_trans (by simp) hg6.size)) fun j hj => by injection hj with hj; omega)
             have Z7 := hid (show w.heap.size + 1 + 1 ≤ w7.heap.size from Nat.le_trans HZW.out (Nat.le_trans (Nat.le_of_lt HZ0.out) (Nat.le_trans (by simp) (Nat.le_trans hg6.size hg7.size))))
             clear hown6 hg6 hown7 hg7))
      all_goals
        go_wp2_with fail
        go_roundw
        case rel => exact ⟨k + 1, _, hlt, by go_num, HO7.out, byD_step HD.out HX.out (by rw [HL2.out]; rfl), BW.out, Z7.out⟩
        case measure => simp [intOf]; omega
    · have hkm : k = m := by omega
      subst hkm
      go_wp2_with fail
      go_ret
      have hD' := HD.out
      rw [List.take_of_length_le (by have := HL.out; omega)] at hD'
      exact ⟨D, rfl, HW.out, hD', hbel⟩

end Go.Proofs.YtcahcnhpaocdaaaGreatDoor
