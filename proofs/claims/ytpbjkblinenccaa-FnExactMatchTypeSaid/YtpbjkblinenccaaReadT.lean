/- The program's readType: it reads a type, or recovers from the reader's panic. -/
import Derived.Test.YtpbjkblinenccaaReadI
import Derived.Defers
import Derived.Recover
namespace Go.Proofs.Ytpbjkblinenccaa
open Go.RowKit

set_option maxRecDepth 100000 in
theorem catch_panicking (p q : Addr) (w : World) (x y : Value) (hc : w.cell? p = some x) (hz : w.frozen? p = false) (hc' : ∀ v, (w.setCell p v).cell? q = some y) (hz' : ∀ v, (w.setCell p v).frozen? q = false) :
    CallsD Try.prog 69 #[.pointer (some p), .pointer (some q)] (.panicking [{ v := .iface 141 (.agg #[]), recovered := false }]) w fun e u' w' =>
      e = .returned (.tuple #[]) ∧ u' = .panicking [{ v := .iface 141 (.agg #[]), recovered := true }] ∧ w' = (w.setCell p .nilIface).setCell q (.bool false) := by
  refine callsD_of_wpS Try.func69 rfl fun c₀ cs hu => ?_
  apply wpS_seq
  apply wpS_region
  simp [wpOpsS, go_sem, recoverD, hu, Try.ntmps69, Exit.thenS]
  refine wpS_cond (t := true) (by simp [Act.eval, Array.replicate]) ?_
  simp only [if_true]
  apply wpS_region
  simp [wpOpsS, go_sem, hc, hz, hc', hz', bodyPostS, results, Try.results69]

set_option maxRecDepth 100000 in
theorem catch_idle (p q : Addr) (w : World) :
    CallsD Try.prog 69 #[.pointer (some p), .pointer (some q)] .returning w fun e u' w' => e = .returned (.tuple #[]) ∧ u' = .returning ∧ w' = w := by
  refine callsD_of_wpS Try.func69 rfl fun c₀ cs hu => ?_
  apply wpS_seq
  apply wpS_region
  simp [wpOpsS, go_sem, recoverD, hu, Try.ntmps69, Exit.thenS]
  refine wpS_cond (t := false) (by simp [Act.eval, Array.replicate]) ?_
  simp only [Bool.false_eq_true, if_false]
  refine wpS_of_wp (wp_skip ?_)
  cases c₀
  simp_all [bodyPostS, results, Try.results69]

/-- What readType comes to. -/
def TypeEnd (w : World) (o : Option Ty) (e : Ending) (w' : World) : Prop :=
  Below w.heap.size w w' ∧ ((o = none ∧ e = .returned (.tuple #[.nilIface, .bool false])) ∨
    ∃ t T b, o = some t ∧ e = .returned (.tuple #[.iface T (.pointer (some ⟨b, 0, none⟩)), .bool true]) ∧ Rep w' w.heap.size w'.heap.size t (.iface T (.pointer (some ⟨b, 0, none⟩))))

theorem Rd_new (W : World) (s : ByteArray) (l : List UInt8) (n : Nat) (hn : n = W.heap.size) (hl : s.data.toList = l) (hs : s.size ≤ maxLen) : Rd (W.alloc (.cells #[.string s] 105)) n l := by
  subst hn
  exact ⟨s, heap_new1 _ _, hl, hs⟩

theorem cell_of1 {w : World} {b : Nat} {v : Value} {T : TypeId} (h : w.heap[b]? = some (.cells #[v] T (0, 0))) : w.cell? ⟨b, 0, none⟩ = some v := by
  unfold World.cell?
  rw [show w.heap[(⟨b, 0, none⟩ : Addr).block]? = _ from h]
  rfl
theorem free_of1 {w : World} {b o : Nat} {v : Value} {T : TypeId} (h : w.heap[b]? = some (.cells #[v] T (0, 0))) : w.frozen? ⟨b, o, none⟩ = false := by
  unfold World.frozen?
  rw [show w.heap[(⟨b, o, none⟩ : Addr).block]? = _ from h]
  simp

set_option maxHeartbeats 400000 in
set_option maxRecDepth 100000 in
theorem readType_long (s : ByteArray) (w : World) (hs : s.size ≤ maxLen) (hl : 60 < s.size) :
    Calls Try.prog 35 #[.string s] w (TypeEnd w (tyOf s.data.toList)) := by
  unfold maxLen at hs
  have hmf : ∀ (fn : Fn) (first cap : Array Value) (w : World), (Instr.makeFunc fn first cap).run Try.prog w = .ok (.func fn first cap) w := fun _ _ _ _ => rfl
  go_enter_defers Try.func35, Try.ntmps35
  go_wp2
  have hn : tyOf s.data.toList = none := by
    unfold tyOf
    rw [if_neg]
    have e : s.size = s.data.toList.length := by simp
    omega
  simp only [bodyPostD, Leaves]
  refine ⟨.tuple #[.nilIface, .bool false], by simp [results, Try.results35, go_sem], ?_, .inl ⟨hn, rfl⟩⟩
  exact (((Below.refl _ _).alloc (Nat.le_refl _) _).alloc (by simp only [World.size_alloc]; omega) _)

set_option maxHeartbeats 400000 in
set_option maxRecDepth 100000 in
theorem readType_short (s : ByteArray) (w : World) (hs : s.size ≤ maxLen) (hl : s.size ≤ 60) :
    Calls Try.prog 35 #[.string s] w (TypeEnd w (tyOf s.data.toList)) := by
  unfold maxLen at hs
  have hmf : ∀ (fn : Fn) (first cap : Array Value) (w : World), (Instr.makeFunc fn first cap).run Try.prog w = .ok (.func fn first cap) w := fun _ _ _ _ => rfl
  go_enter_defers Try.func35, Try.ntmps35
  go_wp2_with fail
  have e1 : s.size = s.data.toList.length := by simp
  have e2 : s.data.toList.length ≤ 60 := by omega
  refine (readI_any s.data.toList.length _ s.data.toList _ (by omega) (Rd_new _ s _ _ (by simp only [World.size_alloc]) rfl (by unfold maxLen; omega))).mono ?_
  clear e1
  rintro e w1 ⟨hb1, hend⟩
  have y1 : w1.heap[w.heap.size]? = some (.cells #[.nilIface] 52 (0, 0)) := by
    rw [hb1.block _ (by simp only [World.size_alloc]; omega) (by omega), Below.heap_alloc _ _ _ (by simp only [World.size_alloc]; omega), Below.heap_alloc _ _ _ (by simp only [World.size_alloc]; omega)]
    exact heap_new1 _ _
  have y2 : w1.heap[w.heap.size + 1]? = some (.cells #[.bool false] 4 (0, 0)) := by
    rw [hb1.block _ (by simp only [World.size_alloc]; omega) (by omega), Below.heap_alloc _ _ _ (by simp only [World.size_alloc]; omega)]
    have := heap_new1 (w.alloc (.cells #[.nilIface] 52)) (.cells #[.bool false] 4)
    rwa [World.size_alloc] at this
  have c1 := cell_of1 y1
  have f1 : w1.frozen? ⟨w.heap.size, 0, none⟩ = false := free_of1 y1
  have c2 := cell_of1 y2
  have f2 : w1.frozen? ⟨w.heap.size + 1, 0, none⟩ = false := free_of1 y2
  have z1 := hb1.size
  simp only [World.size_alloc] at z1
  have hbel : Below w.heap.size w w1 := ((((Below.refl _ _).alloc (Nat.le_refl _) _).alloc (by simp only [World.size_alloc]; omega) _).alloc (by simp only [World.size_alloc]; omega) _).trans
    (hb1.below' (by simp only [World.size_alloc]; omega) (by omega))
  have HY1 := hid y1
  have HY2 := hid y2
  clear y1 y2
  rcases hend with ⟨hn1, rfl⟩ | ⟨t, r, T, b, hs1, rfl, hrep, hr1⟩
  · go_wp2_with fail
    refine leaves_cons (f := 69) (args := #[.pointer (some ⟨w.heap.size, 0, none⟩), .pointer (some ⟨w.heap.size + 1, 0, none⟩)]) (by simp) (by simp [go_sem]) ?_
    refine (catch_panicking ⟨w.heap.size, 0, none⟩ ⟨w.heap.size + 1, 0, none⟩ w1 .nilIface (.bool false) c1 f1 (fun v => ?_) (fun v => ?_)).mono ?_
    · simp [go_sem, c2]
    · simp [go_sem, f2]
    rintro e u' w'' ⟨rfl, rfl, rfl⟩
    simp only [settle]
    refine ⟨.tuple #[.nilIface, .bool false], by simp [results, Try.results35, go_sem, c1, c2], (hbel.setCell (Nat.le_refl _) _).setCell (Nat.le_succ _) _, .inl ⟨?_, rfl⟩⟩
    unfold tyOf
    rw [if_pos e2, hn1]
  · obtain ⟨s', hr2, hr3, hr4⟩ := hr1
    have c3 := cell_of1 hr2
    have HR2 := hid hr2
    clear hr2
    cases r with
    | nil =>
      have hem : s'.toList.isEmpty = true := by rw [ByteArray.toList_eq, hr3]; rfl
      clear hr3
      go_wp2_with fail
      refine leaves_cons (f := 69) (args := #[.pointer (some ⟨w.heap.size, 0, none⟩), .pointer (some ⟨w.heap.size + 1, 0, none⟩)]) (by simp) (by simp [go_sem]) ?_
      refine (catch_idle _ _ _).mono ?_
      rintro e u' w'' ⟨rfl, rfl, rfl⟩
      simp only
      refine ⟨.tuple #[.iface T (.pointer (some ⟨b, 0, none⟩)), .bool true], by simp [results, Try.results35, go_sem, c1, c2], ((hbel.setCell (Nat.le_refl _) _).setCell (Nat.le_refl _) _).setCell (Nat.le_succ _) _, .inr ⟨t, T, b, ?_, rfl, ?_⟩⟩
      · unfold tyOf
        rw [if_pos e2, hs1]
      · refine hrep.keep (by simp only [World.size_alloc]; omega) (by simp [World.setCell]) fun k h1 h2 => ?_
        simp only [World.size_alloc] at h1
        rw [Below.heap_setCell _ _ _ _ (by show k ≠ w.heap.size + 1; omega), Below.heap_setCell _ _ _ _ (by show k ≠ w.heap.size; omega), Below.heap_setCell _ _ _ _ (by show k ≠ w.heap.size; omega)]
    | cons x r =>
      have hem : s'.toList.isEmpty = false := by rw [ByteArray.toList_eq, hr3]; rfl
      clear hr3
      go_wp2_with fail
      refine leaves_cons (f := 69) (args := #[.pointer (some ⟨w.heap.size, 0, none⟩), .pointer (some ⟨w.heap.size + 1, 0, none⟩)]) (by simp) (by simp [go_sem]) ?_
      refine (catch_idle _ _ _).mono ?_
      rintro e u' w'' ⟨rfl, rfl, rfl⟩
      simp only
      refine ⟨.tuple #[.nilIface, .bool false], by simp [results, Try.results35, go_sem, c1, c2], ((hbel.setCell (Nat.le_refl _) _).setCell (Nat.le_refl _) _).setCell (Nat.le_succ _) _, .inl ⟨?_, rfl⟩⟩
      unfold tyOf
      rw [if_pos e2, hs1]

theorem readType_any (s : ByteArray) (w : World) (hs : s.size ≤ maxLen) : Calls Try.prog 35 #[.string s] w (TypeEnd w (tyOf s.data.toList)) := by
  by_cases h : s.size ≤ 60
  · exact readType_short s w hs h
  · exact readType_long s w hs (by omega)

set_option maxHeartbeats 400000 in
theorem typeValidI_any (s : ByteArray) (w : World) (hs : s.size ≤ maxLen) :
    Calls Try.prog 19 #[.string s] w fun e w' => e = .returned (.bool (tyOf s.data.toList).isSome) ∧ Below w.heap.size w w' := by
  go_enter Try.func19, Try.ntmps19
  go_wp2_with fail
  refine (readType_any s _ hs).mono ?_
  rintro e w1 ⟨hb, ⟨hn, rfl⟩ | ⟨t, T, b, hs1, rfl, hrep⟩⟩
  · go_wp2_with fail
    go_ret
    exact ⟨ret_bool (by rw [hn]; rfl), hb⟩
  · go_wp2_with fail
    go_ret
    exact ⟨ret_bool (by rw [hs1]; rfl), hb⟩

end Go.Proofs.Ytpbjkblinenccaa
