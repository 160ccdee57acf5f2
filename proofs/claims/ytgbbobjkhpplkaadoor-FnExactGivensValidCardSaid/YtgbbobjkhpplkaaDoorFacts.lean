/- Closed facts of this seat's program, shared by its laws: the head of the dump, word by word, and what hangs on it. -/
import Derived.Test.YtgbbobjkhpplkaaDoorRows
import Derived.JoinedOf
namespace Go.Proofs.YtgbbobjkhpplkaaDoor.Facts

/-- Words with blanks between them. -/
def joinW : List (List Char) → List Char
  | [] => []
  | [w] => w
  | w :: v :: r => w ++ Char.ofNat 32 :: joinW (v :: r)
theorem signs_word (w : List Char) (h : w.all (fun c => decide (c ≠ Char.ofNat 32)) = true) : wordsSigns w = [w] := by
  induction w with
  | nil => rfl
  | cons c w ih =>
    simp only [List.all_cons, Bool.and_eq_true, decide_eq_true_eq] at h
    rw [wordsSigns.eq_3 _ _ (fun e => h.1 e), ih h.2]
theorem signs_step (w r : List Char) (h : w.all (fun c => decide (c ≠ Char.ofNat 32)) = true) : wordsSigns (w ++ Char.ofNat 32 :: r) = w :: wordsSigns r := by
  induction w with
  | nil => exact wordsSigns.eq_2 r
  | cons c w ih =>
    simp only [List.all_cons, Bool.and_eq_true, decide_eq_true_eq] at h
    rw [List.cons_append, wordsSigns.eq_3 _ _ (fun e => h.1 e), ih h.2]
theorem signs_join (ws : List (List Char)) (h0 : ws ≠ []) (h : ws.all (fun w => w.all (fun c => decide (c ≠ Char.ofNat 32))) = true) : wordsSigns (joinW ws) = ws := by
  induction ws with
  | nil => exact absurd rfl h0
  | cons w r ih =>
    simp only [List.all_cons, Bool.and_eq_true] at h
    cases r with
    | nil => exact signs_word w h.1
    | cons v r =>
      show wordsSigns (w ++ Char.ofNat 32 :: joinW (v :: r)) = _
      rw [signs_step w _ h.1, ih (by simp) (by simpa using h.2)]

def words : List (List Char) := [[104, 97, 114, 110, 101, 115, 115].map Char.ofNat, [55, 100, 54, 99, 100, 54, 97, 102, 54, 57, 49, 57, 50, 100, 100, 55, 102, 49, 50, 53, 57, 49, 99, 48, 50, 49, 55, 51, 56, 49, 52, 57, 48, 48, 100, 99, 98, 50, 51, 99, 100, 52, 55, 48, 101, 98, 55, 56, 102, 51, 99, 53, 52, 48, 57, 97, 99, 54, 50, 50, 100, 99, 54, 56].map Char.ofNat, [99, 117, 116].map Char.ofNat, [97, 116].map Char.ofNat, [108, 111, 111, 112, 46, 101, 120, 97, 109, 112, 108, 101, 47, 105, 110, 115, 116, 97, 110, 99, 101, 115, 101, 97, 114, 99, 104, 47, 108, 97, 119, 115, 46, 70, 110, 69, 120, 97, 99, 116, 71, 105, 118, 101, 110, 115, 86, 97, 108, 105, 100].map Char.ofNat]
set_option maxRecDepth 100000 in
theorem signs : Tryd.prog.initOrder.toList = joinW words :=
  (congrArg String.toList (show Tryd.prog.initOrder = String.ofList (joinW words) by kernel_rfl)).trans String.toList_ofList
theorem head : wordsSigns Tryd.prog.initOrder.toList = words := by
  rw [signs]
  exact signs_join words (by unfold words; simp) (by kernel_rfl)
def cutW : List Char := [99, 117, 116].map Char.ofNat
def roots : List (List Char) := [[97, 116].map Char.ofNat, [108, 111, 111, 112, 46, 101, 120, 97, 109, 112, 108, 101, 47, 105, 110, 115, 116, 97, 110, 99, 101, 115, 101, 97, 114, 99, 104, 47, 108, 97, 119, 115, 46, 70, 110, 69, 120, 97, 99, 116, 71, 105, 118, 101, 110, 115, 86, 97, 108, 105, 100].map Char.ofNat]
theorem main_ : behindMainWord words = cutW :: roots := by kernel_rfl
theorem strip : stripLifts liftWords (cutW :: roots) = ([], cutW :: roots) := by kernel_rfl
theorem lays : Tryd.prog.laysLater = false := by kernel_rfl
theorem bears : Tryd.prog.bearsReflect = false := by kernel_rfl
theorem fits : Tryd.prog.doorFits [] = true := by kernel_rfl
theorem may_of {P : Program} {c : List Char} {rest : List (List Char)} (h : behindMainWord (wordsSigns P.initOrder.toList) = c :: rest) (hs : stripLifts liftWords (c :: rest) = ([], c :: rest))
    (hc : ((c :: rest).head? == some "cut".toList) = true) (hl : P.laysLater = false) (hb : P.bearsReflect = false) (hf : P.doorFits [] = true) : P.mayEnter = true := by
  unfold Program.mayEnter
  rw [h]
  simp only [hs, hc, hl, hb, hf, List.contains_nil, Bool.not_false, Bool.or_true, Bool.and_true]
theorem make_of {P : Program} {c : List Char} {rest : List (List Char)} (h : behindMainWord (wordsSigns P.initOrder.toList) = c :: rest) (h1 : (c == "gc".toList || c == "spec".toList) = false) (h2 : (c == "cut".toList) = true) : P.make = some .cut := by
  unfold Program.make
  rw [h]
  simp only [h1, h2, Bool.true_or, if_true, if_false, Bool.false_eq_true]
theorem lifts_of {P : Program} {c : List Char} {rest : List (List Char)} (h : behindMainWord (wordsSigns P.initOrder.toList) = c :: rest) (hs : stripLifts liftWords (c :: rest) = ([], c :: rest))
    (h1 : ((c :: rest).head? == some "carried".toList) = false) (hc : ((c :: rest).head? == some "cut".toList) = true) : P.liftsFinal = false := by
  unfold Program.liftsFinal Program.headLifts
  simp only [h, hs, h1, hc, if_true, List.contains_nil, Bool.false_and, Bool.or_false]
theorem front : behindMainWord (wordsSigns Tryd.prog.initOrder.toList) = cutW :: roots := (congrArg behindMainWord head).trans main_
theorem iscut : ((cutW :: roots).head? == some "cut".toList) = true := by kernel_rfl
theorem may : Tryd.prog.mayEnter = true := may_of front strip iscut lays bears fits
theorem lifts : Tryd.prog.liftsFinal = false := lifts_of front strip (by kernel_rfl) iscut
theorem makes : Tryd.prog.make = some Make.cut := make_of front (by kernel_rfl) (by kernel_rfl)
theorem own : ownKnob Tryd.prog.godebug = none := by kernel_rfl
theorem laidOut : laidOutB Tryd.prog = true := by kernel_rfl
theorem rowed : mapsRowed Tryd.prog = true := by kernel_rfl
theorem stops : (Tryd.prog.stops == []) = true := by kernel_rfl
theorem knobs : (Tryd.prog.stopKnobs == []) = true := by kernel_rfl
theorem keys : Tryd.prog.plainKeys = true := by kernel_rfl
theorem heard : Tryd.prog.stopsHeard = true := by kernel_rfl
end Go.Proofs.YtgbbobjkhpplkaaDoor.Facts
