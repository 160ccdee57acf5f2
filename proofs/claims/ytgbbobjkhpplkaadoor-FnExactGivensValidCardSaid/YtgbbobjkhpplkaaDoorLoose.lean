/- A region that draws its order: its head (n operations, of any order that the edges allow) keeps a class of worlds, and each of its operations yields a value of a set fixed ahead; its tail stands in one order. One walk of the text's order serves. Nothing of the program is imported. -/
import Derived.StillTail
import Derived.Deep.Quiet
namespace Go.Proofs.YtgbbobjkhpplkaaDoor
open Go

section
variable {P : Program} {ops : Array Oper} {md : Region.Mode} {C : World → Prop}

/-- A value of the set, and a world of the class. -/
def Lands (P : Program) (C : World → Prop) (S : Value → Prop) : Result Next → Prop
  | .ok (.value u) w' => S u ∧ C w'
  | .ok .skip w' => S undef ∧ C w'
  | .ok (.enter f args) w' => Calls P f args w' fun e w'' => ∃ v, e = .returned v ∧ S v ∧ C w''
  | _ => False
def RunsTo (P : Program) (C : World → Prop) (o : Oper) (a : Act) (S : Value → Prop) : Prop := ∀ w, C w → Lands P C S ((execOp a.eval o).run P w)
theorem Lands.value {S : Value → Prop} {r : Result Next} (h : Lands P C S r) : ∃ v, S v := by
  cases r with
  | halt x w => exact h.elim
  | ok n w =>
    cases n with
    | value u => exact ⟨u, h.1⟩
    | skip => exact ⟨undef, h.1⟩
    | enter f args =>
      obtain ⟨e, w', fr, ⟨v, _, hv, _⟩, _⟩ := h #[].toList
      exact ⟨v, hv⟩
    | _ => exact h.elim

/-- Operation i comes up, its set being S i. -/
def upAt (P : Program) (ops : Array Oper) (C : World → Prop) (S : Nat → Value → Prop) (i : Nat) (K : Act → Prop) (a : Act) : Prop :=
  match ops[i]? with
  | none => K a
  | some o => if Region.wanted o (yielded ops a.tmps) = true then RunsTo P C o a (S i) ∧ ∀ v, S i v → K (a.put o.dst v) else K (a.put o.dst undef)

theorem upAt_mono {S : Nat → Value → Prop} {i : Nat} {K K' : Act → Prop} {a : Act} (h : ∀ a, K a → K' a) (hh : upAt P ops C S i K a) : upAt P ops C S i K' a := by
  unfold upAt at *
  split
  · rename_i e
    rw [e] at hh
    exact h _ hh
  · rename_i o e
    rw [e] at hh
    dsimp only at hh
    split
    · rename_i hw
      rw [if_pos hw] at hh
      exact ⟨hh.1, fun v hv => h _ (hh.2 v hv)⟩
    · rename_i hw
      rw [if_neg hw] at hh
      exact h _ hh

theorem wpOp_of_upAt {S : Nat → Value → Prop} {i : Nat} {K : Act → Prop} {K' : Act → World → Prop} {Q' : Exit → Act → World → Prop} {a : Act} {w : World} (hC : C w) (h : ∀ a w', C w' → K a → K' a w') (hh : upAt P ops C S i K a) : wpOp P ops Q' i K' a w := by
  unfold upAt at hh
  unfold wpOp
  split
  · rename_i e
    rw [e] at hh
    exact h _ _ hC hh
  · rename_i o e
    rw [e] at hh
    dsimp only at hh
    split
    · rename_i hw
      rw [if_pos hw] at hh
      refine .inl ?_
      have h1 := hh.1 w hC
      have h2 := hh.2
      unfold Oper.wp
      generalize (execOp a.eval o).run P w = r at *
      cases r with
      | halt x w' => exact h1.elim
      | ok n w' =>
        cases n with
        | value u => exact h _ _ h1.2 (h2 _ h1.1)
        | skip => exact h _ _ h1.2 (h2 _ h1.1)
        | enter f args =>
          refine Calls.mono h1 ?_
          rintro e w'' ⟨v, rfl, hv, hw''⟩
          exact h _ _ hw'' (h2 _ hv)
        | _ => exact h1.elim
    · rename_i hw
      rw [if_neg hw] at hh
      exact h _ _ hC hh

/-- Two operations that are apart may change places. -/
theorem upAt_swap {S : Nat → Value → Prop} {i j : Nat} {oi oj : Oper} (hi : ops[i]? = some oi) (hj : ops[j]? = some oj) (hap : oi.apart ops oj = true)
    (hsi : ∀ cs b, oi.op ≠ .select cs b) (hsj : ∀ cs b, oj.op ≠ .select cs b) (hC : ∃ w, C w) {K : Act → Prop} {a : Act}
    (h : upAt P ops C S i (upAt P ops C S j K) a) : upAt P ops C S j (upAt P ops C S i K) a := by
  obtain ⟨h1, h2, h3⟩ := Oper.apart_spec hap
  have ej : ∀ (b : Act) v, RunsTo P C oj (b.put oi.dst v) (S j) → RunsTo P C oj b (S j) := fun b v hr w hw => by
    have := hr w hw
    rwa [execOp_put oj hsj b oi.dst v h1] at this
  have ei : ∀ (b : Act) v, RunsTo P C oi b (S i) → RunsTo P C oi (b.put oj.dst v) (S i) := fun b v hr w hw => by
    rw [execOp_put oi hsi b oj.dst v h3]
    exact hr w hw
  have wj : ∀ (b : Act) v, Region.wanted oj (yielded ops (b.put oi.dst v).tmps) = Region.wanted oj (yielded ops b.tmps) := fun b v => wanted_put oj b oi.dst v h1
  have wi : ∀ (b : Act) v, Region.wanted oi (yielded ops (b.put oj.dst v).tmps) = Region.wanted oi (yielded ops b.tmps) := fun b v => wanted_put oi b oj.dst v h3
  have hcomm : ∀ (b : Act) v u, (b.put oi.dst v).put oj.dst u = (b.put oj.dst u).put oi.dst v := fun b v u => Act.put_comm b v u h2
  simp only [upAt, hi, hj] at h ⊢
  simp only [wj] at h
  simp only [wi]
  by_cases w1 : Region.wanted oi (yielded ops a.tmps) = true
  · simp only [w1, if_true] at h ⊢
    obtain ⟨r1, k1⟩ := h
    by_cases w2 : Region.wanted oj (yielded ops a.tmps) = true
    · simp only [w2, if_true] at k1 ⊢
      obtain ⟨w, hw⟩ := hC
      obtain ⟨v, hv⟩ := (r1 w hw).value
      exact ⟨ej _ v (k1 v hv).1, fun u hu => ⟨ei _ u r1, fun v hv => by rw [← hcomm]; exact (k1 v hv).2 u hu⟩⟩
    · simp only [w2] at k1 ⊢
      exact ⟨ei _ _ r1, fun v hv => by rw [← hcomm]; exact k1 v hv⟩
  · simp only [w1] at h ⊢
    by_cases w2 : Region.wanted oj (yielded ops a.tmps) = true
    · simp only [w2, if_true] at h ⊢
      exact ⟨ej _ _ h.1, fun u hu => by rw [← hcomm]; exact h.2 u hu⟩
    · simp only [w2] at h ⊢
      rw [← hcomm]
      exact h

/-- Whatever order is picked, f operations from here, all of the head. -/
def upAll (P : Program) (md : Region.Mode) (ops : Array Oper) (C : World → Prop) (S : Nat → Value → Prop) (n : Nat) (L : Array Bool → Act → Prop) : Nat → Array Bool → Act → Prop
  | 0, listed, a => L listed a
  | f + 1, listed, a => Region.ready md ops listed ≠ [] ∧ ∀ i ∈ Region.ready md ops listed, i < n ∧ upAt P ops C S i (upAll P md ops C S n L f (listed.setIfInBounds i true)) a

theorem wpAny_of_upAll {S : Nat → Value → Prop} {n g : Nat} {L : Array Bool → Act → Prop} {Q' : Exit → Act → World → Prop} (hL : ∀ listed a w, C w → L listed a → wpAny P md ops Q' g listed a w) (f : Nat) :
    ∀ (listed : Array Bool) (a : Act) (w : World), C w → upAll P md ops C S n L f listed a → wpAny P md ops Q' (f + g) listed a w := by
  induction f with
  | zero =>
    intro listed a w hw h
    rw [Nat.zero_add]
    exact hL _ _ _ hw h
  | succ f ih =>
    intro listed a w hw h
    rw [show f + 1 + g = (f + g) + 1 by omega]
    exact ⟨fun h0 => absurd h0 h.1, fun i hi => wpOp_of_upAt hw (fun a' w' hw' h' => ih _ a' w' hw' h') (h.2 i hi).2⟩

/-- One that may come up now may come up first. -/
theorem upAll_first {S : Nat → Value → Prop} {n i : Nat} {oi : Oper} {L : Array Bool → Act → Prop} (hC : ∃ w, C w) (hi : ops[i]? = some oi) (hsel : ∀ (j : Nat) (o : Oper) cs b, ops[j]? = some o → o.op ≠ .select cs b)
    (hs : Region.sinkB md ops n = true) (hc : Region.chainB md ops n = true) (hn : n < ops.size) (hin : i < n)
    (hdone : ∀ listed a, L listed a → ∀ j ∈ Region.ready md ops listed, n ≤ j) (f : Nat) :
    ∀ (listed : Array Bool) (a : Act), HeadInv md ops n listed →
      (∀ j oj, ops[j]? = some oj → j ≠ i → listed.getD j true = false → (∀ e ∈ oj.after, Region.binds md e = true → e.on ≠ i) → oi.apart ops oj = true) →
      i ∈ Region.ready md ops listed → upAt P ops C S i (upAll P md ops C S n L f (listed.setIfInBounds i true)) a → upAll P md ops C S n L (f + 1) listed a := by
  induction f with
  | zero =>
    intro listed a inv hfree hr H
    have hun := (mem_ready.1 hr).1
    refine ⟨fun h => (by rw [h] at hr; cases hr), fun j hj => ?_⟩
    have hjn : j < n := Nat.lt_of_not_le fun h => tail_waits hs hc hn inv _ i rfl hin hun j h hj
    refine ⟨hjn, ?_⟩
    by_cases hji : j = i
    · subst hji
      exact H
    · exfalso
      obtain ⟨b, hb⟩ : ∃ b, L (listed.setIfInBounds i true) b := by
        simp only [upAt, hi] at H
        split at H
        · obtain ⟨w, hw⟩ := hC
          obtain ⟨v, hv⟩ := (H.1 w hw).value
          exact ⟨_, H.2 v hv⟩
        · exact ⟨_, H⟩
      have := hdone _ b hb j (ready_mono hj hji)
      omega
  | succ f ih =>
    intro listed a inv hfree hr H
    have hun := (mem_ready.1 hr).1
    refine ⟨fun h => (by rw [h] at hr; cases hr), fun j hj => ?_⟩
    have hjn : j < n := Nat.lt_of_not_le fun h => tail_waits hs hc hn inv _ i rfl hin hun j h hj
    refine ⟨hjn, ?_⟩
    by_cases hji : j = i
    · subst hji
      exact H
    · obtain ⟨hjun, oj, hoj, hall⟩ := mem_ready.1 hj
      have hnot : ∀ e ∈ oj.after, Region.binds md e = true → e.on ≠ i := fun e he hb heq => by
        have h1 := hall e he hb
        rw [heq, getD_both hun] at h1
        cases h1
      have h1 : upAt P ops C S i (upAt P ops C S j (upAll P md ops C S n L f ((listed.setIfInBounds i true).setIfInBounds j true))) a :=
        upAt_mono (fun a' h => (h.2 j (ready_mono hj hji)).2) H
      have h2 := upAt_swap hi hoj (hfree j oj hoj hji hjun hnot) (fun cs b => hsel i oi cs b hi) (fun cs b => hsel j oj cs b hoj) hC h1
      refine upAt_mono (fun a' h3 => ih (listed.setIfInBounds j true) a' (inv.set hj hjn) (fun k ok hk hki hkun hno => ?_) (ready_mono hr (Ne.symm hji)) ?_) h2
      · refine hfree k ok hk hki ?_ hno
        by_cases hjk : j = k
        · subst hjk; exact hjun
        · rw [getD_set_ne true hjk] at hkun; exact hkun
      · rw [Array.setIfInBounds_comm _ _ hji]
        exact h3

/-- The walk in the text's order, the sets known. -/
def upList (P : Program) (ops : Array Oper) (C : World → Prop) (S : Nat → Value → Prop) (Q : Act → Prop) : Nat → List Oper → Act → Prop
  | _, [], a => Q a
  | k, o :: l, a => if Region.wanted o (yielded ops a.tmps) = true then RunsTo P C o a (S k) ∧ ∀ v, S k v → upList P ops C S Q (k + 1) l (a.put o.dst v) else upList P ops C S Q (k + 1) l (a.put o.dst undef)

theorem upAll_lex {S : Nat → Value → Prop} {n g : Nat} {Lq : Act → Prop} (hC : ∃ w, C w) (hsel : Region.noSelect ops = true) (hs : Region.sinkB md ops n = true) (hc : Region.chainB md ops n = true) (hn : n < ops.size) (l : List Oper) :
    ∀ (k : Nat) (listed : Array Bool) (a : Act), (∀ j, j < l.length → l[j]? = ops[k + j]?) → k + l.length = n → HeadInv md ops n listed →
    Region.lexHead md ops g l.length k listed = true → upList P ops C S Lq k l a →
    upAll P md ops C S n (fun listed' a' => Region.seqB md ops g n listed' = true ∧ Lq a') l.length listed a := by
  induction l with
  | nil =>
    intro k listed a _ hk _ hB h
    have e : k = n := by simpa using hk
    subst e
    exact ⟨by simpa [Region.lexHead] using hB, h⟩
  | cons o l ih =>
    intro k listed a hl hk inv hB h
    have h0 : ops[k]? = some o := by simpa using (hl 0 (by simp)).symm
    simp only [List.length_cons, Region.lexHead, Bool.and_eq_true] at hB
    obtain ⟨⟨hr, hf⟩, hB'⟩ := hB
    simp only [List.length_cons] at hk
    have hkn : k < n := by omega
    have hr' : k ∈ Region.ready md ops listed := by simpa using hr
    have hl' : ∀ j, j < l.length → l[j]? = ops[k + 1 + j]? := fun j hj => by
      have := hl (j + 1) (by simp; omega)
      rw [List.getElem?_cons_succ] at this
      rw [this, show k + (j + 1) = k + 1 + j by omega]
    refine upAll_first hC h0 (Region.noSelect_spec hsel) hs hc hn hkn (fun listed' a' hL => seqB_ready hL.1) l.length listed a inv (Region.free_spec h0 hf) hr' ?_
    have step : ∀ b, upList P ops C S Lq (k + 1) l b → upAll P md ops C S n (fun listed' a' => Region.seqB md ops g n listed' = true ∧ Lq a') l.length (listed.setIfInBounds k true) b :=
      fun b hb => ih (k + 1) _ b hl' (by omega) (inv.set hr' hkn) hB' hb
    simp only [upAt, h0]
    simp only [upList] at h
    split
    · rename_i hw
      rw [if_pos hw] at h
      exact ⟨h.1, fun v hv => step _ (h.2 v hv)⟩
    · rename_i hw
      rw [if_neg hw] at h
      exact step _ h

/-- The walk in the text's order: the values that are not fixed stand in a list y, of which Ψ is known. -/
def Walk (P : Program) (ops : Array Oper) (C : World → Prop) (Q : (List Value → Prop) → (List Value → Act) → Prop) : List Oper → (List Value → Prop) → (List Value → Act) → Prop
  | [], Ψ, f => Q Ψ f
  | o :: l, Ψ, f =>
    ((∀ y, Region.wanted o (yielded ops (f y).tmps) = true) ∧ ((∃ v, (∀ y, Ψ y → RunsTo P C o (f y) (fun u => u = v)) ∧ Walk P ops C Q l Ψ (fun y => (f y).put o.dst v)) ∨
      ∃ S : Value → Prop, (∀ y, Ψ y → RunsTo P C o (f y) S) ∧ Walk P ops C Q l (fun y => S (y.headD undef) ∧ Ψ y.tail) (fun y => (f y.tail).put o.dst (y.headD undef)))) ∨
    ((∀ y, Region.wanted o (yielded ops (f y).tmps) = false) ∧ Walk P ops C Q l Ψ (fun y => (f y).put o.dst undef))

theorem upList_congr {S S' : Nat → Value → Prop} {Q : Act → Prop} : ∀ (l : List Oper) (k : Nat) (a : Act), (∀ j, k ≤ j → S j = S' j) → upList P ops C S Q k l a → upList P ops C S' Q k l a
  | [], _, _, _, h => h
  | o :: l, k, a, hS, h => by
    simp only [upList] at h ⊢
    rw [← hS k (Nat.le_refl _)]
    split
    · rename_i hw
      rw [if_pos hw] at h
      exact ⟨h.1, fun v hv => upList_congr l (k + 1) _ (fun j hj => hS j (by omega)) (h.2 v hv)⟩
    · rename_i hw
      rw [if_neg hw] at h
      exact upList_congr l (k + 1) _ (fun j hj => hS j (by omega)) h

theorem upList_of_walk {Q : Act → Prop} : ∀ (l : List Oper) (k : Nat) (Ψ : List Value → Prop) (f : List Value → Act),
    Walk P ops C (fun Ψ f => ∀ y, Ψ y → Q (f y)) l Ψ f → ∃ S : Nat → Value → Prop, ∀ y, Ψ y → upList P ops C S Q k l (f y)
  | [], _, _, _, h => ⟨fun _ _ => True, h⟩
  | o :: l, k, Ψ, f, h => by
    have put : ∀ (S0 : Value → Prop) (S : Nat → Value → Prop) (j : Nat), k + 1 ≤ j → S j = (fun j => if j = k then S0 else S j) j := fun S0 S j hj => by
      show S j = if j = k then S0 else S j
      rw [if_neg (by omega)]
    rcases h with ⟨hw, ⟨v, hr, h⟩ | ⟨S0, hr, h⟩⟩ | ⟨hw, h⟩
    · obtain ⟨S, hS⟩ := upList_of_walk l (k + 1) Ψ _ h
      refine ⟨fun j => if j = k then (fun u => u = v) else S j, fun y hy => ?_⟩
      simp only [upList, if_true]
      rw [if_pos (hw y)]
      refine ⟨hr y hy, fun u hu => ?_⟩
      rw [hu]
      exact upList_congr l (k + 1) _ (put _ S) (hS y hy)
    · obtain ⟨S, hS⟩ := upList_of_walk l (k + 1) _ _ h
      refine ⟨fun j => if j = k then S0 else S j, fun y hy => ?_⟩
      simp only [upList, if_true]
      rw [if_pos (hw y)]
      exact ⟨hr y hy, fun u hu => upList_congr l (k + 1) _ (put _ S) (hS (u :: y) ⟨hu, hy⟩)⟩
    · obtain ⟨S, hS⟩ := upList_of_walk l (k + 1) Ψ _ h
      refine ⟨S, fun y hy => ?_⟩
      simp only [upList]
      rw [if_neg (by rw [hw y]; decide)]
      exact hS y hy

/-- One walk of the text's order serves every order: n operations of the head, then the tail in its one order, in any world of the class. -/
theorem wp_region_loose {id : Nat} {Q : Exit → Act → World → Prop} {a : Act} {w : World} {l : List Oper} (n : Nat) (hm : P.follows .mixedOrders = true) (hB : Region.lexTailB .any l.toArray n = true) (hw : C { w with drawn := w.drawn + 1 })
    (h : Walk P l.toArray C (fun Ψ f => ∀ y, Ψ y → ∀ w', C w' → wpList P l.toArray Q (l.drop n) (f y) w') (l.take n) (fun _ => True) (fun _ => a)) : (Code.region id l.toArray true).wp P Q a w := by
  simp only [Region.lexTailB, Bool.and_eq_true, decide_eq_true_eq] at hB
  obtain ⟨⟨⟨⟨hsel, hn⟩, hs⟩, hc⟩, hlex⟩ := hB
  have hn' : n < l.length := by simpa using hn
  have htl : (l.take n).length = n := by rw [List.length_take]; omega
  have hdl : (l.drop n).length = l.toArray.size - n := by simp
  have inv0 : HeadInv .any l.toArray n (Array.replicate l.toArray.size false) :=
    ⟨by simp, fun j oj _ hl => (by rw [getD_replicate_false] at hl; cases hl), fun t _ ht => getD_in (by simpa using ht) (getD_replicate_false _ _)⟩
  obtain ⟨S, hS⟩ := upList_of_walk (Q := fun b => ∀ w', C w' → wpList P l.toArray Q (l.drop n) b w') (l.take n) 0 (fun _ => True) (fun _ => a) h
  have H := upAll_lex (md := .any) (g := l.toArray.size - n) ⟨_, hw⟩ hsel hs hc hn (l.take n) 0 _ a (fun j hj => by
    have hj' : j < n := by rw [htl] at hj; exact hj
    simp [hj']) (by simpa using htl) inv0 (by rw [htl]; exact hlex) (hS [] trivial)
  refine wp_region_any hm ?_
  have K := wpAny_of_upAll (Q' := Q) (g := l.toArray.size - n) (fun listed a' w' hw' hL => by
    have := wpAny_of_seq (md := .any) (Q' := Q) (l.drop n) n listed a' w' (fun j => by simp [List.getElem?_drop]) (by rw [hdl]; exact hL.1) (hL.2 w' hw')
    rwa [hdl] at this) _ _ _ _ hw H
  rw [htl, show n + (l.toArray.size - n) = l.toArray.size by omega] at K
  exact K

/-- The walk behind a letter. -/
theorem walk_by {Q : (List Value → Prop) → (List Value → Act) → Prop} {l : List Oper} {Ψ : List Value → Prop} {f : List Value → Act}
    (h : ∀ W : List Oper → (List Value → Prop) → (List Value → Act) → Prop, (∀ Ψ f, Q Ψ f → W [] Ψ f) →
      (∀ o l Ψ f, (∀ y, Region.wanted o (yielded ops (f y).tmps) = true) → (∃ v, (∀ y, Ψ y → ∀ w, C w → (execOp (f y).eval o).run P w = .ok (.value v) w) ∧ W l Ψ (fun y => (f y).put o.dst v)) → W (o :: l) Ψ f) →
      (∀ o l Ψ f, (∀ y, Region.wanted o (yielded ops (f y).tmps) = true) → (∃ fn args v, (∀ y, Ψ y → ∀ w, C w → (execOp (f y).eval o).run P w = .ok (.enter fn args) w ∧ Calls P fn args w fun e w' => e = .returned v ∧ C w') ∧ W l Ψ (fun y => (f y).put o.dst v)) → W (o :: l) Ψ f) →
      (∀ o l Ψ f, (∀ y, Region.wanted o (yielded ops (f y).tmps) = true) → (∃ fn args, ∃ S : Value → Prop, (∀ y, Ψ y → ∀ w, C w → (execOp (f y).eval o).run P w = .ok (.enter fn args) w ∧ Calls P fn args w fun e w' => ∃ v, e = .returned v ∧ S v ∧ C w') ∧ W l (fun y => S (y.headD undef) ∧ Ψ y.tail) (fun y => (f y.tail).put o.dst (y.headD undef))) → W (o :: l) Ψ f) →
      (∀ o l Ψ f, (∀ y, Region.wanted o (yielded ops (f y).tmps) = false) → W l Ψ (fun y => (f y).put o.dst undef) → W (o :: l) Ψ f) → W l Ψ f) : Walk P ops C Q l Ψ f := by
  refine h (Walk P ops C Q) (fun _ _ h => h) ?_ ?_ ?_ ?_
  · rintro o l Ψ f hw ⟨v, h1, h2⟩
    refine .inl ⟨hw, .inl ⟨v, fun y hy w hw' => ?_, h2⟩⟩
    rw [h1 y hy w hw']
    exact ⟨rfl, hw'⟩
  · rintro o l Ψ f hw ⟨fn, args, v, h1, h2⟩
    refine .inl ⟨hw, .inl ⟨v, fun y hy w hw' => ?_, h2⟩⟩
    obtain ⟨e, hc⟩ := h1 y hy w hw'
    rw [e]
    exact Calls.mono hc fun e w'' h => ⟨v, h.1, rfl, h.2⟩
  · rintro o l Ψ f hw ⟨fn, args, S, h1, h2⟩
    refine .inl ⟨hw, .inr ⟨S, fun y hy w hw' => ?_, h2⟩⟩
    obtain ⟨e, hc⟩ := h1 y hy w hw'
    rw [e]
    exact hc
  · exact fun o l Ψ f hw h => .inr ⟨hw, h⟩

end
end Go.Proofs.YtgbbobjkhpplkaaDoor
