/- The model's copies of worlds: l13OwnInstance, l13OwnListInstance, l13OwnWorld. -/
import Derived.Test.YtjpdiahbnhemoaaGreatDoorMrkX
import Derived.Test.YtjpdiahbnhemoaaGreatDoorArgsC
import Derived.Test.YtjpdiahbnhemoaaGreatDoorInJ
import Derived.Deep.Cut
import Derived.Deep.AppendLies
namespace Go.Proofs.YtjpdiahbnhemoaaGreatDoor
open Go.RowKit
set_option linter.unusedVariables false

theorem set0_two' {w : World} {k : Nat} {a b : Value} {T : TypeId} (h : w.heap[k]? = some (.cells #[a, b] T (0, 0))) (z : Value) : (w.setCell ⟨k, 0, none⟩ z).heap[k]? = some (.cells #[z, b] T (0, 0)) := by
  simp [World.setCell, Array.getElem?_modify, h]
theorem set1_two' {w : World} {k : Nat} {a b : Value} {T : TypeId} (h : w.heap[k]? = some (.cells #[a, b] T (0, 0))) (z : Value) : (w.setCell ⟨k, 1, none⟩ z).heap[k]? = some (.cells #[a, z] T (0, 0)) := by
  simp [World.setCell, Array.getElem?_modify, h]
theorem needInfoO : (Tryz.prog.info? 49).map (fun i => (i.zero, i.size, i.bytes)) = some (some (.agg #[.string ⟨#[]⟩, .string ⟨#[]⟩]), 2, 32) := by kernel_rfl
theorem clsInfoO : (Tryz.prog.info? 47).map (fun i => (i.zero, i.size, i.bytes)) = some (some (.agg #[.string ⟨#[]⟩, .string ⟨#[]⟩]), 2, 32) := by kernel_rfl

/-- append([]T{}, xs...): whatever xs, nil or empty too. -/
theorem wpList_append_copy {P : Program} {w : World} {ops : Array Oper} {rest : List Oper} {o : Oper} {a : Act} {Q : Exit → Act → World → Prop} (hgd : o.guard = none) (s x : Operand) (t : TypeId)
    (ho : o.op = .call { callee := .builtin .append, args := #[s, x], argTypes := #[t, t] })
    (base : Nat) (e : TypeId) (i : TypeInfo) (z : Value) (size bytes : Nat) (ht : P.underlying t = some (.slice e)) (hi : P.info? e = some i) (hz : i.zero = some z)
    (hsize : i.size = size) (hby : i.bytes = bytes) (hzs : z.cells.size = size) (hsz : 0 < size)
    (g : Nat) (hs : a.eval s = .slice (some ⟨g, 0, none⟩) 0 0) (hown : w.ownsRow base e size (.slice (some ⟨g, 0, none⟩) 0 0) 0 [])
    (A : Option Addr) (m c : Nat) (news : List Value) (hx : a.eval x = .slice A m c) (hl : news.length = m * size)
    (hnews : 0 < m → ∃ ad, A = some ad ∧ ∀ j u, news[j]? = some u → w.cell? (ad.add j) = some u) (h1 : ∀ u ∈ news, u.oneCell' = true)
    (h63 : m ≤ maxLen) (hbytes : m * bytes ≤ 140737488355328) (hbase : base ≤ w.heap.size) (H : Nat) (hH : w.heap.size = H)
    (h : ∀ g' cap w', w'.ownsRow base e size (.slice (some ⟨g', 0, none⟩) m cap) m news → w.grownBy w' (some g) → (g' = g ∨ g' = H) → wpList P ops Q rest (a.put o.dst (.slice (some ⟨g', 0, none⟩) m cap)) w') :
    wpList P ops Q (o :: rest) a w := by
  rcases Nat.eq_zero_or_pos m with rfl | hm
  · obtain rfl : news = [] := List.eq_nil_of_length_eq_zero (by simpa using hl)
    rcases A with _ | ad
    · refine wpList_plain hgd fun K hK => ?_
      have hrun : (Builtin.append_ #[t, t] o.type #[.slice (some ⟨g, 0, none⟩) 0 0, .slice none 0 c]).run P w = .ok (.slice (some ⟨g, 0, none⟩) 0 0) w := by
        simp [Builtin.append_, run_underlying ht, sizeOf, typeInfo, hi, Builtin.lenOf, Builtin.firstCells, storeCells]
      unfold Oper.wp
      simp [execOp, ho, resolve, invoke, builtin, hs, hx, hrun, Result.andThen]
      exact hK _ _ (h g 0 w hown (World.grownBy.refl _ _) (.inl rfl))
    · exact wpList_append_fits w hgd s x t ho base e i size ht hi hsize g 0 0 [] hs hown ad 0 c [] hx (by simp) (fun j u h => by simp at h) (fun u hu => by cases hu) (Nat.le_refl _) fun w' h' hg => h g 0 w' h' hg (.inl rfl)
  · obtain ⟨ad, rfl, hc⟩ := hnews hm
    refine wpList_append_lies _ hgd s x t ho base e i z size bytes ht hi hz hsize hby hzs hsz _ 0 [] hs hown ad m c news hx hl hc h1 hm (by omega) (by rw [Nat.zero_add]; exact hbytes) hbase H hH fun g' cap w' h2 hg hat _ => ?_
    rw [Nat.zero_add, List.nil_append] at h2
    rw [Nat.zero_add]
    refine h g' cap w' h2 hg ?_
    rcases hat with hat | hat
    · simp only [Value.ownBlock, Option.some.injEq] at hat
      exact .inl hat.symm
    · exact .inr hat
theorem Prs.srcs {w : World} {A : Option Addr} {n : Nat} {zs : List (ByteArray × ByteArray)} (h : Prs w A n zs) (hn : 0 < n) : ∃ ad, A = some ad ∧ ad.block < w.heap.size ∧ ∀ w' : World, w'.heap[ad.block]? = w.heap[ad.block]? → ∀ (j : Nat) u, (cells2 zs)[j]? = some u → w'.cell? (ad.add j) = some u := by
  obtain ⟨g, o, rfl, hg, hc⟩ := h.2 hn
  refine ⟨_, rfl, hg, fun w' e j u hj => ?_⟩
  have hadd : (⟨g, o, none⟩ : Addr).add j = ⟨g, o + j, none⟩ := by unfold Addr.add; split <;> simp_all
  rw [hadd, World.cell?_of_block (w := w) (w' := w') (a := ⟨g, o + j, none⟩) e]
  have hjl : j < zs.length * 2 := by
    have := (List.getElem?_eq_some_iff.1 hj).1
    rw [cells2_len] at this
    exact this
  have hz : zs[j / 2]? = some (zs[j / 2]'(by omega)) := List.getElem?_eq_getElem _
  obtain ⟨e1, e2⟩ := cells2_at zs (j / 2) _ hz
  obtain ⟨c1, c2⟩ := hc (j / 2) _ hz
  rcases Nat.mod_two_eq_zero_or_one j with hm | hm
  · have ej : j / 2 * 2 = j := by omega
    rw [ej] at e1 c1
    rw [e1] at hj
    injection hj with hj
    rw [← hj]
    exact c1
  · have ej : j / 2 * 2 + 1 = j := by omega
    rw [ej] at e2
    rw [e2] at hj
    injection hj with hj
    have ho : o + j = o + j / 2 * 2 + 1 := by omega
    rw [← hj]
    exact (congrArg (fun l => w.cell? ⟨g, l, none⟩) ho).trans c2
theorem cells2_one (zs : List (ByteArray × ByteArray)) : ∀ u ∈ cells2 zs, u.oneCell' = true := by
  intro u hu
  unfold cells2 at hu
  obtain ⟨z, _, hz⟩ := List.mem_flatMap.1 hu
  simp only [List.mem_cons, List.not_mem_nil, or_false] at hz
  rcases hz with rfl | rfl <;> rfl

set_option maxHeartbeats 2000000 in
set_option maxRecDepth 100000 in
theorem ownInstanceS_any (x y : ByteArray) (A : Option Addr) (n c : Nat) (zs : List (ByteArray × ByteArray)) (w : World) (hp : Prs w A n zs) (hn : n ≤ 1048577) :
    Calls Tryz.prog 39 #[.agg #[.string x, .string y, .slice A n c]] w fun e w' => (∃ B d, e = .returned (.agg #[.string x, .string y, .slice B n d]) ∧ Prs w' B n zs ∧ ∀ b, B = some b → w.heap.size ≤ b.block ∧ b.block < w'.heap.size) ∧ Below w.heap.size w w' := by
  obtain ⟨i0, hi0, hz0, hz1, hz2⟩ := info_parts needInfoO
  have hlen := hp.1
  obtain ⟨w3, hw3⟩ : ∃ w3, ((w.alloc (.cells #[.string x, .string y, .slice A n c] 52)).alloc (.cells #[.string ⟨#[]⟩, .string ⟨#[]⟩, .slice none 0 0] 52)).alloc (.cells #[] 49) = w3 := ⟨_, rfl⟩
  have z3 : w3.heap.size = w.heap.size + 3 := by rw [← hw3]; simp only [World.size_alloc]
  have b3 : Below w.heap.size w w3 := by rw [← hw3]; exact (((Below.refl w.heap.size w).alloc (Nat.le_refl _) _).alloc (by simp only [World.size_alloc]; omega) _).alloc (by simp only [World.size_alloc]; omega) _
  have X3 := hid (show w3.heap[w.heap.size]? = some (.cells #[.string x, .string y, .slice A n c] 52 (0, 0)) by
    rw [← hw3, Below.heap_alloc _ _ _ (by simp only [World.size_alloc]; omega), Below.heap_alloc _ _ _ (by simp only [World.size_alloc]; omega)]
    exact heap_new1 w _)
  have R3 := hid (show w3.heap[w.heap.size + 1]? = some (.cells #[.string ⟨#[]⟩, .string ⟨#[]⟩, .slice none 0 0] 52 (0, 0)) by
    rw [← hw3, Below.heap_alloc _ _ _ (by simp only [World.size_alloc]; omega)]
    have := heap_new1 (w.alloc (.cells #[.string x, .string y, .slice A n c] 52)) (.cells #[.string ⟨#[]⟩, .string ⟨#[]⟩, .slice none 0 0] 52)
    rw [World.size_alloc] at this
    exact this)
  have E3 : w3.heap[w.heap.size + 1 + 1]? = some (.cells #[] 49 (0, 0)) := by
    rw [← hw3]
    have := heap_new1 ((w.alloc (.cells #[.string x, .string y, .slice A n c] 52)).alloc (.cells #[.string ⟨#[]⟩, .string ⟨#[]⟩, .slice none 0 0] 52)) (.cells #[] 49)
    simp only [World.size_alloc] at this
    exact this
  have O3 := hid (show w3.ownsRow (w.heap.size + 1 + 1) 49 2 (.slice (some ⟨w.heap.size + 1 + 1, 0, none⟩) 0 0) 0 [] from ⟨rfl, .inr ⟨w.heap.size + 1 + 1, 0, #[], rfl, Nat.le_refl _, E3, Nat.le_refl _, Nat.zero_le _, rfl, rfl⟩⟩)
  have HS := hid (fun (h0 : 0 < n) => show ∃ ad, A = some ad ∧ ∀ j u, (cells2 zs)[j]? = some u → w3.cell? (ad.add j) = some u from by
    obtain ⟨ad, rfl, hb, hc⟩ := hp.srcs h0
    exact ⟨ad, rfl, hc w3 (b3.block _ hb)⟩)
  have HB3 := hid b3
  have HW3 := hid hw3
  clear hp hw3 b3 E3
  go_enter Tryz.func39, Tryz.ntmps39
  go_wp2_with (first
    | (at_builtin
       rw [HW3.out]
       refine wpList_append_copy rfl _ _ 50 rfl (w.heap.size + 1 + 1) 49 i0 _ 2 32 Tryz.underlying50 hi0 hz0 hz1 hz2 rfl (by decide) (w.heap.size + 1 + 1) rfl O3.out A n c (cells2 zs) rfl (by rw [cells2_len, hlen]) HS.out (cells2_one zs) (by unfold maxLen; omega) (by omega) (by omega) (w.heap.size + 3) z3 ?_)
    | fail)
  intro g cap w4 hown4 hg4 hat4
  have z4 := hg4.size
  have O4 := hid hown4
  have k4 : ∀ j, j < w.heap.size + 2 → w4.heap[j]? = w3.heap[j]? := fun j hj => hg4.block j (by omega) (by simp; omega)
  have X4 := hid ((k4 _ (by omega)).trans X3.out)
  have R4 := hid ((k4 _ (by omega)).trans R3.out)
  have B4 := hid (show Below w.heap.size w w4 from ⟨hg4.os.trans HB3.out.os, hg4.tape.trans HB3.out.tape, hg4.output.trans HB3.out.output, by omega, fun j hj => (k4 j (by omega)).trans (HB3.out.block j hj)⟩)
  obtain ⟨w5, hw5⟩ : ∃ w5, w4.setCell ⟨w.heap.size, 2, none⟩ (.slice (some ⟨g, 0, none⟩) n cap) = w5 := ⟨_, rfl⟩
  have x2 := cell_blk X4.out (j := 2) rfl
  have xf := frz_blk X4.out
  have X5 := hid (show w5.heap[w.heap.size]? = some (.cells #[.string x, .string y, .slice (some ⟨g, 0, none⟩) n cap] 52 (0, 0)) by rw [← hw5]; exact inBlk X4.out _)
  have h5 : ∀ k, k ≠ w.heap.size → w5.heap[k]? = w4.heap[k]? := fun k hk => by rw [← hw5]; exact set1_other hk _
  have R5 := hid ((h5 (w.heap.size + 1) (by omega)).trans R4.out)
  have O5 := hid (own_heap (w' := w5) hown4 fun k hk => h5 k (by simp only [Value.ownBlock, Option.some.injEq] at hk; omega))
  have B5 := hid (show Below w.heap.size w w5 by rw [← hw5]; exact B4.out.setCell (Nat.le_refl _) _)
  have HW5 := hid hw5
  have z5 : w5.heap.size = w4.heap.size := by rw [← hw5]; simp [World.setCell]
  clear hown4 hw5 k4
  go_upto_region 2 with fail
  rw [HW5.out]
  clear x2 xf
  have x0 := cell_blk X5.out (j := 0) rfl
  have x1 := cell_blk X5.out (j := 1) rfl
  have x2 := cell_blk X5.out (j := 2) rfl
  have n0 := cell_blk R5.out (j := 0) rfl
  have n1 := cell_blk R5.out (j := 1) rfl
  have n2 := cell_blk R5.out (j := 2) rfl
  have nf := frz_blk R5.out
  go_wp2_with fail
  have hk : ∀ j, j ≠ w.heap.size + 1 → (((w5.setCell ⟨w.heap.size + 1, 0, none⟩ (.string x)).setCell ⟨w.heap.size + 1, 1, none⟩ (.string y)).setCell ⟨w.heap.size + 1, 2, none⟩ (.slice (some ⟨g, 0, none⟩) n cap)).heap[j]? = w5.heap[j]? := fun j hj => set3_other hj _ _ _
  obtain ⟨B, d, e1, hd, hpr⟩ := own_pairs (own_heap (w' := ((w5.setCell ⟨w.heap.size + 1, 0, none⟩ (.string x)).setCell ⟨w.heap.size + 1, 1, none⟩ (.string y)).setCell ⟨w.heap.size + 1, 2, none⟩ (.slice (some ⟨g, 0, none⟩) n cap)) O5.out fun k hk' => hk k (by simp only [Value.ownBlock, Option.some.injEq] at hk'; omega))
  simp only [Value.slice.injEq] at e1
  obtain ⟨rfl, _, rfl⟩ := e1
  refine bodyPost_ret (v := .agg #[.string x, .string y, .slice (some ⟨g, 0, none⟩) n cap]) (by simp [results, Tryz.results39, go_sem, n0, n1, n2]) rfl ⟨⟨_, _, rfl, hpr, fun b hb => by injection hb with hb; rw [← hb]; exact ⟨show w.heap.size ≤ g by omega, show g < _ by simp only [World.setCell, Array.size_modify]; have := O5.out.lt g rfl; omega⟩⟩, ?_⟩
  exact B5.out.trans ((set3_but (rb := w.heap.size) (show w.heap.size ≤ w.heap.size + 1 by omega) _ _ _).below (Nat.le_refl _))

theorem insInfoO : (Tryz.prog.info? 52).map (fun i => (i.zero, i.size, i.bytes)) = some (some (.agg #[.string ⟨#[]⟩, .string ⟨#[]⟩, .slice none 0 0]), 3, 56) := by kernel_rfl
/-- Instances in memory from a block on. -/
def InssF (w : World) (lo : Nat) (A : Option Addr) (n : Nat) (is : List Ins) : Prop :=
  ∃ g ps, A = some ⟨g, 0, none⟩ ∧ lo ≤ g ∧ ps.map Prod.fst = is ∧ RowI w g n ps ∧ ∀ (l : Nat) p, ps[l]? = some p → Prs w p.2.1 p.1.ns.length p.1.ns ∧ (∀ b, p.2.1 = some b → lo ≤ b.block ∧ b.block < w.heap.size) ∧ p.1.ns.length ≤ maxLen
theorem InssF.keep {w w' : World} {lo n : Nat} {A : Option Addr} {is : List Ins} (h : InssF w lo A n is) (hz : w.heap.size ≤ w'.heap.size) (hk : ∀ k, lo ≤ k → k < w.heap.size → w'.heap[k]? = w.heap[k]?) : InssF w' lo A n is := by
  obtain ⟨g, ps, rfl, h1, h2, h3, h4⟩ := h
  refine ⟨g, ps, rfl, h1, h2, h3.keep (hk g h1 h3.lt), fun l p hl => ?_⟩
  obtain ⟨k1, k2, k3⟩ := h4 l p hl
  exact ⟨k1.keep hz fun a ha => hk _ (k2 a ha).1 (k2 a ha).2, fun b hb => ⟨(k2 b hb).1, Nat.lt_of_lt_of_le (k2 b hb).2 hz⟩, k3⟩
theorem InssF.mono {w : World} {lo lo' n : Nat} {A : Option Addr} {is : List Ins} (h : InssF w lo A n is) (hl : lo' ≤ lo) : InssF w lo' A n is := by
  obtain ⟨g, ps, rfl, h1, h2, h3, h4⟩ := h
  exact ⟨g, ps, rfl, Nat.le_trans hl h1, h2, h3, fun l p hp => ⟨(h4 l p hp).1, fun b hb => ⟨Nat.le_trans hl ((h4 l p hp).2.1 b hb).1, ((h4 l p hp).2.1 b hb).2⟩, (h4 l p hp).2.2⟩⟩
theorem InssF.below {w w' : World} {lo n : Nat} {A : Option Addr} {is : List Ins} (h : InssF w lo A n is) (hb : Below w.heap.size w w') : InssF w' lo A n is := h.keep hb.size fun k _ hk => hb.block k hk
theorem InssF.inss {w : World} {lo n : Nat} {A : Option Addr} {is : List Ins} (h : InssF w lo A n is) : Inss w A n is := by
  obtain ⟨g, ps, rfl, h1, rfl, ⟨cur, h3, h4, h5, h6⟩, h7⟩ := h
  refine ⟨by rw [List.length_map]; exact h5, fun _ => ⟨g, 0, rfl, (Array.getElem?_eq_some_iff.1 h3).1, fun j i hj => ?_⟩⟩
  rw [List.getElem?_map] at hj
  rcases hp : ps[j]? with _ | p
  · rw [hp] at hj; cases hj
  · rw [hp] at hj
    have hi : p.1 = i := by simpa using hj
    subst hi
    obtain ⟨e1, e2, e3⟩ := h6 j p hp
    have c : ∀ (l : Nat) v, cur[l]? = some v → w.cell? ⟨g, 0 + l, none⟩ = some v := fun l v hv => by rw [Nat.zero_add]; exact cell_blk h3 hv
    exact ⟨c _ _ e1, c _ _ e2, p.2.1, p.1.ns.length, p.2.2, c _ _ e3, (h7 j p hp).2.2, (h7 j p hp).1⟩
/-- A round of the loop that copies instances. -/
def OlR (w : World) (n : Nat) (is : List Ins) (v i : Value) (wr : World) : Prop :=
  ∃ (j g cap : Nat) (ps : List InP), j ≤ n ∧ i = .int .i64 j ∧ v = .slice (some ⟨g, 0, none⟩) j cap ∧ ps.map Prod.fst = is.take j ∧ wr.ownsRow w.heap.size 52 3 (.slice (some ⟨g, 0, none⟩) j cap) j (cells3 ps) ∧
    (∀ (l : Nat) p, ps[l]? = some p → Prs wr p.2.1 p.1.ns.length p.1.ns ∧ ∀ b, p.2.1 = some b → b.block ≠ g ∧ b.block < wr.heap.size ∧ w.heap.size ≤ b.block) ∧ Below w.heap.size w wr
theorem at_snoc {α : Type} {ps : List α} {p q : α} {j : Nat} (h : (ps ++ [p])[j]? = some q) : ps[j]? = some q ∨ q = p := by
  rcases Nat.lt_or_ge j ps.length with hl | hl
  · rw [List.getElem?_append_left hl] at h
    exact .inl h
  · rw [List.getElem?_append_right hl] at h
    have hjl : j - ps.length = 0 := by
      have := (List.getElem?_eq_some_iff.1 h).1
      simp at this
      omega
    rw [hjl] at h
    simp at h
    exact .inr h.symm

set_option maxHeartbeats 4000000 in
set_option maxRecDepth 100000 in
theorem ownListS_any (A : Option Addr) (n c : Nat) (is : List Ins) (w : World) (ha : Inss w A n is) (hn : n ≤ 1048576) (hm : ∀ i ∈ is, i.ns.length ≤ 1048577) :
    Calls Tryz.prog 24 #[.slice A n c] w fun e w' => (∃ B d, e = .returned (.slice B n d) ∧ InssF w' w.heap.size B n is) ∧ Below w.heap.size w w' := by
  obtain ⟨i1, hi10, hz10, hz11, hz12⟩ := info_parts insInfoO
  have HA := hid ha
  have HM := hid hm
  clear ha hm
  go_enter Tryz.func24, Tryz.ntmps24
  go_wp2_with fail
  go_loopw [3, 9] (fun v i wr => OlR w n is v i wr) (fun _ i _ => n - (intOf i).toNat)
  case atStart =>
    exact ⟨0, w.heap.size, 0, [], Nat.zero_le _, rfl, rfl, by rw [List.take_zero]; rfl, ⟨rfl, .inr ⟨w.heap.size, 0, #[], rfl, Nat.le_refl _, heap_alloc_new w _, Nat.le_refl _, Nat.zero_le _, rfl, rfl⟩⟩, fun l p h => by simp at h, (Below.refl _ _).alloc (Nat.le_refl _) _⟩
  case round =>
    obtain ⟨j, g, cap, ps, hj, rfl, rfl, hps, hown, hin, hbel⟩ := hrel
    have hgb := hown.lt g rfl
    have zr := hbel.size
    have HPS := hid hps
    have HIN := hid hin
    obtain ⟨ys, hys⟩ : ∃ ys, cells3 ps = ys := ⟨_, rfl⟩
    rw [hys] at hown
    have HYS := hid hys
    have HOWN := hid hown
    clear hps hin hys hown
    by_cases hlt : j < n
    · obtain ⟨gA, o, rfl, hgA, hca⟩ := HA.out.2 (by omega)
      obtain ⟨⟨x, y, ns⟩, hij⟩ : ∃ i, is[j]? = some i := ⟨is[j]'(by have := HA.out.1; omega), List.getElem?_eq_getElem _⟩
      obtain ⟨ca, cb, D, m', cp, cc, hm', hp⟩ := hca j _ hij
      have hmn : m' ≤ 1048577 := by
        have h1 := HM.out _ (List.mem_of_getElem? hij)
        have h2 := hp.1
        simp only at h1 h2
        omega
      have hml : ns.length = m' := hp.1
      have HTK := hid (show is.take (j + 1) = is.take j ++ [⟨x, y, ns⟩] by rw [List.take_add_one, hij]; rfl)
      have ca' := cell_below ca hgA hbel
      have cb' := cell_below cb hgA hbel
      have cc' := cell_below cc hgA hbel
      have HOI := hid (fun (W : World) (hW : Below w.heap.size w W) => ownInstanceS_any x y D m' cp ns W (hp.below hW) hmn)
      have i1 : (0 : Int) ≤ (j : Int) := by omega
      have i2 : (j : Int) < (n : Int) := by omega
      have i3 : IntKind.i64.wrap ((j : Int) + 1) = (j : Int) + 1 := by rw [IntKind.wrap_i64]; omega
      have HML := hid hml
      clear hca hij ca cb cc hp hml
      go_wp2_with (first
        | (go_at_call 39
           refine (HOI.out _ (hbel.alloc zr _)).mono ?_
           rintro e w2 ⟨⟨B2, d2, rfl, hp2, hB2⟩, b2⟩
           have HP2 := hid hp2
           have HB2 := hid hB2
           have z2 := b2.size
           simp only [World.size_alloc] at z2
           have K2 := hid (fun (k : Nat) (hk : k < wr.heap.size) => show w2.heap[k]? = wr.heap[k]? from (b2.block k (by simp only [World.size_alloc]; omega)).trans (Below.heap_alloc _ _ _ hk))
           have B2' := hid (show Below w.heap.size w w2 from (hbel.alloc zr _).trans (b2.mono (by simp only [World.size_alloc]; omega)))
           have O2 := hid (own_heap (w' := w2) HOWN.out fun k hk => K2.out k (by simp only [Value.ownBlock, Option.some.injEq] at hk; omega))
           clear hp2 hB2 b2)
        | (at_builtin
           refine wpList_append_lies _ rfl _ _ 23 rfl w.heap.size 52 _ _ 3 56 Tryz.underlying23 hi10 hz10 hz11 hz12 rfl (by decide) _ _ _ rfl (O2.out.alloc _) ⟨w2.heap.size, 0, none⟩ 1 1 [.string x, .string y, .slice B2 m' d2] rfl rfl ?c1 ?c2 (by decide) ?c3 ?c4 ?c5 (w2.heap.size + 1) (World.size_alloc _ _) ?_)
        | fail)
      case c1 => exact World.news_of_block (heap_alloc_new w2 _)
      case c2 => simp [Value.oneCell']
      case c3 => unfold maxLen; omega
      case c4 => omega
      case c5 => simp only [World.size_alloc]; omega
      intro g5 cap5 w5 hown5 hg5 hat5 q5
      have HO5 := hid hown5
      have z5 := hg5.size
      simp only [World.size_alloc] at z5
      have K5 := hid (fun (k : Nat) (hk : k < w2.heap.size) (hne : k ≠ g) => show w5.heap[k]? = w2.heap[k]? from (hg5.block k (by simp only [World.size_alloc]; omega) (by simp [Value.ownBlock]; omega)).trans (Below.heap_alloc _ _ _ hk))
      clear hown5
      go_wp2_with fail
      go_roundw
      case rel =>
        have hg5' : g5 = g ∨ g5 = w2.heap.size + 1 := by
          rcases hat5 with h | h
          · simp only [Value.ownBlock, Option.some.injEq] at h; exact .inl h.symm
          · exact .inr h
        have hml := HML.out
        subst hml
        refine ⟨j + 1, g5, cap5, ps ++ [(⟨x, y, ns⟩, (B2, d2))], hlt, by go_num, rfl, ?_, ?_, ?_, ?_⟩
        · rw [List.map_append, HPS.out, HTK.out]
          rfl
        · rw [cells3_snoc, HYS.out]
          exact HO5.out
        · intro l p hl
          rcases at_snoc hl with hl | rfl
          · obtain ⟨h1, h2⟩ := HIN.out l p hl
            refine ⟨h1.keep (by omega) fun a ha => ?_, fun b hb => ?_⟩
            · have := h2 a ha
              exact (K5.out _ (by omega) this.1).trans (K2.out _ this.2.1)
            · have := h2 b hb
              omega
          · refine ⟨HP2.out.keep (by omega) fun a ha => ?_, fun b hb => ?_⟩
            · have := HB2.out a ha
              simp only [World.size_alloc] at this
              exact K5.out _ this.2 (by omega)
            · have := HB2.out b hb
              simp only [World.size_alloc] at this
              show b.block ≠ g5 ∧ b.block < w5.heap.size ∧ w.heap.size ≤ b.block
              omega
        · exact (B2'.out.alloc (by omega) _).grown hg5 (by simp only [World.size_alloc]; omega) (by intro k hk; simp [Value.ownBlock] at hk; omega)
      case measure => simp [intOf]; omega
    · obtain rfl : j = n := by omega
      go_wp2_with fail
      go_ret
      have hall : ps.map Prod.fst = is := by rw [HPS.out]; exact List.take_of_length_le (by have := HA.out.1; omega)
      have hO := HOWN.out
      rw [← HYS.out] at hO
      refine ⟨⟨_, cap, rfl, g, ps, rfl, hgb.1, hall, RowI.of hO, fun l p hp => ⟨(HIN.out l p hp).1, fun b hb => ?_, ?_⟩⟩, hbel⟩
      · have := (HIN.out l p hp).2 b hb
        omega
      · have := HM.out p.1 (by rw [← hall]; exact List.mem_map.2 ⟨p, List.mem_of_getElem? hp, rfl⟩)
        unfold maxLen
        omega

set_option maxHeartbeats 4000000 in
set_option maxRecDepth 100000 in
theorem ownWorldS_any (A : Option Addr) (n c : Nat) (zs : List (ByteArray × ByteArray)) (B : Option Addr) (m d : Nat) (is : List Ins) (w : World) (ha : Prs w A n zs) (hn : n ≤ 1048577) (hb : Inss w B m is) (hm : m ≤ 1048576) (hi : ∀ i ∈ is, i.ns.length ≤ 1048577) :
    Calls Tryz.prog 10 #[.agg #[.slice A n c, .slice B m d]] w fun e w' => (∃ A' c' B' d', e = .returned (.agg #[.slice A' n c', .slice B' m d']) ∧ Prs w' A' n zs ∧ (∀ a, A' = some a → w.heap.size ≤ a.block ∧ a.block < w'.heap.size) ∧ InssF w' w.heap.size B' m is) ∧ Below w.heap.size w w' := by
  obtain ⟨i0, hi0, hz0, hz1, hz2⟩ := info_parts clsInfoO
  have hlen := ha.1
  have HB := hid hb
  have HI := hid hi
  obtain ⟨w3, hw3⟩ : ∃ w3, ((w.alloc (.cells #[.slice A n c, .slice B m d] 25)).alloc (.cells #[.slice none 0 0, .slice none 0 0] 25)).alloc (.cells #[] 47) = w3 := ⟨_, rfl⟩
  have z3 : w3.heap.size = w.heap.size + 3 := by rw [← hw3]; simp only [World.size_alloc]
  have b3 : Below w.heap.size w w3 := by rw [← hw3]; exact (((Below.refl w.heap.size w).alloc (Nat.le_refl _) _).alloc (by simp only [World.size_alloc]; omega) _).alloc (by simp only [World.size_alloc]; omega) _
  have X3 := hid (show w3.heap[w.heap.size]? = some (.cells #[.slice A n c, .slice B m d] 25 (0, 0)) by
    rw [← hw3, Below.heap_alloc _ _ _ (by simp only [World.size_alloc]; omega), Below.heap_alloc _ _ _ (by simp only [World.size_alloc]; omega)]
    exact heap_new1 w _)
  have R3 := hid (show w3.heap[w.heap.size + 1]? = some (.cells #[.slice none 0 0, .slice none 0 0] 25 (0, 0)) by
    rw [← hw3, Below.heap_alloc _ _ _ (by simp only [World.size_alloc]; omega)]
    have := heap_new1 (w.alloc (.cells #[.slice A n c, .slice B m d] 25)) (.cells #[.slice none 0 0, .slice none 0 0] 25)
    rw [World.size_alloc] at this
    exact this)
  have E3 : w3.heap[w.heap.size + 1 + 1]? = some (.cells #[] 47 (0, 0)) := by
    rw [← hw3]
    have := heap_new1 ((w.alloc (.cells #[.slice A n c, .slice B m d] 25)).alloc (.cells #[.slice none 0 0, .slice none 0 0] 25)) (.cells #[] 47)
    simp only [World.size_alloc] at this
    exact this
  have O3 := hid (show w3.ownsRow (w.heap.size + 1 + 1) 47 2 (.slice (some ⟨w.heap.size + 1 + 1, 0, none⟩) 0 0) 0 [] from ⟨rfl, .inr ⟨w.heap.size + 1 + 1, 0, #[], rfl, Nat.le_refl _, E3, Nat.le_refl _, Nat.zero_le _, rfl, rfl⟩⟩)
  have HS := hid (fun (h0 : 0 < n) => show ∃ ad, A = some ad ∧ ∀ j u, (cells2 zs)[j]? = some u → w3.cell? (ad.add j) = some u from by
    obtain ⟨ad, rfl, hb, hc⟩ := ha.srcs h0
    exact ⟨ad, rfl, hc w3 (b3.block _ hb)⟩)
  have HB3 := hid b3
  have HW3 := hid hw3
  clear ha hb hi hw3 b3 E3
  go_enter Tryz.func10, Tryz.ntmps10
  go_wp2_with (first
    | (at_builtin
       rw [HW3.out]
       refine wpList_append_copy rfl _ _ 22 rfl (w.heap.size + 1 + 1) 47 i0 _ 2 32 Tryz.underlying22 hi0 hz0 hz1 hz2 rfl (by decide) (w.heap.size + 1 + 1) rfl O3.out A n c (cells2 zs) rfl (by rw [cells2_len, hlen]) HS.out (cells2_one zs) (by unfold maxLen; omega) (by omega) (by omega) (w.heap.size + 3) z3 ?_)
    | fail)
  intro g cap w4 hown4 hg4 hat4
  have z4 := hg4.size
  have k4 : ∀ j, j < w.heap.size + 2 → w4.heap[j]? = w3.heap[j]? := fun j hj => hg4.block j (by omega) (by simp; omega)
  have X4 := hid ((k4 _ (by omega)).trans X3.out)
  have R4 := hid ((k4 _ (by omega)).trans R3.out)
  have B4 := hid (show Below w.heap.size w w4 from ⟨hg4.os.trans HB3.out.os, hg4.tape.trans HB3.out.tape, hg4.output.trans HB3.out.output, by omega, fun j hj => (k4 j (by omega)).trans (HB3.out.block j hj)⟩)
  obtain ⟨w5, hw5⟩ : ∃ w5, w4.setCell ⟨w.heap.size, 0, none⟩ (.slice (some ⟨g, 0, none⟩) n cap) = w5 := ⟨_, rfl⟩
  have x0 := cell_blk X4.out (j := 0) rfl
  have xf := frz_blk X4.out
  have X5 := hid (show w5.heap[w.heap.size]? = some (.cells #[.slice (some ⟨g, 0, none⟩) n cap, .slice B m d] 25 (0, 0)) by rw [← hw5]; exact set0_two' X4.out _)
  have h5 : ∀ k, k ≠ w.heap.size → w5.heap[k]? = w4.heap[k]? := fun k hk => by rw [← hw5]; exact set1_other hk _
  have R5 := hid ((h5 (w.heap.size + 1) (by omega)).trans R4.out)
  have hgg : w.heap.size + 1 + 1 ≤ g ∧ g < w4.heap.size := hown4.lt g rfl
  have O5 := hid (own_heap (w' := w5) hown4 fun k hk => h5 k (by simp only [Value.ownBlock, Option.some.injEq] at hk; omega))
  have B5 := hid (show Below w.heap.size w w5 by rw [← hw5]; exact B4.out.setCell (Nat.le_refl _) _)
  have HW5 := hid hw5
  have z5 : w5.heap.size = w4.heap.size := by rw [← hw5]; simp [World.setCell]
  clear hown4 hw5 k4 h5
  go_upto_region 2 with fail
  rw [HW5.out]
  clear x0 xf
  have x1 := cell_blk X5.out (j := 1) rfl
  go_upto_region 3 with (first
    | (go_at_call 24
       refine (ownListS_any B m d is w5 (HB.out.below B5.out) hm HI.out).mono ?_
       rintro e w6 ⟨⟨B6, d6, rfl, hi6⟩, b6⟩
       have H6 := hid hi6
       have z6 := b6.size
       have B6' := hid (B5.out.trans (b6.mono (by omega)))
       have X6 := hid ((b6.block w.heap.size (by omega)).trans X5.out)
       have R6 := hid ((b6.block (w.heap.size + 1) (by omega)).trans R5.out)
       have O6 := hid (own_heap (w' := w6) O5.out fun k hk => b6.block k (by simp only [Value.ownBlock, Option.some.injEq] at hk; omega))
       have y1 := cell_blk X6.out (j := 1) rfl
       have yf := frz_blk X6.out
       clear hi6 b6)
    | fail)
  obtain ⟨w7, hw7⟩ : ∃ w7, w6.setCell ⟨w.heap.size, 1, none⟩ (.slice B6 m d6) = w7 := ⟨_, rfl⟩
  have h7 : ∀ k, k ≠ w.heap.size → w7.heap[k]? = w6.heap[k]? := fun k hk => by rw [← hw7]; exact set1_other hk _
  have X7 := hid (show w7.heap[w.heap.size]? = some (.cells #[.slice (some ⟨g, 0, none⟩) n cap, .slice B6 m d6] 25 (0, 0)) by rw [← hw7]; exact set1_two' X6.out _)
  have R7 := hid ((h7 (w.heap.size + 1) (by omega)).trans R6.out)
  have O7 := hid (own_heap (w' := w7) O6.out fun k hk => h7 k (by simp only [Value.ownBlock, Option.some.injEq] at hk; omega))
  have B7 := hid (show Below w.heap.size w w7 by rw [← hw7]; exact B6'.out.setCell (Nat.le_refl _) _)
  have z7 : w7.heap.size = w6.heap.size := by rw [← hw7]; simp [World.setCell]
  have H7 := hid h7
  rw [hw7]
  clear hw7 h7 x1 y1 yf
  have x0 := cell_blk X7.out (j := 0) rfl
  have x1 := cell_blk X7.out (j := 1) rfl
  have n0 := cell_blk R7.out (j := 0) rfl
  have n1 := cell_blk R7.out (j := 1) rfl
  have nf := frz_blk R7.out
  go_wp2_with fail
  have hk : ∀ j, j ≠ w.heap.size + 1 → ((w7.setCell ⟨w.heap.size + 1, 0, none⟩ (.slice (some ⟨g, 0, none⟩) n cap)).setCell ⟨w.heap.size + 1, 1, none⟩ (.slice B6 m d6)).heap[j]? = w7.heap[j]? := fun j hj => set2_other hj _ _
  obtain ⟨B, d, e1, hd, hpr⟩ := own_pairs (own_heap (w' := (w7.setCell ⟨w.heap.size + 1, 0, none⟩ (.slice (some ⟨g, 0, none⟩) n cap)).setCell ⟨w.heap.size + 1, 1, none⟩ (.slice B6 m d6)) O7.out fun k hk' => hk k (by simp only [Value.ownBlock, Option.some.injEq] at hk'; omega))
  simp only [Value.slice.injEq] at e1
  obtain ⟨rfl, _, rfl⟩ := e1
  refine bodyPost_ret (v := .agg #[.slice (some ⟨g, 0, none⟩) n cap, .slice B6 m d6]) (by simp [results, Tryz.results10, go_sem, n0, n1]) rfl ⟨⟨_, _, B6, d6, rfl, hpr, fun a h => by injection h with h; rw [← h]; exact ⟨show w.heap.size ≤ g by omega, show g < _ by simp only [World.setCell, Array.size_modify] at z7 ⊢; omega⟩, (H6.out.keep (by simp only [World.setCell, Array.size_modify] at z7 ⊢; omega) fun k h1 h2 => (hk k (by omega)).trans (H7.out k (by omega))).mono (by omega)⟩, ?_⟩
  exact B7.out.trans ((set2_but (rb := w.heap.size) (show w.heap.size ≤ w.heap.size + 1 by omega) _ _).below (Nat.le_refl _))

end Go.Proofs.YtjpdiahbnhemoaaGreatDoor
