/- ApplyBindings in the model. -/
import Derived.Test.YtjpdiahbnhemoaaPutS
import Derived.Test.YtjpdiahbnhemoaaApW
import Derived.Test.YtjpdiahbnhemoaaBvS
import Derived.Test.YtjpdiahbnhemoaaTextS
namespace Go.Proofs.Ytjpdiahbnhemoaa
open Go.RowKit

theorem l2ix_let (c : UInt8) (h : 0 ≤ l2ix c) : ([88, 89, 90, 120, 121, 122, 49, 50, 51, 52, 53, 54] : List UInt8)[(l2ix c).toNat]? = some c := by
  revert h
  refine u8_all (p := fun c => 0 ≤ l2ix c → ([88, 89, 90, 120, 121, 122, 49, 50, 51, 52, 53, 54] : List UInt8)[(l2ix c).toNat]? = some c) ?_ c
  decide +kernel
theorem l2ix_inj {c d : UInt8} {k : Nat} (h1 : l2ix c = (k : Int)) (h2 : l2ix d = (k : Int)) : c = d := by
  have e1 := l2ix_let c (by omega)
  have e2 := l2ix_let d (by omega)
  rw [h1] at e1
  rw [h2] at e2
  rw [e1] at e2
  injection e2
/-- A variable bound, in the model's memory. -/
theorem StndN.set {w : World} {mb : Nat} {S : Nat → Prop} {f : UInt8 → Option Ty} (h : StndN w mb S f) (hs : ¬ S mb) {c : UInt8} {k : Nat} (hc : l2ix c = (k : Int)) {t : Ty} {d : UInt8} {A : Option Addr} {m cap : Nat} (hd : d ≠ 0) (hv : RepN w S t (.int .u8 d.toNat) (.slice A m cap)) :
    StndN ((w.setCell ⟨mb, k * 2, none⟩ (.int .u8 d.toNat)).setCell ⟨mb, k * 2 + 1, none⟩ (.slice A m cap)) mb S (fun e => if e = c then some t else f e) := by
  obtain ⟨cur, h1, h2, h3⟩ := h
  have hk12 : k < 12 := by have := (l2ix_var c).2.2.2; omega
  have hk : ∀ g, S g → S g ∧ ((w.setCell ⟨mb, k * 2, none⟩ (.int .u8 d.toNat)).setCell ⟨mb, k * 2 + 1, none⟩ (.slice A m cap)).heap[g]? = w.heap[g]? := fun g hg => by
    have hne : g ≠ mb := by rintro rfl; exact hs hg
    exact ⟨hg, by rw [Below.heap_setCell _ _ _ _ hne, Below.heap_setCell _ _ _ _ hne]⟩
  refine ⟨(cur.setIfInBounds (k * 2) (.int .u8 d.toNat)).setIfInBounds (k * 2 + 1) (.slice A m cap), ?_, by simpa using h2, fun e j he => ?_⟩
  · simp [World.setCell, Array.getElem?_modify, h1]
  · have hj12 : j < 12 := by have := (l2ix_var e).2.2.2; omega
    by_cases ec : e = c
    · subst ec
      obtain rfl : k = j := by omega
      simp only [if_true]
      refine ⟨d, A, m, cap, hd, ?_, ?_, hv.keep hk⟩
      · rw [Array.getElem?_setIfInBounds, if_neg (by omega), Array.getElem?_setIfInBounds, if_pos rfl, if_pos (by omega)]
      · rw [Array.getElem?_setIfInBounds, if_pos rfl, if_pos (by simp; omega)]
    · have hne : j ≠ k := fun h => ec (l2ix_inj (h ▸ he) hc)
      have h4 := h3 e j he
      have e0 : ∀ x y, ((cur.setIfInBounds (k * 2) x).setIfInBounds (k * 2 + 1) y)[j * 2]? = cur[j * 2]? := fun x y => by
        rw [Array.getElem?_setIfInBounds, if_neg (by omega), Array.getElem?_setIfInBounds, if_neg (by omega)]
      have e1 : ∀ x y, ((cur.setIfInBounds (k * 2) x).setIfInBounds (k * 2 + 1) y)[j * 2 + 1]? = cur[j * 2 + 1]? := fun x y => by
        rw [Array.getElem?_setIfInBounds, if_neg (by omega), Array.getElem?_setIfInBounds, if_neg (by omega)]
      simp only [if_neg ec, e0, e1]
      split at h4
      · exact h4
      · obtain ⟨d', A', m', cap', g0, g1, g2, g3⟩ := h4
        exact ⟨d', A', m', cap', g0, g1, g2, g3.keep hk⟩
theorem StndN.cells {w : World} {mb : Nat} {S : Nat → Prop} {f : UInt8 → Option Ty} (h : StndN w mb S f) (k : Nat) (hk : k < 12) : (∃ x, w.cell? ⟨mb, k * 2, none⟩ = some x) ∧ (∃ x, w.cell? ⟨mb, k * 2 + 1, none⟩ = some x) ∧ ∀ j, w.frozen? ⟨mb, j, none⟩ = false := by
  obtain ⟨cur, h1, h2, _⟩ := h
  exact ⟨⟨_, cell_blk h1 (Array.getElem?_eq_getElem (by omega))⟩, ⟨_, cell_blk h1 (Array.getElem?_eq_getElem (by omega))⟩, frz_blk h1⟩
theorem StndN.lt {w : World} {mb : Nat} {S : Nat → Prop} {f : UInt8 → Option Ty} (h : StndN w mb S f) : mb < w.heap.size := by
  obtain ⟨cur, h1, _⟩ := h
  exact (Array.getElem?_eq_some_iff.1 h1).1

def emptyN : Array Value := #[.int .u8 0, .slice none 0 0, .int .u8 0, .slice none 0 0, .int .u8 0, .slice none 0 0, .int .u8 0, .slice none 0 0, .int .u8 0, .slice none 0 0, .int .u8 0, .slice none 0 0,
  .int .u8 0, .slice none 0 0, .int .u8 0, .slice none 0 0, .int .u8 0, .slice none 0 0, .int .u8 0, .slice none 0 0, .int .u8 0, .slice none 0 0, .int .u8 0, .slice none 0 0]
theorem emptyN_at (k : Nat) (h : k < 12) : emptyN[k * 2]? = some (.int .u8 0) ∧ emptyN[k * 2 + 1]? = some (.slice none 0 0) := by
  have h' : k = 0 ∨ k = 1 ∨ k = 2 ∨ k = 3 ∨ k = 4 ∨ k = 5 ∨ k = 6 ∨ k = 7 ∨ k = 8 ∨ k = 9 ∨ k = 10 ∨ k = 11 := by omega
  rcases h' with h | h | h | h | h | h | h | h | h | h | h | h <;> (subst h; exact ⟨rfl, rfl⟩)
theorem StndN.new (w : World) (S : Nat → Prop) : StndN (w.alloc (.cells emptyN 97)) w.heap.size S (fun _ => none) :=
  ⟨emptyN, heap_new1 _ _, rfl, fun c k hc => emptyN_at k (by have := (l2ix_var c).2.2.2; omega)⟩

theorem bv_all {zs : List (ByteArray × ByteArray)} (h : bvOf zs = true) : ∀ z ∈ zs, ∃ d t, z.1.data.toList = [d] ∧ isVarB d = true ∧ tyOf z.2.data.toList = some t := by
  have key : ∀ (zs : List (ByteArray × ByteArray)) (last : UInt8), bvGo last zs = true → ∀ z ∈ zs, ∃ d t, z.1.data.toList = [d] ∧ isVarB d = true ∧ tyOf z.2.data.toList = some t := by
    intro zs
    induction zs with
    | nil => intro _ _ z hz; cases hz
    | cons y ys ih =>
      intro last h z hz
      unfold bvGo at h
      split at h
      · rename_i c e
        simp only [Bool.and_eq_true] at h
        rcases List.mem_cons.1 hz with rfl | hz
        · obtain ⟨t, ht⟩ := Option.isSome_iff_exists.1 h.1.1.2
          exact ⟨c, t, e, h.1.1.1, ht⟩
        · exact ih c h.2 z hz
      · cases h
  exact key zs 0 h
theorem isN_ok {c : UInt8} (h : ar c = 0) : isN c = isVarX c := by
  revert h
  refine u8_all (p := fun c => ar c = 0 → isN c = isVarX c) ?_ c
  decide +kernel
theorem subN_sub (f : UInt8 → Option Ty) {t : Ty} (h : t.ok) : t.subN f = t.sub (once f) := by
  induction t with
  | lf c => rw [Ty.subN, Ty.sub, isN_ok h]; rfl
  | un c a ih => rw [Ty.subN, Ty.sub, ih h.2]
  | bi c a b iha ihb => rw [Ty.subN, Ty.sub, iha h.2.1, ihb h.2.2]
theorem text_ne0 {t : Ty} (h : t.inner) {w : World} {S : Nat → Prop} {c : UInt8} {A : Option Addr} {m cap : Nat} (hr : RepN w S t (.int .u8 c.toNat) (.slice A m cap)) : c ≠ 0 := by
  have key : ∀ d : UInt8, d ≠ 0 → (Value.int .u8 (c.toNat : Int) = .int .u8 d.toNat) → c ≠ 0 := by
    intro d hd e
    simp only [Value.int.injEq, true_and] at e
    have : c = d := UInt8.toNat_inj.1 (by omega)
    rw [this]
    exact hd
  cases t with
  | lf d => exact key d h hr.1
  | un d a => exact key d h.2.1 hr.1
  | bi d a b => exact key d h.2.1 hr.1

/-- The loop that fills the map. -/
def FillR (w2 : World) (zs : List (ByteArray × ByteArray)) (k : Nat) (wr : World) : Prop :=
  StndN wr w2.heap.size (fun g => w2.heap.size < g ∧ g < wr.heap.size) (bmap (zs.take k)) ∧ Below w2.heap.size w2 wr
theorem fill_step {w2 wr w4 : World} {zs : List (ByteArray × ByteArray)} {k : Nat} {x y : ByteArray} {d : UInt8} {t : Ty} {q : Nat} (hst : StndN wr w2.heap.size (fun g => w2.heap.size < g ∧ g < wr.heap.size) (bmap (zs.take k))) (hbel2 : Below w2.heap.size w2 wr) (hb : Below wr.heap.size wr w4)
    (htk : zs.take (k + 1) = zs.take k ++ [(x, y)]) (hd : x.data.toList = [d]) (hty : tyOf y.data.toList = some t) (hq : l2ix d = (q : Int)) {c4 : UInt8} {A4 : Option Addr} {m4 cap4 : Nat} (lo : Nat) (hlo : wr.heap.size ≤ lo) (hr4 : RepN w4 (fun g => lo ≤ g ∧ g < w4.heap.size) t (.int .u8 c4.toNat) (.slice A4 m4 cap4)) :
    FillR w2 zs (k + 1) ((w4.setCell ⟨w2.heap.size, q * 2, none⟩ (.int .u8 c4.toNat)).setCell ⟨w2.heap.size, q * 2 + 1, none⟩ (.slice A4 m4 cap4)) := by
  have zm := hst.lt
  have z4 := hb.size
  have h4 : StndN w4 w2.heap.size (fun g => w2.heap.size < g ∧ g < w4.heap.size) (bmap (zs.take k)) := hst.keep (hb.block _ zm) fun g hg => ⟨⟨hg.1, by omega⟩, hb.block g hg.2⟩
  have hne := text_ne0 (ok_inner (tyOf_text hty).2.1) hr4
  have h5 := h4.set (fun h => absurd h.1 (Nat.lt_irrefl _)) hq hne (hr4.keep (S' := fun g => w2.heap.size < g ∧ g < w4.heap.size) fun g hg => ⟨⟨by omega, hg.2⟩, rfl⟩)
  have e : bmap (zs.take (k + 1)) = fun e => if e = d then some t else bmap (zs.take k) e := by rw [htk, bmap_snoc, bstep_at hd hty]
  refine ⟨?_, ((hbel2.trans (hb.mono hbel2.size)).setCell (Nat.le_refl _) _).setCell (Nat.le_refl _) _⟩
  rw [e]
  exact h5.keep rfl fun g hg => ⟨⟨hg.1, by simp [World.setCell]; exact hg.2⟩, rfl⟩
theorem l1Read_at (s : ByteArray) (w : World) (hs : s.size ≤ maxLen) (T : Ty) (h : Hid (tyOf s.data.toList = some T)) :
    Calls Try.prog 37 #[.string s] w fun e w' => ∃ (c : UInt8) (A : Option Addr) (m cap : Nat), e = .returned (.tuple #[.agg #[.int .u8 c.toNat, .slice A m cap], .bool true]) ∧ RepN w' (fun g => w.heap.size ≤ g ∧ g < w'.heap.size) T (.int .u8 c.toNat) (.slice A m cap) ∧ Below w.heap.size w w' := by
  refine (l1Read_any s w hs).mono ?_
  rintro e w1 ⟨hb1, ⟨ht, rfl⟩ | ⟨T', c0, A0, m0, cap0, ht, rfl, hrep⟩⟩
  · rw [h.out] at ht; cases ht
  · rw [h.out] at ht
    injection ht with ht
    subst ht
    exact ⟨c0, A0, m0, cap0, rfl, hrep, hb1⟩

end Go.Proofs.Ytjpdiahbnhemoaa
