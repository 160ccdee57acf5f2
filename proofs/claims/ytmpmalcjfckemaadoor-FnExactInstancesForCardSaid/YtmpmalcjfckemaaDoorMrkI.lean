/- Marks laid into the needs of an instance that the program handed back, and read again. -/
import Derived.Test.YtmpmalcjfckemaaDoorMrkN
import Derived.Test.YtmpmalcjfckemaaDoorPrJ
import Derived.Test.YtmpmalcjfckemaaDoorRdW
namespace Go.Proofs.YtmpmalcjfckemaaDoor
open Go.RowKit
set_option linter.unusedVariables false

theorem piV_len (l : List UInt8) : (piV l).1.ns.length ≤ l.length := by
  rw [miG_piV]
  have hj := joinM_cut 58 l []
  rw [List.nil_append] at hj
  rcases hP : cutG 58 [] l with _ | ⟨p, _ | ⟨q, _ | ⟨a, ps⟩⟩⟩
  · exact Nat.zero_le _
  · unfold miG
    simp only
    split <;> rename_i h <;> split at h <;> first | exact Nat.zero_le _ | (cases h; done) | (cases h; exact Nat.zero_le _)
  · rw [hP] at hj
    have hl : l.length = p.length + (1 + q.length) := by
      rw [← hj]
      show (p ++ 58 :: q).length = _
      simp only [List.length_append, List.length_cons]
      omega
    have hc : (cutG 38 [] q).length ≤ q.length + 1 := by
      have : ∀ (l pre : List UInt8), (cutG 38 pre l).length ≤ l.length + 1 := by
        intro l
        induction l with
        | nil => intro pre; simp [cutG]
        | cons c l ih =>
          intro pre
          rcases hc : c == (38 : UInt8) with _ | _
          · rw [cutG_no _ _ hc]
            have := ih (pre ++ [c])
            simp only [List.length_cons]
            omega
          · have e : c = 38 := by simpa using hc
            subst e
            rw [cutG_yes]
            have := ih []
            simp only [List.length_cons]
            omega
      exact this q []
    unfold miG
    simp only
    split <;> rename_i h <;> split at h
    · injection h with h
      subst h
      show ((cutG 38 [] q).map ndP).length ≤ _
      rw [List.length_map]
      omega
    · cases h
    · cases h
    · exact Nat.zero_le _
  · exact Nat.zero_le _

/-- A slice of needs of one's own (or none). -/
def OwnN (w : World) (lo : Nat) (A : Option Addr) (n : Nat) (zs : List (ByteArray × ByteArray)) : Prop :=
  (A = none ∧ n = 0 ∧ zs = []) ∨ ∃ g, A = some ⟨g, 0, none⟩ ∧ lo ≤ g ∧ g < w.heap.size ∧ RowPrN w g n zs
theorem OwnN.prs {w : World} {lo n : Nat} {A : Option Addr} {zs : List (ByteArray × ByteArray)} (h : OwnN w lo A n zs) : Prs w A n zs := by
  rcases h with ⟨rfl, rfl, rfl⟩ | ⟨g, rfl, _, _, h⟩
  · exact ⟨rfl, fun h => absurd h (Nat.lt_irrefl 0)⟩
  · exact h.prs
theorem OwnN.of {w : World} {lo n c : Nat} {A : Option Addr} {zs : List (ByteArray × ByteArray)} (h : w.ownsRow lo 36 2 (.slice A n c) n (cells2 zs)) : OwnN w lo A n zs := by
  have hl : zs.length = n := by
    have h1 := h.1
    rw [cells2_len] at h1
    omega
  rcases h.2 with ⟨hA, rfl⟩ | ⟨g, cap, cur, hA, hb, hg, hc, hm, hs, ht⟩
  · injection hA with h1 h2 h3
    exact .inl ⟨h1, rfl, List.eq_nil_of_length_eq_zero hl⟩
  · injection hA with h1 h2 h3
    subst h1
    refine .inr ⟨g, rfl, hb, (Array.getElem?_eq_some_iff.1 hg).1, cur, hg, by rw [hs]; exact Nat.mul_le_mul_right 2 hc, hl, fun j z hj => ?_⟩
    obtain ⟨e1, e2⟩ := cells2_at zs j z hj
    have hjn : j < n := by rw [← hl]; exact (List.getElem?_eq_some_iff.1 hj).1
    rw [← ht] at e1 e2
    rw [List.getElem?_take, if_pos (by omega)] at e1 e2
    exact ⟨by simpa using e1, by simpa using e2⟩
theorem RowPrN.keep {w w' : World} {g n : Nat} {zs : List (ByteArray × ByteArray)} (h : RowPrN w g n zs) (e : w'.heap[g]? = w.heap[g]?) : RowPrN w' g n zs := by
  obtain ⟨cur, h1, h2⟩ := h
  exact ⟨cur, e.trans h1, h2⟩
theorem OwnN.below {w w' : World} {lo n : Nat} {A : Option Addr} {zs : List (ByteArray × ByteArray)} (h : OwnN w lo A n zs) (hb : Below w.heap.size w w') : OwnN w' lo A n zs := by
  rcases h with h | ⟨g, rfl, h1, h2, h3⟩
  · exact .inl h
  · exact .inr ⟨g, rfl, h1, Nat.lt_of_lt_of_le h2 hb.size, h3.keep (hb.block g h2)⟩

end Go.Proofs.YtmpmalcjfckemaaDoor
