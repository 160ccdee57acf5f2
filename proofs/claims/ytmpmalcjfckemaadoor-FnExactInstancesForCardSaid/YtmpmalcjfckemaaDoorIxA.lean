/- What decoding a text as UTF-8 steps over; what an encoded letter beyond ASCII is made of. Nothing of the program is imported. strings.IndexAny at every text, where the letters asked for are ASCII. -/
import Derived.Laws.RangeAny
import Derived.Lib.IndexAny
import Derived.Test.YtmpmalcjfckemaaDoorIxL
import Derived.Test.YtmpmalcjfckemaaDoorErr
import Derived.Deep.QuietTactic
import Derived.BigQuiet
import Derived.Laws.Runes
import Derived.WalkMore
import Derived.Lib.OthersKept
namespace Go.Proofs.YtmpmalcjfckemaaDoor
open Go

theorem decode_width (s : ByteArray) (i : Nat) (h : i < s.size) : i + (Utf8.decode s i).2 ≤ s.size ∧ ∀ k, 1 ≤ k → k < (Utf8.decode s i).2 → 128 ≤ (s.get! (i + k)).toNat := by
  simp only [Utf8.decode]
  repeat' split
  all_goals simp only [Bool.and_eq_true, decide_eq_true_eq, beq_iff_eq] at *
  all_goals refine ⟨by omega, fun k h1 h2 => ?_⟩
  all_goals first
    | omega
    | (have hk : k = 1 := by omega
       subst hk
       omega)
    | (have hk : k = 1 ∨ k = 2 := by omega
       rcases hk with rfl | rfl <;> omega)
    | (have hk : k = 1 ∨ k = 2 ∨ k = 3 := by omega
       rcases hk with rfl | rfl | rfl <;> omega)

theorem encode_last (r : Int) (h : 128 ≤ r) : ∃ (l : List UInt8) (b : UInt8), (Utf8.encode r).data.toList = l ++ [b] ∧ 1 ≤ l.length ∧ l.length ≤ 3 ∧ 128 ≤ b.toNat := by
  unfold Utf8.encode
  obtain ⟨c, hc⟩ : ∃ c, (if Utf8.valid r = true then r.toNat else Utf8.runeError) = c := ⟨_, rfl⟩
  have hc' : 128 ≤ c := by
    rw [← hc]
    split
    · omega
    · decide
  have hb : 128 ≤ (UInt8.ofNat (0x80 + c % 64)).toNat := by
    rw [UInt8.toNat_ofNat']
    omega
  simp only [hc]
  rw [if_neg (by omega)]
  split
  · exact ⟨[_], _, rfl, by simp, by simp, hb⟩
  · split
    · exact ⟨[_, _], _, rfl, by simp, by simp, hb⟩
    · exact ⟨[_, _, _], _, rfl, by simp, by simp, hb⟩

end Go.Proofs.YtmpmalcjfckemaaDoor

namespace Go.Proofs.YtmpmalcjfckemaaDoor
open Go.RowKit
set_option linter.unusedVariables false

/-- All letters of a text are ASCII. -/
def Asc (c : ByteArray) : Prop := ∀ (j : Nat) b, c.data.toList[j]? = some b → b.toNat < 128

theorem hi_not {c : ByteArray} (hc : Asc c) {x : UInt8} (hx : 128 ≤ x.toNat) : c.data.toList.contains x = false := by
  refine Bool.eq_false_iff.2 fun e => ?_
  obtain ⟨j, hj, e⟩ := List.getElem_of_mem (List.contains_iff_mem.1 e)
  have := hc j x (by rw [List.getElem?_eq_getElem hj, e])
  omega
theorem decode_pos (s : ByteArray) (i : Nat) (hi : i < s.size) : 1 ≤ (Utf8.decode s i).2 := by
  by_cases h : (s[i]'hi).toNat < 128
  · rw [decode_ascii s i hi h]; exact Nat.le_refl _
  · exact (decode_high s i hi (by omega)).2
theorem get_bang {s : ByteArray} {j : Nat} (h : j < s.size) : s.get! j = s[j] := by
  have := get_at s j h
  simpa using this
/-- What decoding steps over holds none of the letters asked for. -/
theorem skip_none (s c : ByteArray) (hc : Asc c) (i : Nat) (hi : i < s.size) : ∀ j b, i + 1 ≤ j → j < i + (Utf8.decode s i).2 → s.data.toList[j]? = some b → c.data.toList.contains b = false := by
  intro j b h1 h2 hb
  obtain ⟨hw, hk⟩ := decode_width s i hi
  have h := hk (j - i) (by omega) (by omega)
  have hj : j < s.size := by omega
  rw [show i + (j - i) = j by omega, get_bang hj] at h
  have e := byte_at hj
  rw [hb] at e
  injection e with e
  exact hi_not hc (by rw [e]; exact h)
theorem NoAny.skip {s c : List UInt8} {i m : Nat} (h : Lib.NoAny s c i) (hk : ∀ j b, i ≤ j → j < m → s[j]? = some b → c.contains b = false) : Lib.NoAny s c m := fun j b hj hb => by
  by_cases hji : j < i
  · exact h j b hji hb
  · exact hk j b (by omega) hj hb

end Go.Proofs.YtmpmalcjfckemaaDoor
