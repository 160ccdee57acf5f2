/- What decoding a text as UTF-8 steps over; what an encoded letter beyond ASCII is made of. Nothing of the program is imported. -/
import Derived.Laws.RangeAny
import Derived.Lib.IndexAny
namespace Go.Proofs.YtgfjeplciljhlaaDoor
open Go

theorem decode_width (s : ByteArray) (i : Nat) (h : i < s.size) : i + (Utf8.decode s i).2 ≤ s.size ∧ ∀ k, 1 ≤ k → k < (Utf8.decode s i).2 → 128 ≤ (s.get! (i + k)).toNat := by
  simp only [Utf8.decode]
  repeat' split
  all_goals simp only [Bool.and_eq_true, decide_eq_true_eq, beq_iff_eq] at *
  all_goals refine ⟨by omega, fun k h1 h2 => ?_⟩
  all_goals first
    | omega
    | (have hk : k = 1 := by omega
       subst hk
       omega)
    | (have hk : k = 1 ∨ k = 2 := by omega
       rcases hk with rfl | rfl <;> omega)
    | (have hk : k = 1 ∨ k = 2 ∨ k = 3 := by omega
       rcases hk with rfl | rfl | rfl <;> omega)

theorem encode_last (r : Int) (h : 128 ≤ r) : ∃ (l : List UInt8) (b : UInt8), (Utf8.encode r).data.toList = l ++ [b] ∧ 1 ≤ l.length ∧ l.length ≤ 3 ∧ 128 ≤ b.toNat := by
  unfold Utf8.encode
  obtain ⟨c, hc⟩ : ∃ c, (if Utf8.valid r = true then r.toNat else Utf8.runeError) = c := ⟨_, rfl⟩
  have hc' : 128 ≤ c := by
    rw [← hc]
    split
    · omega
    · decide
  have hb : 128 ≤ (UInt8.ofNat (0x80 + c % 64)).toNat := by
    rw [UInt8.toNat_ofNat']
    omega
  simp only [hc]
  rw [if_neg (by omega)]
  split
  · exact ⟨[_], _, rfl, by simp, by simp, hb⟩
  · split
    · exact ⟨[_, _], _, rfl, by simp, by simp, hb⟩
    · exact ⟨[_, _, _], _, rfl, by simp, by simp, hb⟩

end Go.Proofs.YtgfjeplciljhlaaDoor
