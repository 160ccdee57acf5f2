/- Numbers in decimal in the model: l13Dec. -/
import Derived.Test.YtlpfgiegapelmaaDoorArgsB
import Derived.Lib.ItoaMem
import Derived.Laws.IdiomStrings
import Derived.OwnWalk
namespace Go.Proofs.YtlpfgiegapelmaaDoor
open Go.RowKit
set_option linter.unusedVariables false

theorem convByte1 (W : World) (g : Nat) (c : UInt8) (q : Int) (hq : q = (c.toNat : Int)) (h : W.cell? ⟨g, 0, none⟩ = some (.int .u8 q)) : (convert 22 9 (.slice (some ⟨g, 0, none⟩) 1 1)).run Tryd.prog W = .ok (.string (strOf [c])) W := by
  refine run_convert_bytes_back _ _ _ 5 ⟨g, 0, none⟩ 1 [c] Tryd.underlying22 Tryd.underlying5 Tryd.underlying9 (fun j hj => ?_)
  have e : j = 0 := by simp at hj; omega
  subst e
  rw [hq] at h
  exact h
theorem dec_step {m : Nat} (h : ¬ m < 10) : Lib.decDigits m = Lib.decDigits (m / 10) ++ [UInt8.ofNat (48 + m % 10)] := by rw [Lib.decDigits, dif_neg h]
theorem dec_len : ∀ (k m : Nat), m < 10 ^ (k + 1) → (Lib.decDigits m).length ≤ k + 1
  | 0, m, h => by rw [Lib.decDigits_one (by omega)]; simp
  | k + 1, m, h => by
    by_cases hm : m < 10
    · rw [Lib.decDigits_one hm]; simp
    · rw [dec_step hm, List.length_append]
      have := dec_len k (m / 10) (by rw [Nat.pow_succ] at h; omega)
      simp only [List.length_cons, List.length_nil]
      omega

def DcR (w : World) (n : Nat) (v o : Value) (wr : World) : Prop :=
  ∃ (m : Nat) (b : ByteArray), m ≤ n ∧ v = .int .i64 (m : Int) ∧ o = .string b ∧ Lib.decDigits n = Lib.decDigits m ++ b.data.toList ∧ Below w.heap.size w wr

set_option maxHeartbeats 1000000 in
set_option maxRecDepth 100000 in
theorem decP_any (n : Nat) (hn : n ≤ 9223372036854775807) (w : World) (r : ByteArray) (hr : Hid (strOf (Lib.decDigits n) = r)) :
    Calls Tryd.prog 66 #[.int .i64 (n : Int)] w fun e w' => e = .returned (.string r) ∧ Below w.heap.size w w' := by
  have hlen := dec_len 18 n (by omega)
  have HL := hid hlen
  clear hlen
  go_enter Tryd.func66, Tryd.ntmps66
  go_wp2_with fail
  go_loopw [0, 3] (fun v o wr => DcR w n v o wr) (fun v _ _ => (intOf v).toNat)
  case atStart => exact ⟨n, ⟨#[]⟩, Nat.le_refl _, rfl, rfl, by simp, Below.refl _ _⟩
  case round =>
    obtain ⟨m, b, hm, rfl, rfl, hd, hbel⟩ := hrel
    have hbs : b.size ≤ 19 := by
      have h1 := HL.out
      have h2 := congrArg List.length hd
      rw [List.length_append] at h2
      have h3 : b.size = b.data.toList.length := by simp
      omega
    have HD := hid hd
    clear hd
    by_cases h9 : m < 10
    · obtain ⟨c, hc⟩ : ∃ c : UInt8, UInt8.ofNat (48 + m) = c := ⟨_, rfl⟩
      have hcn : c.toNat = 48 + m := by rw [← hc, UInt8.toNat_ofNat']; omega
      have h9' : ¬ (9 : Int) < (m : Int) := by omega
      have hw1 : IntKind.i64.wrap (48 + (m : Int)) = 48 + (m : Int) := by rw [IntKind.wrap_i64]; omega
      have hw2 : IntKind.u8.wrap (48 + (m : Int)) = 48 + (m : Int) := by rw [IntKind.wrap_u8]; omega
      have hcv : (convert 22 9 (.slice (some ⟨wr.heap.size, 0, none⟩) 1 1)).run Tryd.prog (wr.alloc (.cells #[.int .u8 (48 + (m : Int))] 5)) = .ok (.string (strOf [c])) (wr.alloc (.cells #[.int .u8 (48 + (m : Int))] 5)) := convByte1 _ _ c _ (by rw [hcn]; omega) (cell_blk (heap_new1 wr _) rfl)
      have hcs : (strOf [c]).size = 1 := rfl
      have hcat : ¬ 9223372036854775807 < (strOf [c]).size + b.size := by omega
      have HC := hid hc
      clear hc hcn
      go_wp2_with fail
      go_ret
      refine ⟨?_, hbel.alloc hbel.size _⟩
      have h := HD.out
      rw [Lib.decDigits_one h9, HC.out] at h
      rw [← hr.out, h]
      show Ending.returned (.string _) = .returned (.string _)
      congr 2
    · obtain ⟨c, hc⟩ : ∃ c : UInt8, UInt8.ofNat (48 + m % 10) = c := ⟨_, rfl⟩
      have hcn : c.toNat = 48 + m % 10 := by rw [← hc, UInt8.toNat_ofNat']; omega
      obtain ⟨q, hq⟩ : ∃ q, m % 10 = q := ⟨_, rfl⟩
      obtain ⟨d, hd⟩ : ∃ d, m / 10 = d := ⟨_, rfl⟩
      have hmod : Int.tmod (m : Int) 10 = (q : Int) := by rw [← hq]; rfl
      have hdiv : Int.tdiv (m : Int) 10 = (d : Int) := by rw [← hd]; rfl
      have h9' : (9 : Int) < (m : Int) := by omega
      have hw1 : IntKind.i64.wrap (48 + (q : Int)) = 48 + (q : Int) := by rw [IntKind.wrap_i64]; omega
      have hw2 : IntKind.u8.wrap (48 + (q : Int)) = 48 + (q : Int) := by rw [IntKind.wrap_u8]; omega
      have hw3 : IntKind.i64.wrap (q : Int) = (q : Int) := by rw [IntKind.wrap_i64]; omega
      have hw4 : IntKind.i64.wrap (d : Int) = (d : Int) := by rw [IntKind.wrap_i64]; omega
      have hcv : (convert 22 9 (.slice (some ⟨wr.heap.size, 0, none⟩) 1 1)).run Tryd.prog (wr.alloc (.cells #[.int .u8 (48 + (q : Int))] 5)) = .ok (.string (strOf [c])) (wr.alloc (.cells #[.int .u8 (48 + (q : Int))] 5)) := convByte1 _ _ c _ (by rw [hcn]; omega) (cell_blk (heap_new1 wr _) rfl)
      have hcs : (strOf [c]).size = 1 := rfl
      have hcat : ¬ 9223372036854775807 < (strOf [c]).size + b.size := by omega
      have HC := hid (show Lib.decDigits m = Lib.decDigits d ++ [c] by rw [dec_step h9, hd, hc])
      have hdm : d < m := by omega
      clear hc hcn hq hd
      go_wp2_with fail
      go_roundw
      case rel =>
        refine ⟨d, _, by omega, by go_num, rfl, ?_, hbel.alloc hbel.size _⟩
        rw [HD.out, HC.out]
        simp [ByteArray.data_append, strOf]
      case measure => simp [intOf]; omega

set_option maxHeartbeats 1000000 in
set_option maxRecDepth 100000 in
theorem l13Dec_any (n : Int) (h0 : -9223372036854775808 ≤ n) (h1 : n ≤ 9223372036854775807) (w : World) (r : ByteArray) (hr : Hid (strOf (Lib.itoa n) = r)) :
    Calls Tryd.prog 66 #[.int .i64 n] w fun e w' => e = .returned (.string r) ∧ Below w.heap.size w w' := by
  by_cases hp : 0 ≤ n
  · obtain ⟨k, rfl⟩ : ∃ k : Nat, n = (k : Int) := ⟨n.toNat, by omega⟩
    exact decP_any k (by omega) w r (by rw [← Lib.itoa_nonneg]; exact hr)
  · by_cases hm : n = -9223372036854775808
    · have hlt : n < -9223372036854775807 := by omega
      rw [hm] at hr
      have HR := hid (show r = { data := #[45, 57, 50, 50, 51, 51, 55, 50, 48, 51, 54, 56, 53, 52, 55, 55, 53, 56, 48, 56] } by rw [← hr.out]; decide +kernel)
      go_enter Tryd.func66, Tryd.ntmps66
      go_wp2_with fail
      go_ret
      exact ⟨by rw [HR.out]; rfl, Below.refl _ _⟩
    · obtain ⟨k, rfl⟩ : ∃ k : Nat, n = -(k : Int) := ⟨(-n).toNat, by omega⟩
      obtain ⟨d, hd⟩ : ∃ d, strOf (Lib.decDigits k) = d := ⟨_, rfl⟩
      have HDC := hid (fun W => decP_any k (by omega) W d hd)
      have hk0 : ¬ -(k : Int) < -9223372036854775807 := by omega
      have hk1 : -(k : Int) < 0 := by omega
      have hw : IntKind.i64.wrap (- -(k : Int)) = (k : Int) := by rw [IntKind.wrap_i64]; omega
      have hw' : IntKind.i64.wrap ((k : Int)) = (k : Int) := by rw [IntKind.wrap_i64]; omega
      have hlen := dec_len 18 k (by omega)
      have hds : d.size ≤ 19 := by rw [← hd, strOf_size]; exact hlen
      have HR := hid (show r = strOf (45 :: d.data.toList) by rw [← hr.out, Lib.itoa_neg k (by omega), ← hd, strOf_list])
      clear hd hlen hr
      go_enter Tryd.func66, Tryd.ntmps66
      go_wp2_with fail
      refine (HDC.out _).mono ?_
      rintro e w1 ⟨rfl, hb⟩
      go_wp2_with fail
      go_ret
      refine ⟨?_, hb⟩
      rw [HR.out]
      show Ending.returned (.string _) = .returned (.string _)
      congr 2

end Go.Proofs.YtlpfgiegapelmaaDoor
