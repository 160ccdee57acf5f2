/- What decoding a text as UTF-8 steps over; what an encoded letter beyond ASCII is made of. Nothing of the program is imported. strings.IndexAny at every text, where the letters asked for are ASCII. -/
import Derived.Laws.RangeAny
import Derived.Lib.IndexAny
import Derived.Test.YtjpdiahbnhemoaaGreatDoorIxL
import Derived.Test.YtjpdiahbnhemoaaGreatDoorJn
import Derived.Deep.QuietTactic
import Derived.BigQuiet
import Derived.Laws.Runes
import Derived.WalkMore
import Derived.Lib.OthersKept
namespace Go.Proofs.YtjpdiahbnhemoaaGreatDoor
open Go

theorem decode_width (s : ByteArray) (i : Nat) (h : i < s.size) : i + (Utf8.decode s i).2 ≤ s.size ∧ ∀ k, 1 ≤ k → k < (Utf8.decode s i).2 → 128 ≤ (s.get! (i + k)).toNat := by
  simp only [Utf8.decode]
  repeat' split
  all_goals simp only [Bool.and_eq_true, decide_eq_true_eq, beq_iff_eq] at *
  all_goals refine ⟨by omega, fun k h1 h2 => ?_⟩
  all_goals first
    | omega
    | (have hk : k = 1 := by omega
       subst hk
       omega)
    | (have hk : k = 1 ∨ k = 2 := by omega
       rcases hk with rfl | rfl <;> omega)
    | (have hk : k = 1 ∨ k = 2 ∨ k = 3 := by omega
       rcases hk with rfl | rfl | rfl <;> omega)

theorem encode_last (r : Int) (h : 128 ≤ r) : ∃ (l : List UInt8) (b : UInt8), (Utf8.encode r).data.toList = l ++ [b] ∧ 1 ≤ l.length ∧ l.length ≤ 3 ∧ 128 ≤ b.toNat := by
  unfold Utf8.encode
  obtain ⟨c, hc⟩ : ∃ c, (if Utf8.valid r = true then r.toNat else Utf8.runeError) = c := ⟨_, rfl⟩
  have hc' : 128 ≤ c := by
    rw [← hc]
    split
    · omega
    · decide
  have hb : 128 ≤ (UInt8.ofNat (0x80 + c % 64)).toNat := by
    rw [UInt8.toNat_ofNat']
    omega
  simp only [hc]
  rw [if_neg (by omega)]
  split
  · exact ⟨[_], _, rfl, by simp, by simp, hb⟩
  · split
    · exact ⟨[_, _], _, rfl, by simp, by simp, hb⟩
    · exact ⟨[_, _, _], _, rfl, by simp, by simp, hb⟩

end Go.Proofs.YtjpdiahbnhemoaaGreatDoor

namespace Go.Proofs.YtjpdiahbnhemoaaGreatDoor
open Go.RowKit
set_option linter.unusedVariables false

/-- All letters of a text are ASCII. -/
def Asc (c : ByteArray) : Prop := ∀ (j : Nat) b, c.data.toList[j]? = some b → b.toNat < 128

set_option maxHeartbeats 2000000 in
set_option maxRecDepth 100000 in
theorem indexRuneErr_any (c : ByteArray) (hc : Asc c) (w : World) :
    Calls Tryz.prog 70 #[.string c, .int .i32 65533] w fun e w' => e = .returned (.int .i64 (-1)) ∧ Below w.heap.size w w' := by
  have HC := hid hc
  clear hc
  go_enter Tryz.func70, Tryz.ntmps70
  go_wp2_with fail
  go_loopg [5, 6] c.size (fun g _ _ wx => ∃ i : Nat, i + g = c.size ∧ wx = w.iter c i)
  case atStart => exact ⟨0, by omega, rfl⟩
  case round =>
    obtain ⟨i, hig, rfl⟩ := hrel
    cases gk with
    | zero =>
      obtain rfl : i = c.size := by omega
      have hnx := fun ty => run_next_end (P := Tryz.prog) w c c.size ty (Nat.lt_irrefl _)
      go_wp2_with fail
      go_ret
      exact ⟨rfl, (Below.refl _ _).alloc (Nat.le_refl _) _⟩
    | succ g =>
      have hi : i < c.size := by omega
      have hx128 : (c[i]'hi).toNat < 128 := HC.out i _ (byte_at hi)
      have hnx := fun ty => run_next_ascii (P := Tryz.prog) w c i ty hi hx128
      obtain ⟨x, hx⟩ : ∃ x : UInt8, c[i]'hi = x := ⟨_, rfl⟩
      rw [hx] at hnx hx128
      have hne : ((x.toNat : Int) == 65533) = false := by simp; omega
      clear hx
      go_wp2_with fail
      go_roundg g
      case measure => omega
      case rel => exact ⟨i + 1, by omega, rfl⟩

set_option maxHeartbeats 4000000 in
set_option maxRecDepth 100000 in
theorem indexRuneHi_any (c : ByteArray) (r : Int) (h : 128 ≤ r) (h2 : r ≤ 2147483647) (hc : Asc c) (hcs : c.size ≤ 64) (w : World) :
    Calls Tryz.prog 70 #[.string c, .int .i32 r] w fun e w' => e = .returned (.int .i64 (-1)) ∧ Below w.heap.size w w' := by
  by_cases hr : r = 65533
  · subst hr
    exact indexRuneErr_any c hc w
  · have hr' : (r == 65533) = false := by simpa using hr
    have h0 : 0 ≤ r := by omega
    have h1 : ¬ r < 128 := by omega
    obtain ⟨l, b, hl, hl1, hl3, hb⟩ := encode_last r h
    obtain ⟨rs, hrs⟩ : ∃ rs, Utf8.encode r = rs := ⟨_, rfl⟩
    rw [hrs] at hl
    have hsz : rs.size = l.length + 1 := by
      have e : rs.size = rs.data.toList.length := by simp
      rw [e, hl, List.length_append]
      rfl
    have hlast : rs.data.toList[l.length]? = some b := by rw [hl, List.getElem?_append_right (Nat.le_refl _)]; simp
    obtain ⟨n, hn⟩ : ∃ n, l.length = n := ⟨_, rfl⟩
    rw [hn] at hsz hlast hl1 hl3
    have hlt : n < rs.size := by omega
    have hbb : rs[n]'hlt = b := by
      have := byte_at hlt
      rw [hlast] at this
      injection this with this
      exact this.symm
    have HC := hid hc
    have HSZ := hid hsz
    have hle : rs.size ≤ 4 := by omega
    have hsub : IntKind.i64.wrap ((rs.size : Int) - 1) = (n : Int) := by rw [IntKind.wrap_i64]; omega
    have HRS := hid hrs
    clear hc hl hl1 hn hlast hsz hr
    obtain ⟨v, hv⟩ : ∃ v, Lib.validRune r = v := ⟨_, rfl⟩
    have HVR := hid (Tryz.utf8_ValidRune r)
    rw [hv] at HVR
    clear hv
    rcases v with _ | _
    · go_enter Tryz.func70, Tryz.ntmps70
      go_wp2_with (first | (go_at_call 82; refine (HVR.out _).mono ?_; rintro e w' ⟨rfl, rfl⟩) | fail)
      go_ret
      exact ⟨rfl, Below.refl _ _⟩
    · go_enter Tryz.func70, Tryz.ntmps70
      go_wp2_with (first | (go_at_call 82; refine (HVR.out _).mono ?_; rintro e w' ⟨rfl, rfl⟩) | fail)
      have hrs := HRS.out
      go_step3
      go_wp2_with fail
      go_loopw [9] (fun i wr => i = .int .i64 n ∧ Below w'.heap.size w' wr) (fun _ _ => 0)
      case atStart => exact ⟨rfl, Below.refl _ _⟩
      case round =>
        obtain ⟨rfl, hbel⟩ := hrel
        by_cases hnc : n < c.size
        · have hx128 : (c[n]'hnc).toNat < 128 := HC.out n _ (byte_at hnc)
          obtain ⟨x, hx⟩ : ∃ x : UInt8, c[n]'hnc = x := ⟨_, rfl⟩
          rw [hx] at hx128
          have hne1 : ((x.toNat : Int) == (b.toNat : Int)) = false := by simp; omega
          have hne2 : ((x.toNat : Int) != (b.toNat : Int)) = true := by simp; omega
          have hne3 : ¬ x.toNat = b.toNat := by omega
          have i0 : (0 : Int) ≤ (n : Int) := by omega
          have i1 : (n : Int) < (c.size : Int) := by omega
          have i2 : (n : Int) < (rs.size : Int) := by omega
          have i3 : (n : Int) + 1 ≤ (c.size : Int) := by omega
          have i4 : (0 : Int) ≤ (n : Int) + 1 := by omega
          have hsum : IntKind.i64.wrap ((n : Int) + 1) = (n : Int) + 1 := by rw [IntKind.wrap_i64]; omega
          have HIB := hid (show Lib.indexByte (c.extract (n + 1) c.size).data.toList b = -1 by
            have hmem : (c.extract (n + 1) c.size).data.toList.contains b = false := by
              refine Bool.eq_false_iff.2 fun e => ?_
              have hm := List.contains_iff_mem.1 e
              rw [ByteArray.data_extract, Array.toList_extract] at hm
              have hm2 : b ∈ c.data.toList := by
                rw [List.extract_eq_take_drop] at hm
                exact List.mem_of_mem_drop (List.mem_of_mem_take hm)
              obtain ⟨j, hj, e⟩ := List.getElem_of_mem hm2
              have := HC.out j b (by rw [List.getElem?_eq_getElem hj, e])
              omega
            have h1 := (ib_neg _ _).2 hmem
            have h2 := Lib.indexByte_ge (c.extract (n + 1) c.size).data.toList b
            omega)
          go_wp2_with fail
          go_step3
          go_wp2_with fail
          go_quiet (fail)
          have hbel2 := below_drewN' hbel nq
          obtain ⟨wq, hwq⟩ : ∃ wq, wr.drewN nq = wq := ⟨_, rfl⟩
          rw [hwq] at hbel2 ⊢
          clear hwq hbel
          go_wp2_with fail
          go_quiet ((go_at_call 75; exact Calls.quiet_of_same ((strings_IndexByte_any _ b _ (-1) HIB).mono fun _ _ h => ⟨h.1, h.2⟩)))
          go_wp2_with fail
          rw [Exit.noGoto_ret]
          simp only [Exit.inBlock]
          go_wp2_with fail
          rw [Exit.noGoto_ret]
          simp only [Exit.inBlock]
          go_ret
          exact ⟨rfl, below_drewN' hbel2 _⟩
        · have i1 : ¬ (n : Int) < (c.size : Int) := by omega
          go_wp2_with fail
          go_ret
          exact ⟨rfl, hbel⟩

theorem indexRuneLo_any (c : ByteArray) (r : Int) (h0 : 0 ≤ r) (h1 : r < 128) (w : World) :
    Calls Tryz.prog 70 #[.string c, .int .i32 r] w fun e w' => e = .returned (.int .i64 (Lib.indexByte c.data.toList r.toNat.toUInt8)) ∧ Below w.heap.size w w' :=
  (Tryz.strings_IndexRune_ascii c r w h0 h1).mono fun e w' h => ⟨h.1, by rw [h.2]; exact Below.refl _ _⟩

theorem hi_not {c : ByteArray} (hc : Asc c) {x : UInt8} (hx : 128 ≤ x.toNat) : c.data.toList.contains x = false := by
  refine Bool.eq_false_iff.2 fun e => ?_
  obtain ⟨j, hj, e⟩ := List.getElem_of_mem (List.contains_iff_mem.1 e)
  have := hc j x (by rw [List.getElem?_eq_getElem hj, e])
  omega
theorem decode_pos (s : ByteArray) (i : Nat) (hi : i < s.size) : 1 ≤ (Utf8.decode s i).2 := by
  by_cases h : (s[i]'hi).toNat < 128
  · rw [decode_ascii s i hi h]; exact Nat.le_refl _
  · exact (decode_high s i hi (by omega)).2
theorem get_bang {s : ByteArray} {j : Nat} (h : j < s.size) : s.get! j = s[j] := by
  have := get_at s j h
  simpa using this
/-- What decoding steps over holds none of the letters asked for. -/
theorem skip_none (s c : ByteArray) (hc : Asc c) (i : Nat) (hi : i < s.size) : ∀ j b, i + 1 ≤ j → j < i + (Utf8.decode s i).2 → s.data.toList[j]? = some b → c.data.toList.contains b = false := by
  intro j b h1 h2 hb
  obtain ⟨hw, hk⟩ := decode_width s i hi
  have h := hk (j - i) (by omega) (by omega)
  have hj : j < s.size := by omega
  rw [show i + (j - i) = j by omega, get_bang hj] at h
  have e := byte_at hj
  rw [hb] at e
  injection e with e
  exact hi_not hc (by rw [e]; exact h)
/-- Asked for the letter that stands at i. -/
theorem indexRune_at (s c : ByteArray) (hc64 : c.size ≤ 64) (hc : Asc c) (i : Nat) (hi : i < s.size) : ∃ k : Int, (∀ W, Calls Tryz.prog 70 #[.string c, .int .i32 ((Utf8.decode s i).1 : Int)] W fun e w' => e = .returned (.int .i64 k) ∧ Below W.heap.size W w') ∧ (k < 0 ↔ c.data.toList.contains (s[i]'hi) = false) := by
  by_cases h : (s[i]'hi).toNat < 128
  · rw [decode_ascii s i hi h]
    refine ⟨_, fun W => indexRuneLo_any c ((s[i]'hi).toNat : Int) (by omega) (by omega) W, ?_⟩
    rw [show (((s[i]'hi).toNat : Int)).toNat.toUInt8 = s[i]'hi by simp]
    exact ib_neg _ _
  · have h' : 128 ≤ (s[i]'hi).toNat := by omega
    refine ⟨-1, fun W => indexRuneHi_any c _ (by have := (decode_high s i hi h').1; omega) (by have := decode_le s i; omega) hc hc64 W, ?_⟩
    rw [hi_not hc h']
    exact ⟨fun _ => rfl, fun _ => by decide⟩

theorem NoAny.skip {s c : List UInt8} {i m : Nat} (h : Lib.NoAny s c i) (hk : ∀ j b, i ≤ j → j < m → s[j]? = some b → c.contains b = false) : Lib.NoAny s c m := fun j b hj hb => by
  by_cases hji : j < i
  · exact h j b hji hb
  · exact hk j b (by omega) hj hb

set_option maxHeartbeats 4000000 in
set_option maxRecDepth 100000 in
theorem indexAnyShort_any (s c : ByteArray) (hc2 : 2 ≤ c.size) (hc64 : c.size ≤ 64) (hc : Asc c) (hs : s.size ≤ 8) (w : World) :
    Calls Tryz.prog 58 #[.string s, .string c] w fun e w' => e = .returned (.int .i64 (Lib.indexAny s.data.toList c.data.toList)) ∧ Below w.heap.size w w' := by
  have HC := hid hc
  have hemp : c.toList.isEmpty = false := by
    rw [ByteArray.toList_eq]
    cases h : c.data.toList with
    | nil =>
      have : c.size = c.data.toList.length := by simp
      rw [h, List.length_nil] at this
      omega
    | cons _ _ => rfl
  have hn1 : ((c.size : Int) == 1) = false := by simp; omega
  have h8z : decide ((8 : Int) < (s.size : Int)) = false := decide_eq_false (by omega)
  have HS8 := hid h8z
  clear hc h8z
  go_enter Tryz.func58, Tryz.ntmps58
  go_wp2_with fail
  refine (Tryz.strings_shouldUseASCIISet _ _).mono ?_
  rintro e w' ⟨rfl, hw⟩
  rw [HS8.out]
  subst hw
  go_wp2_with fail
  go_loopg [9, 10] s.size (fun g _ _ wx => ∃ i : Nat, i + g = s.size ∧ wx.heap[w'.heap.size]? = some (.stringIter s i) ∧ Below w'.heap.size w' wx ∧ Lib.NoAny s.data.toList c.data.toList i)
  case atStart => exact ⟨0, by omega, heap_new1 _ _, (Below.refl _ _).alloc (Nat.le_refl _) _, Lib.NoAny.zero _ _⟩
  case round =>
    obtain ⟨i, hig, hit, hbel, hno⟩ := hrel
    have HN := hid hno
    have HIT := hid hit
    clear hno
    cases gk with
    | zero =>
      obtain rfl : i = s.size := by omega
      have hnx := fun ty => Lib.run_next_end_at (P := Tryz.prog) wr w'.heap.size s s.size ty hit (Nat.lt_irrefl _)
      have hsl : s.data.toList.length = s.size := by simp
      have HNO := hid (Lib.indexAny_none (s := s.data.toList) (chars := c.data.toList) (by rw [hsl]; exact HN.out))
      clear hsl hit
      go_wp2_with fail
      go_ret
      exact ⟨by rw [HNO.out]; rfl, hbel⟩
    | succ g =>
      have hi : i < s.size := by omega
      have hnx := fun ty => Lib.run_next_any_at (P := Tryz.prog) wr w'.heap.size s i ty hit hi
      have hit2 := Lib.iterAt_heap wr w'.heap.size s i (i + (Utf8.decode s i).2) hit
      obtain ⟨k, hk, hkn⟩ := indexRune_at s c hc64 HC.out i hi
      have hskip := skip_none s c HC.out i hi
      have hwd := (decode_width s i hi).1
      have hw1 := decode_pos s i hi
      obtain ⟨r, hr⟩ : ∃ r : Int, ((Utf8.decode s i).1 : Int) = r := ⟨_, rfl⟩
      obtain ⟨d, hd⟩ : ∃ d, (Utf8.decode s i).2 = d := ⟨_, rfl⟩
      rw [hr, hd] at hnx
      rw [hr] at hk
      rw [hd] at hwd hskip hw1 hit2
      have HK := hid hk
      have HSK := hid hskip
      have hlt : w'.heap.size < wr.heap.size := (Array.getElem?_eq_some_iff.1 hit).1
      have HB2 := hid (show Below w'.heap.size w' (wr.iterAt w'.heap.size s (i + d)) from ⟨hbel.os, hbel.tape, hbel.output, by show _ ≤ (wr.heap.setIfInBounds _ _).size; rw [Array.size_setIfInBounds]; exact hbel.size, fun j hj => by show (wr.heap.setIfInBounds _ _)[j]? = _; rw [Array.getElem?_setIfInBounds_ne (by omega)]; exact hbel.block j hj⟩)
      have HX := hid (byte_at hi)
      obtain ⟨x, hx⟩ : ∃ x : UInt8, s[i]'hi = x := ⟨_, rfl⟩
      rw [hx] at hkn HX
      have HIT2 := hid hit2
      clear hk hskip hr hd hit hx hit2
      rcases hin : c.data.toList.contains x with _ | _
      · have hk0 : k < 0 := hkn.2 hin
        have HIN := hid hin
        clear hkn hin
        go_wp2_with fail
        refine (HK.out _).mono ?_
        rintro e w1 ⟨rfl, b1⟩
        go_wp2_with fail
        go_roundg (g + 1 - d)
        case measure => omega
        case rel => exact ⟨i + d, by omega, (b1.block _ (by show _ < (wr.heap.setIfInBounds _ _).size; rw [Array.size_setIfInBounds]; exact hlt)).trans HIT2.out, HB2.out.trans (b1.mono HB2.out.size), NoAny.skip (HN.out.succ HX.out HIN.out) fun j b hj1 hj2 hb => HSK.out j b hj1 hj2 hb⟩
      · have hk0 : ¬ k < 0 := fun h => by rw [hkn.1 h] at hin; cases hin
        have HHIT := hid (Lib.indexAny_hit HN.out HX.out hin)
        clear hkn hin
        go_wp2_with fail
        refine (HK.out _).mono ?_
        rintro e w1 ⟨rfl, b1⟩
        go_wp2_with fail
        go_ret
        exact ⟨by rw [HHIT.out]; rfl, HB2.out.trans (b1.mono HB2.out.size)⟩

set_option maxHeartbeats 1000000 in
theorem indexAny_any (s c : ByteArray) (hc2 : 2 ≤ c.size) (hc64 : c.size ≤ 64) (hc : Asc c) (hs : s.size ≤ 1048576) (w : World) :
    Calls Tryz.prog 58 #[.string s, .string c] w fun e w' => e = .returned (.int .i64 (Lib.indexAny s.data.toList c.data.toList)) ∧ Below w.heap.size w w' := by
  by_cases h8 : s.size ≤ 8
  · exact indexAnyShort_any s c hc2 hc64 hc h8 w
  · refine (Tryz.strings_IndexAny_long (fun w => by kernel_rfl) s c w hc2 (by omega) (by omega) (by omega) hc).mono fun e w' h => ⟨h.1, ?_⟩
    rw [h.2]
    exact ((Below.refl _ _).alloc (Nat.le_refl _) _).alloc (by simp only [World.size_alloc]; omega) _

end Go.Proofs.YtjpdiahbnhemoaaGreatDoor
