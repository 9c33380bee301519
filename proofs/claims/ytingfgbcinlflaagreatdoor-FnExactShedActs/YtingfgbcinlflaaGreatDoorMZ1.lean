/-
  Decimal figures read: the walks of the two readers. A text behind its first byte; numbers read from any text. The name of a snapshot's file, and the index that has it: the walks. Short texts: the walks of what writes them. The text of a snapshot: what it is, and the walks of what writes it. The text of a snapshot: the walks of SnapText on both sides.
-/
import Derived.Test.YtingfgbcinlflaaGreatDoorDecP
import Derived.Test.YtingfgbcinlflaaGreatDoorRea
import Derived.Test.YtingfgbcinlflaaGreatDoorDec
import Derived.Test.YtingfgbcinlflaaGreatDoorNl
import Derived.Test.YtingfgbcinlflaaGreatDoorGn
import Derived.Test.YtingfgbcinlflaaGreatDoorRvs
import Derived.Test.YtingfgbcinlflaaGreatDoorSeal
import Derived.Test.YtingfgbcinlflaaGreatDoorCt
import Derived.Test.YtingfgbcinlflaaGreatDoorUns
namespace Go.Proofs.YtingfgbcinlflaaGreatDoor
open Go.RowKit

theorem rd_ret {s : ByteArray} {x a : Int} {z b : Bool} (HR : Hid (rd s = (x, z))) (h : rd s = (a, b)) : Ending.returned (.tuple #[.int .i64 a, .bool b]) = .returned (.tuple #[.int .i64 x, .bool z]) := by
  rw [HR.out] at h
  simp only [Prod.mk.injEq] at h
  rw [h.1, h.2]
theorem valD_bd {s : ByteArray} {l : List Nat} (h : figTo s l) (hs : s.size ≤ 10) (hlt : l.length < s.size) : valD l < 1000000000 := by
  have h1 := valD_lt l h.2.1
  have h2 : 10 ^ l.length ≤ 10 ^ 9 := Nat.pow_le_pow_right (by decide) (by omega)
  omega
theorem valD_bd' {s : ByteArray} {l : List Nat} (h : figTo s l) (hs : s.size ≤ 10) : valD l < 10000000000 := by
  have h1 := valD_lt l h.2.1
  have h2 : 10 ^ l.length ≤ 10 ^ 10 := Nat.pow_le_pow_right (by decide) (by have := h.1; omega)
  omega

set_option maxRecDepth 10000 in
set_option maxHeartbeats 400000 in
theorem specReadDec_long (s : ByteArray) (w : World) (hs0 : s.size ≤ 9223372036854775807) (hs : 10 < s.size) :
    Calls Tryz.prog 39 #[.string s] w fun e w' => e = .returned (.tuple #[.int .i64 0, .bool false]) ∧ Below w.heap.size w w' := by
  go_enter Tryz.func39, Tryz.ntmps39
  go_wp2
  go_ret2
  exact ⟨rfl, Below.refl _ _⟩

theorem figTo_next {s : ByteArray} {i m : Nat} {l : List Nat} (HF : Hid (figTo s l ∧ l.length = i ∧ valD l = m)) (hlt : i < s.size) (h1 : 48 ≤ s[i].toNat) (h2 : s[i].toNat ≤ 57) :
    Hid (figTo s (l ++ [s[i].toNat - 48]) ∧ (l ++ [s[i].toNat - 48]).length = i + 1 ∧ valD (l ++ [s[i].toNat - 48]) = 10 * m + (s[i].toNat - 48)) := by
  obtain ⟨f1, f2, f3⟩ := HF.out
  subst f2
  exact ⟨figTo_snoc f1 hlt h1 h2, by simp, by rw [valD_snoc, f3]⟩
theorem rd_end_bad {s : ByteArray} {i m : Nat} {l : List Nat} (HF : Hid (figTo s l ∧ l.length = i ∧ valD l = m)) (hlt : ¬ i < s.size) (hi : i ≤ s.size) (hne : (!(bstr (decI ((m : Int).toNat))).toList == s.toList) = true) : rd s = (0, false) := by
  obtain ⟨f1, f2, f3⟩ := HF.out
  rw [Int.toNat_natCast, ← f3, same_figs f1 (by omega)] at hne
  by_cases h0 : s.size = 0
  · exact rd_out (Or.inl h0)
  · have hz : (s.data.toList.getD 0 0).toNat = 48 ∧ 1 < s.size := by
      by_cases hz : (s.data.toList.getD 0 0).toNat = 48 ∧ 1 < s.size
      · exact hz
      · rw [decide_eq_true ⟨h0, hz⟩] at hne
        simp at hne
    rw [byteAt s 0 (by omega)] at hz
    exact rd_nought hz.2 hz.1
theorem rd_end_ok {s : ByteArray} {i m : Nat} {l : List Nat} (HF : Hid (figTo s l ∧ l.length = i ∧ valD l = m)) (hlt : ¬ i < s.size) (hi : i ≤ s.size) (hs : s.size ≤ 10) (hm : m ≤ 1000000000) (hne : (!(bstr (decI ((m : Int).toNat))).toList == s.toList) = false) :
    rd s = ((m : Int), true) := by
  obtain ⟨f1, f2, f3⟩ := HF.out
  rw [Int.toNat_natCast, ← f3, same_figs f1 (by omega)] at hne
  have hh : s.size ≠ 0 ∧ ¬ ((s.data.toList.getD 0 0).toNat = 48 ∧ 1 < s.size) := by
    by_cases hh : s.size ≠ 0 ∧ ¬ ((s.data.toList.getD 0 0).toNat = 48 ∧ 1 < s.size)
    · exact hh
    · rw [decide_eq_false hh] at hne
      simp at hne
  rw [← f3]
  exact rd_all f1 (by omega) (by omega) hh.2 (by omega)

set_option maxRecDepth 10000 in
set_option maxHeartbeats 1000000 in
theorem specReadDec_any (s : ByteArray) (w : World) (hs : s.size ≤ 10) (x : Int) (z : Bool) (HR : Hid (rd s = (x, z))) :
    Calls Tryz.prog 39 #[.string s] w fun e w' => e = .returned (.tuple #[.int .i64 x, .bool z]) ∧ Below w.heap.size w w' := by
  go_enter Tryz.func39, Tryz.ntmps39
  go_wp2
  go_loop [4, 5] (fun n c => ∃ (i m : Nat) (l : List Nat), i ≤ s.size ∧ c = .int .i64 i ∧ n = .int .i64 m ∧ Hid (figTo s l ∧ l.length = i ∧ valD l = m)) (fun _ c => s.size - (intOf c).toNat)
  case atStart => exact ⟨0, 0, [], Nat.zero_le _, rfl, rfl, figTo_nil s, rfl, rfl⟩
  case round =>
    obtain ⟨i, m, l, hi, rfl, rfl, HF⟩ := hrel
    by_cases hlt : i < s.size
    · have hm : m < 1000000000 := by obtain ⟨h1, h2, h3⟩ := HF.out; rw [← h3]; exact valD_bd h1 hs (by omega)
      have h256 := s[i].toNat_lt
      by_cases h1 : s[i].toNat < 48
      · go_wp2
        go_ret2
        exact ⟨rd_ret HR (rd_none hlt (Or.inl (by omega))), Below.refl _ _⟩
      · by_cases h2 : 57 < s[i].toNat
        · go_wp2
          go_ret2
          exact ⟨rd_ret HR (rd_none hlt (Or.inr (by omega))), Below.refl _ _⟩
        · go_wp2
          go_round
          case rel => exact ⟨i + 1, 10 * m + (s[i].toNat - 48), l ++ [s[i].toNat - 48], by omega, by go_num, by go_num, figTo_next HF hlt (by omega) (by omega)⟩
          case measure => simp [intOf]; omega
    · have hm : m < 10000000000 := by obtain ⟨h1, h2, h3⟩ := HF.out; rw [← h3]; exact valD_bd' h1 hs
      by_cases hx : 1000000000 < m
      · go_wp2
        go_ret2
        exact ⟨rd_ret HR (by obtain ⟨h1, h2, h3⟩ := HF.out; exact rd_big h1 (by omega) (by omega)), Below.refl _ _⟩
      · have hx' : decide (1000000000 < (m : Int)) = false := by simp; omega
        go_wp2_with (go_at_call 54; refine (specDecimal_any _ _ (by omega) (by omega)).mono ?_; rintro e w1 ⟨rfl, hb1⟩)
        · have hne : (!(bstr (decI ((m : Int).toNat))).toList == s.toList) = true := by assumption
          go_ret2
          exact ⟨rd_ret HR (rd_end_bad HF hlt hi hne), hb1⟩
        · have hne : (!(bstr (decI ((m : Int).toNat))).toList == s.toList) = false := by assumption
          go_ret2
          exact ⟨rd_ret HR (rd_end_ok HF hlt hi hs (by omega) hne), hb1⟩

set_option maxRecDepth 10000 in
set_option maxHeartbeats 400000 in
theorem readDec_out (s : ByteArray) (w : World) (hs0 : s.size ≤ 9223372036854775807) (hs : s.size = 0 ∨ 10 < s.size) :
    Calls Tryz.prog 47 #[.string s] w fun e w' => e = .returned (.tuple #[.int .i64 0, .bool false]) ∧ Below w.heap.size w w' := by
  by_cases h1 : s.size = 0
  · have h2 : ((s.size : Int) == 0) = true := beq_iff_eq.2 (by omega)
    clear hs h1
    go_enter Tryz.func47, Tryz.ntmps47
    go_wp2
    go_step3
    go_wp2
    rw [Exit.noGoto_ret]
    go_ret2
    exact ⟨rfl, Below.refl _ _⟩
  · have h2 : ((s.size : Int) == 0) = false := beq_eq_false_iff_ne.2 (by omega)
    have h3 : 10 < s.size := by omega
    clear hs h1
    go_enter Tryz.func47, Tryz.ntmps47
    go_wp2
    go_step3
    go_wp2
    rw [Exit.noGoto_ret]
    go_ret2
    exact ⟨rfl, Below.refl _ _⟩

set_option maxRecDepth 10000 in
set_option maxHeartbeats 400000 in
theorem readDec_nought (s : ByteArray) (w : World) (hs : s.size ≤ 10) (h1 : 1 < s.size) (hz : s[0].toNat = 48) :
    Calls Tryz.prog 47 #[.string s] w fun e w' => e = .returned (.tuple #[.int .i64 0, .bool false]) ∧ Below w.heap.size w w' := by
  have h2 : ((s.size : Int) == 0) = false := beq_eq_false_iff_ne.2 (by omega)
  have hz2 : ((s[0].toNat : Int) == 48) = true := beq_iff_eq.2 (by omega)
  clear hz
  go_enter Tryz.func47, Tryz.ntmps47
  go_wp2
  go_step3
  go_wp2
  rw [Exit.noGoto_ret]
  go_ret2
  exact ⟨rfl, Below.refl _ _⟩

set_option maxRecDepth 10000 in
set_option maxHeartbeats 1000000 in
theorem readDec_in (s : ByteArray) (w : World) (hs : s.size ≤ 10) (h1 : 0 < s.size) (hz : ¬ (s[0].toNat = 48 ∧ 1 < s.size)) (x : Int) (z : Bool) (HR : Hid (rd s = (x, z))) :
    Calls Tryz.prog 47 #[.string s] w fun e w' => e = .returned (.tuple #[.int .i64 x, .bool z]) ∧ Below w.heap.size w w' := by
  have h2 : ((s.size : Int) == 0) = false := beq_eq_false_iff_ne.2 (by omega)
  have HZ : Hid (¬ (s[0].toNat = 48 ∧ 1 < s.size)) := hz
  have hcase : ((s[0].toNat : Int) == 48) = false ∨ (((s[0].toNat : Int) == 48) = true ∧ ¬ (1 : Int) < (s.size : Int)) := by
    by_cases h : s[0].toNat = 48
    · right; exact ⟨beq_iff_eq.2 (by omega), by intro h'; exact hz ⟨h, by omega⟩⟩
    · left; exact beq_eq_false_iff_ne.2 (by omega)
  clear hz
  rcases hcase with hc | ⟨hc, hc2⟩
  all_goals
    go_enter Tryz.func47, Tryz.ntmps47
    go_wp2
    go_step3
    go_wp2
    go_step3
    go_wp2
    go_loop [4, 5] (fun n c => ∃ (i m : Nat) (l : List Nat), i ≤ s.size ∧ c = .int .i64 i ∧ n = .int .i64 m ∧ Hid (figTo s l ∧ l.length = i ∧ valD l = m)) (fun _ c => s.size - (intOf c).toNat)
    case atStart => exact ⟨0, 0, [], Nat.zero_le _, rfl, rfl, figTo_nil s, rfl, rfl⟩
    case round =>
      obtain ⟨i, m, l, hi, rfl, rfl, HF⟩ := hrel
      clear hc
      by_cases hlt : i < s.size
      · have hm : m < 1000000000 := by obtain ⟨h1, h2, h3⟩ := HF.out; rw [← h3]; exact valD_bd h1 hs (by omega)
        have h256 := s[i].toNat_lt
        have hne : ((i : Int) != (s.size : Int)) = true := by rw [bne_iff_ne]; omega
        by_cases h1 : s[i].toNat < 48
        · go_wp2
          go_ret2
          exact ⟨rd_ret HR (rd_none hlt (Or.inl (by omega))), Below.refl _ _⟩
        · by_cases h2 : 57 < s[i].toNat
          · go_wp2
            go_ret2
            exact ⟨rd_ret HR (rd_none hlt (Or.inr (by omega))), Below.refl _ _⟩
          · go_wp2
            go_round
            case rel => exact ⟨i + 1, 10 * m + (s[i].toNat - 48), l ++ [s[i].toNat - 48], by omega, by go_num, by go_num, figTo_next HF hlt (by omega) (by omega)⟩
            case measure => simp [intOf]; omega
      · have hm : m < 10000000000 := by obtain ⟨h1, h2, h3⟩ := HF.out; rw [← h3]; exact valD_bd' h1 hs
        have hne : ((i : Int) != (s.size : Int)) = false := by rw [bne_eq_false_iff_eq]; omega
        by_cases hx : 1000000000 < m
        · go_wp2
          go_ret2
          exact ⟨rd_ret HR (by obtain ⟨h1, h2, h3⟩ := HF.out; exact rd_big h1 (by omega) (by omega)), Below.refl _ _⟩
        · go_wp2
          go_ret2
          exact ⟨rd_ret HR (by obtain ⟨h1, h2, h3⟩ := HF.out; rw [← h3]; exact rd_all h1 (by omega) (by omega) (by rw [byteAt s 0 (by omega)]; exact HZ.out) (by omega)), Below.refl _ _⟩

theorem readDec_any (s : ByteArray) (w : World) (hs : s.size ≤ 10) (x : Int) (z : Bool) (HR : Hid (rd s = (x, z))) :
    Calls Tryz.prog 47 #[.string s] w fun e w' => e = .returned (.tuple #[.int .i64 x, .bool z]) ∧ Below w.heap.size w w' := by
  by_cases h0 : s.size = 0
  · have := readDec_out s w (by omega) (Or.inl h0)
    rw [← Ending.returned.inj (rd_ret HR (rd_out (Or.inl h0)))]
    exact this
  · by_cases hz : s[0].toNat = 48 ∧ 1 < s.size
    · have := readDec_nought s w hs hz.2 hz.1
      rw [← Ending.returned.inj (rd_ret HR (rd_nought hz.2 hz.1))]
      exact this
    · exact readDec_in s w hs (by omega) hz x z HR

end Go.Proofs.YtingfgbcinlflaaGreatDoor

namespace Go.Proofs.YtingfgbcinlflaaGreatDoor
open Go Go.RowKit

/-- A text behind its first byte. -/
def tlS (s : ByteArray) : ByteArray := s.extract 1 s.size
theorem tlS_size (s : ByteArray) : (tlS s).size = s.size - 1 := by unfold tlS; rw [ByteArray.size_extract]; omega
theorem readDec_all (s : ByteArray) (w : World) (hs : s.size ≤ 9223372036854775807) :
    Calls Tryz.prog 47 #[.string s] w fun e w' => e = .returned (.tuple #[.int .i64 (rd s).1, .bool (rd s).2]) ∧ Below w.heap.size w w' := by
  by_cases h : s.size ≤ 10
  · exact readDec_any s w h _ _ rfl
  · have e := rd_out (s := s) (.inr (by omega))
    rw [e]
    exact readDec_out s w hs (.inr (by omega))
theorem specReadDec_all (s : ByteArray) (w : World) (hs : s.size ≤ 9223372036854775807) :
    Calls Tryz.prog 39 #[.string s] w fun e w' => e = .returned (.tuple #[.int .i64 (rd s).1, .bool (rd s).2]) ∧ Below w.heap.size w w' := by
  by_cases h : s.size ≤ 10
  · exact specReadDec_any s w h _ _ rfl
  · have e := rd_out (s := s) (.inr (by omega))
    rw [e]
    exact specReadDec_long s w hs (by omega)
end Go.Proofs.YtingfgbcinlflaaGreatDoor

namespace Go.Proofs.YtingfgbcinlflaaGreatDoor
open Go Go.RowKit

/-- Whether a number is one of a snapshot. -/
def idxB (n : Int) : Bool := decide (0 ≤ n) && decide (n ≤ 1000000)
/-- The name of a snapshot's file. -/
def sname (n : Int) : ByteArray := if idxB n then (⟨#[115]⟩ : ByteArray) ++ decS n else ByteArray.empty
theorem idxB_out {n : Int} (h : idxB n = true) : 0 ≤ n ∧ n ≤ 1000000 := by simpa [idxB] using h
theorem idxB_in {n : Int} (h0 : 0 ≤ n) (h1 : n ≤ 1000000) : idxB n = true := by simp [idxB, h0, h1]
theorem idxB_no {n : Int} (h : n < 0 ∨ 1000000 < n) : idxB n = false := by
  rcases h with h | h
  · simp only [idxB, decide_eq_false (show ¬ 0 ≤ n by omega), Bool.false_and]
  · simp only [idxB, decide_eq_false (show ¬ n ≤ 1000000 by omega), Bool.and_false]
theorem sname_in {n : Int} (h0 : 0 ≤ n) (h1 : n ≤ 1000000) : sname n = (⟨#[115]⟩ : ByteArray) ++ decS n := by unfold sname; rw [if_pos (idxB_in h0 h1)]
theorem sname_no {n : Int} (h : n < 0 ∨ 1000000 < n) : sname n = ByteArray.empty := by unfold sname; rw [idxB_no h]; rfl
theorem decS_sizeS {n : Int} (h0 : 0 ≤ n) (h1 : n ≤ 1000000) : 1 ≤ (decS n).size ∧ (decS n).size ≤ 7 := by
  obtain ⟨k, rfl⟩ := Int.eq_ofNat_of_zero_le h0
  rw [← decS_pos, bstr_size']
  have h := decI_len 6 k (by omega)
  have := decI_ne k k (Nat.le_refl _)
  have : (decI k).length ≠ 0 := fun e => this (List.length_eq_zero_iff.1 e)
  omega
theorem sname_size (n : Int) : (sname n).size ≤ 8 := by
  unfold sname
  split
  · rename_i h
    have := decS_sizeS (idxB_out h).1 (idxB_out h).2
    rw [ByteArray.size_append]
    have : (⟨#[115]⟩ : ByteArray).size = 1 := rfl
    omega
  · exact Nat.zero_le _
theorem sname_ne {n : Int} (h : idxB n = true) : sname n ≠ ByteArray.empty := fun e => by
  have := congrArg ByteArray.size e
  rw [sname_in (idxB_out h).1 (idxB_out h).2, ByteArray.size_append] at this
  have h1 : (⟨#[115]⟩ : ByteArray).size = 1 := rfl
  have h0 : (ByteArray.empty).size = 0 := rfl
  omega
theorem run_sname {n : Int} (h0 : 0 ≤ n) (h1 : n ≤ 1000000) (wx : World) : (Op.stringOp .add ⟨#[115]⟩ (decS n)).run Tryz.prog wx = .ok (.string ((⟨#[115]⟩ : ByteArray) ++ decS n)) wx := by
  have := decS_sizeS h0 h1
  rw [run_string_add_sum wx _ _ (by rw [show (⟨#[115]⟩ : ByteArray).size = 1 from rfl]; omega)]
set_option maxRecDepth 10000 in
set_option maxHeartbeats 400000 in
theorem snapName_any (n : Int) (w : World) (hp : PowIs w) :
    Calls Tryz.prog 35 #[.int .i64 n] w fun e w' => e = .returned (.string (sname n)) ∧ Below w.heap.size w w' := by
  by_cases h0 : n < 0
  · rw [sname_no (.inl h0)]
    go_enter Tryz.func35, Tryz.ntmps35
    go_wp2
    go_ret
    exact ⟨rfl, Below.refl _ _⟩
  by_cases h1 : 1000000 < n
  · rw [sname_no (.inr h1)]
    go_enter Tryz.func35, Tryz.ntmps35
    go_wp2
    go_ret
    exact ⟨rfl, Below.refl _ _⟩
  · rw [sname_in (by omega) (by omega)]
    have ha := run_sname (n := n) (by omega) (by omega)
    go_enter Tryz.func35, Tryz.ntmps35
    go_wp2_with (go_at_call 53; refine (decimal_any n _ (by omega) (by omega) hp).mono ?_; rintro e w1 ⟨rfl, hb1⟩)
    go_ret
    exact ⟨rfl, hb1⟩
set_option maxRecDepth 10000 in
set_option maxHeartbeats 400000 in
theorem specSnapName_any (n : Int) (w : World) :
    Calls Tryz.prog 40 #[.int .i64 n] w fun e w' => e = .returned (.string (sname n)) ∧ Below w.heap.size w w' := by
  by_cases h : n < 0 ∨ 1000000 < n
  · rw [sname_no h]
    have H : Hid (n < 0 ∨ 1000000 < n) := h
    clear h
    go_enter Tryz.func40, Tryz.ntmps40
    go_wp2_with (go_at_call 38; refine (l01In_no _ _ _ _ H.out).mono ?_; rintro e w' ⟨rfl, rfl⟩)
    go_ret
    exact ⟨rfl, Below.refl _ _⟩
  · rw [sname_in (by omega) (by omega)]
    have ha := run_sname (n := n) (by omega) (by omega)
    go_enter Tryz.func40, Tryz.ntmps40
    go_wp2_with (first | (go_at_call 38; refine (l01In_yes _ _ _ _ (by omega) (by omega)).mono ?_; rintro e w' ⟨rfl, rfl⟩) | (go_at_call 54; refine (specDec_any n _ (by omega) (by omega)).mono ?_; rintro e w1 ⟨rfl, hb1⟩))
    go_ret
    exact ⟨rfl, hb1⟩
/-- The number that has this SnapName, or -1. -/
def idxOf (s : ByteArray) : Int := if (rd (tlS s)).2 = true ∧ sname (rd (tlS s)).1 = s then (rd (tlS s)).1 else -1
theorem sname_first {n : Int} {s : ByteArray} (e : sname n = s) (hs : 1 ≤ s.size) : kAt s 0 = 115 := by
  have hb : idxB n = true := by
    cases h : idxB n with
    | true => rfl
    | false =>
      have e2 : sname n = ByteArray.empty := by unfold sname; rw [h]; rfl
      rw [e2] at e
      subst e
      exact absurd hs (by decide)
  rw [sname_in (idxB_out hb).1 (idxB_out hb).2] at e
  subst e
  rw [kAt_in (by omega), ByteArray.getElem_append_left (show 0 < (⟨#[115]⟩ : ByteArray).size by decide)]
  rfl
theorem idxOf_short {s : ByteArray} (h : s.size < 2) : idxOf s = -1 := by
  unfold idxOf
  rw [rd_out (.inl (by rw [tlS_size]; omega))]
  exact if_neg (by simp)
theorem idxOf_else {s : ByteArray} (h : kAt s 0 ≠ 115) : idxOf s = -1 := by
  by_cases h2 : s.size < 2
  · exact idxOf_short h2
  · unfold idxOf
    exact if_neg fun ⟨_, e⟩ => h (sname_first e (by omega))


theorem first_s {r : ByteArray} (h : 1 ≤ r.size) : ((r.extract 0 1).toList == (⟨#[115]⟩ : ByteArray).toList) = decide (kAt r 0 = 115) := by
  have h0 : 0 < r.size := h
  rw [kAt_in h0]
  by_cases hk : r[0].toNat = 115
  · rw [decide_eq_true hk]
    refine eq_list ?_
    apply ByteArray.ext
    rw [ByteArray.data_extract]
    apply Array.ext
    · simp; exact Nat.min_eq_left h
    · intro i hi hi2
      have hi3 : i = 0 := by simp at hi2; omega
      subst hi3
      simp
      exact UInt8.toNat_inj.1 hk
  · rw [decide_eq_false hk]
    refine ne_list fun e => hk ?_
    have hz : 0 < (r.extract 0 1).size := by rw [ByteArray.size_extract]; omega
    have e2 : (r.extract 0 1)[0] = (115 : UInt8) := by
      have : ∀ (x : ByteArray) (hx : 0 < x.size), x = ⟨#[115]⟩ → x[0] = (115 : UInt8) := fun x hx hh => by subst hh; rfl
      exact this _ hz e
    have e3 : (r.extract 0 1)[0] = r[0] := by
      simp [ByteArray.getElem_extract]
    rw [← e3, e2]; rfl

set_option maxRecDepth 10000 in
set_option maxHeartbeats 1000000 in
theorem hasS_any (r : ByteArray) (w : World) (hr : r.size ≤ 9223372036854775807) :
    Calls Tryz.prog 77 #[.string r, .string ⟨#[115]⟩] w fun e w' => e = .returned (.bool (decide (kAt r 0 = 115))) ∧ w' = w := by
  have hz1 : ((⟨#[115]⟩ : ByteArray).size : Int) = 1 := rfl
  by_cases h : 1 ≤ r.size
  · have HQ : Hid (((r.extract 0 1).toList == ([115] : List UInt8)) = decide (kAt r 0 = 115)) := by
      have := first_s h
      rwa [show (⟨#[115]⟩ : ByteArray).toList = [115] from by rw [ByteArray.toList_eq]] at this
    rw [← HQ.out]
    have hsl : ∀ wx, (Instr.slice 9 (.string r) none (some (.int .i64 1)) none).run Tryz.prog wx = .ok (.string (r.extract 0 1)) wx := fun wx => by
      rw [run_slice_string_to_if wx 9 r .i64 1 Tryz.underlying9, if_pos (by omega)]
      rfl
    go_enter Tryz.func77, Tryz.ntmps77
    go_wp2
    go_ret
    exact ⟨rfl, rfl⟩
  · have hz : r.size = 0 := by omega
    have e : decide (kAt r 0 = 115) = false := by
      unfold kAt
      rw [dif_neg (by omega)]
      rfl
    rw [e]
    go_enter Tryz.func77, Tryz.ntmps77
    go_wp2
    go_ret
    exact ⟨rfl, rfl⟩

set_option maxRecDepth 10000 in
set_option maxHeartbeats 1000000 in
theorem trimS_any (r : ByteArray) (w : World) (hr : r.size ≤ 9223372036854775807) :
    Calls Tryz.prog 48 #[.string r, .string ⟨#[115]⟩] w fun e w' => e = .returned (.string (if kAt r 0 = 115 then tlS r else r)) ∧ w' = w := by
  have hz1 : ((⟨#[115]⟩ : ByteArray).size : Int) = 1 := rfl
  have inner : ∀ w, Calls Tryz.prog 65 #[.string r, .string ⟨#[115]⟩] w fun e w' => e = .returned (.string (if kAt r 0 = 115 then tlS r else r)) ∧ w' = w := fun w => by
    by_cases h : kAt r 0 = 115
    · rw [if_pos h]
      have hr1 : 1 ≤ r.size := by
        by_cases hx : 0 < r.size
        · exact hx
        · unfold kAt at h
          rw [dif_neg hx] at h
          cases h
      have CH : Hid (∀ W, Calls Tryz.prog 77 #[.string r, .string ⟨#[115]⟩] W fun e w' => e = .returned (.bool true) ∧ w' = W) := fun W => by
        have := hasS_any r W hr
        rwa [decide_eq_true h] at this
      have hsl : ∀ wx, (Instr.slice 9 (.string r) (some (.int .i64 1)) none none).run Tryz.prog wx = .ok (.string (tlS r)) wx := fun wx => by
        rw [run_slice_string_from_if wx 9 r .i64 1 Tryz.underlying9, if_pos (by omega)]
        rfl
      clear h
      go_enter Tryz.func65, Tryz.ntmps65
      go_wp2_with fail
      refine Calls.mono (CH.out _) ?_
      rintro e w1 ⟨rfl, hw⟩
      have hw2 := hw.symm
      subst hw2
      go_wp2
      go_ret
      exact ⟨rfl, rfl⟩
    · rw [if_neg h]
      have CH : Hid (∀ W, Calls Tryz.prog 77 #[.string r, .string ⟨#[115]⟩] W fun e w' => e = .returned (.bool false) ∧ w' = W) := fun W => by
        have := hasS_any r W hr
        rwa [decide_eq_false h] at this
      clear h
      go_enter Tryz.func65, Tryz.ntmps65
      go_wp2_with fail
      refine Calls.mono (CH.out _) ?_
      rintro e w1 ⟨rfl, hw⟩
      have hw2 := hw.symm
      subst hw2
      go_wp2
      go_ret
      exact ⟨rfl, rfl⟩
  generalize (if kAt r 0 = 115 then tlS r else r) = t at inner ⊢
  go_enter Tryz.func48, Tryz.ntmps48
  go_wp2_with fail
  refine Calls.mono (inner _) ?_
  rintro e w1 ⟨rfl, hw⟩
  have hw2 := hw.symm
  subst hw2
  go_wp2
  go_ret
  exact ⟨rfl, rfl⟩

set_option maxRecDepth 10000 in
set_option maxHeartbeats 1000000 in
theorem indexOf_walk (s t : ByteArray) (x : Int) (z : Bool) (w : World) (hp : PowIs w)
    (CT : Hid (∀ W, Calls Tryz.prog 48 #[.string s, .string ⟨#[115]⟩] W fun e w' => e = .returned (.string t) ∧ w' = W))
    (CR : Hid (∀ W, Calls Tryz.prog 47 #[.string t] W fun e w' => e = .returned (.tuple #[.int .i64 x, .bool z]) ∧ Below W.heap.size W w')) :
    Calls Tryz.prog 32 #[.string s] w fun e w' => e = .returned (.int .i64 (if z = true ∧ sname x = s then x else -1)) ∧ Below w.heap.size w w' := by
  cases z with
  | false =>
    rw [if_neg (by simp)]
    go_enter Tryz.func32, Tryz.ntmps32
    go_wp2_with fail
    refine Calls.mono (CT.out _) ?_
    rintro e w1 ⟨rfl, hw⟩
    have hw2 := hw.symm
    subst hw2
    go_wp2_with fail
    refine Calls.mono (CR.out _) ?_
    rintro e w2 ⟨rfl, hb2⟩
    go_wp2
    go_ret
    exact ⟨rfl, hb2⟩
  | true =>
    by_cases h : sname x = s
    · rw [if_pos ⟨rfl, h⟩]
      have HQ := eq_list h
      clear h
      go_enter Tryz.func32, Tryz.ntmps32
      go_wp2_with fail
      refine Calls.mono (CT.out _) ?_
      rintro e w1 ⟨rfl, hw⟩
      have hw2 := hw.symm
      subst hw2
      go_wp2_with fail
      refine Calls.mono (CR.out _) ?_
      rintro e w2 ⟨rfl, hb2⟩
      go_wp2_with fail
      refine Calls.mono (snapName_any x _ (hp.below hb2)) ?_
      rintro e w3 ⟨rfl, hb3⟩
      go_wp2
      go_ret
      exact ⟨rfl, Below.on hb2 hb3⟩
    · rw [if_neg (fun hh => h hh.2)]
      have HQ := ne_list h
      clear h
      go_enter Tryz.func32, Tryz.ntmps32
      go_wp2_with fail
      refine Calls.mono (CT.out _) ?_
      rintro e w1 ⟨rfl, hw⟩
      have hw2 := hw.symm
      subst hw2
      go_wp2_with fail
      refine Calls.mono (CR.out _) ?_
      rintro e w2 ⟨rfl, hb2⟩
      go_wp2_with fail
      refine Calls.mono (snapName_any x _ (hp.below hb2)) ?_
      rintro e w3 ⟨rfl, hb3⟩
      go_wp2
      go_ret
      exact ⟨rfl, Below.on hb2 hb3⟩

theorem indexOf_any (s : ByteArray) (w : World) (hs : s.size ≤ 9223372036854775807) (hp : PowIs w) :
    Calls Tryz.prog 32 #[.string s] w fun e w' => e = .returned (.int .i64 (idxOf s)) ∧ Below w.heap.size w w' := by
  by_cases h : kAt s 0 = 115
  · exact indexOf_walk s (tlS s) _ _ w hp (fun W => by have := trimS_any s W hs; rwa [if_pos h] at this) (fun W => readDec_all _ W (by rw [tlS_size]; omega))
  · have := indexOf_walk s s _ _ w hp (fun W => by have := trimS_any s W hs; rwa [if_neg h] at this) (fun W => readDec_all _ W hs)
    rw [if_neg (fun hh => by
      by_cases h1 : 1 ≤ s.size
      · exact h (sname_first hh.2 h1)
      · rw [rd_out (.inl (by omega))] at hh
        exact absurd hh.1 (by decide))] at this
    rw [idxOf_else h]
    exact this

set_option maxRecDepth 10000 in
set_option maxHeartbeats 1000000 in
theorem specIndex_any (s : ByteArray) (w : World) (hs : s.size ≤ 9223372036854775807) :
    Calls Tryz.prog 27 #[.string s] w fun e w' => e = .returned (.int .i64 (idxOf s)) ∧ Below w.heap.size w w' := by
  by_cases h2 : s.size < 2
  · rw [idxOf_short h2]
    go_enter Tryz.func27, Tryz.ntmps27
    go_wp2
    go_ret
    exact ⟨rfl, Below.refl _ _⟩
  have hsl : ∀ wx, (Instr.slice 9 (.string s) (some (.int .i64 1)) none none).run Tryz.prog wx = .ok (.string (tlS s)) wx := fun wx => by
    rw [run_slice_string_from_if wx 9 s .i64 1 Tryz.underlying9, if_pos (by omega)]
    rfl
  have CR : Hid (∀ W, Calls Tryz.prog 39 #[.string (tlS s)] W fun e w' => e = .returned (.tuple #[.int .i64 (rd (tlS s)).1, .bool (rd (tlS s)).2]) ∧ Below W.heap.size W w') := fun W => specReadDec_all _ W (by rw [tlS_size]; omega)
  unfold idxOf
  generalize hx : (rd (tlS s)).1 = x at CR
  generalize hz : (rd (tlS s)).2 = z at CR
  clear hx hz
  cases z with
  | false =>
    rw [if_neg (by simp)]
    go_enter Tryz.func27, Tryz.ntmps27
    go_wp2_with fail
    refine Calls.mono (CR.out _) ?_
    rintro e w2 ⟨rfl, hb2⟩
    go_wp2
    go_ret
    exact ⟨rfl, hb2⟩
  | true =>
    by_cases h : sname x = s
    · rw [if_pos ⟨rfl, h⟩]
      have HQ := eq_list h
      clear h
      go_enter Tryz.func27, Tryz.ntmps27
      go_wp2_with fail
      refine Calls.mono (CR.out _) ?_
      rintro e w2 ⟨rfl, hb2⟩
      go_wp2_with fail
      refine Calls.mono (specSnapName_any x _) ?_
      rintro e w3 ⟨rfl, hb3⟩
      go_wp2
      go_ret
      exact ⟨rfl, Below.on hb2 hb3⟩
    · rw [if_neg (fun hh => h hh.2)]
      have HQ := ne_list h
      clear h
      go_enter Tryz.func27, Tryz.ntmps27
      go_wp2_with fail
      refine Calls.mono (CR.out _) ?_
      rintro e w2 ⟨rfl, hb2⟩
      go_wp2_with fail
      refine Calls.mono (specSnapName_any x _) ?_
      rintro e w3 ⟨rfl, hb3⟩
      go_wp2
      go_ret
      exact ⟨rfl, Below.on hb2 hb3⟩
end Go.Proofs.YtingfgbcinlflaaGreatDoor

namespace Go.Proofs.YtingfgbcinlflaaGreatDoor
open Go.RowKit

theorem varI_length : ∀ (f n : Nat), n ≤ f → (varI n).length ≤ n + 1
  | 0, n, h => by rw [varI_last (by omega)]; simp
  | f + 1, n, h => by
    by_cases hn : 127 < n
    · rw [varI_more hn]
      have := varI_length f (n / 128) (by omega)
      simp; omega
    · rw [varI_last hn]; simp


end Go.Proofs.YtingfgbcinlflaaGreatDoor

namespace Go.Proofs.YtingfgbcinlflaaGreatDoor
open Go Go.RowKit

theorem varI_len5 {n : Nat} (hn : n ≤ 1000000000) : 1 ≤ (varI n).length ∧ (varI n).length ≤ 5 := by
  by_cases h1 : 127 < n
  · rw [varI_more h1]
    by_cases h2 : 127 < n / 128
    · rw [varI_more h2]
      by_cases h3 : 127 < n / 128 / 128
      · rw [varI_more h3]
        by_cases h4 : 127 < n / 128 / 128 / 128
        · rw [varI_more h4]
          rw [varI_last (show ¬ 127 < n / 128 / 128 / 128 / 128 by omega)]
          simp
        · rw [varI_last h4]; simp
      · rw [varI_last h3]; simp
    · rw [varI_last h2]; simp
  · rw [varI_last h1]; simp
/-- A short text, behind its length. -/
def shT (s : ByteArray) : ByteArray := bstr (varI s.size) ++ s
theorem shT_size {s : ByteArray} (h : s.size ≤ 1000000000) : s.size + 1 ≤ (shT s).size ∧ (shT s).size ≤ s.size + 5 := by
  have := varI_len5 h
  unfold shT
  rw [ByteArray.size_append, bstr_size]
  omega
/-- Whether a term is one. -/
def trmB (n : Int) : Bool := decide (0 ≤ n) && decide (n ≤ 100000)
theorem trmB_out {n : Int} (h : trmB n = true) : 0 ≤ n ∧ n ≤ 100000 := by simpa [trmB] using h
/-- What is sealed. -/
def snT (i t : Nat) (l : List Int) (b : ByteArray) : ByteArray := bstr (varI i) ++ bstr (varI t) ++ shT (bstr l) ++ shT b
/-- Whether a snapshot has a text. -/
def okS (i t : Int) (l : List Int) (b : ByteArray) : Bool := okC l && idxB i && trmB t && decide (b.size ≤ 20000) && decide ((snT i.toNat t.toNat l b).size + 4 ≤ 20000)
/-- The text of a snapshot. -/
def textS (i t : Int) (l : List Int) (b : ByteArray) : ByteArray := if okS i t l b then sealT (snT i.toNat t.toNat l b) else ByteArray.empty
def textSV (i t : Int) (l : List Int) (b : ByteArray) : Value := .tuple #[.string (textS i t l b), .bool (okS i t l b)]
theorem textSV_no {i t : Int} {l : List Int} {b : ByteArray} (h : okS i t l b = false) : textSV i t l b = .tuple #[.string ByteArray.empty, .bool false] := by simp [textSV, textS, h]
theorem textSV_yes {i t : Int} {l : List Int} {b : ByteArray} (h : okS i t l b = true) : textSV i t l b = .tuple #[.string (sealT (snT i.toNat t.toNat l b)), .bool true] := by simp [textSV, textS, h]
theorem okS_out {i t : Int} {l : List Int} {b : ByteArray} (h : okS i t l b = true) : okC l = true ∧ idxB i = true ∧ trmB t = true ∧ b.size ≤ 20000 ∧ (snT i.toNat t.toNat l b).size + 4 ≤ 20000 := by
  unfold okS at h
  simp only [Bool.and_eq_true, decide_eq_true_eq] at h
  exact ⟨h.1.1.1.1, h.1.1.1.2, h.1.1.2, h.1.2, h.2⟩
theorem okS_in {i t : Int} {l : List Int} {b : ByteArray} (h1 : okC l = true) (h2 : idxB i = true) (h3 : trmB t = true) (h4 : b.size ≤ 20000) (h5 : (snT i.toNat t.toNat l b).size + 4 ≤ 20000) : okS i t l b = true := by
  unfold okS
  simp [h1, h2, h3, h4, h5]
theorem okS_no {i t : Int} {l : List Int} {b : ByteArray} (h : okC l = false ∨ idxB i = false ∨ trmB t = false ∨ 20000 < b.size ∨ 20000 < (snT i.toNat t.toNat l b).size + 4) : okS i t l b = false := by
  cases hk : okS i t l b with
  | false => rfl
  | true =>
    obtain ⟨a1, a2, a3, a4, a5⟩ := okS_out hk
    rw [a1, a2, a3] at h
    simp at h
    omega
theorem snT_size {i t : Nat} {l : List Int} {b : ByteArray} (hi : i ≤ 1000000000) (ht : t ≤ 1000000000) (hl : l.length ≤ 4) (hb : b.size ≤ 20000) :
    (bstr (varI i)).size ≤ 5 ∧ (bstr (varI t)).size ≤ 5 ∧ (shT (bstr l)).size ≤ 9 ∧ (shT b).size ≤ 20005 := by
  have a1 := varI_len5 hi
  have a2 := varI_len5 ht
  have a3 := shT_size (s := bstr l) (by rw [bstr_size]; omega)
  have a4 := shT_size (s := b) (by omega)
  rw [bstr_size] at a3
  rw [bstr_size, bstr_size]
  omega

theorem empty_add (s : ByteArray) : ({ data := #[] } : ByteArray) ++ s = s := by
  apply ByteArray.ext
  rw [ByteArray.data_append]
  simp
/-- What lies in the block of a snapshot that came in. -/
def Sb (w : World) (g : Nat) (i t : Int) (v : Value) (b : ByteArray) : Prop := w.heap[g]? = some (.cells #[.int .i64 i, .int .i64 t, v, .string b] 40)
theorem sb_cells {w : World} {g : Nat} {x0 x1 x2 x3 : Value} {t : TypeId} (h : w.heap[g]? = some (.cells #[x0, x1, x2, x3] t)) :
    w.cell? ⟨g, 0, none⟩ = some x0 ∧ w.cell? ⟨g, 1, none⟩ = some x1 ∧ w.cell? ⟨g, 2, none⟩ = some x2 ∧ w.cell? ⟨g, 3, none⟩ = some x3 := by
  simp [World.cell?, h]
end Go.Proofs.YtingfgbcinlflaaGreatDoor

namespace Go.Proofs.YtingfgbcinlflaaGreatDoor
open Go Go.RowKit

theorem blk_on {w w' : World} {o : Obj} (hb : Below (w.alloc o).heap.size (w.alloc o) w') : w'.heap[w.heap.size]? = some o :=
  (hb.block _ (by rw [World.size_alloc]; omega)).trans (heap_last w o)
theorem blk_up {w w' : World} {g : Nat} {o : Obj} (h : w.heap[g]? = some o) (hb : Below w.heap.size w w') : w'.heap[g]? = some o :=
  (hb.block _ (Array.getElem?_eq_some_iff.1 h).1).trans h
theorem snT_add (i t : Nat) (l : List Int) (b : ByteArray) : (bstr (varI i) ++ bstr (varI t) ++ shT (bstr l)) ++ shT b = snT i t l b := rfl

theorem textC_size (l : List Int) : (textC l).size ≤ 4 := by
  unfold textC
  split
  · rename_i h
    rw [bstr_size]
    exact okC_len h
  · exact Nat.zero_le _
end Go.Proofs.YtingfgbcinlflaaGreatDoor
