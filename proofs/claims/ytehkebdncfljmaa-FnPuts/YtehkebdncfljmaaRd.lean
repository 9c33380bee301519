/-
  Decimal figures read: the walks of the two readers.
-/
import Derived.Test.YtehkebdncfljmaaDecP
namespace Go.Proofs.Ytehkebdncfljmaa
open Go.RowKit

theorem rd_ret {s : ByteArray} {x a : Int} {z b : Bool} (HR : Hid (rd s = (x, z))) (h : rd s = (a, b)) : Ending.returned (.tuple #[.int .i64 a, .bool b]) = .returned (.tuple #[.int .i64 x, .bool z]) := by
  rw [HR.out] at h
  simp only [Prod.mk.injEq] at h
  rw [h.1, h.2]
theorem valD_bd {s : ByteArray} {l : List Nat} (h : figTo s l) (hs : s.size ≤ 10) (hlt : l.length < s.size) : valD l < 1000000000 := by
  have h1 := valD_lt l h.2.1
  have h2 : 10 ^ l.length ≤ 10 ^ 9 := Nat.pow_le_pow_right (by decide) (by omega)
  omega
theorem valD_bd' {s : ByteArray} {l : List Nat} (h : figTo s l) (hs : s.size ≤ 10) : valD l < 10000000000 := by
  have h1 := valD_lt l h.2.1
  have h2 : 10 ^ l.length ≤ 10 ^ 10 := Nat.pow_le_pow_right (by decide) (by have := h.1; omega)
  omega

set_option maxRecDepth 10000 in
set_option maxHeartbeats 400000 in
theorem specReadDec_long (s : ByteArray) (w : World) (hs0 : s.size ≤ 9223372036854775807) (hs : 10 < s.size) :
    Calls Try.prog 99 #[.string s] w fun e w' => e = .returned (.tuple #[.int .i64 0, .bool false]) ∧ Below w.heap.size w w' := by
  go_enter Try.func99, Try.ntmps99
  go_wp2
  go_ret2
  exact ⟨rfl, Below.refl _ _⟩

theorem figTo_next {s : ByteArray} {i m : Nat} {l : List Nat} (HF : Hid (figTo s l ∧ l.length = i ∧ valD l = m)) (hlt : i < s.size) (h1 : 48 ≤ s[i].toNat) (h2 : s[i].toNat ≤ 57) :
    Hid (figTo s (l ++ [s[i].toNat - 48]) ∧ (l ++ [s[i].toNat - 48]).length = i + 1 ∧ valD (l ++ [s[i].toNat - 48]) = 10 * m + (s[i].toNat - 48)) := by
  obtain ⟨f1, f2, f3⟩ := HF.out
  subst f2
  exact ⟨figTo_snoc f1 hlt h1 h2, by simp, by rw [valD_snoc, f3]⟩
theorem rd_end_bad {s : ByteArray} {i m : Nat} {l : List Nat} (HF : Hid (figTo s l ∧ l.length = i ∧ valD l = m)) (hlt : ¬ i < s.size) (hi : i ≤ s.size) (hne : (!(bstr (decI ((m : Int).toNat))).toList == s.toList) = true) : rd s = (0, false) := by
  obtain ⟨f1, f2, f3⟩ := HF.out
  rw [Int.toNat_natCast, ← f3, same_figs f1 (by omega)] at hne
  by_cases h0 : s.size = 0
  · exact rd_out (Or.inl h0)
  · have hz : (s.data.toList.getD 0 0).toNat = 48 ∧ 1 < s.size := by
      by_cases hz : (s.data.toList.getD 0 0).toNat = 48 ∧ 1 < s.size
      · exact hz
      · rw [decide_eq_true ⟨h0, hz⟩] at hne
        simp at hne
    rw [byteAt s 0 (by omega)] at hz
    exact rd_nought hz.2 hz.1
theorem rd_end_ok {s : ByteArray} {i m : Nat} {l : List Nat} (HF : Hid (figTo s l ∧ l.length = i ∧ valD l = m)) (hlt : ¬ i < s.size) (hi : i ≤ s.size) (hs : s.size ≤ 10) (hm : m ≤ 1000000000) (hne : (!(bstr (decI ((m : Int).toNat))).toList == s.toList) = false) :
    rd s = ((m : Int), true) := by
  obtain ⟨f1, f2, f3⟩ := HF.out
  rw [Int.toNat_natCast, ← f3, same_figs f1 (by omega)] at hne
  have hh : s.size ≠ 0 ∧ ¬ ((s.data.toList.getD 0 0).toNat = 48 ∧ 1 < s.size) := by
    by_cases hh : s.size ≠ 0 ∧ ¬ ((s.data.toList.getD 0 0).toNat = 48 ∧ 1 < s.size)
    · exact hh
    · rw [decide_eq_false hh] at hne
      simp at hne
  rw [← f3]
  exact rd_all f1 (by omega) (by omega) hh.2 (by omega)

set_option maxRecDepth 10000 in
set_option maxHeartbeats 1000000 in
theorem specReadDec_any (s : ByteArray) (w : World) (hs : s.size ≤ 10) (x : Int) (z : Bool) (HR : Hid (rd s = (x, z))) :
    Calls Try.prog 99 #[.string s] w fun e w' => e = .returned (.tuple #[.int .i64 x, .bool z]) ∧ Below w.heap.size w w' := by
  go_enter Try.func99, Try.ntmps99
  go_wp2
  go_loop [4, 5] (fun n c => ∃ (i m : Nat) (l : List Nat), i ≤ s.size ∧ c = .int .i64 i ∧ n = .int .i64 m ∧ Hid (figTo s l ∧ l.length = i ∧ valD l = m)) (fun _ c => s.size - (intOf c).toNat)
  case atStart => exact ⟨0, 0, [], Nat.zero_le _, rfl, rfl, figTo_nil s, rfl, rfl⟩
  case round =>
    obtain ⟨i, m, l, hi, rfl, rfl, HF⟩ := hrel
    by_cases hlt : i < s.size
    · have hm : m < 1000000000 := by obtain ⟨h1, h2, h3⟩ := HF.out; rw [← h3]; exact valD_bd h1 hs (by omega)
      have h256 := s[i].toNat_lt
      by_cases h1 : s[i].toNat < 48
      · go_wp2
        go_ret2
        exact ⟨rd_ret HR (rd_none hlt (Or.inl (by omega))), Below.refl _ _⟩
      · by_cases h2 : 57 < s[i].toNat
        · go_wp2
          go_ret2
          exact ⟨rd_ret HR (rd_none hlt (Or.inr (by omega))), Below.refl _ _⟩
        · go_wp2
          go_round
          case rel => exact ⟨i + 1, 10 * m + (s[i].toNat - 48), l ++ [s[i].toNat - 48], by omega, by go_num, by go_num, figTo_next HF hlt (by omega) (by omega)⟩
          case measure => simp [intOf]; omega
    · have hm : m < 10000000000 := by obtain ⟨h1, h2, h3⟩ := HF.out; rw [← h3]; exact valD_bd' h1 hs
      by_cases hx : 1000000000 < m
      · go_wp2
        go_ret2
        exact ⟨rd_ret HR (by obtain ⟨h1, h2, h3⟩ := HF.out; exact rd_big h1 (by omega) (by omega)), Below.refl _ _⟩
      · have hx' : decide (1000000000 < (m : Int)) = false := by simp; omega
        go_wp2_with (go_at_call 82; refine (specDecimal_any _ _ (by omega) (by omega)).mono ?_; rintro e w1 ⟨rfl, hb1⟩)
        · have hne : (!(bstr (decI ((m : Int).toNat))).toList == s.toList) = true := by assumption
          go_ret2
          exact ⟨rd_ret HR (rd_end_bad HF hlt hi hne), hb1⟩
        · have hne : (!(bstr (decI ((m : Int).toNat))).toList == s.toList) = false := by assumption
          go_ret2
          exact ⟨rd_ret HR (rd_end_ok HF hlt hi hs (by omega) hne), hb1⟩

end Go.Proofs.Ytehkebdncfljmaa
