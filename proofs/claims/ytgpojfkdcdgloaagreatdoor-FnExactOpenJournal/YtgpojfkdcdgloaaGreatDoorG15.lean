/-
  Decimal figures read: the walks of the two readers. A text behind its first byte; numbers read from any text. The number that has a JournalName: the walks of numberOf and of the specification's l07Number.
-/
import Derived.Test.YtgpojfkdcdgloaaGreatDoorDecP
import Derived.Test.YtgpojfkdcdgloaaGreatDoorG6
import Derived.Test.YtgpojfkdcdgloaaGreatDoorG2
namespace Go.Proofs.YtgpojfkdcdgloaaGreatDoor
open Go.RowKit

theorem rd_ret {s : ByteArray} {x a : Int} {z b : Bool} (HR : Hid (rd s = (x, z))) (h : rd s = (a, b)) : Ending.returned (.tuple #[.int .i64 a, .bool b]) = .returned (.tuple #[.int .i64 x, .bool z]) := by
  rw [HR.out] at h
  simp only [Prod.mk.injEq] at h
  rw [h.1, h.2]
theorem valD_bd {s : ByteArray} {l : List Nat} (h : figTo s l) (hs : s.size ≤ 10) (hlt : l.length < s.size) : valD l < 1000000000 := by
  have h1 := valD_lt l h.2.1
  have h2 : 10 ^ l.length ≤ 10 ^ 9 := Nat.pow_le_pow_right (by decide) (by omega)
  omega
theorem valD_bd' {s : ByteArray} {l : List Nat} (h : figTo s l) (hs : s.size ≤ 10) : valD l < 10000000000 := by
  have h1 := valD_lt l h.2.1
  have h2 : 10 ^ l.length ≤ 10 ^ 10 := Nat.pow_le_pow_right (by decide) (by have := h.1; omega)
  omega

set_option maxRecDepth 10000 in
set_option maxHeartbeats 400000 in
theorem specReadDec_long (s : ByteArray) (w : World) (hs0 : s.size ≤ 9223372036854775807) (hs : 10 < s.size) :
    Calls Tryz.prog 37 #[.string s] w fun e w' => e = .returned (.tuple #[.int .i64 0, .bool false]) ∧ Below w.heap.size w w' := by
  go_enter Tryz.func37, Tryz.ntmps37
  go_wp2
  go_ret2
  exact ⟨rfl, Below.refl _ _⟩

theorem figTo_next {s : ByteArray} {i m : Nat} {l : List Nat} (HF : Hid (figTo s l ∧ l.length = i ∧ valD l = m)) (hlt : i < s.size) (h1 : 48 ≤ s[i].toNat) (h2 : s[i].toNat ≤ 57) :
    Hid (figTo s (l ++ [s[i].toNat - 48]) ∧ (l ++ [s[i].toNat - 48]).length = i + 1 ∧ valD (l ++ [s[i].toNat - 48]) = 10 * m + (s[i].toNat - 48)) := by
  obtain ⟨f1, f2, f3⟩ := HF.out
  subst f2
  exact ⟨figTo_snoc f1 hlt h1 h2, by simp, by rw [valD_snoc, f3]⟩
theorem rd_end_bad {s : ByteArray} {i m : Nat} {l : List Nat} (HF : Hid (figTo s l ∧ l.length = i ∧ valD l = m)) (hlt : ¬ i < s.size) (hi : i ≤ s.size) (hne : (!(bstr (decI ((m : Int).toNat))).toList == s.toList) = true) : rd s = (0, false) := by
  obtain ⟨f1, f2, f3⟩ := HF.out
  rw [Int.toNat_natCast, ← f3, same_figs f1 (by omega)] at hne
  by_cases h0 : s.size = 0
  · exact rd_out (Or.inl h0)
  · have hz : (s.data.toList.getD 0 0).toNat = 48 ∧ 1 < s.size := by
      by_cases hz : (s.data.toList.getD 0 0).toNat = 48 ∧ 1 < s.size
      · exact hz
      · rw [decide_eq_true ⟨h0, hz⟩] at hne
        simp at hne
    rw [byteAt s 0 (by omega)] at hz
    exact rd_nought hz.2 hz.1
theorem rd_end_ok {s : ByteArray} {i m : Nat} {l : List Nat} (HF : Hid (figTo s l ∧ l.length = i ∧ valD l = m)) (hlt : ¬ i < s.size) (hi : i ≤ s.size) (hs : s.size ≤ 10) (hm : m ≤ 1000000000) (hne : (!(bstr (decI ((m : Int).toNat))).toList == s.toList) = false) :
    rd s = ((m : Int), true) := by
  obtain ⟨f1, f2, f3⟩ := HF.out
  rw [Int.toNat_natCast, ← f3, same_figs f1 (by omega)] at hne
  have hh : s.size ≠ 0 ∧ ¬ ((s.data.toList.getD 0 0).toNat = 48 ∧ 1 < s.size) := by
    by_cases hh : s.size ≠ 0 ∧ ¬ ((s.data.toList.getD 0 0).toNat = 48 ∧ 1 < s.size)
    · exact hh
    · rw [decide_eq_false hh] at hne
      simp at hne
  rw [← f3]
  exact rd_all f1 (by omega) (by omega) hh.2 (by omega)

set_option maxRecDepth 10000 in
set_option maxHeartbeats 1000000 in
theorem specReadDec_any (s : ByteArray) (w : World) (hs : s.size ≤ 10) (x : Int) (z : Bool) (HR : Hid (rd s = (x, z))) :
    Calls Tryz.prog 37 #[.string s] w fun e w' => e = .returned (.tuple #[.int .i64 x, .bool z]) ∧ Below w.heap.size w w' := by
  go_enter Tryz.func37, Tryz.ntmps37
  go_wp2
  go_loop [4, 5] (fun n c => ∃ (i m : Nat) (l : List Nat), i ≤ s.size ∧ c = .int .i64 i ∧ n = .int .i64 m ∧ Hid (figTo s l ∧ l.length = i ∧ valD l = m)) (fun _ c => s.size - (intOf c).toNat)
  case atStart => exact ⟨0, 0, [], Nat.zero_le _, rfl, rfl, figTo_nil s, rfl, rfl⟩
  case round =>
    obtain ⟨i, m, l, hi, rfl, rfl, HF⟩ := hrel
    by_cases hlt : i < s.size
    · have hm : m < 1000000000 := by obtain ⟨h1, h2, h3⟩ := HF.out; rw [← h3]; exact valD_bd h1 hs (by omega)
      have h256 := s[i].toNat_lt
      by_cases h1 : s[i].toNat < 48
      · go_wp2
        go_ret2
        exact ⟨rd_ret HR (rd_none hlt (Or.inl (by omega))), Below.refl _ _⟩
      · by_cases h2 : 57 < s[i].toNat
        · go_wp2
          go_ret2
          exact ⟨rd_ret HR (rd_none hlt (Or.inr (by omega))), Below.refl _ _⟩
        · go_wp2
          go_round
          case rel => exact ⟨i + 1, 10 * m + (s[i].toNat - 48), l ++ [s[i].toNat - 48], by omega, by go_num, by go_num, figTo_next HF hlt (by omega) (by omega)⟩
          case measure => simp [intOf]; omega
    · have hm : m < 10000000000 := by obtain ⟨h1, h2, h3⟩ := HF.out; rw [← h3]; exact valD_bd' h1 hs
      by_cases hx : 1000000000 < m
      · go_wp2
        go_ret2
        exact ⟨rd_ret HR (by obtain ⟨h1, h2, h3⟩ := HF.out; exact rd_big h1 (by omega) (by omega)), Below.refl _ _⟩
      · have hx' : decide (1000000000 < (m : Int)) = false := by simp; omega
        go_wp2_with (go_at_call 38; refine (specDecimal_any _ _ (by omega) (by omega)).mono ?_; rintro e w1 ⟨rfl, hb1⟩)
        · have hne : (!(bstr (decI ((m : Int).toNat))).toList == s.toList) = true := by assumption
          go_ret2
          exact ⟨rd_ret HR (rd_end_bad HF hlt hi hne), hb1⟩
        · have hne : (!(bstr (decI ((m : Int).toNat))).toList == s.toList) = false := by assumption
          go_ret2
          exact ⟨rd_ret HR (rd_end_ok HF hlt hi hs (by omega) hne), hb1⟩

set_option maxRecDepth 10000 in
set_option maxHeartbeats 400000 in
theorem readDec_out (s : ByteArray) (w : World) (hs0 : s.size ≤ 9223372036854775807) (hs : s.size = 0 ∨ 10 < s.size) :
    Calls Tryz.prog 86 #[.string s] w fun e w' => e = .returned (.tuple #[.int .i64 0, .bool false]) ∧ Below w.heap.size w w' := by
  by_cases h1 : s.size = 0
  · have h2 : ((s.size : Int) == 0) = true := beq_iff_eq.2 (by omega)
    clear hs h1
    go_enter Tryz.func86, Tryz.ntmps86
    go_wp2
    go_step3
    go_wp2
    rw [Exit.noGoto_ret]
    go_ret2
    exact ⟨rfl, Below.refl _ _⟩
  · have h2 : ((s.size : Int) == 0) = false := beq_eq_false_iff_ne.2 (by omega)
    have h3 : 10 < s.size := by omega
    clear hs h1
    go_enter Tryz.func86, Tryz.ntmps86
    go_wp2
    go_step3
    go_wp2
    rw [Exit.noGoto_ret]
    go_ret2
    exact ⟨rfl, Below.refl _ _⟩

set_option maxRecDepth 10000 in
set_option maxHeartbeats 400000 in
theorem readDec_nought (s : ByteArray) (w : World) (hs : s.size ≤ 10) (h1 : 1 < s.size) (hz : s[0].toNat = 48) :
    Calls Tryz.prog 86 #[.string s] w fun e w' => e = .returned (.tuple #[.int .i64 0, .bool false]) ∧ Below w.heap.size w w' := by
  have h2 : ((s.size : Int) == 0) = false := beq_eq_false_iff_ne.2 (by omega)
  have hz2 : ((s[0].toNat : Int) == 48) = true := beq_iff_eq.2 (by omega)
  clear hz
  go_enter Tryz.func86, Tryz.ntmps86
  go_wp2
  go_step3
  go_wp2
  rw [Exit.noGoto_ret]
  go_ret2
  exact ⟨rfl, Below.refl _ _⟩

set_option maxRecDepth 10000 in
set_option maxHeartbeats 1000000 in
theorem readDec_in (s : ByteArray) (w : World) (hs : s.size ≤ 10) (h1 : 0 < s.size) (hz : ¬ (s[0].toNat = 48 ∧ 1 < s.size)) (x : Int) (z : Bool) (HR : Hid (rd s = (x, z))) :
    Calls Tryz.prog 86 #[.string s] w fun e w' => e = .returned (.tuple #[.int .i64 x, .bool z]) ∧ Below w.heap.size w w' := by
  have h2 : ((s.size : Int) == 0) = false := beq_eq_false_iff_ne.2 (by omega)
  have HZ : Hid (¬ (s[0].toNat = 48 ∧ 1 < s.size)) := hz
  have hcase : ((s[0].toNat : Int) == 48) = false ∨ (((s[0].toNat : Int) == 48) = true ∧ ¬ (1 : Int) < (s.size : Int)) := by
    by_cases h : s[0].toNat = 48
    · right; exact ⟨beq_iff_eq.2 (by omega), by intro h'; exact hz ⟨h, by omega⟩⟩
    · left; exact beq_eq_false_iff_ne.2 (by omega)
  clear hz
  rcases hcase with hc | ⟨hc, hc2⟩
  all_goals
    go_enter Tryz.func86, Tryz.ntmps86
    go_wp2
    go_step3
    go_wp2
    go_step3
    go_wp2
    go_loop [4, 5] (fun n c => ∃ (i m : Nat) (l : List Nat), i ≤ s.size ∧ c = .int .i64 i ∧ n = .int .i64 m ∧ Hid (figTo s l ∧ l.length = i ∧ valD l = m)) (fun _ c => s.size - (intOf c).toNat)
    case atStart => exact ⟨0, 0, [], Nat.zero_le _, rfl, rfl, figTo_nil s, rfl, rfl⟩
    case round =>
      obtain ⟨i, m, l, hi, rfl, rfl, HF⟩ := hrel
      clear hc
      by_cases hlt : i < s.size
      · have hm : m < 1000000000 := by obtain ⟨h1, h2, h3⟩ := HF.out; rw [← h3]; exact valD_bd h1 hs (by omega)
        have h256 := s[i].toNat_lt
        have hne : ((i : Int) != (s.size : Int)) = true := by rw [bne_iff_ne]; omega
        by_cases h1 : s[i].toNat < 48
        · go_wp2
          go_ret2
          exact ⟨rd_ret HR (rd_none hlt (Or.inl (by omega))), Below.refl _ _⟩
        · by_cases h2 : 57 < s[i].toNat
          · go_wp2
            go_ret2
            exact ⟨rd_ret HR (rd_none hlt (Or.inr (by omega))), Below.refl _ _⟩
          · go_wp2
            go_round
            case rel => exact ⟨i + 1, 10 * m + (s[i].toNat - 48), l ++ [s[i].toNat - 48], by omega, by go_num, by go_num, figTo_next HF hlt (by omega) (by omega)⟩
            case measure => simp [intOf]; omega
      · have hm : m < 10000000000 := by obtain ⟨h1, h2, h3⟩ := HF.out; rw [← h3]; exact valD_bd' h1 hs
        have hne : ((i : Int) != (s.size : Int)) = false := by rw [bne_eq_false_iff_eq]; omega
        by_cases hx : 1000000000 < m
        · go_wp2
          go_ret2
          exact ⟨rd_ret HR (by obtain ⟨h1, h2, h3⟩ := HF.out; exact rd_big h1 (by omega) (by omega)), Below.refl _ _⟩
        · go_wp2
          go_ret2
          exact ⟨rd_ret HR (by obtain ⟨h1, h2, h3⟩ := HF.out; rw [← h3]; exact rd_all h1 (by omega) (by omega) (by rw [byteAt s 0 (by omega)]; exact HZ.out) (by omega)), Below.refl _ _⟩

theorem readDec_any (s : ByteArray) (w : World) (hs : s.size ≤ 10) (x : Int) (z : Bool) (HR : Hid (rd s = (x, z))) :
    Calls Tryz.prog 86 #[.string s] w fun e w' => e = .returned (.tuple #[.int .i64 x, .bool z]) ∧ Below w.heap.size w w' := by
  by_cases h0 : s.size = 0
  · have := readDec_out s w (by omega) (Or.inl h0)
    rw [← Ending.returned.inj (rd_ret HR (rd_out (Or.inl h0)))]
    exact this
  · by_cases hz : s[0].toNat = 48 ∧ 1 < s.size
    · have := readDec_nought s w hs hz.2 hz.1
      rw [← Ending.returned.inj (rd_ret HR (rd_nought hz.2 hz.1))]
      exact this
    · exact readDec_in s w hs (by omega) hz x z HR

end Go.Proofs.YtgpojfkdcdgloaaGreatDoor

namespace Go.Proofs.YtgpojfkdcdgloaaGreatDoor
open Go Go.RowKit

/-- A text behind its first byte. -/
def tlS (s : ByteArray) : ByteArray := s.extract 1 s.size
theorem tlS_size (s : ByteArray) : (tlS s).size = s.size - 1 := by unfold tlS; rw [ByteArray.size_extract]; omega
theorem readDec_all (s : ByteArray) (w : World) (hs : s.size ≤ 9223372036854775807) :
    Calls Tryz.prog 86 #[.string s] w fun e w' => e = .returned (.tuple #[.int .i64 (rd s).1, .bool (rd s).2]) ∧ Below w.heap.size w w' := by
  by_cases h : s.size ≤ 10
  · exact readDec_any s w h _ _ rfl
  · have e := rd_out (s := s) (.inr (by omega))
    rw [e]
    exact readDec_out s w hs (.inr (by omega))
theorem specReadDec_all (s : ByteArray) (w : World) (hs : s.size ≤ 9223372036854775807) :
    Calls Tryz.prog 37 #[.string s] w fun e w' => e = .returned (.tuple #[.int .i64 (rd s).1, .bool (rd s).2]) ∧ Below w.heap.size w w' := by
  by_cases h : s.size ≤ 10
  · exact specReadDec_any s w h _ _ rfl
  · have e := rd_out (s := s) (.inr (by omega))
    rw [e]
    exact specReadDec_long s w hs (by omega)
end Go.Proofs.YtgpojfkdcdgloaaGreatDoor

namespace Go.Proofs.YtgpojfkdcdgloaaGreatDoor
open Go Go.RowKit

/-- The number that has this JournalName, or -1. -/
def numOf (s : ByteArray) : Int := if (rd (tlS s)).2 = true ∧ jname (rd (tlS s)).1 = s then (rd (tlS s)).1 else -1
theorem jname_first {n : Int} {s : ByteArray} (e : jname n = s) (hs : 1 ≤ s.size) : kAt s 0 = 106 := by
  have hb : numB n = true := by
    cases h : numB n with
    | true => rfl
    | false =>
      have e2 : jname n = ByteArray.empty := by unfold jname; rw [h]; rfl
      rw [e2] at e
      subst e
      exact absurd hs (by decide)
  rw [jname_in (numB_out hb).1 (numB_out hb).2] at e
  subst e
  rw [kAt_in (by omega), ByteArray.getElem_append_left (show 0 < (⟨#[106]⟩ : ByteArray).size by decide)]
  rfl
theorem numOf_short {s : ByteArray} (h : s.size < 2) : numOf s = -1 := by
  unfold numOf
  rw [rd_out (.inl (by rw [tlS_size]; omega))]
  exact if_neg (by simp)
theorem numOf_else {s : ByteArray} (h : kAt s 0 ≠ 106) : numOf s = -1 := by
  by_cases h2 : s.size < 2
  · exact numOf_short h2
  · unfold numOf
    exact if_neg fun ⟨_, e⟩ => h (jname_first e (by omega))


theorem first_j {r : ByteArray} (h : 1 ≤ r.size) : ((r.extract 0 1).toList == (⟨#[106]⟩ : ByteArray).toList) = decide (kAt r 0 = 106) := by
  have h0 : 0 < r.size := h
  rw [kAt_in h0]
  by_cases hk : r[0].toNat = 106
  · rw [decide_eq_true hk]
    refine eq_list ?_
    apply ByteArray.ext
    rw [ByteArray.data_extract]
    apply Array.ext
    · simp; exact Nat.min_eq_left h
    · intro i hi hi2
      have hi3 : i = 0 := by simp at hi2; omega
      subst hi3
      simp
      exact UInt8.toNat_inj.1 hk
  · rw [decide_eq_false hk]
    refine ne_list fun e => hk ?_
    have hz : 0 < (r.extract 0 1).size := by rw [ByteArray.size_extract]; omega
    have e2 : (r.extract 0 1)[0] = (106 : UInt8) := by
      have : ∀ (x : ByteArray) (hx : 0 < x.size), x = ⟨#[106]⟩ → x[0] = (106 : UInt8) := fun x hx hh => by subst hh; rfl
      exact this _ hz e
    have e3 : (r.extract 0 1)[0] = r[0] := by
      simp [ByteArray.getElem_extract]
    rw [← e3, e2]; rfl

set_option maxRecDepth 10000 in
set_option maxHeartbeats 1000000 in
theorem hasJ_any (r : ByteArray) (w : World) (hr : r.size ≤ 9223372036854775807) :
    Calls Tryz.prog 114 #[.string r, .string ⟨#[106]⟩] w fun e w' => e = .returned (.bool (decide (kAt r 0 = 106))) ∧ w' = w := by
  have hz1 : ((⟨#[106]⟩ : ByteArray).size : Int) = 1 := rfl
  by_cases h : 1 ≤ r.size
  · have HQ : Hid (((r.extract 0 1).toList == ([106] : List UInt8)) = decide (kAt r 0 = 106)) := by
      have := first_j h
      rwa [show (⟨#[106]⟩ : ByteArray).toList = [106] from by rw [ByteArray.toList_eq]] at this
    rw [← HQ.out]
    have hsl : ∀ wx, (Instr.slice 9 (.string r) none (some (.int .i64 1)) none).run Tryz.prog wx = .ok (.string (r.extract 0 1)) wx := fun wx => by
      rw [run_slice_string_to_if wx 9 r .i64 1 Tryz.underlying9, if_pos (by omega)]
      rfl
    go_enter Tryz.func114, Tryz.ntmps114
    go_wp2
    go_ret
    exact ⟨rfl, rfl⟩
  · have hz : r.size = 0 := by omega
    have e : decide (kAt r 0 = 106) = false := by
      unfold kAt
      rw [dif_neg (by omega)]
      rfl
    rw [e]
    go_enter Tryz.func114, Tryz.ntmps114
    go_wp2
    go_ret
    exact ⟨rfl, rfl⟩

set_option maxRecDepth 10000 in
set_option maxHeartbeats 1000000 in
theorem trimJ_any (r : ByteArray) (w : World) (hr : r.size ≤ 9223372036854775807) :
    Calls Tryz.prog 87 #[.string r, .string ⟨#[106]⟩] w fun e w' => e = .returned (.string (if kAt r 0 = 106 then tlS r else r)) ∧ w' = w := by
  have hz1 : ((⟨#[106]⟩ : ByteArray).size : Int) = 1 := rfl
  have inner : ∀ w, Calls Tryz.prog 108 #[.string r, .string ⟨#[106]⟩] w fun e w' => e = .returned (.string (if kAt r 0 = 106 then tlS r else r)) ∧ w' = w := fun w => by
    by_cases h : kAt r 0 = 106
    · rw [if_pos h]
      have hr1 : 1 ≤ r.size := by
        by_cases hx : 0 < r.size
        · exact hx
        · unfold kAt at h
          rw [dif_neg hx] at h
          cases h
      have CH : Hid (∀ W, Calls Tryz.prog 114 #[.string r, .string ⟨#[106]⟩] W fun e w' => e = .returned (.bool true) ∧ w' = W) := fun W => by
        have := hasJ_any r W hr
        rwa [decide_eq_true h] at this
      have hsl : ∀ wx, (Instr.slice 9 (.string r) (some (.int .i64 1)) none none).run Tryz.prog wx = .ok (.string (tlS r)) wx := fun wx => by
        rw [run_slice_string_from_if wx 9 r .i64 1 Tryz.underlying9, if_pos (by omega)]
        rfl
      clear h
      go_enter Tryz.func108, Tryz.ntmps108
      go_wp2_with fail
      refine Calls.mono (CH.out _) ?_
      rintro e w1 ⟨rfl, hw⟩
      have hw2 := hw.symm
      subst hw2
      go_wp2
      go_ret
      exact ⟨rfl, rfl⟩
    · rw [if_neg h]
      have CH : Hid (∀ W, Calls Tryz.prog 114 #[.string r, .string ⟨#[106]⟩] W fun e w' => e = .returned (.bool false) ∧ w' = W) := fun W => by
        have := hasJ_any r W hr
        rwa [decide_eq_false h] at this
      clear h
      go_enter Tryz.func108, Tryz.ntmps108
      go_wp2_with fail
      refine Calls.mono (CH.out _) ?_
      rintro e w1 ⟨rfl, hw⟩
      have hw2 := hw.symm
      subst hw2
      go_wp2
      go_ret
      exact ⟨rfl, rfl⟩
  generalize (if kAt r 0 = 106 then tlS r else r) = t at inner ⊢
  go_enter Tryz.func87, Tryz.ntmps87
  go_wp2_with fail
  refine Calls.mono (inner _) ?_
  rintro e w1 ⟨rfl, hw⟩
  have hw2 := hw.symm
  subst hw2
  go_wp2
  go_ret
  exact ⟨rfl, rfl⟩

set_option maxRecDepth 10000 in
set_option maxHeartbeats 1000000 in
theorem numberOf_walk (s t : ByteArray) (x : Int) (z : Bool) (w : World) (hp : PowIs w)
    (CT : Hid (∀ W, Calls Tryz.prog 87 #[.string s, .string ⟨#[106]⟩] W fun e w' => e = .returned (.string t) ∧ w' = W))
    (CR : Hid (∀ W, Calls Tryz.prog 86 #[.string t] W fun e w' => e = .returned (.tuple #[.int .i64 x, .bool z]) ∧ Below W.heap.size W w')) :
    Calls Tryz.prog 72 #[.string s] w fun e w' => e = .returned (.int .i64 (if z = true ∧ jname x = s then x else -1)) ∧ Below w.heap.size w w' := by
  cases z with
  | false =>
    rw [if_neg (by simp)]
    go_enter Tryz.func72, Tryz.ntmps72
    go_wp2_with fail
    refine Calls.mono (CT.out _) ?_
    rintro e w1 ⟨rfl, hw⟩
    have hw2 := hw.symm
    subst hw2
    go_wp2_with fail
    refine Calls.mono (CR.out _) ?_
    rintro e w2 ⟨rfl, hb2⟩
    go_wp2
    go_ret
    exact ⟨rfl, hb2⟩
  | true =>
    by_cases h : jname x = s
    · rw [if_pos ⟨rfl, h⟩]
      have HQ := eq_list h
      clear h
      go_enter Tryz.func72, Tryz.ntmps72
      go_wp2_with fail
      refine Calls.mono (CT.out _) ?_
      rintro e w1 ⟨rfl, hw⟩
      have hw2 := hw.symm
      subst hw2
      go_wp2_with fail
      refine Calls.mono (CR.out _) ?_
      rintro e w2 ⟨rfl, hb2⟩
      go_wp2_with fail
      refine Calls.mono (journalName_any x _ (hp.below hb2)) ?_
      rintro e w3 ⟨rfl, hb3⟩
      go_wp2
      go_ret
      exact ⟨rfl, Below.on hb2 hb3⟩
    · rw [if_neg (fun hh => h hh.2)]
      have HQ := ne_list h
      clear h
      go_enter Tryz.func72, Tryz.ntmps72
      go_wp2_with fail
      refine Calls.mono (CT.out _) ?_
      rintro e w1 ⟨rfl, hw⟩
      have hw2 := hw.symm
      subst hw2
      go_wp2_with fail
      refine Calls.mono (CR.out _) ?_
      rintro e w2 ⟨rfl, hb2⟩
      go_wp2_with fail
      refine Calls.mono (journalName_any x _ (hp.below hb2)) ?_
      rintro e w3 ⟨rfl, hb3⟩
      go_wp2
      go_ret
      exact ⟨rfl, Below.on hb2 hb3⟩

theorem numberOf_any (s : ByteArray) (w : World) (hs : s.size ≤ 9223372036854775807) (hp : PowIs w) :
    Calls Tryz.prog 72 #[.string s] w fun e w' => e = .returned (.int .i64 (numOf s)) ∧ Below w.heap.size w w' := by
  by_cases h : kAt s 0 = 106
  · exact numberOf_walk s (tlS s) _ _ w hp (fun W => by have := trimJ_any s W hs; rwa [if_pos h] at this) (fun W => readDec_all _ W (by rw [tlS_size]; omega))
  · have := numberOf_walk s s _ _ w hp (fun W => by have := trimJ_any s W hs; rwa [if_neg h] at this) (fun W => readDec_all _ W hs)
    rw [if_neg (fun hh => by
      by_cases h1 : 1 ≤ s.size
      · exact h (jname_first hh.2 h1)
      · rw [rd_out (.inl (by omega))] at hh
        exact absurd hh.1 (by decide))] at this
    rw [numOf_else h]
    exact this

set_option maxRecDepth 10000 in
set_option maxHeartbeats 1000000 in
theorem specNumber_any (s : ByteArray) (w : World) (hs : s.size ≤ 9223372036854775807) :
    Calls Tryz.prog 18 #[.string s] w fun e w' => e = .returned (.int .i64 (numOf s)) ∧ Below w.heap.size w w' := by
  by_cases h2 : s.size < 2
  · rw [numOf_short h2]
    go_enter Tryz.func18, Tryz.ntmps18
    go_wp2
    go_ret
    exact ⟨rfl, Below.refl _ _⟩
  have hsl : ∀ wx, (Instr.slice 9 (.string s) (some (.int .i64 1)) none none).run Tryz.prog wx = .ok (.string (tlS s)) wx := fun wx => by
    rw [run_slice_string_from_if wx 9 s .i64 1 Tryz.underlying9, if_pos (by omega)]
    rfl
  have CR : Hid (∀ W, Calls Tryz.prog 37 #[.string (tlS s)] W fun e w' => e = .returned (.tuple #[.int .i64 (rd (tlS s)).1, .bool (rd (tlS s)).2]) ∧ Below W.heap.size W w') := fun W => specReadDec_all _ W (by rw [tlS_size]; omega)
  unfold numOf
  generalize hx : (rd (tlS s)).1 = x at CR
  generalize hz : (rd (tlS s)).2 = z at CR
  clear hx hz
  cases z with
  | false =>
    rw [if_neg (by simp)]
    go_enter Tryz.func18, Tryz.ntmps18
    go_wp2_with fail
    refine Calls.mono (CR.out _) ?_
    rintro e w2 ⟨rfl, hb2⟩
    go_wp2
    go_ret
    exact ⟨rfl, hb2⟩
  | true =>
    by_cases h : jname x = s
    · rw [if_pos ⟨rfl, h⟩]
      have HQ := eq_list h
      clear h
      go_enter Tryz.func18, Tryz.ntmps18
      go_wp2_with fail
      refine Calls.mono (CR.out _) ?_
      rintro e w2 ⟨rfl, hb2⟩
      go_wp2_with fail
      refine Calls.mono (specJournalName_any x _) ?_
      rintro e w3 ⟨rfl, hb3⟩
      go_wp2
      go_ret
      exact ⟨rfl, Below.on hb2 hb3⟩
    · rw [if_neg (fun hh => h hh.2)]
      have HQ := ne_list h
      clear h
      go_enter Tryz.func18, Tryz.ntmps18
      go_wp2_with fail
      refine Calls.mono (CR.out _) ?_
      rintro e w2 ⟨rfl, hb2⟩
      go_wp2_with fail
      refine Calls.mono (specJournalName_any x _) ?_
      rintro e w3 ⟨rfl, hb3⟩
      go_wp2
      go_ret
      exact ⟨rfl, Below.on hb2 hb3⟩
end Go.Proofs.YtgpojfkdcdgloaaGreatDoor
