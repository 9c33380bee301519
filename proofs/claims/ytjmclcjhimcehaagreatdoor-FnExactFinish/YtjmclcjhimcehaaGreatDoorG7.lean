/-
  Decimal figures read: the walks of the two readers. A piece of a field of a rule, as the specification reads it: the walk. A number of a reach, steps of a reach, and two fields together, as the program reads them: the walks. Rows of flags: small facts.
-/
import Derived.Test.YtjmclcjhimcehaaGreatDoorG6
import Derived.Test.YtjmclcjhimcehaaGreatDoorG3
import Derived.Test.YtjmclcjhimcehaaGreatDoorG4
namespace Go.Proofs.YtjmclcjhimcehaaGreatDoor
open Go.RowKit

theorem rd_ret {s : ByteArray} {x a : Int} {z b : Bool} (HR : Hid (rd s = (x, z))) (h : rd s = (a, b)) : Ending.returned (.tuple #[.int .i64 a, .bool b]) = .returned (.tuple #[.int .i64 x, .bool z]) := by
  rw [HR.out] at h
  simp only [Prod.mk.injEq] at h
  rw [h.1, h.2]
theorem valD_bd {s : ByteArray} {l : List Nat} (h : figTo s l) (hs : s.size ≤ 10) (hlt : l.length < s.size) : valD l < 1000000000 := by
  have h1 := valD_lt l h.2.1
  have h2 : 10 ^ l.length ≤ 10 ^ 9 := Nat.pow_le_pow_right (by decide) (by omega)
  omega
theorem valD_bd' {s : ByteArray} {l : List Nat} (h : figTo s l) (hs : s.size ≤ 10) : valD l < 10000000000 := by
  have h1 := valD_lt l h.2.1
  have h2 : 10 ^ l.length ≤ 10 ^ 10 := Nat.pow_le_pow_right (by decide) (by have := h.1; omega)
  omega

set_option maxRecDepth 10000 in
set_option maxHeartbeats 400000 in
theorem specReadDec_long (s : ByteArray) (w : World) (hs0 : s.size ≤ 9223372036854775807) (hs : 10 < s.size) :
    Calls Tryz.prog 188 #[.string s] w fun e w' => e = .returned (.tuple #[.int .i64 0, .bool false]) ∧ Below w.heap.size w w' := by
  go_enter Tryz.func188, Tryz.ntmps188
  go_wp2
  go_ret2
  exact ⟨rfl, Below.refl _ _⟩

theorem figTo_next {s : ByteArray} {i m : Nat} {l : List Nat} (HF : Hid (figTo s l ∧ l.length = i ∧ valD l = m)) (hlt : i < s.size) (h1 : 48 ≤ s[i].toNat) (h2 : s[i].toNat ≤ 57) :
    Hid (figTo s (l ++ [s[i].toNat - 48]) ∧ (l ++ [s[i].toNat - 48]).length = i + 1 ∧ valD (l ++ [s[i].toNat - 48]) = 10 * m + (s[i].toNat - 48)) := by
  obtain ⟨f1, f2, f3⟩ := HF.out
  subst f2
  exact ⟨figTo_snoc f1 hlt h1 h2, by simp, by rw [valD_snoc, f3]⟩
theorem rd_end_bad {s : ByteArray} {i m : Nat} {l : List Nat} (HF : Hid (figTo s l ∧ l.length = i ∧ valD l = m)) (hlt : ¬ i < s.size) (hi : i ≤ s.size) (hne : (!(bstr (decI ((m : Int).toNat))).toList == s.toList) = true) : rd s = (0, false) := by
  obtain ⟨f1, f2, f3⟩ := HF.out
  rw [Int.toNat_natCast, ← f3, same_figs f1 (by omega)] at hne
  by_cases h0 : s.size = 0
  · exact rd_out (Or.inl h0)
  · have hz : (s.data.toList.getD 0 0).toNat = 48 ∧ 1 < s.size := by
      by_cases hz : (s.data.toList.getD 0 0).toNat = 48 ∧ 1 < s.size
      · exact hz
      · rw [decide_eq_true ⟨h0, hz⟩] at hne
        simp at hne
    rw [byteAt s 0 (by omega)] at hz
    exact rd_nought hz.2 hz.1
theorem rd_end_ok {s : ByteArray} {i m : Nat} {l : List Nat} (HF : Hid (figTo s l ∧ l.length = i ∧ valD l = m)) (hlt : ¬ i < s.size) (hi : i ≤ s.size) (hs : s.size ≤ 10) (hm : m ≤ 1000000000) (hne : (!(bstr (decI ((m : Int).toNat))).toList == s.toList) = false) :
    rd s = ((m : Int), true) := by
  obtain ⟨f1, f2, f3⟩ := HF.out
  rw [Int.toNat_natCast, ← f3, same_figs f1 (by omega)] at hne
  have hh : s.size ≠ 0 ∧ ¬ ((s.data.toList.getD 0 0).toNat = 48 ∧ 1 < s.size) := by
    by_cases hh : s.size ≠ 0 ∧ ¬ ((s.data.toList.getD 0 0).toNat = 48 ∧ 1 < s.size)
    · exact hh
    · rw [decide_eq_false hh] at hne
      simp at hne
  rw [← f3]
  exact rd_all f1 (by omega) (by omega) hh.2 (by omega)

set_option maxRecDepth 10000 in
set_option maxHeartbeats 1000000 in
theorem specReadDec_any (s : ByteArray) (w : World) (hs : s.size ≤ 10) (x : Int) (z : Bool) (HR : Hid (rd s = (x, z))) :
    Calls Tryz.prog 188 #[.string s] w fun e w' => e = .returned (.tuple #[.int .i64 x, .bool z]) ∧ Below w.heap.size w w' := by
  go_enter Tryz.func188, Tryz.ntmps188
  go_wp2
  go_loop [4, 5] (fun n c => ∃ (i m : Nat) (l : List Nat), i ≤ s.size ∧ c = .int .i64 i ∧ n = .int .i64 m ∧ Hid (figTo s l ∧ l.length = i ∧ valD l = m)) (fun _ c => s.size - (intOf c).toNat)
  case atStart => exact ⟨0, 0, [], Nat.zero_le _, rfl, rfl, figTo_nil s, rfl, rfl⟩
  case round =>
    obtain ⟨i, m, l, hi, rfl, rfl, HF⟩ := hrel
    by_cases hlt : i < s.size
    · have hm : m < 1000000000 := by obtain ⟨h1, h2, h3⟩ := HF.out; rw [← h3]; exact valD_bd h1 hs (by omega)
      have h256 := s[i].toNat_lt
      by_cases h1 : s[i].toNat < 48
      · go_wp2
        go_ret2
        exact ⟨rd_ret HR (rd_none hlt (Or.inl (by omega))), Below.refl _ _⟩
      · by_cases h2 : 57 < s[i].toNat
        · go_wp2
          go_ret2
          exact ⟨rd_ret HR (rd_none hlt (Or.inr (by omega))), Below.refl _ _⟩
        · go_wp2
          go_round
          case rel => exact ⟨i + 1, 10 * m + (s[i].toNat - 48), l ++ [s[i].toNat - 48], by omega, by go_num, by go_num, figTo_next HF hlt (by omega) (by omega)⟩
          case measure => simp [intOf]; omega
    · have hm : m < 10000000000 := by obtain ⟨h1, h2, h3⟩ := HF.out; rw [← h3]; exact valD_bd' h1 hs
      by_cases hx : 1000000000 < m
      · go_wp2
        go_ret2
        exact ⟨rd_ret HR (by obtain ⟨h1, h2, h3⟩ := HF.out; exact rd_big h1 (by omega) (by omega)), Below.refl _ _⟩
      · have hx' : decide (1000000000 < (m : Int)) = false := by simp; omega
        go_wp2_with (go_at_call 160; refine (specDecimal_any _ _ (by omega) (by omega)).mono ?_; rintro e w1 ⟨rfl, hb1⟩)
        · have hne : (!(bstr (decI ((m : Int).toNat))).toList == s.toList) = true := by assumption
          go_ret2
          exact ⟨rd_ret HR (rd_end_bad HF hlt hi hne), hb1⟩
        · have hne : (!(bstr (decI ((m : Int).toNat))).toList == s.toList) = false := by assumption
          go_ret2
          exact ⟨rd_ret HR (rd_end_ok HF hlt hi hs (by omega) hne), hb1⟩

set_option maxRecDepth 10000 in
set_option maxHeartbeats 400000 in
theorem readDec_out (s : ByteArray) (w : World) (hs0 : s.size ≤ 9223372036854775807) (hs : s.size = 0 ∨ 10 < s.size) :
    Calls Tryz.prog 225 #[.string s] w fun e w' => e = .returned (.tuple #[.int .i64 0, .bool false]) ∧ Below w.heap.size w w' := by
  by_cases h1 : s.size = 0
  · have h2 : ((s.size : Int) == 0) = true := beq_iff_eq.2 (by omega)
    clear hs h1
    go_enter Tryz.func225, Tryz.ntmps225
    go_wp2
    go_step3
    go_wp2
    rw [Exit.noGoto_ret]
    go_ret2
    exact ⟨rfl, Below.refl _ _⟩
  · have h2 : ((s.size : Int) == 0) = false := beq_eq_false_iff_ne.2 (by omega)
    have h3 : 10 < s.size := by omega
    clear hs h1
    go_enter Tryz.func225, Tryz.ntmps225
    go_wp2
    go_step3
    go_wp2
    rw [Exit.noGoto_ret]
    go_ret2
    exact ⟨rfl, Below.refl _ _⟩

set_option maxRecDepth 10000 in
set_option maxHeartbeats 400000 in
theorem readDec_nought (s : ByteArray) (w : World) (hs : s.size ≤ 10) (h1 : 1 < s.size) (hz : s[0].toNat = 48) :
    Calls Tryz.prog 225 #[.string s] w fun e w' => e = .returned (.tuple #[.int .i64 0, .bool false]) ∧ Below w.heap.size w w' := by
  have h2 : ((s.size : Int) == 0) = false := beq_eq_false_iff_ne.2 (by omega)
  have hz2 : ((s[0].toNat : Int) == 48) = true := beq_iff_eq.2 (by omega)
  clear hz
  go_enter Tryz.func225, Tryz.ntmps225
  go_wp2
  go_step3
  go_wp2
  rw [Exit.noGoto_ret]
  go_ret2
  exact ⟨rfl, Below.refl _ _⟩

set_option maxRecDepth 10000 in
set_option maxHeartbeats 1000000 in
theorem readDec_in (s : ByteArray) (w : World) (hs : s.size ≤ 10) (h1 : 0 < s.size) (hz : ¬ (s[0].toNat = 48 ∧ 1 < s.size)) (x : Int) (z : Bool) (HR : Hid (rd s = (x, z))) :
    Calls Tryz.prog 225 #[.string s] w fun e w' => e = .returned (.tuple #[.int .i64 x, .bool z]) ∧ Below w.heap.size w w' := by
  have h2 : ((s.size : Int) == 0) = false := beq_eq_false_iff_ne.2 (by omega)
  have HZ : Hid (¬ (s[0].toNat = 48 ∧ 1 < s.size)) := hz
  have hcase : ((s[0].toNat : Int) == 48) = false ∨ (((s[0].toNat : Int) == 48) = true ∧ ¬ (1 : Int) < (s.size : Int)) := by
    by_cases h : s[0].toNat = 48
    · right; exact ⟨beq_iff_eq.2 (by omega), by intro h'; exact hz ⟨h, by omega⟩⟩
    · left; exact beq_eq_false_iff_ne.2 (by omega)
  clear hz
  rcases hcase with hc | ⟨hc, hc2⟩
  all_goals
    go_enter Tryz.func225, Tryz.ntmps225
    go_wp2
    go_step3
    go_wp2
    go_step3
    go_wp2
    go_loop [4, 5] (fun n c => ∃ (i m : Nat) (l : List Nat), i ≤ s.size ∧ c = .int .i64 i ∧ n = .int .i64 m ∧ Hid (figTo s l ∧ l.length = i ∧ valD l = m)) (fun _ c => s.size - (intOf c).toNat)
    case atStart => exact ⟨0, 0, [], Nat.zero_le _, rfl, rfl, figTo_nil s, rfl, rfl⟩
    case round =>
      obtain ⟨i, m, l, hi, rfl, rfl, HF⟩ := hrel
      clear hc
      by_cases hlt : i < s.size
      · have hm : m < 1000000000 := by obtain ⟨h1, h2, h3⟩ := HF.out; rw [← h3]; exact valD_bd h1 hs (by omega)
        have h256 := s[i].toNat_lt
        have hne : ((i : Int) != (s.size : Int)) = true := by rw [bne_iff_ne]; omega
        by_cases h1 : s[i].toNat < 48
        · go_wp2
          go_ret2
          exact ⟨rd_ret HR (rd_none hlt (Or.inl (by omega))), Below.refl _ _⟩
        · by_cases h2 : 57 < s[i].toNat
          · go_wp2
            go_ret2
            exact ⟨rd_ret HR (rd_none hlt (Or.inr (by omega))), Below.refl _ _⟩
          · go_wp2
            go_round
            case rel => exact ⟨i + 1, 10 * m + (s[i].toNat - 48), l ++ [s[i].toNat - 48], by omega, by go_num, by go_num, figTo_next HF hlt (by omega) (by omega)⟩
            case measure => simp [intOf]; omega
      · have hm : m < 10000000000 := by obtain ⟨h1, h2, h3⟩ := HF.out; rw [← h3]; exact valD_bd' h1 hs
        have hne : ((i : Int) != (s.size : Int)) = false := by rw [bne_eq_false_iff_eq]; omega
        by_cases hx : 1000000000 < m
        · go_wp2
          go_ret2
          exact ⟨rd_ret HR (by obtain ⟨h1, h2, h3⟩ := HF.out; exact rd_big h1 (by omega) (by omega)), Below.refl _ _⟩
        · go_wp2
          go_ret2
          exact ⟨rd_ret HR (by obtain ⟨h1, h2, h3⟩ := HF.out; rw [← h3]; exact rd_all h1 (by omega) (by omega) (by rw [byteAt s 0 (by omega)]; exact HZ.out) (by omega)), Below.refl _ _⟩

theorem readDec_any (s : ByteArray) (w : World) (hs : s.size ≤ 10) (x : Int) (z : Bool) (HR : Hid (rd s = (x, z))) :
    Calls Tryz.prog 225 #[.string s] w fun e w' => e = .returned (.tuple #[.int .i64 x, .bool z]) ∧ Below w.heap.size w w' := by
  by_cases h0 : s.size = 0
  · have := readDec_out s w (by omega) (Or.inl h0)
    rw [← Ending.returned.inj (rd_ret HR (rd_out (Or.inl h0)))]
    exact this
  · by_cases hz : s[0].toNat = 48 ∧ 1 < s.size
    · have := readDec_nought s w hs hz.2 hz.1
      rw [← Ending.returned.inj (rd_ret HR (rd_nought hz.2 hz.1))]
      exact this
    · exact readDec_in s w hs (by omega) hz x z HR

end Go.Proofs.YtjmclcjhimcehaaGreatDoor

namespace Go.Proofs.YtjmclcjhimcehaaGreatDoor
open Go Go.RowKit

theorem rd_long {s : ByteArray} (h : 10 < s.size) : rd s = (0, false) := by unfold rd; rw [if_pos (.inr h)]
theorem specReadDec_all (s : ByteArray) (w : World) (hs : s.size ≤ 9223372036854775807) :
    Calls Tryz.prog 188 #[.string s] w fun e w' => e = .returned (.tuple #[.int .i64 (rd s).1, .bool (rd s).2]) ∧ Below w.heap.size w w' := by
  by_cases h : 10 < s.size
  · rw [rd_long h]; exact specReadDec_long s w hs h
  · exact specReadDec_any s w (by omega) _ _ rfl
theorem rd_bd (s : ByteArray) : 0 ≤ (rd s).1 ∧ (rd s).1 ≤ 1000000000 := by
  unfold rd
  repeat' split
  all_goals first | exact ⟨Int.le_refl _, by decide⟩ | (constructor <;> simp <;> omega)

def pieceP (lo hi : Int) (p : List ByteArray) : Int × Int × Int × Bool :=
  ((rd (p.getD 0 ByteArray.empty)).1, (if p.length = 2 then rd (p.getD 1 ByteArray.empty) else ((rd (p.getD 0 ByteArray.empty)).1, true)).1, 1,
    (rd (p.getD 0 ByteArray.empty)).2 && (if p.length = 2 then rd (p.getD 1 ByteArray.empty) else ((rd (p.getD 0 ByteArray.empty)).1, true)).2 && decide (p.length ≤ 2) && decide (lo ≤ (rd (p.getD 0 ByteArray.empty)).1) && decide ((rd (p.getD 0 ByteArray.empty)).1 ≤ (if p.length = 2 then rd (p.getD 1 ByteArray.empty) else ((rd (p.getD 0 ByteArray.empty)).1, true)).1) && decide ((if p.length = 2 then rd (p.getD 1 ByteArray.empty) else ((rd (p.getD 0 ByteArray.empty)).1, true)).1 ≤ hi))
/-- A piece of a field: from, upto, step, and whether it is one. -/
def piece (s : ByteArray) (lo hi : Int) : Int × Int × Int × Bool :=
  if s = ⟨#[42]⟩ then (lo, hi, 1, true)
  else if 2 < s.size ∧ s.extract 0 2 = ⟨#[42, 47]⟩ then (lo, hi, (rd (s.extract 2 s.size)).1, (rd (s.extract 2 s.size)).2 && decide (1 ≤ (rd (s.extract 2 s.size)).1))
  else pieceP lo hi (splitB s 45)
theorem cutsN_some (s : ByteArray) (c : Nat) : 0 < (splitB s c).length := by
  unfold splitB
  rw [cutsN, if_pos (.inl rfl)]
  simp
theorem ownsS_read {w : World} {B : Nat} {v : Value} {l : List ByteArray} (h : ownsS w B 9 v l) (hne : 0 < l.length) : ∃ g c, v = .slice (some ⟨g, 0, none⟩) l.length c ∧ g < w.heap.size ∧ ∀ k t, l[k]? = some t → w.cell? ⟨g, k, none⟩ = some (.string t) := by
  obtain ⟨g, c, rfl, _, hg, _, hc, _⟩ := ownsS_form h (by rintro rfl; simp at hne)
  refine ⟨g, c, rfl, hg, fun k t hk => ?_⟩
  obtain ⟨hlt, rfl⟩ := List.getElem?_eq_some_iff.1 hk
  exact hc k hlt
theorem splitB_sz (s : ByteArray) (c : Nat) : ∀ t ∈ splitB s c, t.size ≤ s.size := by
  have key : ∀ i, ∀ t ∈ (cutsN s c i).1, t.size ≤ s.size := by
    intro i
    induction i with
    | zero => intro t ht; simp [cutsN] at ht
    | succ i ih =>
      intro t ht
      unfold cutsN at ht
      split at ht
      · rcases List.mem_append.1 ht with h | h
        · exact ih t h
        · rw [List.mem_singleton.1 h]; simp; omega
      · exact ih t ht
  exact key _

theorem star_list : (⟨#[42]⟩ : ByteArray).toList = [42] := (ByteArray.toList_eq _).trans rfl
theorem step_list : (⟨#[42, 47]⟩ : ByteArray).toList = [42, 47] := (ByteArray.toList_eq _).trans rfl
set_option maxRecDepth 10000 in
set_option maxHeartbeats 4000000 in
theorem l10Piece_any (s : ByteArray) (lo hi : Int) (w : World) (hs : s.size ≤ 1048576) :
    Calls Tryz.prog 158 #[.string s, .int .i64 lo, .int .i64 hi] w fun e w' => e = .returned (.tuple #[.int .i64 (piece s lo hi).1, .int .i64 (piece s lo hi).2.1, .int .i64 (piece s lo hi).2.2.1, .bool (piece s lo hi).2.2.2]) ∧ Below w.heap.size w w' := by
  by_cases h1 : s = ⟨#[42]⟩
  · have HP : Hid (piece s lo hi = (lo, hi, 1, true)) := by show piece s lo hi = _; unfold piece; rw [if_pos h1]
    rw [HP.out]
    clear HP
    subst h1
    go_enter Tryz.func158, Tryz.ntmps158
    go_wp2
    refine bodyPost_ret (v := .tuple #[.int .i64 lo, .int .i64 hi, .int .i64 1, .bool true]) (by simp [results, Tryz.results158, go_sem]) rfl ⟨rfl, Below.refl _ _⟩
  have hq : (s.toList == [42]) = false := by rw [← star_list]; exact ne_list h1
  by_cases h2 : 2 < s.size ∧ s.extract 0 2 = ⟨#[42, 47]⟩
  · obtain ⟨x, HX⟩ : ∃ x, Hid (rd (s.extract 2 s.size) = x) := ⟨_, rfl⟩
    have HP : Hid (piece s lo hi = (lo, hi, x.1, x.2 && decide (1 ≤ x.1))) := by show piece s lo hi = _; unfold piece; rw [if_neg h1, if_pos h2, HX.out]
    rw [HP.out]
    obtain ⟨h3, h4⟩ := h2
    have hq2 : ((s.extract 0 2).toList == [42, 47]) = true := by rw [← step_list]; exact eq_list h4
    clear HP h1 h4
    have hsl : ∀ wx, (Instr.slice 9 (.string s) none (some (.int .i64 2)) none).run Tryz.prog wx = .ok (.string (s.extract 0 2)) wx := fun wx => by
      rw [run_slice_string_to_if (P := Tryz.prog) wx 9 s .i64 2 Tryz.underlying9]
      have : (2 : Int) ≤ s.size := by omega
      simp [this]
    have hsl2 : ∀ wx, (Instr.slice 9 (.string s) (some (.int .i64 2)) none none).run Tryz.prog wx = .ok (.string (s.extract 2 s.size)) wx := fun wx => by
      rw [run_slice_string_from_if (P := Tryz.prog) wx 9 s .i64 2 Tryz.underlying9]
      have : (2 : Int) ≤ s.size := by omega
      simp [this]
    have HZ : Hid ((s.extract 2 s.size).size ≤ 9223372036854775807) := by show _ ≤ _; simp; omega
    go_enter Tryz.func158, Tryz.ntmps158
    go_wp2_with (go_at_call 188; refine (specReadDec_all _ _ HZ.out).mono ?_; rintro e w1 ⟨rfl, hb1⟩; rw [HX.out])
    all_goals
      go_returns
      exact ⟨by simp [*], hb1⟩
  · have HP : Hid (piece s lo hi = pieceP lo hi (splitB s 45)) := by show piece s lo hi = _; unfold piece; rw [if_neg h1, if_neg h2]
    obtain ⟨p, HS⟩ : ∃ p, Hid (splitB s 45 = p) := ⟨_, rfl⟩
    have hp0 : 0 < p.length := by rw [← HS.out]; exact cutsN_some s 45
    have HPZ : Hid (∀ t ∈ p, t.size ≤ 9223372036854775807) := fun t ht => by have := splitB_sz s 45 t (by rw [HS.out]; exact ht); omega
    obtain ⟨t0, ht0⟩ : ∃ t, p[0]? = some t := ⟨_, List.getElem?_eq_getElem hp0⟩
    obtain ⟨a, z0, HA⟩ : ∃ a z, Hid (rd t0 = (a, z)) := ⟨_, _, rfl⟩
    have HT0 : Hid (t0.size ≤ 9223372036854775807) := HPZ.out t0 (List.mem_of_getElem? ht0)
    have hg0 : p.getD 0 ByteArray.empty = t0 := by rw [List.getD_eq_getElem?_getD, ht0]; rfl
    have hpl : p.length ≤ 1048577 := by
      rw [← HS.out]; unfold splitB; have := (cutsN_bd s 45 (s.size + 1)).2; omega
    have hsl : 2 < s.size → ∀ wx, (Instr.slice 9 (.string s) none (some (.int .i64 2)) none).run Tryz.prog wx = .ok (.string (s.extract 0 2)) wx := fun h3 wx => by
      rw [run_slice_string_to_if (P := Tryz.prog) wx 9 s .i64 2 Tryz.underlying9]
      have : (2 : Int) ≤ s.size := by omega
      simp [this]
    by_cases hp2 : p.length = 2
    · obtain ⟨t1, ht1⟩ : ∃ t, p[1]? = some t := ⟨_, List.getElem?_eq_getElem (by omega)⟩
      obtain ⟨b, z1, HB⟩ : ∃ a z, Hid (rd t1 = (a, z)) := ⟨_, _, rfl⟩
      have HT1 : Hid (t1.size ≤ 9223372036854775807) := HPZ.out t1 (List.mem_of_getElem? ht1)
      have hg1 : p.getD 1 ByteArray.empty = t1 := by rw [List.getD_eq_getElem?_getD, ht1]; rfl
      have HP2 : Hid (piece s lo hi = (a, b, 1, z0 && z1 && true && decide (lo ≤ a) && decide (a ≤ b) && decide (b ≤ hi))) := by
        show piece s lo hi = _
        rw [HP.out, HS.out]; unfold pieceP; rw [hg0, hg1, if_pos hp2, HA.out, HB.out, decide_eq_true (p := p.length ≤ 2) (by omega)]
      rw [HP2.out]
      clear hg0 hg1 HP HP2 h1
      by_cases h3 : 2 < s.size
      · have hq2 : ((s.extract 0 2).toList == [42, 47]) = false := by rw [← step_list]; exact ne_list (fun e => h2 ⟨h3, e⟩)
        replace hsl := hsl h3
        clear h2
        go_enter Tryz.func158, Tryz.ntmps158
        go_wp2_with fail
        refine (l10Split_any s 45 _ hs).mono ?_
        rintro e w1 ⟨v1, rfl, ho1, hb1⟩
        rw [HS.out] at ho1
        obtain ⟨g, c, rfl, hg, hcell⟩ := ownsS_read ho1 hp0
        have c0 := hcell 0 t0 ht0
        have c1 := hcell 1 t1 ht1
        clear hcell
        go_wp2_with fail
        refine (specReadDec_all _ _ HT0.out).mono ?_
        rintro e w2 ⟨rfl, hb2⟩
        rw [HA.out]
        have c2 := cell_up hb2 c1
        go_wp2_with fail
        refine (specReadDec_all _ _ HT1.out).mono ?_
        rintro e w3 ⟨rfl, hb3⟩
        rw [HB.out]
        go_wp2
        all_goals
          go_returns
          exact ⟨by simp [*] <;> omega, Below.on (Below.on hb1 hb2) hb3⟩
      · clear h2
        go_enter Tryz.func158, Tryz.ntmps158
        go_wp2_with fail
        refine (l10Split_any s 45 _ hs).mono ?_
        rintro e w1 ⟨v1, rfl, ho1, hb1⟩
        rw [HS.out] at ho1
        obtain ⟨g, c, rfl, hg, hcell⟩ := ownsS_read ho1 hp0
        have c0 := hcell 0 t0 ht0
        have c1 := hcell 1 t1 ht1
        clear hcell
        go_wp2_with fail
        refine (specReadDec_all _ _ HT0.out).mono ?_
        rintro e w2 ⟨rfl, hb2⟩
        rw [HA.out]
        have c2 := cell_up hb2 c1
        go_wp2_with fail
        refine (specReadDec_all _ _ HT1.out).mono ?_
        rintro e w3 ⟨rfl, hb3⟩
        rw [HB.out]
        go_wp2
        all_goals
          go_returns
          exact ⟨by simp [*] <;> omega, Below.on (Below.on hb1 hb2) hb3⟩
    · have HP2 : Hid (piece s lo hi = (a, a, 1, z0 && true && decide (p.length ≤ 2) && decide (lo ≤ a) && decide (a ≤ a) && decide (a ≤ hi))) := by
        show piece s lo hi = _
        rw [HP.out, HS.out]; unfold pieceP; rw [hg0, if_neg hp2, HA.out]
      rw [HP2.out]
      clear hg0 HP HP2 h1
      have hp9 : ¬ (p.length : Int) = 2 := by omega
      by_cases h3 : 2 < s.size
      · have hq2 : ((s.extract 0 2).toList == [42, 47]) = false := by rw [← step_list]; exact ne_list (fun e => h2 ⟨h3, e⟩)
        replace hsl := hsl h3
        clear h2
        go_enter Tryz.func158, Tryz.ntmps158
        go_wp2_with fail
        refine (l10Split_any s 45 _ hs).mono ?_
        rintro e w1 ⟨v1, rfl, ho1, hb1⟩
        rw [HS.out] at ho1
        obtain ⟨g, c, rfl, hg, hcell⟩ := ownsS_read ho1 hp0
        have c0 := hcell 0 t0 ht0
        clear hcell
        go_wp2_with fail
        refine (specReadDec_all _ _ HT0.out).mono ?_
        rintro e w2 ⟨rfl, hb2⟩
        rw [HA.out]
        go_wp2
        all_goals
          go_returns
          exact ⟨by simp [*] <;> omega, Below.on hb1 hb2⟩
      · clear h2
        go_enter Tryz.func158, Tryz.ntmps158
        go_wp2_with fail
        refine (l10Split_any s 45 _ hs).mono ?_
        rintro e w1 ⟨v1, rfl, ho1, hb1⟩
        rw [HS.out] at ho1
        obtain ⟨g, c, rfl, hg, hcell⟩ := ownsS_read ho1 hp0
        have c0 := hcell 0 t0 ht0
        clear hcell
        go_wp2_with fail
        refine (specReadDec_all _ _ HT0.out).mono ?_
        rintro e w2 ⟨rfl, hb2⟩
        rw [HA.out]
        go_wp2
        all_goals
          go_returns
          exact ⟨by simp [*] <;> omega, Below.on hb1 hb2⟩
end Go.Proofs.YtjmclcjhimcehaaGreatDoor

namespace Go.Proofs.YtjmclcjhimcehaaGreatDoor
open Go Go.RowKit
set_option linter.unusedVariables false

theorem readDec_all (s : ByteArray) (w : World) (hs : s.size ≤ 9223372036854775807) :
    Calls Tryz.prog 225 #[.string s] w fun e w' => e = .returned (.tuple #[.int .i64 (rd s).1, .bool (rd s).2]) ∧ Below w.heap.size w w' := by
  by_cases h : s.size = 0 ∨ 10 < s.size
  · rw [rd_out h]
    exact readDec_out s w hs h
  · exact readDec_any s w (by omega) _ _ rfl

set_option maxRecDepth 10000 in
set_option maxHeartbeats 1000000 in
theorem readNumber_any (s : ByteArray) (lo hi : Int) (w : World) (hs : s.size ≤ 9223372036854775807) :
    Calls Tryz.prog 215 #[.string s, .agg #[.int .i64 lo, .int .i64 hi]] w fun e w' => e = .returned (.tuple #[.int .i64 (rd s).1, .bool ((rd s).2 && decide (lo ≤ (rd s).1) && decide ((rd s).1 ≤ hi))]) ∧ Below w.heap.size w w' := by
  have HR : Hid (∀ W, Calls Tryz.prog 225 #[.string s] W fun e w' => e = .returned (.tuple #[.int .i64 (rd s).1, .bool (rd s).2]) ∧ Below W.heap.size W w') := fun W => readDec_all s W hs
  obtain ⟨x, hx⟩ : ∃ x, (rd s).1 = x := ⟨_, rfl⟩
  obtain ⟨q, hq⟩ : ∃ q, (rd s).2 = q := ⟨_, rfl⟩
  rw [hx, hq] at HR
  rw [hx, hq]
  clear hx hq
  go_enter Tryz.func215, Tryz.ntmps215
  go_wp2_with fail
  refine (HR.out _).mono ?_
  rintro e w1 ⟨rfl, hb1⟩
  have c0 : w1.cell? ⟨w.heap.size, 0, none⟩ = some (.int .i64 lo) := (hb1.cell (by simp)).trans (by simp [go_sem])
  have c1 : w1.cell? ⟨w.heap.size, 1, none⟩ = some (.int .i64 hi) := (hb1.cell (by simp)).trans (by simp [go_sem])
  have B1 := below_new hb1
  clear hb1 HR
  cases q with
  | false =>
    go_wp2
    go_quiet (fail)
    go_wp2
    go_ret2
    exact ⟨by simp, bdrewN B1 _⟩
  | true =>
    by_cases h1 : lo ≤ x
    · have g1 : decide (lo ≤ x) = true := decide_eq_true h1
      go_wp2
      go_quiet (fail)
      go_wp2
      go_ret2
      exact ⟨by simp [h1], bdrewN B1 _⟩
    · have g1 : decide (lo ≤ x) = false := decide_eq_false h1
      go_wp2
      go_quiet (fail)
      go_wp2
      go_ret2
      exact ⟨by simp; omega, bdrewN B1 _⟩

/-- Flags, or none. -/
def orNone (q : Bool) (p : Nat → Bool) : Nat → Bool := if q then p else fun _ => false
set_option maxRecDepth 10000 in
set_option maxHeartbeats 1000000 in
theorem readSteps_any (s : ByteArray) (lo : Nat) (hi : Int) (w : World) (hs : s.size ≤ 9223372036854775807) (hlo : lo ≤ 60) (h9 : hi ≤ 59) :
    Calls Tryz.prog 213 #[.string s, .agg #[.int .i64 (lo : Int), .int .i64 hi]] w fun e w' => e = .returned (.tuple #[.agg (fldA (orNone ((rd s).2 && decide (1 ≤ (rd s).1)) (eachP lo hi (rd s).1.toNat))), .bool ((rd s).2 && decide (1 ≤ (rd s).1))]) ∧ Below w.heap.size w w' := by
  have HR : Hid (∀ W, Calls Tryz.prog 225 #[.string s] W fun e w' => e = .returned (.tuple #[.int .i64 (rd s).1, .bool (rd s).2]) ∧ Below W.heap.size W w') := fun W => readDec_all s W hs
  have hbd := rd_bd s
  obtain ⟨x, hx⟩ : ∃ x : Nat, (rd s).1 = x := ⟨(rd s).1.toNat, by omega⟩
  obtain ⟨q, hq⟩ : ∃ q, (rd s).2 = q := ⟨_, rfl⟩
  rw [hx, hq] at HR
  rw [hx] at hbd
  rw [hx, hq, Int.toNat_natCast]
  clear hx hq
  have HE : Hid (1 ≤ x → ∀ W, Calls Tryz.prog 196 #[.agg #[.int .i64 (lo : Int), .int .i64 hi], .int .i64 (x : Int)] W fun e w' => e = .returned (.agg (fldA (eachP lo hi x))) ∧ Below W.heap.size W w') := fun h W => eachOf_nat lo x hi W hlo h9 h (by omega)
  go_enter Tryz.func213, Tryz.ntmps213
  obtain ⟨V, HV⟩ : ∃ V, Hid ((w.alloc (.cells #[.int .i64 (lo : Int), .int .i64 hi] 206)).alloc (.cells (fldA fun _ => false) 200) = V) := ⟨_, rfl⟩
  have HZ : Hid (Fb 200 V (w.heap.size + 1) (fun _ => false)) := by show Fb _ _ _ _; rw [← HV.out]; exact Fb.new 200 _ _ (by simp)
  have c0 : V.cell? ⟨w.heap.size, 0, none⟩ = some (.int .i64 (lo : Int)) := by rw [← HV.out]; simp [go_sem]
  have c1 : V.cell? ⟨w.heap.size, 1, none⟩ = some (.int .i64 hi) := by rw [← HV.out]; simp [go_sem]
  have BV : Below w.heap.size w V := by rw [← HV.out]; exact ba (ba (Below.refl _ _) _) _
  go_wp2_with (first | (refine wpl_alloc rfl rfl ?_; rw [HV.out]))
  refine (HR.out _).mono ?_
  rintro e w1 ⟨rfl, hb1⟩
  have d0 := cell_up hb1 c0
  have d1 := cell_up hb1 c1
  have B1 := Below.on BV hb1
  have HZ1 : Hid (Fb 200 w1 (w.heap.size + 1) (fun _ => false)) := HZ.out.up hb1
  clear hb1 HR c0 c1 BV HZ HV
  by_cases hok : q = true ∧ 1 ≤ x
  · obtain ⟨rfl, h1⟩ := hok
    have g1 : decide ((x : Int) < 1) = false := decide_eq_false (by omega)
    have g2 : decide (1 ≤ (x : Int)) = true := decide_eq_true (by omega)
    have HE1 := HE.out h1
    have HEE : Hid (∀ W, Calls Tryz.prog 196 #[.agg #[.int .i64 (lo : Int), .int .i64 hi], .int .i64 (x : Int)] W fun e w' => e = .returned (.agg (fldA (eachP lo hi x))) ∧ Below W.heap.size W w') := HE1
    clear HE HE1
    go_wp2_with fail
    refine (HEE.out _).mono ?_
    rintro e w2 ⟨rfl, hb2⟩
    have HZ2 : Hid (Fb 200 w2 (w.heap.size + 1) (fun _ => false)) := HZ1.out.up hb2
    have B2 := Below.on B1 hb2
    clear hb2 d0 d1
    go_wp2_with (refine wpl_store HZ2.out (eachP lo hi x) (.tmp 4) (.tmp 22) rfl rfl rfl rfl ?_)
    refine bodyPost_ret (ret_f2 rfl rfl rfl (HZ2.out.row _)) rfl ?_
    exact ⟨by rw [g2]; rfl, below_setRow B2 (by omega) _⟩
  · have hr : (q && decide (1 ≤ (x : Int))) = false := by
      cases q with
      | false => rfl
      | true => rw [decide_eq_false (fun h => hok ⟨rfl, by omega⟩)]; rfl
    have HRR : Hid ((q && decide (1 ≤ (x : Int))) = false) := hr
    clear hr HE
    cases q with
    | false =>
      go_wp2_with (first | (refine wpl_build rfl rfl ?_) | (refine wpl_store HZ1.out (fun _ => false) (.tmp 4) (.tmp 19) rfl rfl rfl rfl ?_))
      refine bodyPost_ret (ret_f2 rfl rfl rfl (HZ1.out.row _)) rfl ?_
      exact ⟨by rw [HRR.out]; rfl, below_setRow B1 (by omega) _⟩
    | true =>
      have g1 : decide ((x : Int) < 1) = true := decide_eq_true (by have : ¬ 1 ≤ x := fun h => hok ⟨rfl, h⟩; omega)
      clear hok
      go_wp2_with (first | (refine wpl_build rfl rfl ?_) | (refine wpl_store HZ1.out (fun _ => false) (.tmp 4) (.tmp 19) rfl rfl rfl rfl ?_))
      refine bodyPost_ret (ret_f2 rfl rfl rfl (HZ1.out.row _)) rfl ?_
      exact ⟨by rw [HRR.out]; rfl, below_setRow B1 (by omega) _⟩

set_option maxRecDepth 10000 in
set_option maxHeartbeats 1000000 in
theorem with_any (p q : Nat → Bool) (w : World) :
    Calls Tryz.prog 194 #[.agg (fldA p), .agg (fldA q)] w fun e w' => e = .returned (.agg (fldA fun i => p i || q i)) ∧ Below w.heap.size w w' := by
  have HIX : Hid (∀ k : Nat, k < 60 → ∀ wx, (Instr.index 200 (.agg (fldA q)) (.int .i64 (k : Int))).run Tryz.prog wx = .ok (.bool (q k)) wx) := fun k hk wx => index55 hk wx
  obtain ⟨R, HRR⟩ : ∃ R, Hid (fldA (fun i => p i || q i) = R) := ⟨_, rfl⟩
  rw [HRR.out]
  go_enter Tryz.func194, Tryz.ntmps194
  obtain ⟨V, HV⟩ : ∃ V, Hid (((w.alloc (.cells (fldA p) 200)).alloc (.cells (fldA q) 200)).alloc (.cells (fldA fun _ => false) 200) = V) := ⟨_, rfl⟩
  have Z0 : Fb 200 V w.heap.size p := by rw [← HV.out]; exact ((Fb.new 200 w p rfl).alloc _).alloc _
  have Z1 : Fb 200 V (w.heap.size + 1) q := by rw [← HV.out]; exact (Fb.new 200 _ q (by simp)).alloc _
  have Z2 : Fb 200 V (w.heap.size + 1 + 1) (fun _ => false) := by rw [← HV.out]; exact Fb.new 200 _ _ (by simp)
  have BV : Below w.heap.size w V := by rw [← HV.out]; exact ba (ba (ba (Below.refl _ _) _) _) _
  have HZ : Hid (Fb 200 V w.heap.size p ∧ Fb 200 V (w.heap.size + 1) q ∧ Fb 200 V (w.heap.size + 1 + 1) (fun _ => false) ∧ Below w.heap.size w V) := ⟨Z0, Z1, Z2, BV⟩
  clear Z0 Z1 Z2 BV
  go_wp2_with (first | (refine wpl_alloc rfl rfl ?_; rw [HV.out]) | (refine wpl_load HZ.out.2.1 (.tmp 3) rfl rfl rfl ?_))
  obtain ⟨F, HFF⟩ : ∃ F, Hid (fldA q = F) := ⟨_, rfl⟩
  obtain ⟨F2, HF2⟩ : ∃ F, Hid (fldA p = F) := ⟨_, rfl⟩
  rw [HFF.out] at HIX
  rw [HFF.out, HF2.out]
  clear HFF HF2 HV
  generalize hB : w.heap.size = B at *
  go_loopw [8] (fun i wr => ∃ (k : Nat) (r : Nat → Bool), k ≤ 60 ∧ i = .int .i64 k ∧ Hid (∀ i, r i = (p i || (decide (i < k) && q i))) ∧ Hid (Fb 200 wr B r ∧ Fb 200 wr (B + 1 + 1) (fun _ => false) ∧ Below B w wr)) (fun i _ => 60 - (intOf i).toNat)
  case atStart => exact ⟨0, p, Nat.zero_le _, rfl, fun i => by simp, HZ.out.1, HZ.out.2.2.1, HZ.out.2.2.2⟩
  case round =>
    obtain ⟨k, r, hk, rfl, HE, HS⟩ := hrel
    clear HZ
    by_cases hlt : k < 60
    · have hidx := HIX.out k hlt
      have e0 := HS.out.1.cell (i := k) hlt
      have f0 := HS.out.1.fr k
      cases hp : q k with
      | true =>
        rw [hp] at hidx
        have HN : Hid (∀ i, (if i = k then true else r i) = (p i || (decide (i < k + 1) && q i))) := fun i => by
          by_cases hi : i = k
          · subst hi; simp [hp]
          · rw [if_neg hi, HE.out i]
            congr 2
            by_cases h : i < k
            · rw [decide_eq_true h, decide_eq_true (show i < k + 1 by omega)]
            · rw [decide_eq_false h, decide_eq_false (show ¬ i < k + 1 by omega)]
        have HT : Hid (Fb 200 (wr.setCell ⟨B, k, none⟩ (.bool true)) B (fun i => if i = k then true else r i) ∧ Fb 200 (wr.setCell ⟨B, k, none⟩ (.bool true)) (B + 1 + 1) (fun _ => false) ∧ Below B w (wr.setCell ⟨B, k, none⟩ (.bool true))) := ⟨HS.out.1.set k true, HS.out.2.1.far (by show B ≠ B + 1 + 1; omega) _, HS.out.2.2.setCell (Nat.le_refl _) _⟩
        clear hp
        go_wp2
        go_roundw
        case rel => exact ⟨k + 1, _, by omega, by go_num, HN, HT⟩
        case measure => simp [intOf]; omega
      | false =>
        rw [hp] at hidx
        have HN : Hid (∀ i, r i = (p i || (decide (i < k + 1) && q i))) := fun i => by
          rw [HE.out i]
          by_cases hi : i = k
          · subst hi; simp [hp]
          · congr 2
            by_cases h : i < k
            · rw [decide_eq_true h, decide_eq_true (show i < k + 1 by omega)]
            · rw [decide_eq_false h, decide_eq_false (show ¬ i < k + 1 by omega)]
        clear hp
        go_wp2
        go_roundw
        case rel => exact ⟨k + 1, r, by omega, by go_num, HN, HS⟩
        case measure => simp [intOf]; omega
    · have HF : Hid (fldA r = R) := by
        show _ = _
        rw [← HRR.out]
        exact fldA_ext fun i hi => by rw [HE.out i, decide_eq_true (show i < k by omega), Bool.true_and]
      go_wp2_with (first | (refine wpl_load HS.out.1 (.tmp 2) rfl rfl rfl ?_) | (refine wpl_store HS.out.2.1 r (.tmp 4) (.tmp 16) rfl rfl rfl rfl ?_))
      refine bodyPost_ret (ret_f rfl rfl (HS.out.2.1.row r)) rfl ?_
      subst hB
      exact ⟨by rw [HF.out], below_setRow HS.out.2.2 (by omega) _⟩
end Go.Proofs.YtjmclcjhimcehaaGreatDoor

namespace Go.Proofs.YtjmclcjhimcehaaGreatDoor
open Go Go.RowKit
instance : Rec Bool := ⟨1, fun b => [.bool b], fun _ => rfl, by decide⟩
theorem bool_at {w : World} {ao : Option Addr} {n cap : Nat} {l : List Bool} (h : Reads w (.slice ao n cap) l) {k : Nat} {x : Bool} (hk : l[k]? = some x) :
    ∃ b o, ao = some ⟨b, o, none⟩ ∧ b < w.heap.size ∧ w.cell? ⟨b, o + k, none⟩ = some (.bool x) := by
  obtain ⟨b, o, rfl, hlt, hc⟩ := h.at hk
  have := hc 0 _ rfl
  refine ⟨b, o, rfl, hlt, ?_⟩
  have e : Rec.width Bool = 1 := rfl
  rw [e, Nat.mul_one, Nat.add_zero] at this
  exact this
theorem flat_bool : ∀ l : List Bool, l.flatMap (Rec.cells (α := Bool)) = l.map Value.bool
  | [] => rfl
  | x :: r => by rw [List.flatMap_cons, List.map_cons, flat_bool r]; rfl
theorem underB : Tryz.prog.underlying 144 = some (.slice 4) := by kernel_rfl
theorem infoB : (Tryz.prog.info? 4).map (fun i => (i.zero, i.size, i.bytes)) = some (some (.bool false), 1, 1) := by kernel_rfl
theorem made_bools (n : Nat) : (madeCells (Value.cells (.bool false)) (n * 1)).toList = (List.replicate n false).flatMap Rec.cells := by
  apply List.ext_getElem?
  intro m
  have e := flat_at (List.replicate n false) m 0 (by decide)
  have e1 : m * Rec.width Bool + 0 = m := by show m * 1 + 0 = m; omega
  rw [e1] at e
  rw [e]
  simp only [madeCells, Value.cells, Array.toList_map, Array.toList_range, List.getElem?_map, List.getElem?_replicate]
  by_cases hlt : m < n
  · rw [if_pos hlt, List.getElem?_range (by omega)]
    simp [Nat.mod_one]
    rfl
  · rw [if_neg hlt, List.getElem?_eq_none (by simp; omega)]
    rfl
theorem bool_put {w : World} {B : Nat} {e : TypeId} {g n cap : Nat} {l : List Bool} (h : ownsR w B e (.slice (some ⟨g, 0, none⟩) n cap) l) {i : Nat} {y : Bool} (f : Bool) (hi : l[i]? = some y) :
    ownsR (w.setCell ⟨g, i, none⟩ (.bool f)) B e (.slice (some ⟨g, 0, none⟩) n cap) (l.set i f) := by
  have := h.put (j := 0) (u := .bool f) f hi (by decide) rfl
  have e : Rec.width Bool = 1 := rfl
  rw [e, Nat.mul_one, Nat.add_zero] at this
  exact this
theorem bool_own {w : World} {B : Nat} {e : TypeId} {g n cap : Nat} {l : List Bool} (h : ownsR w B e (.slice (some ⟨g, 0, none⟩) n cap) l) {i : Nat} {x : Bool} (hi : l[i]? = some x) :
    g < w.heap.size ∧ w.cell? ⟨g, i, none⟩ = some (.bool x) ∧ w.frozen? ⟨g, i, none⟩ = false := by
  obtain ⟨h1, _, _, h2⟩ := h.at hi
  have h3 := h2 0 (by decide)
  have e : Rec.width Bool = 1 := rfl
  rw [e, Nat.mul_one, Nat.add_zero] at h3
  exact ⟨h1, h3.1, h3.2⟩
end Go.Proofs.YtjmclcjhimcehaaGreatDoor
