/- Co -/
import Derived.Test.YtpjpheicldegkaaGreatDoorGM2
import Derived.Test.YtpjpheicldegkaaGreatDoorGM1
namespace Go.Proofs.YtpjpheicldegkaaGreatDoor
open Go Go.RowKit

def asc : Int → List Int → Bool
  | _, [] => true
  | a, x :: r => decide (a < x) && decide (x ≤ 4) && asc x r
def okC (l : List Int) : Bool := !l.isEmpty && asc 0 l
theorem asc_at {l : List Int} {k : Nat} {a x : Int} (h : l[k]? = some x) : asc a (l.drop k) = (decide (a < x) && decide (x ≤ 4) && asc x (l.drop (k + 1))) := by
  obtain ⟨hk, rfl⟩ := List.getElem?_eq_some_iff.1 h
  rw [List.drop_eq_getElem_cons hk]
  rfl
theorem asc_end {l : List Int} {k : Nat} {a : Int} (h : k = l.length) : asc a (l.drop k) = true := by
  subst h
  rw [List.drop_length]
  rfl
theorem okC_nil {l : List Int} (h : l.length = 0) : okC l = false := by
  rw [List.eq_nil_of_length_eq_zero h]
  rfl
theorem okC_asc {l : List Int} (h : l.length ≠ 0) : okC l = asc 0 l := by
  cases l with
  | nil => simp at h
  | cons x r => rfl
theorem asc_len : ∀ (l : List Int) (a : Int), asc a l = true → a ≤ 4 → (l.length : Int) ≤ 4 - a
  | [], a, _, h => by simp; omega
  | x :: r, a, h, _ => by
    simp only [asc, Bool.and_eq_true, decide_eq_true_eq] at h
    have := asc_len r x h.2 h.1.2
    simp only [List.length_cons]
    omega
theorem okC_long {l : List Int} (h : 4 < l.length) : okC l = false := by
  rw [okC_asc (by omega)]
  cases e : asc 0 l with
  | false => rfl
  | true => have := asc_len l 0 e (by decide); omega
theorem okC_range : ∀ (l : List Int) (a : Int), asc a l = true → 0 ≤ a → ∀ x ∈ l, 0 < x ∧ x ≤ 4
  | [], _, _, _, x, hx => by simp at hx
  | y :: r, a, h, h0, x, hx => by
    simp only [asc, Bool.and_eq_true, decide_eq_true_eq] at h
    rcases List.mem_cons.1 hx with rfl | hx
    · exact ⟨by omega, h.1.2⟩
    · exact okC_range r y h.2 (by omega) x hx

set_option maxHeartbeats 1000000 in
theorem confOk_try (ao : Option Addr) (n c : Nat) (l : List Int) (w : World) (hr : Reads w (.slice ao n c) l) (hn : n ≤ 1048577) :
    Calls Tryz.prog 50 #[.slice ao n c] w fun e w' => e = .returned (.bool (okC l)) ∧ Below w.heap.size w w' := by
  have HR : Hid (Reads w (.slice ao n c) l) := hr
  have HN : Hid (n = l.length) := hr.len
  clear hr
  by_cases h0 : n = 0
  · have HD : Hid (okC l = false) := okC_nil (by rw [← HN.out]; exact h0)
    subst h0
    go_enter Tryz.func50, Tryz.ntmps50
    go_wp2
    go_ret
    exact ⟨by rw [HD.out]; rfl, Below.refl _ _⟩
  · have HD : Hid (okC l = asc 0 l) := okC_asc (by rw [← HN.out]; exact h0)
    have h1 : ¬ (n : Int) = 0 := by omega
    go_enter Tryz.func50, Tryz.ntmps50
    go_wp2
    go_loopw [3, 11] (fun p i wr => ∃ (k : Nat) (a : Int), k ≤ n ∧ p = .int .i64 a ∧ i = .int .i64 k ∧ Hid (asc 0 l = asc a (l.drop k)) ∧ wr = w) (fun _ i _ => n - (intOf i).toNat)
    case atStart => exact ⟨0, 0, Nat.zero_le _, rfl, rfl, rfl, rfl⟩
    case round =>
      obtain ⟨k, a, hk, rfl, rfl, HE, rfl⟩ := hrel
      by_cases hlt : k < n
      · obtain ⟨x, hx⟩ : ∃ x, l[k]? = some x := ⟨_, List.getElem?_eq_getElem (by rw [← HN.out]; exact hlt)⟩
        have HA : Hid (asc 0 l = (decide (a < x) && decide (x ≤ 4) && asc x (l.drop (k + 1)))) := HE.out.trans (asc_at hx)
        obtain ⟨b, o, rfl, hb, c0⟩ := int_at HR.out hx
        clear hx HE
        by_cases h2 : x ≤ a
        · have HF : Hid (okC l = false) := HD.out.trans (HA.out.trans (by rw [decide_eq_false (by omega)]; rfl))
          go_wp2
          go_ret
          exact ⟨by rw [HF.out]; rfl, Below.refl _ _⟩
        · by_cases h3 : 4 < x
          · have HF : Hid (okC l = false) := HD.out.trans (HA.out.trans (by rw [decide_eq_false (p := x ≤ 4) (by omega)]; simp))
            go_wp2
            go_ret
            exact ⟨by rw [HF.out]; rfl, Below.refl _ _⟩
          · have HF : Hid (asc 0 l = asc x (l.drop (k + 1))) := HA.out.trans (by rw [decide_eq_true (p := x ≤ 4) (by omega), decide_eq_true (by omega)]; rfl)
            go_wp2
            go_roundw
            case rel => exact ⟨k + 1, x, by omega, rfl, by go_num, HF, trivial⟩
            case measure => simp [intOf]; omega
      · have HF : Hid (okC l = true) := HD.out.trans (HE.out.trans (asc_end (by rw [← HN.out]; omega)))
        go_wp2
        go_ret
        exact ⟨by rw [HF.out]; rfl, Below.refl _ _⟩

theorem qub (x lo hi : Int) (w : World) :
    Calls Tryz.prog 24 #[.int .i64 x, .int .i64 lo, .int .i64 hi] w fun e w' => e = .returned (.bool (decide (lo ≤ x) && decide (x ≤ hi))) ∧ w' = w := by
  by_cases h1 : lo ≤ x
  · have h2 : decide (lo ≤ x) = true := decide_eq_true h1
    go_enter Tryz.func24, Tryz.ntmps24
    go_wp2
    go_ret
    exact ⟨by simp [h1], rfl⟩
  · have h2 : decide (lo ≤ x) = false := decide_eq_false h1
    go_enter Tryz.func24, Tryz.ntmps24
    go_wp2
    go_ret
    exact ⟨by simp, rfl⟩

set_option maxHeartbeats 2000000 in
theorem rise_try (ao : Option Addr) (n c : Nat) (l : List Int) (w : World) (hr : Reads w (.slice ao n c) l) (hn : n ≤ 1048577) :
    Calls Tryz.prog 59 #[.slice ao n c, .int .i64 1, .int .i64 4] w fun e w' => e = .returned (.bool (asc 0 l)) ∧ Below w.heap.size w w' := by
  have HR : Hid (Reads w (.slice ao n c) l) := hr
  have HN : Hid (n = l.length) := hr.len
  clear hr
  go_enter Tryz.func59, Tryz.ntmps59
  go_wp2
  go_loopw [7] (fun i wr => ∃ (k : Nat) (a : Int), k ≤ n ∧ i = .int .i64 k ∧ Hid (asc 0 l = asc a (l.drop k) ∧ 0 ≤ a ∧ ∀ j, k = j + 1 → l[j]? = some a) ∧ Below w.heap.size w wr) (fun i _ => n - (intOf i).toNat)
  case atStart => exact ⟨0, 0, Nat.zero_le _, rfl, ⟨rfl, Int.le_refl _, fun j hj => by omega⟩, Below.refl _ _⟩
  case round =>
    obtain ⟨k, a, hk, rfl, HE, hbel⟩ := hrel
    by_cases hlt : k < n
    · obtain ⟨x, hx⟩ : ∃ x, l[k]? = some x := ⟨_, List.getElem?_eq_getElem (by rw [← HN.out]; exact hlt)⟩
      have HX : Hid (l[k]? = some x) := hx
      have HA : Hid (asc 0 l = (decide (a < x) && decide (x ≤ 4) && asc x (l.drop (k + 1)))) := HE.out.1.trans (asc_at hx)
      obtain ⟨b, o, rfl, hb, c0⟩ := int_at (HR.out.below hbel) hx
      clear hx
      have q0 := Wd.cell c0
      have fin : ∀ y : Wd wr, Below w.heap.size w y.at' := fun y => hbel.trans (y.ok.mono hbel.size)
      cases h1 : (decide ((1 : Int) ≤ x) && decide (x ≤ 4)) with
      | false =>
        have HF : Hid (asc 0 l = false) := HA.out.trans (by
          have h0 := HE.out.2.1
          rw [Bool.and_eq_false_iff] at h1
          rcases h1 with h1 | h1
          · rw [decide_eq_false (p := a < x) (by have := of_decide_eq_false h1; omega)]; rfl
          · rw [h1]; simp)
        go_wp2
        refine qba (by kernel_rfl) (by kernel_rfl) ?_
        repeat (go_big_quiet_step ((go_at_call 24; refine qaa (v := .bool false) ?_; rw [← h1]; exact qub _ _ _ _)))
        refine wpQuiet_nil ?_
        rintro _ ⟨y, rfl⟩
        go_wp2
        go_ret
        exact ⟨by rw [HF.out]; rfl, fin y⟩
      | true =>
        have HB : Hid (1 ≤ x ∧ x ≤ 4) := by
          show 1 ≤ x ∧ x ≤ 4
          simpa using h1
        rcases Nat.eq_zero_or_pos k with hk0 | hk0
        · have HF : Hid (asc 0 l = asc x (l.drop (k + 1)) ∧ 0 ≤ x ∧ ∀ j, k + 1 = j + 1 → l[j]? = some x) := by
            refine ⟨HA.out.trans ?_, by have := HB.out; omega, fun j hj => by rw [← Nat.succ.inj hj]; exact HX.out⟩
            have h3 := HE.out.1
            subst hk0
            rw [List.drop_zero] at h3
            have h4 := HB.out
            have e : asc 0 l = (decide ((0 : Int) < x) && decide (x ≤ 4) && asc x (l.drop (0 + 1))) := by
              have := asc_at (a := 0) HX.out
              rw [List.drop_zero] at this
              exact this
            rw [← HA.out, e, decide_eq_true (by omega), decide_eq_true (by omega)]
            rfl
          have hg0 : decide ((0 : Int) < (k : Int)) = false := decide_eq_false (by omega)
          have hg1 : decide (0 < k) = false := decide_eq_false (by omega)
          clear hk0
          go_wp2
          refine qba (by kernel_rfl) (by kernel_rfl) ?_
          repeat (go_big_quiet_step ((go_at_call 24; refine qaa (v := .bool true) ?_; rw [← h1]; exact qub _ _ _ _)))
          refine wpQuiet_nil ?_
          rintro _ ⟨y, rfl⟩
          go_wp2
          go_roundw
          case rel => exact ⟨k + 1, x, by omega, by go_num, HF, fin y⟩
          case measure => simp [intOf]; omega
        · obtain ⟨j, rfl⟩ : ∃ j, k = j + 1 := ⟨k - 1, by omega⟩
          have hp := HE.out.2.2 j rfl
          obtain ⟨b', o', hbo, -, p0⟩ := int_at (HR.out.below hbel) hp
          clear hp
          simp only [Option.some.injEq, Addr.mk.injEq, and_true] at hbo
          obtain ⟨rfl, rfl⟩ := hbo
          have q1 := Wd.cell p0
          cases h2 : decide (x ≤ a) with
          | true =>
            have HF : Hid (asc 0 l = false) := HA.out.trans (by rw [decide_eq_false (p := a < x) (by have := of_decide_eq_true h2; omega)]; rfl)
            go_wp2
            refine qba (by kernel_rfl) (by kernel_rfl) ?_
            repeat (go_big_quiet_step ((go_at_call 24; refine qaa (v := .bool true) ?_; rw [← h1]; exact qub _ _ _ _)))
            refine wpQuiet_nil ?_
            rintro _ ⟨y, rfl⟩
            go_wp2
            go_ret
            exact ⟨by rw [HF.out]; rfl, fin y⟩
          | false =>
            have HF : Hid (asc 0 l = asc x (l.drop (j + 1 + 1)) ∧ 0 ≤ x ∧ ∀ i, j + 1 + 1 = i + 1 → l[i]? = some x) := by
              have h4 := HB.out
              have h5 := of_decide_eq_false h2
              refine ⟨HA.out.trans ?_, by omega, fun i hi => by rw [← Nat.succ.inj hi]; exact HX.out⟩
              rw [decide_eq_true (p := a < x) (by omega), decide_eq_true (by omega)]
              rfl
            go_wp2
            refine qba (by kernel_rfl) (by kernel_rfl) ?_
            repeat (go_big_quiet_step ((go_at_call 24; refine qaa (v := .bool true) ?_; rw [← h1]; exact qub _ _ _ _)))
            refine wpQuiet_nil ?_
            rintro _ ⟨y, rfl⟩
            go_wp2
            go_roundw
            case rel => exact ⟨j + 2, x, by omega, by go_num, HF, fin y⟩
            case measure => simp [intOf]; omega
    · have HF : Hid (asc 0 l = true) := HE.out.1.trans (asc_end (by rw [← HN.out]; omega))
      go_wp2
      go_ret
      exact ⟨by rw [HF.out]; rfl, hbel⟩

set_option maxHeartbeats 1000000 in
theorem specConfOk_try (ao : Option Addr) (n c : Nat) (l : List Int) (w : World) (hr : Reads w (.slice ao n c) l) (hn : n ≤ 1048577) :
    Calls Tryz.prog 26 #[.slice ao n c] w fun e w' => e = .returned (.bool (okC l)) ∧ Below w.heap.size w w' := by
  have HR : Hid (Reads w (.slice ao n c) l) := hr
  have HN : Hid (n = l.length) := hr.len
  clear hr
  by_cases h0 : n = 0 ∨ 4 < n
  · have HD : Hid (okC l = false) := by
      rcases h0 with h0 | h0
      · exact okC_nil (by rw [← HN.out]; exact h0)
      · exact okC_long (by rw [← HN.out]; exact h0)
    have hv : (decide ((1 : Int) ≤ (n : Int)) && decide ((n : Int) ≤ 4)) = false := by
      rw [Bool.and_eq_false_iff, decide_eq_false_iff_not, decide_eq_false_iff_not]
      omega
    clear h0
    go_enter Tryz.func26, Tryz.ntmps26
    go_wp2_with (go_at_call 24; refine (qub _ _ _ _).mono ?_; rintro e w' ⟨rfl, hw⟩; have hw2 := hw.symm; subst hw2; rw [hv])
    go_ret
    exact ⟨by rw [HD.out]; rfl, Below.refl _ _⟩
  · have HD : Hid (okC l = asc 0 l) := okC_asc (by rw [← HN.out]; omega)
    have hv : (decide ((1 : Int) ≤ (n : Int)) && decide ((n : Int) ≤ 4)) = true := by
      rw [Bool.and_eq_true, decide_eq_true_iff, decide_eq_true_iff]
      omega
    clear h0
    go_enter Tryz.func26, Tryz.ntmps26
    go_wp2_with (first | (go_at_call 24; refine (qub _ _ _ _).mono ?_; rintro e w' ⟨rfl, hw⟩; have hw2 := hw.symm; subst hw2; rw [hv]) | (go_at_call 59; refine (rise_try _ _ _ l _ HR.out hn).mono ?_; rintro e w2 ⟨rfl, hb⟩))
    go_ret
    exact ⟨by rw [HD.out]; rfl, hb⟩

theorem confOk_any {w : World} {v : Value} {l : List Int} (hr : Reads w v l) (hn : l.length ≤ 1048577) : Calls Tryz.prog 50 #[v] w fun e w' => e = .returned (.bool (okC l)) ∧ Below w.heap.size w w' := by
  obtain ⟨ao, c, rfl, _⟩ := id hr
  exact confOk_try ao _ c l w hr hn
theorem qtd {w : World} {v : Value} {l : List Int} (hr : Reads w v l) (hn : l.length ≤ 1048577) : Calls Tryz.prog 26 #[v] w fun e w' => e = .returned (.bool (okC l)) ∧ Below w.heap.size w w' := by
  obtain ⟨ao, c, rfl, _⟩ := id hr
  exact specConfOk_try ao _ c l w hr hn
end Go.Proofs.YtpjpheicldegkaaGreatDoor
