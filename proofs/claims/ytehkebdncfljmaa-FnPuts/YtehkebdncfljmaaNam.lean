/-
  Names, pools and lines, as the specification tells them: the walks.
-/
import Derived.Test.YtehkebdncfljmaaCrl
namespace Go.Proofs.Ytehkebdncfljmaa
open Go Go.RowKit

def charB (n : Nat) : Bool := decide (97 ≤ n ∧ n ≤ 122) || decide (48 ≤ n ∧ n ≤ 57)
/-- A name: a letter, then letters and figures, 8 at most. -/
def nameB (s : ByteArray) : Bool := decide (1 ≤ s.size ∧ s.size ≤ 8) && (decide (97 ≤ (s.data.toList.getD 0 0).toNat ∧ (s.data.toList.getD 0 0).toNat ≤ 122) && s.data.toList.all fun b => charB b.toNat)
theorem first_is {s : ByteArray} (h : 0 < s.size) : (s.data.toList.getD 0 0).toNat = s[0].toNat := by
  have h' : 0 < s.data.toList.length := by simpa using h
  rw [List.getD_eq_getElem?_getD, List.getElem?_eq_getElem h']
  rfl
theorem name_size {s : ByteArray} (h : ¬ (1 ≤ s.size ∧ s.size ≤ 8)) : nameB s = false := by unfold nameB; rw [decide_eq_false h]; rfl
theorem name_head {s : ByteArray} (h : 0 < s.size) (hc : ¬ (97 ≤ s[0].toNat ∧ s[0].toNat ≤ 122)) : nameB s = false := by
  unfold nameB
  rw [first_is h, decide_eq_false hc, Bool.false_and, Bool.and_false]
theorem all_at {s : ByteArray} (h : (s.data.toList.all fun b => charB b.toNat) = true) {k : Nat} (hk : k < s.size) : charB s[k].toNat = true := by
  rw [List.all_eq_true] at h
  have h' : k < s.data.toList.length := by simpa using hk
  exact h _ (List.getElem_mem h')
theorem name_bad {s : ByteArray} {k : Nat} (hk : k < s.size) (hc : charB s[k].toNat = false) : nameB s = false := by
  unfold nameB
  cases ha : (s.data.toList.all fun b => charB b.toNat) with
  | false => rw [Bool.and_false, Bool.and_false]
  | true => rw [all_at ha hk] at hc; cases hc
theorem name_good {s : ByteArray} (h0 : 1 ≤ s.size) (h1 : s.size ≤ 8) (hc : 97 ≤ s[0].toNat ∧ s[0].toNat ≤ 122) (ha : ∀ j (h : j < s.size), charB s[j].toNat = true) : nameB s = true := by
  unfold nameB
  rw [decide_eq_true ⟨h0, h1⟩, first_is h0, decide_eq_true hc, Bool.true_and, Bool.true_and, List.all_eq_true]
  intro b hb
  obtain ⟨j, hj, rfl⟩ := List.getElem_of_mem hb
  exact ha j (by simpa using hj)

set_option maxHeartbeats 1000000 in
theorem nameOk_any (s : ByteArray) (w : World) (hs : s.size ≤ 9223372036854775807) :
    Calls Try.prog 79 #[.string s] w fun e w' => e = .returned (.bool (nameB s)) ∧ w' = w := by
  by_cases hz : 1 ≤ s.size ∧ s.size ≤ 8
  · have h0 : 0 < s.size := hz.1
    have h8 : s.size ≤ 8 := hz.2
    have HI : Hid (∀ w, Calls Try.prog 38 #[.int .i64 (s.size : Int), .int .i64 1, .int .i64 8] w fun e w' => e = .returned (.bool true) ∧ w' = w) := by
      intro w
      have := in_any s.size 1 8 w
      rwa [decide_eq_true (by omega), decide_eq_true (by omega)] at this
    by_cases hc : 97 ≤ s[0].toNat ∧ s[0].toNat ≤ 122
    · have c0 := hc.1
      have c1 := hc.2
      have HG : Hid ((∀ j (h : j < s.size), charB s[j].toNat = true) → nameB s = true) := fun ha => name_good h0 h8 hc ha
      clear hz hc
      go_enter Try.func79, Try.ntmps79
      go_wp2_with (go_at_call 38; refine (HI.out _).mono ?_; rintro e w1 ⟨rfl, hw⟩; have hw2 := hw.symm; subst hw2)
      go_loopw [3] (fun i wr => ∃ k : Nat, k ≤ s.size ∧ i = .int .i64 k ∧ Hid (∀ j (h : j < s.size), j < k → charB s[j].toNat = true) ∧ wr = w) (fun i _ => s.size - (intOf i).toNat)
      case atStart => exact ⟨0, Nat.zero_le _, rfl, fun j _ hj => by omega, rfl⟩
      case round =>
        obtain ⟨k, hk, rfl, HE, rfl⟩ := hrel
        by_cases hlt : k < s.size
        · have next (hq : charB s[k].toNat = true) : Hid (∀ j (h : j < s.size), j < k + 1 → charB s[j].toNat = true) := fun j h hj => by
            by_cases e : j = k
            · subst e; exact hq
            · exact HE.out j h (by omega)
          by_cases a1 : s[k].toNat < 97
          · by_cases a2 : s[k].toNat < 48
            · have HF : Hid (nameB s = false) := name_bad hlt (by unfold charB; rw [decide_eq_false (by omega), decide_eq_false (by omega)]; rfl)
              clear next
              go_wp2
              go_ret
              exact ⟨by rw [HF.out]; rfl, rfl⟩
            · by_cases a3 : 57 < s[k].toNat
              · have HF : Hid (nameB s = false) := name_bad hlt (by unfold charB; rw [decide_eq_false (by omega), decide_eq_false (by omega)]; rfl)
                clear next
                go_wp2
                go_ret
                exact ⟨by rw [HF.out]; rfl, rfl⟩
              · have HN := next (by unfold charB; rw [decide_eq_true (p := 48 ≤ _ ∧ _) ⟨by omega, by omega⟩, Bool.or_true])
                clear next
                go_wp2
                go_roundw
                case rel => exact ⟨k + 1, by omega, by go_num, HN, trivial⟩
                case measure => simp [intOf]; omega
          · by_cases a2 : 122 < s[k].toNat
            · have HF : Hid (nameB s = false) := name_bad hlt (by unfold charB; rw [decide_eq_false (by omega), decide_eq_false (by omega)]; rfl)
              clear next
              go_wp2
              go_ret
              exact ⟨by rw [HF.out]; rfl, rfl⟩
            · have HN := next (by unfold charB; rw [decide_eq_true (p := 97 ≤ _ ∧ _) ⟨by omega, by omega⟩]; rfl)
              clear next
              go_wp2
              go_roundw
              case rel => exact ⟨k + 1, by omega, by go_num, HN, trivial⟩
              case measure => simp [intOf]; omega
        · have HF : Hid (nameB s = true) := HG.out fun j h => HE.out j h (by omega)
          go_wp2
          go_ret
          exact ⟨by rw [HF.out]; rfl, rfl⟩
    · have HF : Hid (nameB s = false) := name_head h0 hc
      by_cases a1 : s[0].toNat < 97
      · clear hz hc
        go_enter Try.func79, Try.ntmps79
        go_wp2_with (go_at_call 38; refine (HI.out _).mono ?_; rintro e w1 ⟨rfl, hw⟩; have hw2 := hw.symm; subst hw2)
        go_ret
        exact ⟨by rw [HF.out]; rfl, rfl⟩
      · have a2 : 122 < s[0].toNat := by omega
        clear hz hc
        go_enter Try.func79, Try.ntmps79
        go_wp2_with (go_at_call 38; refine (HI.out _).mono ?_; rintro e w1 ⟨rfl, hw⟩; have hw2 := hw.symm; subst hw2)
        go_ret
        exact ⟨by rw [HF.out]; rfl, rfl⟩
  · have HF : Hid (nameB s = false) := name_size hz
    have HI : Hid (∀ w, Calls Try.prog 38 #[.int .i64 (s.size : Int), .int .i64 1, .int .i64 8] w fun e w' => e = .returned (.bool false) ∧ w' = w) := by
      intro w
      have := in_any s.size 1 8 w
      rwa [← Bool.decide_and, decide_eq_false (by omega)] at this
    clear hz
    go_enter Try.func79, Try.ntmps79
    go_wp2_with (go_at_call 38; refine (HI.out _).mono ?_; rintro e w1 ⟨rfl, hw⟩; have hw2 := hw.symm; subst hw2)
    go_ret
    exact ⟨by rw [HF.out]; rfl, rfl⟩
end Go.Proofs.Ytehkebdncfljmaa
