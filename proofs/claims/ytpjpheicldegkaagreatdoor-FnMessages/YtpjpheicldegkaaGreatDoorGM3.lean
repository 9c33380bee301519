/- Nam,Cmd -/
import Derived.Test.YtpjpheicldegkaaGreatDoorCrl
import Derived.Test.YtpjpheicldegkaaGreatDoorGM1
namespace Go.Proofs.YtpjpheicldegkaaGreatDoor
open Go Go.RowKit

def charB (n : Nat) : Bool := decide (97 ≤ n ∧ n ≤ 122) || decide (48 ≤ n ∧ n ≤ 57)
def nameB (s : ByteArray) : Bool := decide (1 ≤ s.size ∧ s.size ≤ 8) && (decide (97 ≤ (s.data.toList.getD 0 0).toNat ∧ (s.data.toList.getD 0 0).toNat ≤ 122) && s.data.toList.all fun b => charB b.toNat)
theorem first_is {s : ByteArray} (h : 0 < s.size) : (s.data.toList.getD 0 0).toNat = s[0].toNat := by
  have h' : 0 < s.data.toList.length := by simpa using h
  rw [List.getD_eq_getElem?_getD, List.getElem?_eq_getElem h']
  rfl
theorem name_size {s : ByteArray} (h : ¬ (1 ≤ s.size ∧ s.size ≤ 8)) : nameB s = false := by unfold nameB; rw [decide_eq_false h]; rfl
theorem name_head {s : ByteArray} (h : 0 < s.size) (hc : ¬ (97 ≤ s[0].toNat ∧ s[0].toNat ≤ 122)) : nameB s = false := by
  unfold nameB
  rw [first_is h, decide_eq_false hc, Bool.false_and, Bool.and_false]
theorem all_at {s : ByteArray} (h : (s.data.toList.all fun b => charB b.toNat) = true) {k : Nat} (hk : k < s.size) : charB s[k].toNat = true := by
  rw [List.all_eq_true] at h
  have h' : k < s.data.toList.length := by simpa using hk
  exact h _ (List.getElem_mem h')
theorem name_bad {s : ByteArray} {k : Nat} (hk : k < s.size) (hc : charB s[k].toNat = false) : nameB s = false := by
  unfold nameB
  cases ha : (s.data.toList.all fun b => charB b.toNat) with
  | false => rw [Bool.and_false, Bool.and_false]
  | true => rw [all_at ha hk] at hc; cases hc
theorem name_good {s : ByteArray} (h0 : 1 ≤ s.size) (h1 : s.size ≤ 8) (hc : 97 ≤ s[0].toNat ∧ s[0].toNat ≤ 122) (ha : ∀ j (h : j < s.size), charB s[j].toNat = true) : nameB s = true := by
  unfold nameB
  rw [decide_eq_true ⟨h0, h1⟩, first_is h0, decide_eq_true hc, Bool.true_and, Bool.true_and, List.all_eq_true]
  intro b hb
  obtain ⟨j, hj, rfl⟩ := List.getElem_of_mem hb
  exact ha j (by simpa using hj)

set_option maxHeartbeats 1000000 in
theorem qib (s : ByteArray) (w : World) (hs : s.size ≤ 9223372036854775807) :
    Calls Tryz.prog 102 #[.string s] w fun e w' => e = .returned (.bool (nameB s)) ∧ w' = w := by
  by_cases hz : 1 ≤ s.size ∧ s.size ≤ 8
  · have h0 : 0 < s.size := hz.1
    have h8 : s.size ≤ 8 := hz.2
    have HI : Hid (∀ w, Calls Tryz.prog 24 #[.int .i64 (s.size : Int), .int .i64 1, .int .i64 8] w fun e w' => e = .returned (.bool true) ∧ w' = w) := by
      intro w
      have := qub s.size 1 8 w
      rwa [decide_eq_true (by omega), decide_eq_true (by omega)] at this
    by_cases hc : 97 ≤ s[0].toNat ∧ s[0].toNat ≤ 122
    · have c0 := hc.1
      have c1 := hc.2
      have HG : Hid ((∀ j (h : j < s.size), charB s[j].toNat = true) → nameB s = true) := fun ha => name_good h0 h8 hc ha
      clear hz hc
      go_enter Tryz.func102, Tryz.ntmps102
      go_wp2_with (go_at_call 24; refine (HI.out _).mono ?_; rintro e w1 ⟨rfl, hw⟩; have hw2 := hw.symm; subst hw2)
      go_loopw [3] (fun i wr => ∃ k : Nat, k ≤ s.size ∧ i = .int .i64 k ∧ Hid (∀ j (h : j < s.size), j < k → charB s[j].toNat = true) ∧ wr = w) (fun i _ => s.size - (intOf i).toNat)
      case atStart => exact ⟨0, Nat.zero_le _, rfl, fun j _ hj => by omega, rfl⟩
      case round =>
        obtain ⟨k, hk, rfl, HE, rfl⟩ := hrel
        by_cases hlt : k < s.size
        · have next (hq : charB s[k].toNat = true) : Hid (∀ j (h : j < s.size), j < k + 1 → charB s[j].toNat = true) := fun j h hj => by
            by_cases e : j = k
            · subst e; exact hq
            · exact HE.out j h (by omega)
          by_cases a1 : s[k].toNat < 97
          · by_cases a2 : s[k].toNat < 48
            · have HF : Hid (nameB s = false) := name_bad hlt (by unfold charB; rw [decide_eq_false (by omega), decide_eq_false (by omega)]; rfl)
              clear next
              go_wp2
              go_ret
              exact ⟨by rw [HF.out]; rfl, rfl⟩
            · by_cases a3 : 57 < s[k].toNat
              · have HF : Hid (nameB s = false) := name_bad hlt (by unfold charB; rw [decide_eq_false (by omega), decide_eq_false (by omega)]; rfl)
                clear next
                go_wp2
                go_ret
                exact ⟨by rw [HF.out]; rfl, rfl⟩
              · have HN := next (by unfold charB; rw [decide_eq_true (p := 48 ≤ _ ∧ _) ⟨by omega, by omega⟩, Bool.or_true])
                clear next
                go_wp2
                go_roundw
                case rel => exact ⟨k + 1, by omega, by go_num, HN, trivial⟩
                case measure => simp [intOf]; omega
          · by_cases a2 : 122 < s[k].toNat
            · have HF : Hid (nameB s = false) := name_bad hlt (by unfold charB; rw [decide_eq_false (by omega), decide_eq_false (by omega)]; rfl)
              clear next
              go_wp2
              go_ret
              exact ⟨by rw [HF.out]; rfl, rfl⟩
            · have HN := next (by unfold charB; rw [decide_eq_true (p := 97 ≤ _ ∧ _) ⟨by omega, by omega⟩]; rfl)
              clear next
              go_wp2
              go_roundw
              case rel => exact ⟨k + 1, by omega, by go_num, HN, trivial⟩
              case measure => simp [intOf]; omega
        · have HF : Hid (nameB s = true) := HG.out fun j h => HE.out j h (by omega)
          go_wp2
          go_ret
          exact ⟨by rw [HF.out]; rfl, rfl⟩
    · have HF : Hid (nameB s = false) := name_head h0 hc
      by_cases a1 : s[0].toNat < 97
      · clear hz hc
        go_enter Tryz.func102, Tryz.ntmps102
        go_wp2_with (go_at_call 24; refine (HI.out _).mono ?_; rintro e w1 ⟨rfl, hw⟩; have hw2 := hw.symm; subst hw2)
        go_ret
        exact ⟨by rw [HF.out]; rfl, rfl⟩
      · have a2 : 122 < s[0].toNat := by omega
        clear hz hc
        go_enter Tryz.func102, Tryz.ntmps102
        go_wp2_with (go_at_call 24; refine (HI.out _).mono ?_; rintro e w1 ⟨rfl, hw⟩; have hw2 := hw.symm; subst hw2)
        go_ret
        exact ⟨by rw [HF.out]; rfl, rfl⟩
  · have HF : Hid (nameB s = false) := name_size hz
    have HI : Hid (∀ w, Calls Tryz.prog 24 #[.int .i64 (s.size : Int), .int .i64 1, .int .i64 8] w fun e w' => e = .returned (.bool false) ∧ w' = w) := by
      intro w
      have := qub s.size 1 8 w
      rwa [← Bool.decide_and, decide_eq_false (by omega)] at this
    clear hz
    go_enter Tryz.func102, Tryz.ntmps102
    go_wp2_with (go_at_call 24; refine (HI.out _).mono ?_; rintro e w1 ⟨rfl, hw⟩; have hw2 := hw.symm; subst hw2)
    go_ret
    exact ⟨by rw [HF.out]; rfl, rfl⟩
end Go.Proofs.YtpjpheicldegkaaGreatDoor

namespace Go.Proofs.YtpjpheicldegkaaGreatDoor
open Go Go.RowKit

theorem qde : (⟨#[]⟩ : ByteArray).toList = [] := (ByteArray.toList_eq _).trans rfl
def restB (f1 f2 f3 f4 f5 : Bool) (text task : ByteArray) (num up : Int) (yes : Bool) : Bool := (f1 || decide (text = ⟨#[]⟩)) && ((f2 || decide (task = ⟨#[]⟩)) && ((f3 || decide (num = 0)) && ((f4 || decide (up = 0)) && (f5 || !yes))))

set_option maxHeartbeats 1000000 in
theorem rest_00000 (op tok seq : Int) (text task : ByteArray) (num up : Int) (yes : Bool) (w : World) :
    Calls Tryz.prog 101 #[.agg #[.int .i64 op, .int .i64 tok, .int .i64 seq, .string text, .string task, .int .i64 num, .int .i64 up, .bool yes], .bool false, .bool false, .bool false, .bool false, .bool false] w fun e w' => e = .returned (.bool (restB false false false false false text task num up yes)) ∧ Below w.heap.size w w' := by
  by_cases h0 : text = ⟨#[]⟩
  case neg =>
    have e0 : (text.toList == []) = false := by rw [← qde]; exact qab h0
    have HF : Ending.returned (.bool false) = .returned (.bool (restB false false false false false text task num up yes)) := by unfold restB; rw [decide_eq_false h0]; simp
    clear h0
    go_enter Tryz.func101, Tryz.ntmps101
    go_wp2
    go_ret
    exact ⟨HF, ba (Below.refl _ _) _⟩
  subst h0
  by_cases h1 : task = ⟨#[]⟩
  case neg =>
    have e1 : (task.toList == []) = false := by rw [← qde]; exact qab h1
    have HF : Ending.returned (.bool false) = .returned (.bool (restB false false false false false ⟨#[]⟩ task num up yes)) := by unfold restB; rw [decide_eq_false h1]; simp
    clear h1
    go_enter Tryz.func101, Tryz.ntmps101
    go_wp2
    go_ret
    exact ⟨HF, ba (Below.refl _ _) _⟩
  subst h1
  by_cases h2 : num = 0
  case neg =>
    have e2 : (num == 0) = false := beq_eq_false_iff_ne.2 h2
    have HF : Ending.returned (.bool false) = .returned (.bool (restB false false false false false ⟨#[]⟩ ⟨#[]⟩ num up yes)) := by unfold restB; rw [decide_eq_false h2]; simp
    clear h2
    go_enter Tryz.func101, Tryz.ntmps101
    go_wp2
    go_ret
    exact ⟨HF, ba (Below.refl _ _) _⟩
  subst h2
  by_cases h3 : up = 0
  case neg =>
    have e3 : (up == 0) = false := beq_eq_false_iff_ne.2 h3
    have HF : Ending.returned (.bool false) = .returned (.bool (restB false false false false false ⟨#[]⟩ ⟨#[]⟩ 0 up yes)) := by unfold restB; rw [decide_eq_false h3]; simp
    clear h3
    go_enter Tryz.func101, Tryz.ntmps101
    go_wp2
    go_ret
    exact ⟨HF, ba (Below.refl _ _) _⟩
  subst h3
  cases yes
  case false =>
    have HF : Ending.returned (.bool true) = .returned (.bool (restB false false false false false ⟨#[]⟩ ⟨#[]⟩ 0 0 false)) := by simp [restB]
    go_enter Tryz.func101, Tryz.ntmps101
    go_wp2
    go_ret
    exact ⟨HF, ba (Below.refl _ _) _⟩
  case true =>
    have HF : Ending.returned (.bool false) = .returned (.bool (restB false false false false false ⟨#[]⟩ ⟨#[]⟩ 0 0 true)) := by simp [restB]
    go_enter Tryz.func101, Tryz.ntmps101
    go_wp2
    go_ret
    exact ⟨HF, ba (Below.refl _ _) _⟩

set_option maxHeartbeats 1000000 in
theorem rest_10000 (op tok seq : Int) (text task : ByteArray) (num up : Int) (yes : Bool) (w : World) :
    Calls Tryz.prog 101 #[.agg #[.int .i64 op, .int .i64 tok, .int .i64 seq, .string text, .string task, .int .i64 num, .int .i64 up, .bool yes], .bool true, .bool false, .bool false, .bool false, .bool false] w fun e w' => e = .returned (.bool (restB true false false false false text task num up yes)) ∧ Below w.heap.size w w' := by
  by_cases h1 : task = ⟨#[]⟩
  case neg =>
    have e1 : (task.toList == []) = false := by rw [← qde]; exact qab h1
    have HF : Ending.returned (.bool false) = .returned (.bool (restB true false false false false text task num up yes)) := by unfold restB; rw [decide_eq_false h1]; simp
    clear h1
    go_enter Tryz.func101, Tryz.ntmps101
    go_wp2
    go_ret
    exact ⟨HF, ba (Below.refl _ _) _⟩
  subst h1
  by_cases h2 : num = 0
  case neg =>
    have e2 : (num == 0) = false := beq_eq_false_iff_ne.2 h2
    have HF : Ending.returned (.bool false) = .returned (.bool (restB true false false false false text ⟨#[]⟩ num up yes)) := by unfold restB; rw [decide_eq_false h2]; simp
    clear h2
    go_enter Tryz.func101, Tryz.ntmps101
    go_wp2
    go_ret
    exact ⟨HF, ba (Below.refl _ _) _⟩
  subst h2
  by_cases h3 : up = 0
  case neg =>
    have e3 : (up == 0) = false := beq_eq_false_iff_ne.2 h3
    have HF : Ending.returned (.bool false) = .returned (.bool (restB true false false false false text ⟨#[]⟩ 0 up yes)) := by unfold restB; rw [decide_eq_false h3]; simp
    clear h3
    go_enter Tryz.func101, Tryz.ntmps101
    go_wp2
    go_ret
    exact ⟨HF, ba (Below.refl _ _) _⟩
  subst h3
  cases yes
  case false =>
    have HF : Ending.returned (.bool true) = .returned (.bool (restB true false false false false text ⟨#[]⟩ 0 0 false)) := by simp [restB]
    go_enter Tryz.func101, Tryz.ntmps101
    go_wp2
    go_ret
    exact ⟨HF, ba (Below.refl _ _) _⟩
  case true =>
    have HF : Ending.returned (.bool false) = .returned (.bool (restB true false false false false text ⟨#[]⟩ 0 0 true)) := by simp [restB]
    go_enter Tryz.func101, Tryz.ntmps101
    go_wp2
    go_ret
    exact ⟨HF, ba (Below.refl _ _) _⟩

set_option maxHeartbeats 1000000 in
theorem rest_10001 (op tok seq : Int) (text task : ByteArray) (num up : Int) (yes : Bool) (w : World) :
    Calls Tryz.prog 101 #[.agg #[.int .i64 op, .int .i64 tok, .int .i64 seq, .string text, .string task, .int .i64 num, .int .i64 up, .bool yes], .bool true, .bool false, .bool false, .bool false, .bool true] w fun e w' => e = .returned (.bool (restB true false false false true text task num up yes)) ∧ Below w.heap.size w w' := by
  by_cases h1 : task = ⟨#[]⟩
  case neg =>
    have e1 : (task.toList == []) = false := by rw [← qde]; exact qab h1
    have HF : Ending.returned (.bool false) = .returned (.bool (restB true false false false true text task num up yes)) := by unfold restB; rw [decide_eq_false h1]; simp
    clear h1
    go_enter Tryz.func101, Tryz.ntmps101
    go_wp2
    go_ret
    exact ⟨HF, ba (Below.refl _ _) _⟩
  subst h1
  by_cases h2 : num = 0
  case neg =>
    have e2 : (num == 0) = false := beq_eq_false_iff_ne.2 h2
    have HF : Ending.returned (.bool false) = .returned (.bool (restB true false false false true text ⟨#[]⟩ num up yes)) := by unfold restB; rw [decide_eq_false h2]; simp
    clear h2
    go_enter Tryz.func101, Tryz.ntmps101
    go_wp2
    go_ret
    exact ⟨HF, ba (Below.refl _ _) _⟩
  subst h2
  by_cases h3 : up = 0
  case neg =>
    have e3 : (up == 0) = false := beq_eq_false_iff_ne.2 h3
    have HF : Ending.returned (.bool false) = .returned (.bool (restB true false false false true text ⟨#[]⟩ 0 up yes)) := by unfold restB; rw [decide_eq_false h3]; simp
    clear h3
    go_enter Tryz.func101, Tryz.ntmps101
    go_wp2
    go_ret
    exact ⟨HF, ba (Below.refl _ _) _⟩
  subst h3
  have HF : Ending.returned (.bool true) = .returned (.bool (restB true false false false true text ⟨#[]⟩ 0 0 yes)) := by simp [restB]
  go_enter Tryz.func101, Tryz.ntmps101
  go_wp2
  go_ret
  exact ⟨HF, ba (Below.refl _ _) _⟩

set_option maxHeartbeats 1000000 in
theorem rest_00100 (op tok seq : Int) (text task : ByteArray) (num up : Int) (yes : Bool) (w : World) :
    Calls Tryz.prog 101 #[.agg #[.int .i64 op, .int .i64 tok, .int .i64 seq, .string text, .string task, .int .i64 num, .int .i64 up, .bool yes], .bool false, .bool false, .bool true, .bool false, .bool false] w fun e w' => e = .returned (.bool (restB false false true false false text task num up yes)) ∧ Below w.heap.size w w' := by
  by_cases h0 : text = ⟨#[]⟩
  case neg =>
    have e0 : (text.toList == []) = false := by rw [← qde]; exact qab h0
    have HF : Ending.returned (.bool false) = .returned (.bool (restB false false true false false text task num up yes)) := by unfold restB; rw [decide_eq_false h0]; simp
    clear h0
    go_enter Tryz.func101, Tryz.ntmps101
    go_wp2
    go_ret
    exact ⟨HF, ba (Below.refl _ _) _⟩
  subst h0
  by_cases h1 : task = ⟨#[]⟩
  case neg =>
    have e1 : (task.toList == []) = false := by rw [← qde]; exact qab h1
    have HF : Ending.returned (.bool false) = .returned (.bool (restB false false true false false ⟨#[]⟩ task num up yes)) := by unfold restB; rw [decide_eq_false h1]; simp
    clear h1
    go_enter Tryz.func101, Tryz.ntmps101
    go_wp2
    go_ret
    exact ⟨HF, ba (Below.refl _ _) _⟩
  subst h1
  by_cases h3 : up = 0
  case neg =>
    have e3 : (up == 0) = false := beq_eq_false_iff_ne.2 h3
    have HF : Ending.returned (.bool false) = .returned (.bool (restB false false true false false ⟨#[]⟩ ⟨#[]⟩ num up yes)) := by unfold restB; rw [decide_eq_false h3]; simp
    clear h3
    go_enter Tryz.func101, Tryz.ntmps101
    go_wp2
    go_ret
    exact ⟨HF, ba (Below.refl _ _) _⟩
  subst h3
  cases yes
  case false =>
    have HF : Ending.returned (.bool true) = .returned (.bool (restB false false true false false ⟨#[]⟩ ⟨#[]⟩ num 0 false)) := by simp [restB]
    go_enter Tryz.func101, Tryz.ntmps101
    go_wp2
    go_ret
    exact ⟨HF, ba (Below.refl _ _) _⟩
  case true =>
    have HF : Ending.returned (.bool false) = .returned (.bool (restB false false true false false ⟨#[]⟩ ⟨#[]⟩ num 0 true)) := by simp [restB]
    go_enter Tryz.func101, Tryz.ntmps101
    go_wp2
    go_ret
    exact ⟨HF, ba (Below.refl _ _) _⟩

set_option maxHeartbeats 1000000 in
theorem rest_00101 (op tok seq : Int) (text task : ByteArray) (num up : Int) (yes : Bool) (w : World) :
    Calls Tryz.prog 101 #[.agg #[.int .i64 op, .int .i64 tok, .int .i64 seq, .string text, .string task, .int .i64 num, .int .i64 up, .bool yes], .bool false, .bool false, .bool true, .bool false, .bool true] w fun e w' => e = .returned (.bool (restB false false true false true text task num up yes)) ∧ Below w.heap.size w w' := by
  by_cases h0 : text = ⟨#[]⟩
  case neg =>
    have e0 : (text.toList == []) = false := by rw [← qde]; exact qab h0
    have HF : Ending.returned (.bool false) = .returned (.bool (restB false false true false true text task num up yes)) := by unfold restB; rw [decide_eq_false h0]; simp
    clear h0
    go_enter Tryz.func101, Tryz.ntmps101
    go_wp2
    go_ret
    exact ⟨HF, ba (Below.refl _ _) _⟩
  subst h0
  by_cases h1 : task = ⟨#[]⟩
  case neg =>
    have e1 : (task.toList == []) = false := by rw [← qde]; exact qab h1
    have HF : Ending.returned (.bool false) = .returned (.bool (restB false false true false true ⟨#[]⟩ task num up yes)) := by unfold restB; rw [decide_eq_false h1]; simp
    clear h1
    go_enter Tryz.func101, Tryz.ntmps101
    go_wp2
    go_ret
    exact ⟨HF, ba (Below.refl _ _) _⟩
  subst h1
  by_cases h3 : up = 0
  case neg =>
    have e3 : (up == 0) = false := beq_eq_false_iff_ne.2 h3
    have HF : Ending.returned (.bool false) = .returned (.bool (restB false false true false true ⟨#[]⟩ ⟨#[]⟩ num up yes)) := by unfold restB; rw [decide_eq_false h3]; simp
    clear h3
    go_enter Tryz.func101, Tryz.ntmps101
    go_wp2
    go_ret
    exact ⟨HF, ba (Below.refl _ _) _⟩
  subst h3
  have HF : Ending.returned (.bool true) = .returned (.bool (restB false false true false true ⟨#[]⟩ ⟨#[]⟩ num 0 yes)) := by simp [restB]
  go_enter Tryz.func101, Tryz.ntmps101
  go_wp2
  go_ret
  exact ⟨HF, ba (Below.refl _ _) _⟩

set_option maxHeartbeats 1000000 in
theorem rest_10110 (op tok seq : Int) (text task : ByteArray) (num up : Int) (yes : Bool) (w : World) :
    Calls Tryz.prog 101 #[.agg #[.int .i64 op, .int .i64 tok, .int .i64 seq, .string text, .string task, .int .i64 num, .int .i64 up, .bool yes], .bool true, .bool false, .bool true, .bool true, .bool false] w fun e w' => e = .returned (.bool (restB true false true true false text task num up yes)) ∧ Below w.heap.size w w' := by
  by_cases h1 : task = ⟨#[]⟩
  case neg =>
    have e1 : (task.toList == []) = false := by rw [← qde]; exact qab h1
    have HF : Ending.returned (.bool false) = .returned (.bool (restB true false true true false text task num up yes)) := by unfold restB; rw [decide_eq_false h1]; simp
    clear h1
    go_enter Tryz.func101, Tryz.ntmps101
    go_wp2
    go_ret
    exact ⟨HF, ba (Below.refl _ _) _⟩
  subst h1
  cases yes
  case false =>
    have HF : Ending.returned (.bool true) = .returned (.bool (restB true false true true false text ⟨#[]⟩ num up false)) := by simp [restB]
    go_enter Tryz.func101, Tryz.ntmps101
    go_wp2
    go_ret
    exact ⟨HF, ba (Below.refl _ _) _⟩
  case true =>
    have HF : Ending.returned (.bool false) = .returned (.bool (restB true false true true false text ⟨#[]⟩ num up true)) := by simp [restB]
    go_enter Tryz.func101, Tryz.ntmps101
    go_wp2
    go_ret
    exact ⟨HF, ba (Below.refl _ _) _⟩

set_option maxHeartbeats 1000000 in
theorem rest_11100 (op tok seq : Int) (text task : ByteArray) (num up : Int) (yes : Bool) (w : World) :
    Calls Tryz.prog 101 #[.agg #[.int .i64 op, .int .i64 tok, .int .i64 seq, .string text, .string task, .int .i64 num, .int .i64 up, .bool yes], .bool true, .bool true, .bool true, .bool false, .bool false] w fun e w' => e = .returned (.bool (restB true true true false false text task num up yes)) ∧ Below w.heap.size w w' := by
  by_cases h3 : up = 0
  case neg =>
    have e3 : (up == 0) = false := beq_eq_false_iff_ne.2 h3
    have HF : Ending.returned (.bool false) = .returned (.bool (restB true true true false false text task num up yes)) := by unfold restB; rw [decide_eq_false h3]; simp
    clear h3
    go_enter Tryz.func101, Tryz.ntmps101
    go_wp2
    go_ret
    exact ⟨HF, ba (Below.refl _ _) _⟩
  subst h3
  cases yes
  case false =>
    have HF : Ending.returned (.bool true) = .returned (.bool (restB true true true false false text task num 0 false)) := by simp [restB]
    go_enter Tryz.func101, Tryz.ntmps101
    go_wp2
    go_ret
    exact ⟨HF, ba (Below.refl _ _) _⟩
  case true =>
    have HF : Ending.returned (.bool false) = .returned (.bool (restB true true true false false text task num 0 true)) := by simp [restB]
    go_enter Tryz.func101, Tryz.ntmps101
    go_wp2
    go_ret
    exact ⟨HF, ba (Below.refl _ _) _⟩

end Go.Proofs.YtpjpheicldegkaaGreatDoor
