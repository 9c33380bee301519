/-
  Journals: the name of a journal's file, and which journals are right: the walks.
-/
import Derived.Test.YtijmaplejpnggaaDoorDec
import Derived.Test.YtijmaplejpnggaaDoorLk
import Derived.Test.YtijmaplejpnggaaDoorNl
namespace Go.Proofs.YtijmaplejpnggaaDoor
open Go Go.RowKit

/-- Whether a number is one of a journal. -/
def numB (n : Int) : Bool := decide (0 ≤ n) && decide (n ≤ 999)
/-- The name of a journal's file. -/
def jname (n : Int) : ByteArray := if numB n then (⟨#[106]⟩ : ByteArray) ++ decS n else ByteArray.empty
theorem numB_out {n : Int} (h : numB n = true) : 0 ≤ n ∧ n ≤ 999 := by simpa [numB] using h
theorem numB_in {n : Int} (h0 : 0 ≤ n) (h1 : n ≤ 999) : numB n = true := by simp [numB, h0, h1]
theorem numB_no {n : Int} (h : n < 0 ∨ 999 < n) : numB n = false := by
  rcases h with h | h
  · simp only [numB, decide_eq_false (show ¬ 0 ≤ n by omega), Bool.false_and]
  · simp only [numB, decide_eq_false (show ¬ n ≤ 999 by omega), Bool.and_false]
theorem jname_in {n : Int} (h0 : 0 ≤ n) (h1 : n ≤ 999) : jname n = (⟨#[106]⟩ : ByteArray) ++ decS n := by unfold jname; rw [if_pos (numB_in h0 h1)]
theorem jname_no {n : Int} (h : n < 0 ∨ 999 < n) : jname n = ByteArray.empty := by unfold jname; rw [numB_no h]; rfl
theorem decS_size {n : Int} (h0 : 0 ≤ n) (h1 : n ≤ 999) : 1 ≤ (decS n).size ∧ (decS n).size ≤ 3 := by
  obtain ⟨k, rfl⟩ := Int.eq_ofNat_of_zero_le h0
  rw [← decS_pos, bstr_size']
  have h := decI_len 2 k (by omega)
  have := decI_ne k k (Nat.le_refl _)
  have : (decI k).length ≠ 0 := fun e => this (List.length_eq_zero_iff.1 e)
  omega
theorem jname_size (n : Int) : (jname n).size ≤ 4 := by
  unfold jname
  split
  · rename_i h
    have := decS_size (numB_out h).1 (numB_out h).2
    rw [ByteArray.size_append]
    have : (⟨#[106]⟩ : ByteArray).size = 1 := rfl
    omega
  · exact Nat.zero_le _
theorem jname_ne {n : Int} (h : numB n = true) : jname n ≠ ByteArray.empty := fun e => by
  have := congrArg ByteArray.size e
  rw [jname_in (numB_out h).1 (numB_out h).2, ByteArray.size_append] at this
  have h1 : (⟨#[106]⟩ : ByteArray).size = 1 := rfl
  have h0 : (ByteArray.empty).size = 0 := rfl
  omega
theorem run_jname {n : Int} (h0 : 0 ≤ n) (h1 : n ≤ 999) (wx : World) : (Op.stringOp .add ⟨#[106]⟩ (decS n)).run Tryd.prog wx = .ok (.string ((⟨#[106]⟩ : ByteArray) ++ decS n)) wx := by
  have := decS_size h0 h1
  rw [run_string_add_sum wx _ _ (by rw [show (⟨#[106]⟩ : ByteArray).size = 1 from rfl]; omega)]

set_option maxRecDepth 10000 in
set_option maxHeartbeats 400000 in
theorem journalName_any (n : Int) (w : World) (hp : PowIs w) :
    Calls Tryd.prog 19 #[.int .i64 n] w fun e w' => e = .returned (.string (jname n)) ∧ Below w.heap.size w w' := by
  by_cases h0 : n < 0
  · rw [jname_no (.inl h0)]
    go_enter Tryd.func19, Tryd.ntmps19
    go_wp2
    go_ret
    exact ⟨rfl, Below.refl _ _⟩
  by_cases h1 : 999 < n
  · rw [jname_no (.inr h1)]
    go_enter Tryd.func19, Tryd.ntmps19
    go_wp2
    go_ret
    exact ⟨rfl, Below.refl _ _⟩
  · rw [jname_in (by omega) (by omega)]
    have ha := run_jname (n := n) (by omega) (by omega)
    go_enter Tryd.func19, Tryd.ntmps19
    go_wp2_with (go_at_call 42; refine (decimal_any n _ (by omega) (by omega) hp).mono ?_; rintro e w1 ⟨rfl, hb1⟩)
    go_ret
    exact ⟨rfl, hb1⟩

set_option maxRecDepth 10000 in
set_option maxHeartbeats 400000 in
theorem specJournalName_any (n : Int) (w : World) :
    Calls Tryd.prog 18 #[.int .i64 n] w fun e w' => e = .returned (.string (jname n)) ∧ Below w.heap.size w w' := by
  by_cases h : n < 0 ∨ 999 < n
  · rw [jname_no h]
    have H : Hid (n < 0 ∨ 999 < n) := h
    clear h
    go_enter Tryd.func18, Tryd.ntmps18
    go_wp2_with (go_at_call 40; refine (l01In_no _ _ _ _ H.out).mono ?_; rintro e w' ⟨rfl, rfl⟩)
    go_ret
    exact ⟨rfl, Below.refl _ _⟩
  · rw [jname_in (by omega) (by omega)]
    have ha := run_jname (n := n) (by omega) (by omega)
    go_enter Tryd.func18, Tryd.ntmps18
    go_wp2_with (first | (go_at_call 40; refine (l01In_yes _ _ _ _ (by omega) (by omega)).mono ?_; rintro e w' ⟨rfl, rfl⟩) | (go_at_call 41; refine (specDec_any n _ (by omega) (by omega)).mono ?_; rintro e w1 ⟨rfl, hb1⟩))
    go_ret
    exact ⟨rfl, hb1⟩

set_option maxRecDepth 10000 in
set_option maxHeartbeats 400000 in
theorem law_JournalName (n : Int) (w : World) (hp : PowIs w) :
    Calls Tryd.prog 5 #[.int .i64 n] w fun e w' => e = .returned (.bool true) ∧ Below w.heap.size w w' := by
  go_enter Tryd.func5, Tryd.ntmps5
  go_wp2_with (first | (go_at_call 18; refine (specJournalName_any n _).mono ?_; rintro e w1 ⟨rfl, hb1⟩) | (go_at_call 19; refine (journalName_any n _ (hp.below hb1)).mono ?_; rintro e w2 ⟨rfl, hb2⟩))
  go_ret
  exact ⟨rfl, hb1.trans (hb2.mono hb1.size)⟩

theorem journalName_no {n : Int} (h : numB n = false) (w : World) (hp : PowIs w) :
    Calls Tryd.prog 19 #[.int .i64 n] w fun e w' => e = .returned (.string ByteArray.empty) ∧ Below w.heap.size w w' := by
  have e : jname n = ByteArray.empty := by unfold jname; rw [h]; rfl
  rw [← e]
  exact journalName_any n w hp
theorem empty_not {s : ByteArray} (h : s ≠ ByteArray.empty) : s.toList.isEmpty = false ∧ (s.toList = []) = False := by
  have h2 : s.toList ≠ [] := fun e => h (by
    have hn := ne_list h
    have h0 : ByteArray.empty.toList = [] := by first | simp | (unfold ByteArray.toList ByteArray.toList.loop; simp) | rfl
    rw [e, h0] at hn
    exact absurd hn (by decide))
  exact ⟨by rw [List.isEmpty_eq_false_iff]; exact h2, by simp [h2]⟩

/-- Whether a term and a vote are right. -/
def hdB (t v : Int) : Bool := decide (0 ≤ t) && decide (t ≤ 100000) && decide (0 ≤ v) && decide (v ≤ 4)
theorem hdB_out {t v : Int} (h : hdB t v = true) : 0 ≤ t ∧ t ≤ 100000 ∧ 0 ≤ v ∧ v ≤ 4 := by
  simp [hdB] at h; omega
set_option maxRecDepth 10000 in
set_option maxHeartbeats 400000 in
theorem isHead_any (t v : Int) (w : World) :
    Calls Tryd.prog 46 #[.int .i64 t, .int .i64 v] w fun e w' => e = .returned (.bool (hdB t v)) ∧ w' = w := by
  by_cases h0 : 0 ≤ t
  · by_cases h1 : t ≤ 100000
    · by_cases h2 : 0 ≤ v
      · by_cases h3 : v ≤ 4
        · have e : hdB t v = true := by simp [hdB, h0, h1, h2, h3]
          rw [e]
          go_enter Tryd.func46, Tryd.ntmps46
          go_wp2
          go_ret
          exact ⟨rfl, rfl⟩
        · have e : hdB t v = false := by simp [hdB, h3]
          rw [e]
          go_enter Tryd.func46, Tryd.ntmps46
          go_wp2
          go_ret
          exact ⟨rfl, rfl⟩
      · have e : hdB t v = false := by simp [hdB, h2]
        rw [e]
        go_enter Tryd.func46, Tryd.ntmps46
        go_wp2
        go_ret
        exact ⟨rfl, rfl⟩
    · have e : hdB t v = false := by simp [hdB, h1]
      rw [e]
      go_enter Tryd.func46, Tryd.ntmps46
      go_wp2
      go_ret
      exact ⟨rfl, rfl⟩
  · have e : hdB t v = false := by simp [hdB, h0]
    rw [e]
    go_enter Tryd.func46, Tryd.ntmps46
    go_wp2
    go_ret
    exact ⟨rfl, rfl⟩

/-- Whether a journal is right. -/
def jokB (n t v s st : Int) (l : List En) : Bool := numB n && hdB t v && okL s st l
end Go.Proofs.YtijmaplejpnggaaDoor
