/-
  Journals: the name of a journal's file, and which journals are right: the walks. Journals: which are right, on both sides: the walks; the law's helpers on them (sizes, copies, held against each other).
-/
import Derived.Test.YtgpojfkdcdgloaaGreatDoorDec
import Derived.Test.YtgpojfkdcdgloaaGreatDoorG1
import Derived.Test.YtgpojfkdcdgloaaGreatDoorNl
namespace Go.Proofs.YtgpojfkdcdgloaaGreatDoor
open Go Go.RowKit

/-- Whether a number is one of a journal. -/
def numB (n : Int) : Bool := decide (0 ≤ n) && decide (n ≤ 999)
/-- The name of a journal's file. -/
def jname (n : Int) : ByteArray := if numB n then (⟨#[106]⟩ : ByteArray) ++ decS n else ByteArray.empty
theorem numB_out {n : Int} (h : numB n = true) : 0 ≤ n ∧ n ≤ 999 := by simpa [numB] using h
theorem numB_in {n : Int} (h0 : 0 ≤ n) (h1 : n ≤ 999) : numB n = true := by simp [numB, h0, h1]
theorem numB_no {n : Int} (h : n < 0 ∨ 999 < n) : numB n = false := by
  rcases h with h | h
  · simp only [numB, decide_eq_false (show ¬ 0 ≤ n by omega), Bool.false_and]
  · simp only [numB, decide_eq_false (show ¬ n ≤ 999 by omega), Bool.and_false]
theorem jname_in {n : Int} (h0 : 0 ≤ n) (h1 : n ≤ 999) : jname n = (⟨#[106]⟩ : ByteArray) ++ decS n := by unfold jname; rw [if_pos (numB_in h0 h1)]
theorem jname_no {n : Int} (h : n < 0 ∨ 999 < n) : jname n = ByteArray.empty := by unfold jname; rw [numB_no h]; rfl
theorem decS_size {n : Int} (h0 : 0 ≤ n) (h1 : n ≤ 999) : 1 ≤ (decS n).size ∧ (decS n).size ≤ 3 := by
  obtain ⟨k, rfl⟩ := Int.eq_ofNat_of_zero_le h0
  rw [← decS_pos, bstr_size']
  have h := decI_len 2 k (by omega)
  have := decI_ne k k (Nat.le_refl _)
  have : (decI k).length ≠ 0 := fun e => this (List.length_eq_zero_iff.1 e)
  omega
theorem jname_size (n : Int) : (jname n).size ≤ 4 := by
  unfold jname
  split
  · rename_i h
    have := decS_size (numB_out h).1 (numB_out h).2
    rw [ByteArray.size_append]
    have : (⟨#[106]⟩ : ByteArray).size = 1 := rfl
    omega
  · exact Nat.zero_le _
theorem jname_ne {n : Int} (h : numB n = true) : jname n ≠ ByteArray.empty := fun e => by
  have := congrArg ByteArray.size e
  rw [jname_in (numB_out h).1 (numB_out h).2, ByteArray.size_append] at this
  have h1 : (⟨#[106]⟩ : ByteArray).size = 1 := rfl
  have h0 : (ByteArray.empty).size = 0 := rfl
  omega
theorem run_jname {n : Int} (h0 : 0 ≤ n) (h1 : n ≤ 999) (wx : World) : (Op.stringOp .add ⟨#[106]⟩ (decS n)).run Tryz.prog wx = .ok (.string ((⟨#[106]⟩ : ByteArray) ++ decS n)) wx := by
  have := decS_size h0 h1
  rw [run_string_add_sum wx _ _ (by rw [show (⟨#[106]⟩ : ByteArray).size = 1 from rfl]; omega)]

set_option maxRecDepth 10000 in
set_option maxHeartbeats 400000 in
theorem journalName_any (n : Int) (w : World) (hp : PowIs w) :
    Calls Tryz.prog 49 #[.int .i64 n] w fun e w' => e = .returned (.string (jname n)) ∧ Below w.heap.size w w' := by
  by_cases h0 : n < 0
  · rw [jname_no (.inl h0)]
    go_enter Tryz.func49, Tryz.ntmps49
    go_wp2
    go_ret
    exact ⟨rfl, Below.refl _ _⟩
  by_cases h1 : 999 < n
  · rw [jname_no (.inr h1)]
    go_enter Tryz.func49, Tryz.ntmps49
    go_wp2
    go_ret
    exact ⟨rfl, Below.refl _ _⟩
  · rw [jname_in (by omega) (by omega)]
    have ha := run_jname (n := n) (by omega) (by omega)
    go_enter Tryz.func49, Tryz.ntmps49
    go_wp2_with (go_at_call 74; refine (decimal_any n _ (by omega) (by omega) hp).mono ?_; rintro e w1 ⟨rfl, hb1⟩)
    go_ret
    exact ⟨rfl, hb1⟩

set_option maxRecDepth 10000 in
set_option maxHeartbeats 400000 in
theorem specJournalName_any (n : Int) (w : World) :
    Calls Tryz.prog 20 #[.int .i64 n] w fun e w' => e = .returned (.string (jname n)) ∧ Below w.heap.size w w' := by
  by_cases h : n < 0 ∨ 999 < n
  · rw [jname_no h]
    have H : Hid (n < 0 ∨ 999 < n) := h
    clear h
    go_enter Tryz.func20, Tryz.ntmps20
    go_wp2_with (go_at_call 36; refine (l01In_no _ _ _ _ H.out).mono ?_; rintro e w' ⟨rfl, rfl⟩)
    go_ret
    exact ⟨rfl, Below.refl _ _⟩
  · rw [jname_in (by omega) (by omega)]
    have ha := run_jname (n := n) (by omega) (by omega)
    go_enter Tryz.func20, Tryz.ntmps20
    go_wp2_with (first | (go_at_call 36; refine (l01In_yes _ _ _ _ (by omega) (by omega)).mono ?_; rintro e w' ⟨rfl, rfl⟩) | (go_at_call 38; refine (specDec_any n _ (by omega) (by omega)).mono ?_; rintro e w1 ⟨rfl, hb1⟩))
    go_ret
    exact ⟨rfl, hb1⟩

theorem journalName_no {n : Int} (h : numB n = false) (w : World) (hp : PowIs w) :
    Calls Tryz.prog 49 #[.int .i64 n] w fun e w' => e = .returned (.string ByteArray.empty) ∧ Below w.heap.size w w' := by
  have e : jname n = ByteArray.empty := by unfold jname; rw [h]; rfl
  rw [← e]
  exact journalName_any n w hp
theorem empty_not {s : ByteArray} (h : s ≠ ByteArray.empty) : s.toList.isEmpty = false ∧ (s.toList = []) = False := by
  have h2 : s.toList ≠ [] := fun e => h (by
    have hn := ne_list h
    have h0 : ByteArray.empty.toList = [] := by first | simp | (unfold ByteArray.toList ByteArray.toList.loop; simp) | rfl
    rw [e, h0] at hn
    exact absurd hn (by decide))
  exact ⟨by rw [List.isEmpty_eq_false_iff]; exact h2, by simp [h2]⟩

/-- Whether a term and a vote are right. -/
def hdB (t v : Int) : Bool := decide (0 ≤ t) && decide (t ≤ 100000) && decide (0 ≤ v) && decide (v ≤ 4)
theorem hdB_out {t v : Int} (h : hdB t v = true) : 0 ≤ t ∧ t ≤ 100000 ∧ 0 ≤ v ∧ v ≤ 4 := by
  simp [hdB] at h; omega
set_option maxRecDepth 10000 in
set_option maxHeartbeats 400000 in
theorem isHead_any (t v : Int) (w : World) :
    Calls Tryz.prog 115 #[.int .i64 t, .int .i64 v] w fun e w' => e = .returned (.bool (hdB t v)) ∧ w' = w := by
  by_cases h0 : 0 ≤ t
  · by_cases h1 : t ≤ 100000
    · by_cases h2 : 0 ≤ v
      · by_cases h3 : v ≤ 4
        · have e : hdB t v = true := by simp [hdB, h0, h1, h2, h3]
          rw [e]
          go_enter Tryz.func115, Tryz.ntmps115
          go_wp2
          go_ret
          exact ⟨rfl, rfl⟩
        · have e : hdB t v = false := by simp [hdB, h3]
          rw [e]
          go_enter Tryz.func115, Tryz.ntmps115
          go_wp2
          go_ret
          exact ⟨rfl, rfl⟩
      · have e : hdB t v = false := by simp [hdB, h2]
        rw [e]
        go_enter Tryz.func115, Tryz.ntmps115
        go_wp2
        go_ret
        exact ⟨rfl, rfl⟩
    · have e : hdB t v = false := by simp [hdB, h1]
      rw [e]
      go_enter Tryz.func115, Tryz.ntmps115
      go_wp2
      go_ret
      exact ⟨rfl, rfl⟩
  · have e : hdB t v = false := by simp [hdB, h0]
    rw [e]
    go_enter Tryz.func115, Tryz.ntmps115
    go_wp2
    go_ret
    exact ⟨rfl, rfl⟩

/-- Whether a journal is right. -/
def jokB (n t v s st : Int) (l : List En) : Bool := numB n && hdB t v && okL s st l
end Go.Proofs.YtgpojfkdcdgloaaGreatDoor

namespace Go.Proofs.YtgpojfkdcdgloaaGreatDoor
open Go Go.RowKit
theorem bcell {W w1 : World} (hb : Below W.heap.size W w1) : (∀ b o, b < W.heap.size → w1.cell? ⟨b, o, none⟩ = W.cell? ⟨b, o, none⟩) ∧ (∀ b o, b < W.heap.size → w1.frozen? ⟨b, o, none⟩ = W.frozen? ⟨b, o, none⟩) :=
  ⟨fun b o h => hb.cell (p := ⟨b, o, none⟩) h, fun b o h => hb.frozen (p := ⟨b, o, none⟩) h⟩

/-- A journal as a value. -/
abbrev jV (n t v s st : Int) (e : Value) : Value := .agg #[.int .i64 n, .int .i64 t, .int .i64 v, .int .i64 s, .int .i64 st, e]

set_option maxRecDepth 10000 in
set_option maxHeartbeats 1000000 in
theorem journalOk_try (n t v s st : Int) (ao : Option Addr) (k c : Nat) (l : List En) (w : World) (hp : PowIs w) (hr : Reads w (.slice ao k c) l) (hk : k ≤ 1048577) (hz : SizedE l) :
    Calls Tryz.prog 102 #[jV n t v s st (.slice ao k c)] w fun e w' => e = .returned (.bool (jokB n t v s st l)) ∧ Below w.heap.size w w' := by
  have HR : Hid (Reads w (.slice ao k c) l) := hr
  have HZ : Hid (SizedE l) := hz
  have HL : Hid (l.length ≤ 1048577) := by show _ ≤ _; rw [← hr.len]; exact hk
  clear hr hz
  cases hn : numB n with
  | false =>
    have HB : Hid (jokB n t v s st l = false) := by show _ = _; unfold jokB; rw [hn]; rfl
    rw [HB.out]
    have HNN : Hid (numB n = false) := hn
    clear hn
    go_enter Tryz.func102, Tryz.ntmps102
    go_wp2_with (go_at_call 49; refine (journalName_no HNN.out _ (hp.below (ba (Below.refl _ _) _))).mono ?_; rintro e w1 ⟨rfl, hb1⟩)
    go_ret
    exact ⟨rfl, below_new hb1⟩
  | true =>
    obtain ⟨hq, hq2⟩ := empty_not (jname_ne hn)
    cases hh : hdB t v with
    | false =>
      have HB : Hid (jokB n t v s st l = false) := by show _ = _; unfold jokB; rw [hn, hh]; rfl
      have HH : Hid (hdB t v = false) := hh
      rw [HB.out]
      clear hn hh
      go_enter Tryz.func102, Tryz.ntmps102
      go_wp2_with (first | (go_at_call 49; refine (journalName_any n _ (hp.below (ba (Below.refl _ _) _))).mono ?_; rintro e w1 ⟨rfl, hb1⟩; obtain ⟨hc, hf⟩ := bcell hb1) | (go_at_call 115; refine (isHead_any t v _).mono ?_; rw [HH.out]; rintro e w' ⟨rfl, hw⟩; have hw2 := hw.symm; subst hw2))
      go_ret
      exact ⟨rfl, below_new hb1⟩
    | true =>
      have HB : Hid (jokB n t v s st l = okL s st l) := by show _ = _; unfold jokB; rw [hn, hh]; simp
      have HH : Hid (hdB t v = true) := hh
      rw [HB.out]
      clear hn hh
      go_enter Tryz.func102, Tryz.ntmps102
      go_wp2_with (first | (go_at_call 49; refine (journalName_any n _ (hp.below (ba (Below.refl _ _) _))).mono ?_; rintro e w1 ⟨rfl, hb1⟩; obtain ⟨hc, hf⟩ := bcell hb1) | (go_at_call 115; refine (isHead_any t v _).mono ?_; rw [HH.out]; rintro e w' ⟨rfl, hw⟩; have hw2 := hw.symm; subst hw2) | (go_at_call 113; refine (logOk_any (HR.out.below (below_new hb1)) HL.out HZ.out).mono ?_; rintro e w3 ⟨rfl, hb3⟩))
      go_ret
      exact ⟨rfl, Below.on (below_new hb1) hb3⟩
theorem journalOk_any {n t v s st : Int} {w : World} {x : Value} {l : List En} (hp : PowIs w) (hr : Reads w x l) (hk : l.length ≤ 1048577) (hz : SizedE l) :
    Calls Tryz.prog 102 #[jV n t v s st x] w fun e w' => e = .returned (.bool (jokB n t v s st l)) ∧ Below w.heap.size w w' := by
  obtain ⟨ao, c, rfl, _⟩ := id hr
  exact journalOk_try n t v s st ao _ c l w hp hr hk hz

end Go.Proofs.YtgpojfkdcdgloaaGreatDoor
