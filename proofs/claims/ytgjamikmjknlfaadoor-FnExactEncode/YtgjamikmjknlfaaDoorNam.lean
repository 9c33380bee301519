/-
  Names, pools and lines, as the specification tells them: the walks.
-/
import Derived.Test.YtgjamikmjknlfaaDoorCrl
namespace Go.Proofs.YtgjamikmjknlfaaDoor
open Go Go.RowKit

def charB (n : Nat) : Bool := decide (97 ≤ n ∧ n ≤ 122) || decide (48 ≤ n ∧ n ≤ 57)
/-- A name: a letter, then letters and figures, 8 at most. -/
def nameB (s : ByteArray) : Bool := decide (1 ≤ s.size ∧ s.size ≤ 8) && (decide (97 ≤ (s.data.toList.getD 0 0).toNat ∧ (s.data.toList.getD 0 0).toNat ≤ 122) && s.data.toList.all fun b => charB b.toNat)
theorem first_is {s : ByteArray} (h : 0 < s.size) : (s.data.toList.getD 0 0).toNat = s[0].toNat := by
  have h' : 0 < s.data.toList.length := by simpa using h
  rw [List.getD_eq_getElem?_getD, List.getElem?_eq_getElem h']
  rfl
theorem name_size {s : ByteArray} (h : ¬ (1 ≤ s.size ∧ s.size ≤ 8)) : nameB s = false := by unfold nameB; rw [decide_eq_false h]; rfl
theorem name_head {s : ByteArray} (h : 0 < s.size) (hc : ¬ (97 ≤ s[0].toNat ∧ s[0].toNat ≤ 122)) : nameB s = false := by
  unfold nameB
  rw [first_is h, decide_eq_false hc, Bool.false_and, Bool.and_false]
theorem all_at {s : ByteArray} (h : (s.data.toList.all fun b => charB b.toNat) = true) {k : Nat} (hk : k < s.size) : charB s[k].toNat = true := by
  rw [List.all_eq_true] at h
  have h' : k < s.data.toList.length := by simpa using hk
  exact h _ (List.getElem_mem h')
theorem name_bad {s : ByteArray} {k : Nat} (hk : k < s.size) (hc : charB s[k].toNat = false) : nameB s = false := by
  unfold nameB
  cases ha : (s.data.toList.all fun b => charB b.toNat) with
  | false => rw [Bool.and_false, Bool.and_false]
  | true => rw [all_at ha hk] at hc; cases hc
theorem name_good {s : ByteArray} (h0 : 1 ≤ s.size) (h1 : s.size ≤ 8) (hc : 97 ≤ s[0].toNat ∧ s[0].toNat ≤ 122) (ha : ∀ j (h : j < s.size), charB s[j].toNat = true) : nameB s = true := by
  unfold nameB
  rw [decide_eq_true ⟨h0, h1⟩, first_is h0, decide_eq_true hc, Bool.true_and, Bool.true_and, List.all_eq_true]
  intro b hb
  obtain ⟨j, hj, rfl⟩ := List.getElem_of_mem hb
  exact ha j (by simpa using hj)

end Go.Proofs.YtgjamikmjknlfaaDoor
