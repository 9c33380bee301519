/-
  A command in bytes, as the specification writes it: the walks.
-/
import Derived.Test.YtgjamikmjknlfaaDoorCmo
import Derived.Test.YtgjamikmjknlfaaDoorRvs
import Derived.Test.YtgjamikmjknlfaaDoorWd
import Derived.Test.YtgjamikmjknlfaaDoorDci
namespace Go.Proofs.YtgjamikmjknlfaaDoor
open Go Go.RowKit

theorem varF_len : ∀ f n, (varF f n).length ≤ f + 1
  | 0, n => by simp [varF]
  | f + 1, n => by
    unfold varF
    split
    · have := varF_len f (n / 128); simp; omega
    · simp
theorem var_size (n : Nat) : (bstr (varI n)).size ≤ n + 1 := by rw [bstr_size']; exact varF_len n n
/-- A text with its length ahead. -/
def shortS (s : ByteArray) : ByteArray := bstr (varI s.size) ++ s
def flagS (b : Bool) : ByteArray := if b then ⟨#[1]⟩ else ⟨#[0]⟩
/-- A command in bytes. -/
def cmtS (op tok seq : Int) (text task : ByteArray) (num up : Int) (yes : Bool) : ByteArray := bstr [op] ++ bstr (varI tok.toNat) ++ bstr (varI seq.toNat) ++ shortS text ++ shortS task ++ bstr (varI num.toNat) ++ bstr (varI up.toNat) ++ flagS yes
def cmtX (op tok seq : Int) (text task : ByteArray) (num up : Int) (yes : Bool) : ByteArray := if cmdB op tok seq text task num up yes then cmtS op tok seq text task num up yes else ⟨#[]⟩
theorem rest_fine {f1 f2 f3 f4 f5 : Bool} {text task : ByteArray} {num up : Int} {yes : Bool} (h : restB f1 f2 f3 f4 f5 text task num up yes = true) : (f1 = false → text.size = 0) ∧ (f2 = false → task.size = 0) ∧ (f3 = false → num = 0) ∧ (f4 = false → up = 0) := by
  unfold restB at h
  simp only [Bool.and_eq_true, Bool.or_eq_true, decide_eq_true_eq] at h
  obtain ⟨h1, h2, h3, h4, _⟩ := h
  refine ⟨fun e => ?_, fun e => ?_, fun e => ?_, fun e => ?_⟩
  · subst e; rcases h1 with h | h; cases h; subst h; rfl
  · subst e; rcases h2 with h | h; cases h; subst h; rfl
  · subst e; rcases h3 with h | h; cases h; exact h
  · subst e; rcases h4 with h | h; cases h; exact h
theorem name_size8 {s : ByteArray} (h : nameB s = true) : s.size ≤ 8 := by
  unfold nameB at h
  simp only [Bool.and_eq_true, decide_eq_true_eq] at h
  exact h.1.2
theorem cmd_fine {op tok seq : Int} {text task : ByteArray} {num up : Int} {yes : Bool} (h : cmdB op tok seq text task num up yes = true) : 1 ≤ op ∧ op ≤ 9 ∧ 0 ≤ tok ∧ tok ≤ 1000000 ∧ 0 ≤ seq ∧ seq ≤ 1000000 ∧ text.size ≤ 600 ∧ task.size ≤ 8 ∧ 0 ≤ num ∧ num ≤ 1000000000 ∧ 0 ≤ up ∧ up ≤ 68374079 := by
  unfold cmdB opB at h
  simp only [Bool.and_eq_true, decide_eq_true_eq] at h
  obtain ⟨h1, h2, h⟩ := h
  refine (fun (k : 1 ≤ op ∧ op ≤ 9 ∧ text.size ≤ 600 ∧ task.size ≤ 8 ∧ 0 ≤ num ∧ num ≤ 1000000000 ∧ 0 ≤ up ∧ up ≤ 68374079) => ⟨k.1, k.2.1, h1.1, h1.2, h2.1, h2.2, k.2.2⟩) ?_
  repeat' split at h
  all_goals (try simp only [Bool.and_eq_true, decide_eq_true_eq] at h)
  all_goals (try (cases h; done))
  · obtain ⟨_, _, h⟩ := h; have r := rest_fine h; have a := r.1 rfl; have b := r.2.1 rfl; have c := r.2.2.1 rfl; have d := r.2.2.2 rfl; omega
  · obtain ⟨x, h⟩ := h; have r := rest_fine h; have b := r.2.1 rfl; have c := r.2.2.1 rfl; have d := r.2.2.2 rfl; omega
  · obtain ⟨x, h⟩ := h; have r := rest_fine h; have a := name_size8 x; have b := r.2.1 rfl; have c := r.2.2.1 rfl; have d := r.2.2.2 rfl; omega
  · obtain ⟨x, h⟩ := h; have r := rest_fine h; have a := r.1 rfl; have b := r.2.1 rfl; have d := r.2.2.2 rfl; omega
  · have r := rest_fine h; have a := r.1 rfl; have b := r.2.1 rfl; have c := r.2.2.1 rfl; have d := r.2.2.2 rfl; omega
  · obtain ⟨x, h⟩ := h; have r := rest_fine h; have a := r.1 rfl; have b := r.2.1 rfl; have d := r.2.2.2 rfl; omega
  · obtain ⟨x, h⟩ := h; have r := rest_fine h; have a := r.1 rfl; have b := r.2.1 rfl; have d := r.2.2.2 rfl; omega
  · obtain ⟨x, y, z, h⟩ := h; have r := rest_fine h; have a := name_size8 x; have b := r.2.1 rfl; omega
  · obtain ⟨x, y, z, h⟩ := h; have r := rest_fine h; have a := name_size8 x; have b := name_size8 y; have d := r.2.2.2 rfl; omega

end Go.Proofs.YtgjamikmjknlfaaDoor
