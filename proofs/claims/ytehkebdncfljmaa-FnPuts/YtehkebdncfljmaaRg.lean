/-
  Rows of records of any kind: the first ones copied, the rest as it was made; the first ones marked. Over any program.
-/
import Derived.Test.YtehkebdncfljmaaRec
namespace Go.Proofs.Ytehkebdncfljmaa
open Go Go.RowKit
section
variable {α : Type} [Rec α] [Inhabited α]
/-- The first k copied, the rest as it was made. -/
def filledR (l : List α) (k : Nat) : List α := l.take k ++ List.replicate (l.length - k) default
omit [Rec α] in
theorem filledR_at {l : List α} {k : Nat} (h : k < l.length) : (filledR l k)[k]? = some default := by
  unfold filledR
  rw [List.getElem?_append_right (by simp; omega), List.getElem?_replicate, if_pos (by simp; omega)]
omit [Rec α] in
theorem filledR_set {l : List α} {k : Nat} {f : α} (h : l[k]? = some f) : (filledR l k).set k f = filledR l (k + 1) := by
  have hk : k < l.length := (List.getElem?_eq_some_iff.1 h).1
  unfold filledR
  rw [List.take_add_one, h, List.set_append_right _ _ (by simp; omega)]
  have e : k - (List.take k l).length = 0 := by simp; omega
  rw [e, show l.length - k = (l.length - (k + 1)) + 1 by omega, List.replicate_succ]
  simp
omit [Rec α] in
theorem filledR_all (l : List α) : filledR l l.length = l := by simp [filledR]
omit [Rec α] in
theorem filledR_length {l : List α} {k : Nat} (h : k ≤ l.length) : (filledR l k).length = l.length := by simp [filledR]; omega
omit [Rec α] in
theorem filledR_none (l : List α) : filledR l 0 = List.replicate l.length default := by simp [filledR]
end
section
variable {α : Type} (mk : Int → α) (s : Int)
/-- The first j marked, the rest as they were; each takes s marks. -/
def markedR (x : Int) (l : List α) (j : Nat) : List α := (List.range j).map (fun i : Nat => mk (x + s * (i : Int))) ++ l.drop j
def marksR (x : Int) (n : Nat) : List α := (List.range n).map (fun i : Nat => mk (x + s * (i : Int)))
variable {mk : Int → α} {s : Int}
theorem markedR_length {x : Int} {l : List α} {j : Nat} (h : j ≤ l.length) : (markedR mk s x l j).length = l.length := by simp [markedR]; omega
theorem markedR_at {x : Int} {l : List α} {j : Nat} {f : α} (h : l[j]? = some f) : (markedR mk s x l j)[j]? = some f := by
  unfold markedR
  rw [List.getElem?_append_right (by simp)]
  simp [h]
theorem markedR_set {x : Int} {l : List α} {j : Nat} {f : α} (h : l[j]? = some f) : (markedR mk s x l j).set j (mk (x + s * (j : Int))) = markedR mk s x l (j + 1) := by
  have hj : j < l.length := (List.getElem?_eq_some_iff.1 h).1
  unfold markedR
  rw [List.set_append_right _ _ (by simp), List.drop_eq_getElem_cons hj, List.range_succ]
  simp
  rw [List.drop_eq_getElem_cons hj]
  rfl
theorem markedR_zero [Rec α] {w : World} {B : Nat} {e : TypeId} {v : Value} {x : Int} {l : List α} (h : Hid (ownsR w B e v l)) : Hid (ownsR w B e v (markedR mk s x l 0)) := by
  have e : markedR mk s x l 0 = l := by simp [markedR]
  rw [e]
  exact h
theorem markedR_all (mk : Int → α) (s x : Int) (l : List α) : markedR mk s x l l.length = marksR mk s x l.length := by simp [markedR, marksR]
theorem marksR_at {x : Int} {n j : Nat} (h : j < n) : (marksR mk s x n)[j]? = some (mk (x + s * (j : Int))) := by simp [marksR, h]
theorem marksR_length (x : Int) (n : Nat) : (marksR mk s x n).length = n := by simp [marksR]
end
end Go.Proofs.Ytehkebdncfljmaa
