/-
  The text of a conf: the walks.
-/
import Derived.Test.YtgjamikmjknlfaaLco
import Derived.WalkSpells
import Derived.WalkLawsBesides
namespace Go.Proofs.Ytgjamikmjknlfaa
open Go Go.RowKit

/-- The text of a conf, and whether it is right. -/
def textC (l : List Int) : ByteArray := if okC l then bstr l else ByteArray.empty
def textV (l : List Int) : Value := .tuple #[.string (textC l), .bool (okC l)]
theorem textV_no {l : List Int} (h : okC l = false) : textV l = .tuple #[.string ByteArray.empty, .bool false] := by simp [textV, textC, h]
theorem textV_yes {l : List Int} (h : okC l = true) : textV l = .tuple #[.string (bstr l), .bool true] := by simp [textV, textC, h]
theorem okC_at {l : List Int} (h : okC l = true) {k : Nat} {x : Int} (hx : l[k]? = some x) : 0 < x ∧ x ≤ 4 := by
  have h0 : asc 0 l = true := by
    unfold okC at h
    rw [Bool.and_eq_true] at h
    exact h.2
  exact okC_range l 0 h0 (Int.le_refl _) x (List.mem_of_getElem? hx)
theorem okC_len {l : List Int} (h : okC l = true) : l.length ≤ 4 := by
  rcases Nat.lt_or_ge 4 l.length with h1 | h1
  · rw [okC_long h1] at h; cases h
  · exact h1
theorem take_snoc {α : Type} {l : List α} {k : Nat} {x : α} (h : l[k]? = some x) : l.take (k + 1) = l.take k ++ [x] := by
  rw [List.take_add_one, h]
  rfl

end Go.Proofs.Ytgjamikmjknlfaa
