/-
  The cursor that a text is read with: the walks of its two functions.
-/
import Derived.Test.YtkfhmeiiicidaaaDoorSv
import Derived.Test.YtkfhmeiiicidaaaDoorWd
import Derived.Test.YtkfhmeiiicidaaaDoorGn
import Derived.Test.YtkfhmeiiicidaaaDoorRvs
namespace Go.Proofs.YtkfhmeiiicidaaaDoor
open Go Go.RowKit

/-- What is taken. -/
def takeS (s : ByteArray) (a : Nat) (b : Bool) (n : Nat) : ByteArray × Nat × Bool := if b = false ∧ a + n ≤ s.size then (s.extract a (a + n), a + n, false) else (ByteArray.empty, a, true)

theorem takeS_no1 (s : ByteArray) (a n : Nat) : takeS s a true n = (ByteArray.empty, a, true) := by simp [takeS]
theorem takeS_no2 {s : ByteArray} {a n : Nat} (h : s.size < a + n) : takeS s a false n = (ByteArray.empty, a, true) := by unfold takeS; rw [if_neg (by omega)]
theorem takeS_yes {s : ByteArray} {a n : Nat} (h : a + n ≤ s.size) : takeS s a false n = (s.extract a (a + n), a + n, false) := by unfold takeS; rw [if_pos ⟨rfl, h⟩]
/-- Where a number that is read lies. -/
theorem rvGo_in (s : ByteArray) : ∀ (f i k n : Nat) (x y : Int), rvGo s f i k n = (x, y, true) → ∃ X Y : Nat, x = X ∧ y = Y ∧ X ≤ 1000000000 ∧ i < Y ∧ Y ≤ s.size
  | 0, _, _, _, x, y, h => by simp [rvGo] at h
  | f + 1, i, k, n, x, y, h => by
    rw [rvGo] at h
    split at h
    · rename_i hi
      split at h
      · split at h
        · simp at h
        · rename_i hx
          simp only [Prod.mk.injEq, and_true] at h
          exact ⟨_, i + 1, h.1.symm, by omega, by omega, by omega, by omega⟩
      · obtain ⟨X, Y, h1, h2, h3, h4, h5⟩ := rvGo_in s f _ _ _ x y h
        exact ⟨X, Y, h1, h2, h3, by omega, h5⟩
    · simp at h
theorem rv_in {s : ByteArray} {a : Int} {x y : Int} (h : rv s a = (x, y, true)) : ∃ X Y : Nat, x = X ∧ y = Y ∧ X ≤ 1000000000 ∧ a < Y ∧ Y ≤ s.size := by
  unfold rv at h
  split at h
  · obtain ⟨X, Y, h1, h2, h3, h4, h5⟩ := rvGo_in s _ _ _ _ x y h
    exact ⟨X, Y, h1, h2, h3, by omega, h5⟩
  · simp at h

/-- The number that is read. -/
def varS (s : ByteArray) (a : Nat) (b : Bool) : Nat × Nat × Bool := if b = false ∧ (rv s a).2.2 = true then ((rv s a).1.toNat, (rv s a).2.1.toNat, false) else (0, a, true)

end Go.Proofs.YtkfhmeiiicidaaaDoor
