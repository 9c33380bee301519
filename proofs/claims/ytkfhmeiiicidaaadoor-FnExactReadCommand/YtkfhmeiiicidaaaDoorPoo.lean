/-
  Pools, and lines of a text, as the specification tells them: the walks.
-/
import Derived.Test.YtkfhmeiiicidaaaDoorTa
namespace Go.Proofs.YtkfhmeiiicidaaaDoor
open Go Go.RowKit

theorem one_list : (⟨#[111, 110, 101]⟩ : ByteArray).toList = [111, 110, 101] := (ByteArray.toList_eq _).trans rfl
theorem two_list : (⟨#[116, 119, 111]⟩ : ByteArray).toList = [116, 119, 111] := (ByteArray.toList_eq _).trans rfl
theorem wide_list : (⟨#[119, 105, 100, 101]⟩ : ByteArray).toList = [119, 105, 100, 101] := (ByteArray.toList_eq _).trans rfl
/-- How many may run in a pool. -/
def poolN (s : ByteArray) : Int := if s = ⟨#[111, 110, 101]⟩ then 1 else if s = ⟨#[116, 119, 111]⟩ then 2 else if s = ⟨#[119, 105, 100, 101]⟩ then 4 else 0
/-- The lines behind the first i places, and where the next one begins. -/
def linesN (s : ByteArray) : Nat → List ByteArray × Nat
  | 0 => ([], 0)
  | i + 1 => if (s.data[i]?.map (fun b => b.toNat)) = some 10 then ((linesN s i).1 ++ [s.extract (linesN s i).2 i], i + 1) else linesN s i
/-- The lines of a text. -/
def linesB (s : ByteArray) : List ByteArray := if (linesN s s.size).2 < s.size then (linesN s s.size).1 ++ [s.extract (linesN s s.size).2 s.size] else (linesN s s.size).1
theorem linesN_bd (s : ByteArray) : ∀ i, (linesN s i).2 ≤ i ∧ (linesN s i).1.length ≤ i
  | 0 => ⟨Nat.le_refl _, Nat.le_refl _⟩
  | i + 1 => by
    obtain ⟨h1, h2⟩ := linesN_bd s i
    unfold linesN
    split
    · exact ⟨Nat.le_refl _, by simp; omega⟩
    · exact ⟨by omega, by omega⟩
end Go.Proofs.YtkfhmeiiicidaaaDoor
