/-
  Sixty flags as an array: its cells, held against another one. Over any program.
-/
import Derived.WalkKit
import Derived.ChangeKeysEq
import Derived.Deep.WholeRow
namespace Go.Proofs.YteefacjjdalncaaGreatDoor
open Go Go.RowKit

/-- Sixty flags, as cells. -/
def fldA (p : Nat → Bool) : Array Value := (Array.range 60).map fun i => .bool (p i)
theorem fldA_size (p : Nat → Bool) : (fldA p).size = 60 := by simp [fldA]
theorem fldA_at {p : Nat → Bool} {i : Nat} (h : i < 60) : (fldA p)[i]? = some (.bool (p i)) := by
  simp [fldA, h]
theorem fldA_ext {p q : Nat → Bool} (h : ∀ i, i < 60 → p i = q i) : fldA p = fldA q := by
  apply Array.ext
  · rw [fldA_size, fldA_size]
  · intro i h1 h2
    have h3 : i < 60 := by rw [fldA_size] at h1; exact h1
    simp [fldA, h i h3]
theorem fldA_set (p : Nat → Bool) (n : Nat) (b : Bool) : (fldA p).setIfInBounds n (.bool b) = fldA fun i => if i = n then b else p i := by
  apply Array.ext_getElem?
  intro i
  rw [Array.getElem?_setIfInBounds]
  by_cases h : n = i
  · subst h
    by_cases h6 : n < 60
    · simp [fldA, h6]
    · simp [fldA, h6]
  · have h' : ¬ i = n := fun e => h e.symm
    by_cases h6 : i < 60
    · simp [fldA, h, h', h6]
    · simp [fldA, h, h6]
theorem fldA_none : Array.replicate 60 (Value.bool false) = fldA fun _ => false := by
  apply Array.ext
  · simp [fldA]
  · intro i h1 h2
    simp [fldA]
def fldE (p q : Nat → Bool) : Bool := (List.range 60).all fun i => p i == q i
theorem fldE_iff {p q : Nat → Bool} : fldE p q = true ↔ ∀ i, i < 60 → p i = q i := by
  simp [fldE]
theorem eqItems_flags {P : Program} (w : World) (d : Nat) (e : TypeId) (hb : P.underlying e = some .bool) (ha : ∀ w, (isAgg e).run P w = .ok false w) (p q : Nat → Bool) : ∀ is : List Nat, (∀ i ∈ is, i < 60) →
    (Op.eqItems (d + 1) e 1 (fldA p) (fldA q) is).run P w = .ok (is.all fun i => p i == q i) w
  | [], _ => by simp [Op.eqItems]
  | i :: is, h => by
    have hi : i < 60 := h i (by simp)
    have ih := eqItems_flags w d e hb ha p q is (fun j hj => h j (by simp [hj]))
    have e1 : (part e (fldA p) (i * 1)).run P w = .ok (.bool (p i)) w := by simp [part, ha, fldA_at hi]
    have e2 : (part e (fldA q) (i * 1)).run P w = .ok (.bool (q i)) w := by simp [part, ha, fldA_at hi]
    have e3 : (Op.equalIn (d + 1) e (.bool (p i)) (.bool (q i))).run P w = .ok (p i == q i) w := by simp [Op.equalIn, run_underlying hb]
    simp only [Op.eqItems, Sem.run_bind, e1, e2, e3, Result.andThen_ok, List.all_cons]
    cases p i == q i
    · simp
    · simpa using ih
theorem equal_flags {P : Program} (w : World) (d : Nat) {t e : TypeId} {i : TypeInfo} (hu : P.underlying t = some (.array 60 e)) (hi : P.info? e = some i) (hc : P.cellsOf e = 1) (hb : P.underlying e = some .bool) (ha : ∀ w, (isAgg e).run P w = .ok false w) (p q : Nat → Bool) :
    (Op.equalIn (d + 2) t (.agg (fldA p)) (.agg (fldA q))).run P w = .ok (fldE p q) w := by
  rw [run_equalIn_array w (d + 1) _ _ hu hi, hc]
  exact eqItems_flags w d e hb ha p q _ (fun i hi => by simpa using hi)
end Go.Proofs.YteefacjjdalncaaGreatDoor
