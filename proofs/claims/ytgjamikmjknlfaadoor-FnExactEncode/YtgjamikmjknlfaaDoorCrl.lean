/-
  Lists of numbers in bounds, and texts split at a byte, as the specification does it: the walks.
-/
import Derived.Test.YtgjamikmjknlfaaDoorRi
import Derived.Test.YtgjamikmjknlfaaDoorWd
import Derived.Test.YtgjamikmjknlfaaDoorStr
import Derived.WalkLawsBesides
namespace Go.Proofs.YtgjamikmjknlfaaDoor
open Go Go.RowKit

theorem in_any (x lo hi : Int) (w : World) :
    Calls Tryd.prog 46 #[.int .i64 x, .int .i64 lo, .int .i64 hi] w fun e w' => e = .returned (.bool (decide (lo ≤ x) && decide (x ≤ hi))) ∧ w' = w := by
  by_cases h1 : lo ≤ x
  · have h2 : decide (lo ≤ x) = true := decide_eq_true h1
    go_enter Tryd.func46, Tryd.ntmps46
    go_wp2
    go_ret
    exact ⟨by simp [h1], rfl⟩
  · have h2 : decide (lo ≤ x) = false := decide_eq_false h1
    go_enter Tryd.func46, Tryd.ntmps46
    go_wp2
    go_ret
    exact ⟨by simp, rfl⟩

/-- Within bounds, and rising from the one ahead. -/
def riseB (lo hi : Int) : Option Int → List Int → Bool
  | _, [] => true
  | p, x :: r => (decide (lo ≤ x) && decide (x ≤ hi)) && p.all (fun y => decide (y < x)) && riseB lo hi (some x) r
/-- A list of a rule's field. -/
def listB (lo hi : Int) (l : List Int) : Bool := !l.isEmpty && riseB lo hi none l
theorem riseB_at {lo hi : Int} {l : List Int} {k : Nat} {p : Option Int} {x : Int} (h : l[k]? = some x) : riseB lo hi p (l.drop k) = ((decide (lo ≤ x) && decide (x ≤ hi)) && p.all (fun y => decide (y < x)) && riseB lo hi (some x) (l.drop (k + 1))) := by
  obtain ⟨hk, rfl⟩ := List.getElem?_eq_some_iff.1 h
  rw [List.drop_eq_getElem_cons hk]
  rfl
theorem riseB_end {lo hi : Int} {l : List Int} {k : Nat} {p : Option Int} (h : k = l.length) : riseB lo hi p (l.drop k) = true := by
  subst h
  rw [List.drop_length]
  rfl
theorem listB_rise {lo hi : Int} {l : List Int} (h : riseB lo hi none l = true) : listB lo hi l = decide (0 < l.length) := by
  unfold listB
  rw [h]
  cases l with
  | nil => simp
  | cons x r => simp
theorem listB_no {lo hi : Int} {l : List Int} (h : riseB lo hi none l = false) : listB lo hi l = false := by simp [listB, h]

theorem mem_drop_at {m : List Int} {k : Nat} {y x : Int} (h : m[k]? = some y) : x ∈ m.drop k ↔ x = y ∨ x ∈ m.drop (k + 1) := by
  obtain ⟨hk, rfl⟩ := List.getElem?_eq_some_iff.1 h
  rw [List.drop_eq_getElem_cons hk]
  exact List.mem_cons
theorem not_mem_end {m : List Int} {k : Nat} {x : Int} (h : k = m.length) : ¬ x ∈ m.drop k := by
  subst h
  rw [List.drop_length]
  exact List.not_mem_nil
/-- The pieces behind the first i places, and where the next one begins. -/
def cutsN (s : ByteArray) (c : Nat) : Nat → List ByteArray × Nat
  | 0 => ([], 0)
  | i + 1 => if i = s.size ∨ (s.data[i]?.map (fun b => b.toNat)) = some c then ((cutsN s c i).1 ++ [s.extract (cutsN s c i).2 i], i + 1) else cutsN s c i
/-- A text split at a byte. -/
def splitB (s : ByteArray) (c : Nat) : List ByteArray := (cutsN s c (s.size + 1)).1
theorem cutsN_bd (s : ByteArray) (c : Nat) : ∀ i, (cutsN s c i).2 ≤ i ∧ (cutsN s c i).1.length ≤ i
  | 0 => ⟨Nat.le_refl _, Nat.le_refl _⟩
  | i + 1 => by
    obtain ⟨h1, h2⟩ := cutsN_bd s c i
    unfold cutsN
    split
    · exact ⟨Nat.le_refl _, by simp; omega⟩
    · exact ⟨by omega, by omega⟩
theorem byte_is {s : ByteArray} {i : Nat} (h : i < s.size) : s.data[i]?.map (fun b => b.toNat) = some s[i].toNat := by
  have h' : i < s.data.size := h
  rw [Array.getElem?_eq_getElem h']
  rfl

end Go.Proofs.YtgjamikmjknlfaaDoor
