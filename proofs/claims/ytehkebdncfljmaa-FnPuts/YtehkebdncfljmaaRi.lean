/-
  Rows of numbers: copied, held against each other, marked: the walks.
-/
import Derived.Test.YtehkebdncfljmaaGn
import Derived.Test.YtehkebdncfljmaaMt
import Derived.Test.YtehkebdncfljmaaInf
namespace Go.Proofs.Ytehkebdncfljmaa
open Go Go.RowKit

instance : Rec Int := ⟨1, fun n => [.int .i64 n], fun _ => rfl, by decide⟩
theorem int_at {w : World} {ao : Option Addr} {n cap : Nat} {l : List Int} (h : Reads w (.slice ao n cap) l) {k : Nat} {x : Int} (hk : l[k]? = some x) :
    ∃ b o, ao = some ⟨b, o, none⟩ ∧ b < w.heap.size ∧ w.cell? ⟨b, o + k, none⟩ = some (.int .i64 x) := by
  obtain ⟨b, o, rfl, hlt, hc⟩ := h.at hk
  have := hc 0 _ rfl
  refine ⟨b, o, rfl, hlt, ?_⟩
  have e : o + k * Rec.width Int + 0 = o + k := by show o + k * 1 + 0 = o + k; omega
  rw [e] at this
  exact this
theorem flat_int : ∀ l : List Int, l.flatMap (Rec.cells (α := Int)) = l.map (Value.int .i64)
  | [] => rfl
  | x :: r => by rw [List.flatMap_cons, List.map_cons, flat_int r]; rfl
theorem underI : Try.prog.underlying 32 = some (.slice 3) := by kernel_rfl
theorem made_ints (n : Nat) : (madeCells (Value.cells (.int .i64 0)) (n * 1)).toList = (List.replicate n (0 : Int)).flatMap Rec.cells := by
  apply List.ext_getElem?
  intro m
  have e := flat_at (List.replicate n (0 : Int)) m 0 (by decide)
  have e1 : m * Rec.width Int + 0 = m := by show m * 1 + 0 = m; omega
  rw [e1] at e
  rw [e]
  simp only [madeCells, Value.cells, Array.toList_map, Array.toList_range, List.getElem?_map, List.getElem?_replicate]
  by_cases hlt : m < n
  · rw [if_pos hlt, List.getElem?_range (by omega)]
    simp [Nat.mod_one]
    rfl
  · rw [if_neg hlt, List.getElem?_eq_none (by simp; omega)]
    rfl

def filledI (l : List Int) (k : Nat) : List Int := l.take k ++ List.replicate (l.length - k) 0
theorem filledI_at {l : List Int} {k : Nat} (h : k < l.length) : (filledI l k)[k]? = some 0 := by
  unfold filledI
  rw [List.getElem?_append_right (by simp; omega), List.getElem?_replicate, if_pos (by simp; omega)]
theorem filledI_set {l : List Int} {k : Nat} {f : Int} (h : l[k]? = some f) : (filledI l k).set k f = filledI l (k + 1) := by
  have hk : k < l.length := (List.getElem?_eq_some_iff.1 h).1
  unfold filledI
  rw [List.take_add_one, h, List.set_append_right _ _ (by simp; omega)]
  have e : k - (List.take k l).length = 0 := by simp; omega
  rw [e, show l.length - k = (l.length - (k + 1)) + 1 by omega, List.replicate_succ]
  simp
theorem filledI_all (l : List Int) : filledI l l.length = l := by simp [filledI]
theorem filledI_length {l : List Int} {k : Nat} (h : k ≤ l.length) : (filledI l k).length = l.length := by simp [filledI]; omega
theorem filledI_none (l : List Int) : filledI l 0 = List.replicate l.length 0 := by simp [filledI]

/-- A number is stored into an owned row. -/
theorem int_put {w : World} {B : Nat} {e : TypeId} {g n cap : Nat} {l : List Int} (h : ownsR w B e (.slice (some ⟨g, 0, none⟩) n cap) l) {i : Nat} {y : Int} (f : Int) (hi : l[i]? = some y) :
    ownsR (w.setCell ⟨g, i, none⟩ (.int .i64 f)) B e (.slice (some ⟨g, 0, none⟩) n cap) (l.set i f) := by
  have h1 := h.put (j := 0) (u := .int .i64 f) f hi (by decide) rfl
  have e1 : i * Rec.width Int + 0 = i := by show i * 1 + 0 = i; omega
  rw [e1] at h1
  exact h1
theorem int_own {w : World} {B : Nat} {e : TypeId} {g n cap : Nat} {l : List Int} (h : ownsR w B e (.slice (some ⟨g, 0, none⟩) n cap) l) {i : Nat} {x : Int} (hi : l[i]? = some x) :
    g < w.heap.size ∧ w.cell? ⟨g, i, none⟩ = some (.int .i64 x) ∧ w.frozen? ⟨g, i, none⟩ = false := by
  obtain ⟨h1, _, _, h2⟩ := h.at hi
  have h3 := h2 0 (by decide)
  have e1 : i * Rec.width Int + 0 = i := by show i * 1 + 0 = i; omega
  rw [e1] at h3
  exact ⟨h1, h3.1, h3.2⟩

/-- The numbers from k on. -/
def numsFrom (k : Nat) : Nat → List Int
  | 0 => []
  | n + 1 => (k : Int) :: numsFrom (k + 1) n

end Go.Proofs.Ytehkebdncfljmaa
