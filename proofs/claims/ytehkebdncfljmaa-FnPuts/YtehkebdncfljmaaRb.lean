/-
  Rows of flags: small facts.
-/
import Derived.Test.YtehkebdncfljmaaRi
namespace Go.Proofs.Ytehkebdncfljmaa
open Go Go.RowKit
instance : Rec Bool := ⟨1, fun b => [.bool b], fun _ => rfl, by decide⟩
theorem bool_at {w : World} {ao : Option Addr} {n cap : Nat} {l : List Bool} (h : Reads w (.slice ao n cap) l) {k : Nat} {x : Bool} (hk : l[k]? = some x) :
    ∃ b o, ao = some ⟨b, o, none⟩ ∧ b < w.heap.size ∧ w.cell? ⟨b, o + k, none⟩ = some (.bool x) := by
  obtain ⟨b, o, rfl, hlt, hc⟩ := h.at hk
  have := hc 0 _ rfl
  refine ⟨b, o, rfl, hlt, ?_⟩
  have e : Rec.width Bool = 1 := rfl
  rw [e, Nat.mul_one, Nat.add_zero] at this
  exact this
theorem flat_bool : ∀ l : List Bool, l.flatMap (Rec.cells (α := Bool)) = l.map Value.bool
  | [] => rfl
  | x :: r => by rw [List.flatMap_cons, List.map_cons, flat_bool r]; rfl
theorem underB : Try.prog.underlying 157 = some (.slice 4) := by kernel_rfl
theorem infoB : (Try.prog.info? 4).map (fun i => (i.zero, i.size, i.bytes)) = some (some (.bool false), 1, 1) := by kernel_rfl
theorem made_bools (n : Nat) : (madeCells (Value.cells (.bool false)) (n * 1)).toList = (List.replicate n false).flatMap Rec.cells := by
  apply List.ext_getElem?
  intro m
  have e := flat_at (List.replicate n false) m 0 (by decide)
  have e1 : m * Rec.width Bool + 0 = m := by show m * 1 + 0 = m; omega
  rw [e1] at e
  rw [e]
  simp only [madeCells, Value.cells, Array.toList_map, Array.toList_range, List.getElem?_map, List.getElem?_replicate]
  by_cases hlt : m < n
  · rw [if_pos hlt, List.getElem?_range (by omega)]
    simp [Nat.mod_one]
    rfl
  · rw [if_neg hlt, List.getElem?_eq_none (by simp; omega)]
    rfl
theorem bool_put {w : World} {B : Nat} {e : TypeId} {g n cap : Nat} {l : List Bool} (h : ownsR w B e (.slice (some ⟨g, 0, none⟩) n cap) l) {i : Nat} {y : Bool} (f : Bool) (hi : l[i]? = some y) :
    ownsR (w.setCell ⟨g, i, none⟩ (.bool f)) B e (.slice (some ⟨g, 0, none⟩) n cap) (l.set i f) := by
  have := h.put (j := 0) (u := .bool f) f hi (by decide) rfl
  have e : Rec.width Bool = 1 := rfl
  rw [e, Nat.mul_one, Nat.add_zero] at this
  exact this
theorem bool_own {w : World} {B : Nat} {e : TypeId} {g n cap : Nat} {l : List Bool} (h : ownsR w B e (.slice (some ⟨g, 0, none⟩) n cap) l) {i : Nat} {x : Bool} (hi : l[i]? = some x) :
    g < w.heap.size ∧ w.cell? ⟨g, i, none⟩ = some (.bool x) ∧ w.frozen? ⟨g, i, none⟩ = false := by
  obtain ⟨h1, _, _, h2⟩ := h.at hi
  have h3 := h2 0 (by decide)
  have e : Rec.width Bool = 1 := rfl
  rw [e, Nat.mul_one, Nat.add_zero] at h3
  exact ⟨h1, h3.1, h3.2⟩
end Go.Proofs.Ytehkebdncfljmaa
