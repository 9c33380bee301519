/-
  What two logs share, as the program tells it: the walk.
-/
import Derived.Test.YtnapjkpkhdbalaaLs
namespace Go.Proofs.Ytnapjkpkhdbalaa
open Go Go.RowKit

def eqEn (x y : En) : Bool := (x.term == y.term) && (x.kind == y.kind) && (x.data.toList == y.data.toList)
/-- How many entries from here on are the same. -/
def same : List En → List En → Nat
  | x :: r, y :: q => if eqEn x y then same r q + 1 else 0
  | _, _ => 0
theorem same_le : ∀ (a b : List En), same a b ≤ a.length ∧ same a b ≤ b.length
  | [], b => by simp [same]
  | x :: r, [] => by simp [same]
  | x :: r, y :: q => by
    have := same_le r q
    unfold same
    split <;> simp <;> omega
theorem same_step {a b : List En} {k : Nat} {x y : En} (ha : a[k]? = some x) (hb : b[k]? = some y) : same (a.drop k) (b.drop k) = if eqEn x y then same (a.drop (k + 1)) (b.drop (k + 1)) + 1 else 0 := by
  have hk : k < a.length := (List.getElem?_eq_some_iff.1 ha).1
  have hl : k < b.length := (List.getElem?_eq_some_iff.1 hb).1
  have e : a[k] = x := by rw [List.getElem?_eq_getElem hk] at ha; exact Option.some.inj ha
  have e' : b[k] = y := by rw [List.getElem?_eq_getElem hl] at hb; exact Option.some.inj hb
  rw [List.drop_eq_getElem_cons hk, List.drop_eq_getElem_cons hl, e, e']
  rfl
theorem same_end {a b : List En} {k : Nat} (h : a.length ≤ k ∨ b.length ≤ k) : same (a.drop k) (b.drop k) = 0 := by
  rcases h with h | h
  · rw [List.drop_eq_nil_of_le h]; simp [same]
  · rw [List.drop_eq_nil_of_le h]; cases a.drop k <;> simp [same]
/-- What two logs share. -/
def sharedL (s t : Int) (l : List En) (s2 t2 : Int) (l2 : List En) : Int :=
  if okL s t l && okL s2 t2 l2 then
    if termL s t l (max s s2) = termL s2 t2 l2 (max s s2) then max s s2 + same (l.drop (max s s2 - s).toNat) (l2.drop (max s s2 - s2).toNat) else -1
  else -1
theorem shared_no1 {s t : Int} {l : List En} {s2 t2 : Int} {l2 : List En} (h : okL s t l = false) : sharedL s t l s2 t2 l2 = -1 := by simp [sharedL, h]
theorem shared_no2 {s t : Int} {l : List En} {s2 t2 : Int} {l2 : List En} (h : okL s2 t2 l2 = false) : sharedL s t l s2 t2 l2 = -1 := by simp [sharedL, h]
theorem shared_no3 {s t : Int} {l : List En} {s2 t2 : Int} {l2 : List En} (h : termL s t l (max s s2) ≠ termL s2 t2 l2 (max s s2)) : sharedL s t l s2 t2 l2 = -1 := by simp [sharedL, h]
theorem shared_yes {s t : Int} {l : List En} {s2 t2 : Int} {l2 : List En} (h1 : okL s t l = true) (h2 : okL s2 t2 l2 = true) (h : termL s t l (max s s2) = termL s2 t2 l2 (max s s2)) : sharedL s t l s2 t2 l2 = max s s2 + same (l.drop (max s s2 - s).toNat) (l2.drop (max s s2 - s2).toNat) := by simp [sharedL, h1, h2, h]
/-- Where both have one term at the greater start, both have it. -/
theorem rises_term : ∀ (l : List En) (a : Int), rises a l = true → 0 ≤ a → ∀ x ∈ l, 0 ≤ x.term
  | [], _, _, _, x, hx => by simp at hx
  | y :: r, a, h, h0, x, hx => by
    simp only [rises, Bool.and_eq_true, decide_eq_true_eq] at h
    rcases List.mem_cons.1 hx with rfl | hx
    · omega
    · exact rises_term r y.term h.2 (by omega) x hx
theorem has_both {s t : Int} {l : List En} {s2 t2 : Int} {l2 : List En} (h1 : okL s t l = true) (h2 : okL s2 t2 l2 = true) (h : termL s t l (max s s2) = termL s2 t2 l2 (max s s2)) : hasL s l.length (max s s2) = true ∧ hasL s2 l2.length (max s s2) = true := by
  obtain ⟨a0, a1, a2, a3, a4, a5, -⟩ := okL_all h1
  obtain ⟨b0, b1, b2, b3, b4, b5, -⟩ := okL_all h2
  rcases Int.le_total s s2 with hle | hle
  · have e : max s s2 = s2 := by omega
    rw [e] at h ⊢
    refine ⟨?_, by simp [hasL]; omega⟩
    cases hh : hasL s l.length s2 with
    | true => rfl
    | false => rw [termL_out hh, termL_start] at h; omega
  · have e : max s s2 = s := by omega
    rw [e] at h ⊢
    refine ⟨by simp [hasL]; omega, ?_⟩
    cases hh : hasL s2 l2.length s with
    | true => rfl
    | false => rw [termL_out hh, termL_start] at h; omega
end Go.Proofs.Ytnapjkpkhdbalaa
