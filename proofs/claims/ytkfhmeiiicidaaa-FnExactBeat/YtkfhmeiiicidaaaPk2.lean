/-
  Steps of a region that draws its order: one of two, and several that only yield.
-/
import Derived.Test.YtkfhmeiiicidaaaPk
namespace Go.Proofs.Ytkfhmeiiicidaaa
open Go Go.RowKit

/-- What comes up next, one, whose guard is on. -/
theorem pk_oneW {P : Program} {l : List Oper} {Q : Exit → Act → World → Prop} {C : World → Prop} {R : Act → World → Prop} {L listed : Array Bool} {fuel i : Nat} {o : Oper} {a : Act} {w : World} (hr : Region.ready .any l.toArray listed = [i]) (ho : l[i]? = some o) (hw : Region.wanted o (yielded l.toArray a.tmps) = true)
    (h : ∀ K : Act → World → Prop, Hid (∀ a' w', C w' → wpAnyU P .any l.toArray Q C L R fuel (listed.setIfInBounds i true) a' w' → K a' w') → wpList P l.toArray (Exit.then K Q) [o] a w) : wpAnyU P .any l.toArray Q C L R (fuel + 1) listed a w := by
  refine ⟨by rw [hr]; simp, fun j hj => ?_⟩
  rw [hr] at hj
  simp only [List.mem_singleton] at hj
  subst hj
  have h1 := h (fun a' w' => C w' ∧ wpAnyU P .any l.toArray Q C L R fuel (listed.setIfInBounds j true) a' w') (fun a' w' h1 h2 => ⟨h1, h2⟩)
  have ho' : l.toArray[j]? = some o := by simpa using ho
  unfold wpOp
  simp only [ho']
  unfold wpList at h1
  rw [if_pos hw] at h1 ⊢
  exact h1
/-- One of two, whose guards are on. -/
theorem pk_twoW {P : Program} {l : List Oper} {Q : Exit → Act → World → Prop} {C : World → Prop} {R : Act → World → Prop} {L listed : Array Bool} {fuel i j : Nat} {o p : Oper} {a : Act} {w : World} (hr : Region.ready .any l.toArray listed = [i, j]) (ho : l[i]? = some o) (hp : l[j]? = some p) (hw : Region.wanted o (yielded l.toArray a.tmps) = true) (hv : Region.wanted p (yielded l.toArray a.tmps) = true)
    (h : ∀ K : Act → World → Prop, Hid (∀ a' w', C w' → wpAnyU P .any l.toArray Q C L R fuel (listed.setIfInBounds i true) a' w' → K a' w') → wpList P l.toArray (Exit.then K Q) [o] a w)
    (h' : ∀ K : Act → World → Prop, Hid (∀ a' w', C w' → wpAnyU P .any l.toArray Q C L R fuel (listed.setIfInBounds j true) a' w' → K a' w') → wpList P l.toArray (Exit.then K Q) [p] a w) : wpAnyU P .any l.toArray Q C L R (fuel + 1) listed a w := by
  have ho' : l.toArray[i]? = some o := by simpa using ho
  have hp' : l.toArray[j]? = some p := by simpa using hp
  refine ⟨by rw [hr]; simp, fun k hk => ?_⟩
  rw [hr] at hk
  simp only [List.mem_cons, List.not_mem_nil, or_false] at hk
  rcases hk with hk | hk
  · subst hk
    have h1 := h (fun a' w' => C w' ∧ wpAnyU P .any l.toArray Q C L R fuel (listed.setIfInBounds k true) a' w') (fun a' w' h1 h2 => ⟨h1, h2⟩)
    unfold wpOp
    simp only [ho']
    unfold wpList at h1
    rw [if_pos hw] at h1 ⊢
    exact h1
  · subst hk
    have h1 := h' (fun a' w' => C w' ∧ wpAnyU P .any l.toArray Q C L R fuel (listed.setIfInBounds k true) a' w') (fun a' w' h1 h2 => ⟨h1, h2⟩)
    unfold wpOp
    simp only [hp']
    unfold wpList at h1
    rw [if_pos hv] at h1 ⊢
    exact h1
end Go.Proofs.Ytkfhmeiiicidaaa
