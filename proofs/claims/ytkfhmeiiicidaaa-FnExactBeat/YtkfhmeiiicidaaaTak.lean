/-
  Operations of a drawn region taken in a told order: small laws.
-/
import Derived.Test.YtkfhmeiiicidaaaRp
namespace Go.Proofs.Ytkfhmeiiicidaaa
open Go Go.RowKit

theorem wpTakes_l {P : Program} {l : List Oper} {C : World → Prop} {K : Act → Prop} {k : Nat} {ts : List Nat} {a : Act} {o : Oper} (ho : l[k]? = some o) (hn : ∀ x, o.op = .nilCheck x → ∃ p, a.eval x = .pointer (some p)) (h : wpQuiet P l.toArray C (wpTakes P l.toArray C K ts) [o] a) : wpTakes P l.toArray C K (k :: ts) a := by
  refine ⟨fun o' ho' => ?_, ?_⟩
  · have : o' = o := Option.some.inj (ho'.symm.trans (by simpa using ho))
    subst this
    exact hn
  · have ho2 : l.toArray[k]? = some o := by simpa using ho
    unfold qOp
    simp only [ho2]
    exact h
theorem takes_nil {P : Program} {ops : Array Oper} {C : World → Prop} {K : Act → Prop} {a : Act} (h : K a) : wpTakes P ops C K [] a := h
theorem any_one {P : Program} {l : List Oper} {Q : Exit → Act → World → Prop} {C : World → Prop} {R : Act → World → Prop} {L listed : Array Bool} {fuel i : Nat} {o : Oper} {a : Act} {w : World} (hr : Region.ready .any l.toArray listed = [i]) (ho : l[i]? = some o) (hg : o.guard = none)
    (h : ∀ K : Act → World → Prop, Hid (∀ a' w', C w' → wpAnyU P .any l.toArray Q C L R fuel (listed.setIfInBounds i true) a' w' → K a' w') → wpList P l.toArray (Exit.then K Q) [o] a w) : wpAnyU P .any l.toArray Q C L R (fuel + 1) listed a w := wpAnyU_one hr (by simpa using ho) hg h
theorem any_done {P : Program} {ops : Array Oper} {md : Region.Mode} {Q : Exit → Act → World → Prop} {C : World → Prop} {R : Act → World → Prop} {L listed : Array Bool} {a : Act} {w : World} (hl : listed = L) (h : R a w) : wpAnyU P md ops Q C L R 0 listed a w := ⟨hl, h⟩
end Go.Proofs.Ytkfhmeiiicidaaa
