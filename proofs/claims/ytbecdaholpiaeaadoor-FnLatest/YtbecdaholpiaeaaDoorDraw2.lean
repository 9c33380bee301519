/-
  More of what inputs are drawn with: once in n times, one of a list, a long text.
-/
import Derived.Test.YtbecdaholpiaeaaDoorDraw
namespace Go.Proofs.YtbecdaholpiaeaaDoor
open Go.RowKit

set_option maxHeartbeats 400000 in
theorem once_any (g : Nat) (n : Int) (w : World) (hd : Drw w g) (h0 : 0 < n) (h1 : n ≤ 9223372036854775807) :
    Calls Tryd.prog 53 #[.pointer (some ⟨g, 0, none⟩), .int .i64 n] w fun e w' => ∃ b : Bool, e = .returned (.bool b) ∧ Drw w' g ∧ Save g w w' := by
  go_enter Tryd.func53, Tryd.ntmps53
  go_wp2_with (go_at_call 30; refine (below_any g n _ hd h0 h1).mono ?_; rintro e w1 ⟨x, rfl, hx0, hx1, hd1, hs1⟩)
  go_ret
  exact ⟨_, rfl, hd1, hs1⟩

/-- One of a row of integers. -/
def IntsAt (w : World) (g r n : Nat) : Prop := r ≠ g ∧ ∀ j, j < n → ∃ z : Int, -9223372036854775808 ≤ z ∧ z ≤ 9223372036854775807 ∧ w.cell? ⟨r, j, none⟩ = some (.int .i64 z)
theorem ownsB.slice {w : World} {B : Nat} {e : TypeId} {r n cap : Nat} {l : List Int} (h : ownsB w B e (.slice (some ⟨r, 0, none⟩) n cap) l) : n = l.length := by
  obtain ⟨_, h2⟩ := h
  rcases h2 with ⟨h, _⟩ | ⟨r', cap', cur, hv, _⟩
  · simp at h
  · simp only [Value.slice.injEq] at hv
    exact hv.2.1
end Go.Proofs.YtbecdaholpiaeaaDoor
