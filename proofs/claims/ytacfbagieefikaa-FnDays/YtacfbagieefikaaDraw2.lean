/-
  More of what inputs are drawn with: once in n times, one of a list, a long text.
-/
import Derived.Test.YtacfbagieefikaaDraw
namespace Go.Proofs.Ytacfbagieefikaa
open Go.RowKit

/-- One of a row of integers. -/
def IntsAt (w : World) (g r n : Nat) : Prop := r ≠ g ∧ ∀ j, j < n → ∃ z : Int, -9223372036854775808 ≤ z ∧ z ≤ 9223372036854775807 ∧ w.cell? ⟨r, j, none⟩ = some (.int .i64 z)
set_option maxHeartbeats 400000 in
theorem pickInt_any (g r n cap : Nat) (w : World) (hd : Drw w g) (h0 : 0 < n) (h1 : n ≤ 1000000) (hr : IntsAt w g r n) (hlt : r < w.heap.size) :
    Calls Try.prog 38 #[.pointer (some ⟨g, 0, none⟩), .slice (some ⟨r, 0, none⟩) n cap] w fun e w' => ∃ z : Int, e = .returned (.int .i64 z) ∧ -9223372036854775808 ≤ z ∧ z ≤ 9223372036854775807 ∧ Drw w' g ∧ Save g w w' := by
  go_enter Try.func38, Try.ntmps38
  go_wp2_with (go_at_call 37; refine (below_any g n _ hd (by omega) (by omega)).mono ?_; rintro e w1 ⟨x, rfl, hx0, hx1, hd1, hs1⟩; obtain ⟨k, rfl⟩ := Int.eq_ofNat_of_zero_le hx0; obtain ⟨z, hz0, hz1, hz⟩ := hr.2 k (by omega); have hz2 : w1.cell? ⟨r, k, none⟩ = some (.int .i64 z) := (by rw [cell_block (w := w) (hs1.block r hlt hr.1)]; exact hz))
  go_ret
  exact ⟨z, rfl, hz0, hz1, hd1, hs1⟩

/-- One of a row just written out. -/
theorem pickLit_from (g : Nat) (zs : List Int) (w0 w : World) (hd : Drw w g) (hs : Save g w0 w) (h0 : 0 < zs.length) (h1 : zs.length ≤ 1000000) (hz : ∀ z ∈ zs, -9223372036854775808 ≤ z ∧ z ≤ 9223372036854775807) (cs : Array Value) (hcs : cs = (zs.map (Value.int .i64)).toArray) (n : Nat) (hn : n = zs.length) :
    Calls Try.prog 38 #[.pointer (some ⟨g, 0, none⟩), .slice (some ⟨w.heap.size, 0, none⟩) n n] (w.alloc (.cells cs 3)) fun e w' => ∃ z : Int, e = .returned (.int .i64 z) ∧ -9223372036854775808 ≤ z ∧ z ≤ 9223372036854775807 ∧ Drw w' g ∧ Save g w0 w' := by
  have hg := hd.lt
  subst hn hcs
  refine (pickInt_any g w.heap.size zs.length zs.length _ (hd.keep ((Below.refl _ _).alloc (by omega) _)) h0 h1 ⟨by omega, fun j hj => ?_⟩ (by simp)).mono fun _ _ ⟨x, h1, h2, h3, h4, h5⟩ => ⟨x, h1, h2, h3, h4, (hs.alloc _).trans h5⟩
  have := hz zs[j] (List.getElem_mem hj)
  exact ⟨zs[j], this.1, this.2, by simp [hj]⟩

theorem ownsB.slice {w : World} {B : Nat} {e : TypeId} {r n cap : Nat} {l : List Int} (h : ownsB w B e (.slice (some ⟨r, 0, none⟩) n cap) l) : n = l.length := by
  obtain ⟨_, h2⟩ := h
  rcases h2 with ⟨h, _⟩ | ⟨r', cap', cur, hv, _⟩
  · simp at h
  · simp only [Value.slice.injEq] at hv
    exact hv.2.1
end Go.Proofs.Ytacfbagieefikaa
