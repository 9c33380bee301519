/-
  Whether a day is right, on both sides: the walks.
-/
import Derived.Test.YtbecdaholpiaeaaDoorWk
namespace Go.Proofs.YtbecdaholpiaeaaDoor
open Go Go.RowKit

theorem belowOn {w w1 w2 : World} (h1 : Below w.heap.size w w1) (h2 : Below w1.heap.size w1 w2) : Below w.heap.size w w2 := h1.trans (h2.mono h1.size)
/-- Where a day lies. -/
structure At5 (w : World) (g : Nat) (c : Cv) : Prop where
  c0 : w.cell? ⟨g, 0, none⟩ = some (.int .i64 c.y)
  c1 : w.cell? ⟨g, 1, none⟩ = some (.int .i64 c.mo)
  c2 : w.cell? ⟨g, 2, none⟩ = some (.int .i64 c.d)
  c3 : w.cell? ⟨g, 3, none⟩ = some (.int .i64 c.h)
  c4 : w.cell? ⟨g, 4, none⟩ = some (.int .i64 c.mi)
theorem At5.up {w w' : World} {B g : Nat} {c : Cv} (h : At5 w g c) (hb : Below B w w') (hg : g < B) : At5 w' g c :=
  ⟨(hb.cell hg).trans h.c0, (hb.cell hg).trans h.c1, (hb.cell hg).trans h.c2, (hb.cell hg).trans h.c3, (hb.cell hg).trans h.c4⟩
theorem At5.made (w : World) (c : Cv) (t : TypeId) : At5 (w.alloc (.cells #[.int .i64 c.y, .int .i64 c.mo, .int .i64 c.d, .int .i64 c.h, .int .i64 c.mi] t)) w.heap.size c :=
  ⟨by simp [go_sem], by simp [go_sem], by simp [go_sem], by simp [go_sem], by simp [go_sem]⟩
theorem ok_no {c : Cv} (h : ¬ Right c) : okC c = false := by
  cases hq : okC c with
  | false => rfl
  | true => exact absurd ((okC_iff c).1 hq) h
theorem ok_yes {c : Cv} (h : Right c) : okC c = true := (okC_iff c).2 h
theorem month_of {y m d : Int} (h0 : 1 ≤ d) (h1 : d ≤ daysB y m) : 1 ≤ m ∧ m ≤ 12 := by
  by_cases h : 1 ≤ m ∧ m ≤ 12
  · exact h
  · rw [daysB_no h] at h1; omega

end Go.Proofs.YtbecdaholpiaeaaDoor
