/-
  Whether a command is right, as the program tells it: the walks.
-/
import Derived.Test.YtkfhmeiiicidaaaDoorCmo
import Derived.Test.YtkfhmeiiicidaaaDoorNmi
import Derived.Test.YtkfhmeiiicidaaaDoorGn
namespace Go.Proofs.YtkfhmeiiicidaaaDoor
open Go Go.RowKit

theorem upTo_any (n hi : Int) (w : World) : Calls Tryd.prog 31 #[.int .i64 n, .int .i64 hi] w fun e w' => e = .returned (.bool (decide (0 ≤ n ∧ n ≤ hi))) ∧ w' = w := by
  by_cases h1 : 0 ≤ n
  · have h2 : decide (0 ≤ n) = true := decide_eq_true h1
    go_enter Tryd.func31, Tryd.ntmps31
    go_wp2
    go_ret
    exact ⟨by simp [h1], rfl⟩
  · have h2 : decide (0 ≤ n) = false := decide_eq_false h1
    go_enter Tryd.func31, Tryd.ntmps31
    go_wp2
    go_ret
    exact ⟨by simp, rfl⟩
theorem isMinC_any (m : Int) (w : World) : Calls Tryd.prog 33 #[.int .i64 m] w fun e w' => e = .returned (.bool (decide (0 ≤ m ∧ m ≤ 68374079))) ∧ w' = w := by
  by_cases h1 : 0 ≤ m
  · have h2 : decide (0 ≤ m) = true := decide_eq_true h1
    go_enter Tryd.func33, Tryd.ntmps33
    go_wp2
    go_ret
    exact ⟨by simp [h1], rfl⟩
  · have h2 : decide (0 ≤ m) = false := decide_eq_false h1
    go_enter Tryd.func33, Tryd.ntmps33
    go_wp2
    go_ret
    exact ⟨by simp, rfl⟩
theorem nil_iff (s : ByteArray) : (s = ⟨#[]⟩) ↔ s.toList = [] := by
  constructor
  · intro h; subst h; exact nil_list
  · intro h; by_cases h0 : s = ⟨#[]⟩
    · exact h0
    · have := ne_list h0; rw [nil_list, h] at this; simp at this
theorem restL (f1 f2 f3 f4 f5 : Bool) (text task : ByteArray) (num up : Int) (yes : Bool) : restB f1 f2 f3 f4 f5 text task num up yes = ((f1 || decide (text.toList = [])) && ((f2 || decide (task.toList = [])) && ((f3 || decide (num = 0)) && ((f4 || decide (up = 0)) && (f5 || !yes))))) := by
  unfold restB; simp only [nil_iff]
/-- A block of 8 cells. -/
def Kc8 (t : TypeId) (W : World) (b : Nat) (x0 x1 x2 x3 x4 x5 x6 x7 : Value) : Prop := W.heap[b]? = some (.cells #[x0, x1, x2, x3, x4, x5, x6, x7] t)
section
variable {t : TypeId} {W W' : World} {b : Nat} {x0 x1 x2 x3 x4 x5 x6 x7 : Value}
theorem Kc8.lt (h : Kc8 t W b x0 x1 x2 x3 x4 x5 x6 x7) : b < W.heap.size := (Array.getElem?_eq_some_iff.1 h).1
theorem Kc8.on {B : Nat} (h : Kc8 t W b x0 x1 x2 x3 x4 x5 x6 x7) (hb : Below B W W') (hB : b < B) : Kc8 t W' b x0 x1 x2 x3 x4 x5 x6 x7 := (hb.block _ hB).trans h
theorem Kc8.up (h : Kc8 t W b x0 x1 x2 x3 x4 x5 x6 x7) (hb : Below W.heap.size W W') : Kc8 t W' b x0 x1 x2 x3 x4 x5 x6 x7 := h.on hb h.lt
theorem Kc8.alloc (h : Kc8 t W b x0 x1 x2 x3 x4 x5 x6 x7) (o : Obj) : Kc8 t (W.alloc o) b x0 x1 x2 x3 x4 x5 x6 x7 := h.up (ba (Below.refl _ _) _)
theorem Kc8.fz (h : Kc8 t W b x0 x1 x2 x3 x4 x5 x6 x7) (k : Nat) : W.frozen? ⟨b, k, none⟩ = false := by simp [World.frozen?, show W.heap[b]? = _ from h]
theorem Kc8.new (t : TypeId) (W : World) (x0 x1 x2 x3 x4 x5 x6 x7 : Value) : Kc8 t (W.alloc (.cells #[x0, x1, x2, x3, x4, x5, x6, x7] t)) W.heap.size x0 x1 x2 x3 x4 x5 x6 x7 := by
  show (W.heap.push _)[W.heap.size]? = _
  rw [Array.getElem?_push, if_pos rfl]
theorem Kc8.far {p : Addr} (h : Kc8 t W b x0 x1 x2 x3 x4 x5 x6 x7) (hp : p.block ≠ b) (u : Value) : Kc8 t (W.setCell p u) b x0 x1 x2 x3 x4 x5 x6 x7 := by
  have := h
  unfold Kc8 at this ⊢
  rw [← this]
  exact heap_setCell_other W p b u (Ne.symm hp)
theorem Kc8.c0 (h : Kc8 t W b x0 x1 x2 x3 x4 x5 x6 x7) : W.cell? ⟨b, 0, none⟩ = some x0 := by simp [World.cell?, show W.heap[b]? = _ from h]
theorem Kc8.s0 (h : Kc8 t W b x0 x1 x2 x3 x4 x5 x6 x7) (u : Value) : Kc8 t (W.setCell ⟨b, 0, none⟩ u) b u x1 x2 x3 x4 x5 x6 x7 := by simp [Kc8, World.setCell, Array.getElem?_modify, show W.heap[b]? = _ from h]
theorem Kc8.c1 (h : Kc8 t W b x0 x1 x2 x3 x4 x5 x6 x7) : W.cell? ⟨b, 1, none⟩ = some x1 := by simp [World.cell?, show W.heap[b]? = _ from h]
theorem Kc8.s1 (h : Kc8 t W b x0 x1 x2 x3 x4 x5 x6 x7) (u : Value) : Kc8 t (W.setCell ⟨b, 1, none⟩ u) b x0 u x2 x3 x4 x5 x6 x7 := by simp [Kc8, World.setCell, Array.getElem?_modify, show W.heap[b]? = _ from h]
theorem Kc8.c2 (h : Kc8 t W b x0 x1 x2 x3 x4 x5 x6 x7) : W.cell? ⟨b, 2, none⟩ = some x2 := by simp [World.cell?, show W.heap[b]? = _ from h]
theorem Kc8.s2 (h : Kc8 t W b x0 x1 x2 x3 x4 x5 x6 x7) (u : Value) : Kc8 t (W.setCell ⟨b, 2, none⟩ u) b x0 x1 u x3 x4 x5 x6 x7 := by simp [Kc8, World.setCell, Array.getElem?_modify, show W.heap[b]? = _ from h]
theorem Kc8.c3 (h : Kc8 t W b x0 x1 x2 x3 x4 x5 x6 x7) : W.cell? ⟨b, 3, none⟩ = some x3 := by simp [World.cell?, show W.heap[b]? = _ from h]
theorem Kc8.s3 (h : Kc8 t W b x0 x1 x2 x3 x4 x5 x6 x7) (u : Value) : Kc8 t (W.setCell ⟨b, 3, none⟩ u) b x0 x1 x2 u x4 x5 x6 x7 := by simp [Kc8, World.setCell, Array.getElem?_modify, show W.heap[b]? = _ from h]
theorem Kc8.c4 (h : Kc8 t W b x0 x1 x2 x3 x4 x5 x6 x7) : W.cell? ⟨b, 4, none⟩ = some x4 := by simp [World.cell?, show W.heap[b]? = _ from h]
theorem Kc8.s4 (h : Kc8 t W b x0 x1 x2 x3 x4 x5 x6 x7) (u : Value) : Kc8 t (W.setCell ⟨b, 4, none⟩ u) b x0 x1 x2 x3 u x5 x6 x7 := by simp [Kc8, World.setCell, Array.getElem?_modify, show W.heap[b]? = _ from h]
theorem Kc8.c5 (h : Kc8 t W b x0 x1 x2 x3 x4 x5 x6 x7) : W.cell? ⟨b, 5, none⟩ = some x5 := by simp [World.cell?, show W.heap[b]? = _ from h]
theorem Kc8.s5 (h : Kc8 t W b x0 x1 x2 x3 x4 x5 x6 x7) (u : Value) : Kc8 t (W.setCell ⟨b, 5, none⟩ u) b x0 x1 x2 x3 x4 u x6 x7 := by simp [Kc8, World.setCell, Array.getElem?_modify, show W.heap[b]? = _ from h]
theorem Kc8.c6 (h : Kc8 t W b x0 x1 x2 x3 x4 x5 x6 x7) : W.cell? ⟨b, 6, none⟩ = some x6 := by simp [World.cell?, show W.heap[b]? = _ from h]
theorem Kc8.s6 (h : Kc8 t W b x0 x1 x2 x3 x4 x5 x6 x7) (u : Value) : Kc8 t (W.setCell ⟨b, 6, none⟩ u) b x0 x1 x2 x3 x4 x5 u x7 := by simp [Kc8, World.setCell, Array.getElem?_modify, show W.heap[b]? = _ from h]
theorem Kc8.c7 (h : Kc8 t W b x0 x1 x2 x3 x4 x5 x6 x7) : W.cell? ⟨b, 7, none⟩ = some x7 := by simp [World.cell?, show W.heap[b]? = _ from h]
theorem Kc8.s7 (h : Kc8 t W b x0 x1 x2 x3 x4 x5 x6 x7) (u : Value) : Kc8 t (W.setCell ⟨b, 7, none⟩ u) b x0 x1 x2 x3 x4 x5 x6 u := by simp [Kc8, World.setCell, Array.getElem?_modify, show W.heap[b]? = _ from h]
end

theorem two8 {t : TypeId} {w v : World} {x0 x1 x2 x3 x4 x5 x6 x7 y0 y1 y2 y3 y4 y5 y6 y7 : Value} (hb : Below ((w.alloc (.cells #[x0, x1, x2, x3, x4, x5, x6, x7] t)).alloc (.cells #[y0, y1, y2, y3, y4, y5, y6, y7] t)).heap.size ((w.alloc (.cells #[x0, x1, x2, x3, x4, x5, x6, x7] t)).alloc (.cells #[y0, y1, y2, y3, y4, y5, y6, y7] t)) v) : Kc8 t v w.heap.size x0 x1 x2 x3 x4 x5 x6 x7 ∧ Kc8 t v (w.heap.size + 1) y0 y1 y2 y3 y4 y5 y6 y7 := by
  refine ⟨((Kc8.new t w x0 x1 x2 x3 x4 x5 x6 x7).alloc _).up hb, ?_⟩
  have := (Kc8.new t (w.alloc (.cells #[x0, x1, x2, x3, x4, x5, x6, x7] t)) y0 y1 y2 y3 y4 y5 y6 y7).up hb
  rwa [show (w.alloc (.cells #[x0, x1, x2, x3, x4, x5, x6, x7] t)).heap.size = w.heap.size + 1 by simp] at this
theorem step8 {t : TypeId} {n : Nat} {v v' : World} {x0 x1 x2 x3 x4 x5 x6 x7 y0 y1 y2 y3 y4 y5 y6 y7 u : Value} (kx : Kc8 t v n x0 x1 x2 x3 x4 x5 x6 x7) (kr : Kc8 t v (n + 1) y0 y1 y2 y3 y4 y5 y6 y7) (hb : Below (v.setCell ⟨n + 1, 4, none⟩ u).heap.size (v.setCell ⟨n + 1, 4, none⟩ u) v') : Kc8 t v' n x0 x1 x2 x3 x4 x5 x6 x7 ∧ Kc8 t v' (n + 1) y0 y1 y2 y3 u y5 y6 y7 := ⟨(kx.far (by simp) u).up hb, (kr.s4 u).up hb⟩
theorem set_below {n : Nat} {w v v' : World} {a : Addr} {u : Value} (h : Below w.heap.size w v) (hp : w.heap.size ≤ a.block) (hb : Below (v.setCell a u).heap.size (v.setCell a u) v') (_ : n = 0) : Below w.heap.size w v' := (h.setCell hp u).trans (hb.mono ((h.setCell hp u).size))

end Go.Proofs.YtkfhmeiiicidaaaDoor
