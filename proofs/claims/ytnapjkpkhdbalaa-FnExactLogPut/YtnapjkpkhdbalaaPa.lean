/-
  An entry put into a log: what is told, and what lies there: small facts.
-/
import Derived.Test.YtnapjkpkhdbalaaLs
namespace Go.Proofs.Ytnapjkpkhdbalaa
open Go Go.RowKit

/-- Where an entry may be put. -/
def inP (s : Int) (n : Nat) (i : Int) : Bool := decide (s + 1 ≤ i) && decide (i ≤ s + n + 1)
def putsL (s : Int) (l : List En) (i : Int) (e : En) : List En := l.take (i - s - 1).toNat ++ [e]
def putB (s t : Int) (l : List En) (i : Int) (e : En) : Bool := okL s t l && inP s l.length i && okL s t (putsL s l i e)
def putE (s t : Int) (l : List En) (i : Int) (e : En) : List En := if putB s t l i e then putsL s l i e else []
def putS (s t : Int) (l : List En) (i : Int) (e : En) : Int := if putB s t l i e then s else 0
def putT (s t : Int) (l : List En) (i : Int) (e : En) : Int := if putB s t l i e then t else 0
theorem putE_length (s t : Int) (l : List En) (i : Int) (e : En) : (putE s t l i e).length ≤ l.length + 1 := by
  unfold putE putsL; split <;> simp; omega
theorem lastI_in {s : Int} {l : List En} (h0 : 0 ≤ s) (h1 : s ≤ 1000000) (h4 : l.length ≤ 60) : lastI s l = s + l.length := by
  unfold lastI
  split
  · omega
  · unfold wrap64; omega
/-- What lies there in LogPut: the log's box, the entry's, and the answer's. -/
structure P3 (w W : World) (s t tm kd : Int) (d : ByteArray) (v : Value) : Prop where
  bel : Below w.heap.size w W
  size : w.heap.size + 3 ≤ W.heap.size
  a0 : W.cell? ⟨w.heap.size, 0, none⟩ = some (.int .i64 s)
  a1 : W.cell? ⟨w.heap.size, 1, none⟩ = some (.int .i64 t)
  a2 : W.cell? ⟨w.heap.size, 2, none⟩ = some v
  e0 : W.cell? ⟨w.heap.size + 1, 0, none⟩ = some (.int .i64 tm)
  e1 : W.cell? ⟨w.heap.size + 1, 1, none⟩ = some (.int .i64 kd)
  e2 : W.cell? ⟨w.heap.size + 1, 2, none⟩ = some (.string d)
  r0 : W.cell? ⟨w.heap.size + 1 + 1, 0, none⟩ = some (.int .i64 0)
  r1 : W.cell? ⟨w.heap.size + 1 + 1, 1, none⟩ = some (.int .i64 0)
  r2 : W.cell? ⟨w.heap.size + 1 + 1, 2, none⟩ = some (.slice none 0 0)
  f0 : W.frozen? ⟨w.heap.size + 1 + 1, 0, none⟩ = false
  f1 : W.frozen? ⟨w.heap.size + 1 + 1, 1, none⟩ = false
  f2 : W.frozen? ⟨w.heap.size + 1 + 1, 2, none⟩ = false
theorem P3.up {w W W' : World} {s t tm kd : Int} {d : ByteArray} {v : Value} (h : P3 w W s t tm kd d v) (hb : Below W.heap.size W W') : P3 w W' s t tm kd d v :=
  ⟨Below.on h.bel hb, Nat.le_trans h.size hb.size, cell_up hb h.a0, cell_up hb h.a1, cell_up hb h.a2, cell_up hb h.e0, cell_up hb h.e1, cell_up hb h.e2, cell_up hb h.r0, cell_up hb h.r1, cell_up hb h.r2, frozen_up hb h.r0 h.f0, frozen_up hb h.r1 h.f1, frozen_up hb h.r2 h.f2⟩
theorem P3.below {w W W' : World} {s t tm kd : Int} {d : ByteArray} {v : Value} {B : Nat} (h : P3 w W s t tm kd d v) (hb : Below B W W') (hB : w.heap.size + 3 ≤ B) : P3 w W' s t tm kd d v :=
  ⟨h.bel.trans (hb.mono (by omega)), Nat.le_trans h.size hb.size, (hb.cell (by simp; omega)).trans h.a0, (hb.cell (by simp; omega)).trans h.a1, (hb.cell (by simp; omega)).trans h.a2, (hb.cell (by simp; omega)).trans h.e0, (hb.cell (by simp; omega)).trans h.e1, (hb.cell (by simp; omega)).trans h.e2, (hb.cell (by simp; omega)).trans h.r0, (hb.cell (by simp; omega)).trans h.r1, (hb.cell (by simp; omega)).trans h.r2, (hb.frozen (by simp; omega)).trans h.f0, (hb.frozen (by simp; omega)).trans h.f1, (hb.frozen (by simp; omega)).trans h.f2⟩
theorem p3_new (w : World) (s t tm kd : Int) (d : ByteArray) (v : Value) : P3 w (((w.alloc (Obj.cells #[.int .i64 s, .int .i64 t, v] 29)).alloc (Obj.cells #[.int .i64 tm, .int .i64 kd, .string d] 42)).alloc (Obj.cells #[.int .i64 0, .int .i64 0, .slice none 0 0] 29)) s t tm kd d v := by
  refine ⟨ba (ba (ba (Below.refl _ _) _) _) _, by simp, ?_, ?_, ?_, ?_, ?_, ?_, ?_, ?_, ?_, ?_, ?_, ?_⟩ <;> simp [go_sem]
theorem frozen_other {w w' : World} {r : Option Nat} {p : Addr} {b : Bool} {u : Value} (hc : w.cell? p = some u) (h : w.frozen? p = b) (hg : w.grownBy w' r) (hne : some p.block ≠ r) : w'.frozen? p = b :=
  (World.frozen?_of_block (hg.block p.block (World.block_lt_of_cell? w p hc) hne)).trans h
/-- An entry laid into a row of its own. -/
theorem reads_built (w : World) (f : En) : Reads (w.alloc (.cells #[.int .i64 f.term, .int .i64 f.kind, .string f.data] 42)) (.slice (some ⟨w.heap.size, 0, none⟩) 1 1) [f] := by
  refine ⟨_, 1, rfl, fun _ => ⟨w.heap.size, 0, rfl, by simp, fun i x hx j u hu => ?_⟩⟩
  cases i with
  | succ i => simp at hx
  | zero =>
    simp only [List.getElem?_cons_zero, Option.some.injEq] at hx
    subst hx
    have hu : [Value.int .i64 f.term, .int .i64 f.kind, .string f.data][j]? = some u := hu
    match j, hu with
    | 0, hu => simp at hu; subst hu; simp [go_sem]
    | 1, hu => simp at hu; subst hu; simp [go_sem]
    | 2, hu => simp at hu; subst hu; simp [go_sem]
    | j + 3, hu => simp at hu
end Go.Proofs.Ytnapjkpkhdbalaa
