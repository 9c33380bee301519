/-
  Spans as records: rows of them.
-/
import Derived.Test.YtbecdaholpiaeaaDoorGn
import Derived.Test.YtbecdaholpiaeaaDoorInf
namespace Go.Proofs.YtbecdaholpiaeaaDoor
open Go Go.RowKit

/-- A span. -/
structure Sp where
  fr : Int
  up : Int
instance : Inhabited Sp := ⟨⟨0, 0⟩⟩
instance : Rec Sp := ⟨2, fun s => [.int .i64 s.fr, .int .i64 s.up], fun _ => rfl, by decide⟩
/-- Five cells in a block. -/
def C5 (t : TypeId) (W : World) (b : Nat) (x0 x1 x2 x3 x4 : Value) : Prop := W.heap[b]? = some (.cells #[x0, x1, x2, x3, x4] t)
section
variable {t : TypeId} {W W' : World} {b : Nat} {x0 x1 x2 x3 x4 : Value}
theorem C5.lt (h : C5 t W b x0 x1 x2 x3 x4) : b < W.heap.size := (Array.getElem?_eq_some_iff.1 h).1
theorem C5.up (h : C5 t W b x0 x1 x2 x3 x4) (hb : Below W.heap.size W W') : C5 t W' b x0 x1 x2 x3 x4 := (hb.block _ h.lt).trans h
theorem C5.grown {r : Option Nat} (h : C5 t W b x0 x1 x2 x3 x4) (hg : W.grownBy W' r) (hr : some b ≠ r) : C5 t W' b x0 x1 x2 x3 x4 := (hg.block b h.lt hr).trans h
theorem C5.c0 (h : C5 t W b x0 x1 x2 x3 x4) : W.cell? ⟨b, 0, none⟩ = some x0 := by simp [World.cell?, show W.heap[b]? = _ from h]
theorem C5.c1 (h : C5 t W b x0 x1 x2 x3 x4) : W.cell? ⟨b, 1, none⟩ = some x1 := by simp [World.cell?, show W.heap[b]? = _ from h]
theorem C5.c2 (h : C5 t W b x0 x1 x2 x3 x4) : W.cell? ⟨b, 2, none⟩ = some x2 := by simp [World.cell?, show W.heap[b]? = _ from h]
theorem C5.c3 (h : C5 t W b x0 x1 x2 x3 x4) : W.cell? ⟨b, 3, none⟩ = some x3 := by simp [World.cell?, show W.heap[b]? = _ from h]
theorem C5.c4 (h : C5 t W b x0 x1 x2 x3 x4) : W.cell? ⟨b, 4, none⟩ = some x4 := by simp [World.cell?, show W.heap[b]? = _ from h]
theorem C5.new (t : TypeId) (W : World) (x0 x1 x2 x3 x4 : Value) : C5 t (W.alloc (.cells #[x0, x1, x2, x3, x4] t)) W.heap.size x0 x1 x2 x3 x4 := by
  show (W.heap.push _)[W.heap.size]? = _
  rw [Array.getElem?_push, if_pos rfl]
end
open Rec in
/-- One record more behind a row that the call owns; what else lies there stays. -/
theorem append_recG {α : Type} [Rec α] {P : Program} (w w0 : World) {ops : Array Oper} {rest : List Oper} {o : Oper} {a : Act} {Q : Exit → Act → World → Prop} (hgd : o.guard = none) (s x : Operand) (t : TypeId)
    (ho : o.op = .call { callee := .builtin .append, args := #[s, x], argTypes := #[t, t] })
    (B : Nat) (e : TypeId) (z : Value) (bytes : Nat) (ht : P.underlying t = some (.slice e)) (hi : (P.info? e).map (fun i => (i.zero, i.size, i.bytes)) = some (some z, width α, bytes)) (hz : z.cells.size = width α)
    (v : Value) (l : List α) (hs : a.eval s = v) (hown : ownsR w B e v l) (hbel : Below B w0 w)
    (b c : Nat) (n : α) (hx : a.eval x = .slice (some ⟨b, 0, none⟩) 1 c) (hc : ∀ j u, (cells n)[j]? = some u → w.cell? ⟨b, j, none⟩ = some u ∧ u.oneCell' = true)
    (hlen : l.length ≤ 1048576) (hby : bytes ≤ 134217000) (hB : B ≤ w.heap.size)
    (h : ∀ v' w', ownsR w' B e v' (l ++ [n]) → Below B w0 w' → w.grownBy w' v.ownBlock → wpList P ops Q rest (a.put o.dst v') w') : wpList P ops Q (o :: rest) a w := by
  obtain ⟨i0, hi0, hz0, hz1, hz2⟩ := info_parts hi
  refine wpList_append_own w hgd s x t ho B e i0 z (width α) bytes ht hi0 hz0 hz1 hz2 hz Rec.pos v l.length _ hs hown ⟨b, 0, none⟩ 1 c (cells n) hx (by rw [Rec.len]; simp) ?_ ?_ (by unfold maxLen; omega) ?_ hB ?_
  · intro j u hj
    have := (hc j u hj).1
    by_cases h0 : j = 0
    · subst h0; simpa [Addr.add] using this
    · simpa [Addr.add, h0] using this
  · intro u hu
    obtain ⟨j, hj⟩ := List.getElem?_of_mem hu
    exact (hc j u hj).2
  · have : (l.length + 1) * bytes ≤ 1048577 * 134217000 := Nat.mul_le_mul (by omega) hby
    omega
  · intro v' w' h1 h2 _
    exact h v' w' (by simpa [ownsR, Rec.len] using h1) (hbel.grown h2 hB fun k hk => (hown.lt k hk).1) h2
theorem infoSp : (Tryd.prog.info? 34).map (fun i => (i.zero, i.size, i.bytes)) = some (some (.agg #[.int .i64 0, .int .i64 0]), 2, 16) := by kernel_rfl
theorem cell_sp {w : World} {b : Nat} {x y : Int} (h0 : w.cell? ⟨b, 0, none⟩ = some (.int .i64 x)) (h1 : w.cell? ⟨b, 1, none⟩ = some (.int .i64 y)) : ∀ j u, (Rec.cells (Sp.mk x y))[j]? = some u → w.cell? ⟨b, j, none⟩ = some u ∧ u.oneCell' = true := by
  intro j u hu
  match j, hu with
  | 0, hu => cases hu; exact ⟨h0, rfl⟩
  | 1, hu => cases hu; exact ⟨h1, rfl⟩
  | j + 2, hu => simp [Rec.cells] at hu
theorem sp_made (w : World) (B : Nat) (hB : B ≤ w.heap.size) : ownsR (w.alloc (.cells #[] 34)) B 34 (.slice (some ⟨w.heap.size, 0, none⟩) 0 0) ([] : List Sp) := World.ownsRow_made w #[] 0 hB (by decide) (by simp)
/-- What is owned is not a block that was made behind it. -/
theorem own_ne {α : Type} [Rec α] {w : World} {B e : Nat} {v : Value} {l : List α} {b : Nat} (h : ownsR w B e v l) (hb : w.heap.size ≤ b) : some b ≠ v.ownBlock := by
  intro hk
  have := (h.lt b hk.symm).2
  omega
theorem C5.apart {α : Type} [Rec α] {W : World} {t e : TypeId} {b B : Nat} {x0 x1 x2 x3 x4 v : Value} {l : List α} (h : C5 t W b x0 x1 x2 x3 x4) (ho : ownsR W B e v l) (hne : t ≠ e) : some b ≠ v.ownBlock := by
  intro hk
  rcases ho.2 with ⟨rfl, _⟩ | ⟨g, cap, cur, rfl, hb, hg, _⟩
  · cases hk
  · have e1 : b = g := by simpa [Value.ownBlock] using hk
    subst e1
    rw [show W.heap[b]? = _ from h] at hg
    simp only [Option.some.injEq, Obj.cells.injEq] at hg
    exact hne hg.2.1
theorem C5.appended {α : Type} [Rec α] {W W' : World} {t e : TypeId} {b B : Nat} {x0 x1 x2 x3 x4 v : Value} {l : List α} {o : Obj} (h : C5 t W b x0 x1 x2 x3 x4) (ho : ownsR W B e v l) (hne : t ≠ e) (hg : (W.alloc o).grownBy W' v.ownBlock) : C5 t W' b x0 x1 x2 x3 x4 := by
  have h2 : C5 t (W.alloc o) b x0 x1 x2 x3 x4 := h.up (ba (Below.refl _ _) _)
  exact h2.grown hg (h2.apart (ho.alloc o) hne)
theorem sp_at {w : World} {ao : Option Addr} {n cap : Nat} {l : List Sp} (h : Reads w (.slice ao n cap) l) {k : Nat} {x : Sp} (hk : l[k]? = some x) :
    ∃ b o, ao = some ⟨b, o, none⟩ ∧ b < w.heap.size ∧ w.cell? ⟨b, o + k * 2, none⟩ = some (.int .i64 x.fr) ∧ w.cell? ⟨b, o + k * 2 + 1, none⟩ = some (.int .i64 x.up) := by
  obtain ⟨b, o, rfl, hlt, hc⟩ := h.at hk
  exact ⟨b, o, rfl, hlt, hc 0 _ rfl, hc 1 _ rfl⟩
end Go.Proofs.YtbecdaholpiaeaaDoor
