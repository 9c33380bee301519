/-
  One record more behind a row that the call owns, as one step of a region that draws its order. Over any program.
-/
import Derived.Test.YtekflgecfcjjiaaRec
namespace Go.Proofs.Ytekflgecfcjjiaa
open Go Go.RowKit
section
variable {α : Type} [Rec α]
open Rec

theorem step_append_rec {P : Program} {ops : Array Oper} {o : Oper} {a : Act} {w : World} {K : Act → World → Prop} {Q : Exit → Act → World → Prop} {E : Prop}
    (hg : o.guard = none) (s x : Operand) (t : TypeId) (hop : o.op = Op.call { callee := Callee.builtin Builtin.append, args := #[s, x], argTypes := #[t, t] })
    (B : Nat) (e : TypeId) (z : Value) (bytes : Nat) (ht : P.underlying t = some (.slice e)) (hi : (P.info? e).map (fun i => (i.zero, i.size, i.bytes)) = some (some z, width α, bytes)) (hz : z.cells.size = width α)
    (v : Value) (l : List α) (hs : a.eval s = v) (b c : Nat) (n : α) (hx : a.eval x = .slice (some ⟨b, 0, none⟩) 1 c)
    (hown : ownsR w B e v l) (hc : ∀ j u, (cells n)[j]? = some u → w.cell? ⟨b, j, none⟩ = some u ∧ u.oneCell' = true)
    (hlen : l.length ≤ 1048576) (hby : bytes ≤ 134217000) (hB : B ≤ w.heap.size)
    (hK : ∀ v' w', ownsR w' B e v' (l ++ [n]) → w.grownBy w' v.ownBlock → K (a.put o.dst v') w') :
    if Region.wanted o (yielded ops a.tmps) = true then Oper.wp P o a w K Q else E := by
  have hw : Region.wanted o (yielded ops a.tmps) = true := by simp [Region.wanted, hg]
  rw [if_pos hw]
  obtain ⟨i0, hi0, hz0, hz1, hz2⟩ := info_parts hi
  have hbb : (l.length + 1) * bytes ≤ 140737488355328 := by
    have : (l.length + 1) * bytes ≤ 1048577 * 134217000 := Nat.mul_le_mul (by omega) hby
    omega
  obtain ⟨v', w', hrun, r1, r2, _⟩ := run_append_own (P := P) w B t o.type e i0 z (width α) bytes ht hi0 hz0 hz1 hz2 hz Rec.pos v l.length _ hown ⟨b, 0, none⟩ 1 c (cells n) (by rw [Rec.len]; simp)
    (fun j u hj => by
      have := (hc j u hj).1
      by_cases h0 : j = 0
      · subst h0; simpa [Addr.add] using this
      · simpa [Addr.add, h0] using this)
    (fun u hu => by
      obtain ⟨j, hj⟩ := List.getElem?_of_mem hu
      exact (hc j u hj).2) (by unfold maxLen; omega) hbb hB
  unfold Oper.wp
  simp [execOp, hop, resolve, invoke, builtin, hs, hx, hrun, Result.andThen]
  exact hK v' w' (by simpa [ownsR, Rec.len] using r1) r2

/-- The same as an operation of a list of them. -/
theorem wpList_append_recg {P : Program} (w : World) {ops : Array Oper} {rest : List Oper} {o : Oper} {a : Act} {Q : Exit → Act → World → Prop} (hgd : o.guard = none) (s x : Operand) (t : TypeId)
    (ho : o.op = .call { callee := .builtin .append, args := #[s, x], argTypes := #[t, t] })
    (B : Nat) (e : TypeId) (z : Value) (bytes : Nat) (ht : P.underlying t = some (.slice e)) (hi : (P.info? e).map (fun i => (i.zero, i.size, i.bytes)) = some (some z, width α, bytes)) (hz : z.cells.size = width α)
    (v : Value) (l : List α) (hs : a.eval s = v) (hown : ownsR w B e v l)
    (b c : Nat) (n : α) (hx : a.eval x = .slice (some ⟨b, 0, none⟩) 1 c) (hc : ∀ j u, (cells n)[j]? = some u → w.cell? ⟨b, j, none⟩ = some u ∧ u.oneCell' = true)
    (hlen : l.length ≤ 1048576) (hby : bytes ≤ 134217000) (hB : B ≤ w.heap.size)
    (h : ∀ v' w', ownsR w' B e v' (l ++ [n]) → w.grownBy w' v.ownBlock → wpList P ops Q rest (a.put o.dst v') w') : wpList P ops Q (o :: rest) a w := by
  obtain ⟨i0, hi0, hz0, hz1, hz2⟩ := info_parts hi
  refine wpList_append_own w hgd s x t ho B e i0 z (width α) bytes ht hi0 hz0 hz1 hz2 hz Rec.pos v l.length _ hs hown ⟨b, 0, none⟩ 1 c (cells n) hx (by rw [Rec.len]; simp) ?_ ?_ (by unfold maxLen; omega) ?_ hB ?_
  · intro j u hj
    have := (hc j u hj).1
    by_cases h0 : j = 0
    · subst h0; simpa [Addr.add] using this
    · simpa [Addr.add, h0] using this
  · intro u hu
    obtain ⟨j, hj⟩ := List.getElem?_of_mem hu
    exact (hc j u hj).2
  · have : (l.length + 1) * bytes ≤ 1048577 * 134217000 := Nat.mul_le_mul (by omega) hby
    omega
  · intro v' w' h1 h2 _
    exact h v' w' (by simpa [ownsR, Rec.len] using h1) h2

/-- What lies elsewhere stays while the row grows. -/
theorem grown_cell {w w' : World} {B : Nat} {e : TypeId} {v : Value} {l : List α} (hown : ownsR w B e v l) (hg : w.grownBy w' v.ownBlock) {p : Addr} {u : Value} (hp : p.block < B) (h : w.cell? p = some u) : w'.cell? p = some u :=
  hg.cell h (fun e => by have := (hown.lt p.block e.symm).1; omega)
theorem grown_frozen {w w' : World} {B : Nat} {e : TypeId} {v : Value} {l : List α} (hown : ownsR w B e v l) (hg : w.grownBy w' v.ownBlock) {p : Addr} {u : Bool} (hp : p.block < B) (hs : p.block < w.heap.size) (h : w.frozen? p = u) : w'.frozen? p = u :=
  (World.frozen?_of_block (hg.block p.block hs (fun e => by have := (hown.lt p.block e.symm).1; omega))).trans h
/-- .. and so does a block that came later than the row's own. -/
theorem grown_cell_new {w w' : World} {v : Value} (hg : w.grownBy w' v.ownBlock) {p : Addr} {u : Value} (hne : v.ownBlock ≠ some p.block) (h : w.cell? p = some u) : w'.cell? p = some u :=
  hg.cell h (fun e => hne e.symm)
end
end Go.Proofs.Ytekflgecfcjjiaa
