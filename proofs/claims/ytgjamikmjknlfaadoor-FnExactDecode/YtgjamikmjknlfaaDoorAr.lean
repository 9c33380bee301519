/-
  The built-in append of a row of records behind another one, as a run. Over any program.
-/
import Derived.Test.YtgjamikmjknlfaaDoorCy
namespace Go.Proofs.YtgjamikmjknlfaaDoor
open Go Go.RowKit
section
variable {α : Type} [Rec α]
open Rec
/-- A row without anything that was just made. -/
theorem ownsR_made0 (w : World) (B : Nat) (e : TypeId) (hB : B ≤ w.heap.size) : ownsR (w.alloc (.cells #[] e)) B e (.slice (some ⟨w.heap.size, 0, none⟩) 0 0) ([] : List α) :=
  World.ownsRow_made w #[] 0 hB (Nat.zero_le _) (by simp)
theorem run_append_recs {P : Program} (w : World) (B : Nat) (t ty e : TypeId) (z : Value) (bytes : Nat) (ht : P.underlying t = some (.slice e)) (hi : (P.info? e).map (fun i => (i.zero, i.size, i.bytes)) = some (some z, width α, bytes)) (hz : z.cells.size = width α)
    (v v2 : Value) (l1 l2 : List α) (hown : ownsR w B e v l1) (hr : Reads w v2 l2) (h1 : ∀ x ∈ l2, ∀ u ∈ cells x, u.oneCell' = true) (hlen : l1.length + l2.length ≤ 1048577) (hby : bytes ≤ 134217000) (hB : B ≤ w.heap.size) :
    ∃ v' w', (Builtin.append_ #[t, t] ty #[v, v2]).run P w = .ok v' w' ∧ ownsR w' B e v' (l1 ++ l2) ∧ w.grownBy w' v.ownBlock := by
  obtain ⟨i0, hi0, hz0, hz1, hz2⟩ := info_parts hi
  have hbytes : (l1.length + l2.length) * bytes ≤ 140737488355328 := by
    have : (l1.length + l2.length) * bytes ≤ 1048577 * 134217000 := Nat.mul_le_mul hlen hby
    omega
  have h63 : l1.length + l2.length ≤ maxLen := by unfold maxLen; omega
  have hone : ∀ u ∈ l2.flatMap cells, u.oneCell' = true := fun u hu => by
    obtain ⟨x, hx, hu⟩ := List.mem_flatMap.1 hu
    exact h1 x hx u hu
  obtain ⟨ao, cap, rfl, hc⟩ := hr
  cases ao with
  | none =>
    have h0 : l2 = [] := by
      cases l2 with
      | nil => rfl
      | cons x r => obtain ⟨b, o, e, _⟩ := hc (by simp); cases e
    subst h0
    refine ⟨v, w, ?_, by simpa using hown, grown_refl _ _⟩
    rcases hown.2 with ⟨rfl, h0⟩ | ⟨g, cap, cur, rfl, _, _, hnc, _⟩
    · simp [Builtin.append_, run_underlying ht, sizeOf, typeInfo, hi0, Builtin.lenOf, Builtin.firstCells]
    · simp [Builtin.append_, run_underlying ht, sizeOf, typeInfo, hi0, Builtin.lenOf, Builtin.firstCells, hnc, storeCells]
  | some a =>
    obtain ⟨v', w', hrun, ho, hg, _⟩ := run_append_own (P := P) (w := w) B t ty e i0 z (width α) bytes ht hi0 hz0 hz1 hz2 hz Rec.pos v l1.length _ hown a l2.length cap (l2.flatMap cells) (flat_length l2) (fun j u hj => by
      obtain ⟨x, hx, hu⟩ := flat_cell hj
      obtain ⟨b, o, e, _, hcell⟩ := hc (by rintro rfl; simp at hx)
      cases e
      have := hcell _ x hx _ u hu
      have hadd : (⟨b, o, none⟩ : Addr).add j = ⟨b, o + j, none⟩ := by unfold Addr.add; split <;> simp_all
      rw [hadd]
      rw [Nat.add_assoc, Nat.mul_comm, Nat.div_add_mod] at this
      exact this) hone h63 hbytes hB
    exact ⟨v', w', hrun, by simpa [ownsR, List.flatMap_append] using ho, hg⟩
/-- append(s, x...) where s is a row of the call's own. -/
theorem wpList_append_recs {P : Program} {w : World} {ops : Array Oper} {rest : List Oper} {o : Oper} {a : Act} {Q : Exit → Act → World → Prop} (hgd : o.guard = none) (s x : Operand) (t : TypeId)
    (ho : o.op = .call { callee := .builtin .append, args := #[s, x], argTypes := #[t, t] }) (B : Nat) (e : TypeId) (z : Value) (bytes : Nat) (ht : P.underlying t = some (.slice e)) (hi : (P.info? e).map (fun i => (i.zero, i.size, i.bytes)) = some (some z, width α, bytes)) (hz : z.cells.size = width α)
    (v v2 : Value) (l1 l2 : List α) (hs : a.eval s = v) (hx : a.eval x = v2) (hown : ownsR w B e v l1) (hr : Reads w v2 l2) (h1 : ∀ x ∈ l2, ∀ u ∈ cells x, u.oneCell' = true) (hlen : l1.length + l2.length ≤ 1048577) (hby : bytes ≤ 134217000) (hB : B ≤ w.heap.size)
    (h : ∀ v' w', ownsR w' B e v' (l1 ++ l2) → w.grownBy w' v.ownBlock → wpList P ops Q rest (a.put o.dst v') w') : wpList P ops Q (o :: rest) a w := by
  refine wpList_plain hgd fun K hK => ?_
  obtain ⟨v', w', hrun, ho', hg'⟩ := run_append_recs (P := P) w B t o.type e z bytes ht hi hz v v2 l1 l2 hown hr h1 hlen hby hB
  unfold Oper.wp
  simp [execOp, ho, resolve, invoke, builtin, hs, hx, hrun, Result.andThen]
  exact hK _ _ (h v' w' ho' hg')
/-- The same as one step of a region that draws its order. -/
theorem step_append_recs {P : Program} {ops : Array Oper} {o : Oper} {a : Act} {w : World} {K : Act → World → Prop} {Q : Exit → Act → World → Prop} {E : Prop} (hgd : o.guard = none) (s x : Operand) (t : TypeId)
    (ho : o.op = .call { callee := .builtin .append, args := #[s, x], argTypes := #[t, t] }) (B : Nat) (e : TypeId) (z : Value) (bytes : Nat) (ht : P.underlying t = some (.slice e)) (hi : (P.info? e).map (fun i => (i.zero, i.size, i.bytes)) = some (some z, width α, bytes)) (hz : z.cells.size = width α)
    (v v2 : Value) (l1 l2 : List α) (hs : a.eval s = v) (hx : a.eval x = v2) (hown : ownsR w B e v l1) (hr : Reads w v2 l2) (h1 : ∀ x ∈ l2, ∀ u ∈ cells x, u.oneCell' = true) (hlen : l1.length + l2.length ≤ 1048577) (hby : bytes ≤ 134217000) (hB : B ≤ w.heap.size)
    (h : ∀ v' w', ownsR w' B e v' (l1 ++ l2) → w.grownBy w' v.ownBlock → K (a.put o.dst v') w') :
    if Region.wanted o (yielded ops a.tmps) = true then Oper.wp P o a w K Q else E := by
  have hw : Region.wanted o (yielded ops a.tmps) = true := by simp [Region.wanted, hgd]
  rw [if_pos hw]
  obtain ⟨v', w', hrun, ho', hg'⟩ := run_append_recs (P := P) w B t o.type e z bytes ht hi hz v v2 l1 l2 hown hr h1 hlen hby hB
  unfold Oper.wp
  simp [execOp, ho, resolve, invoke, builtin, hs, hx, hrun, Result.andThen]
  exact h v' w' ho' hg'
end
end Go.Proofs.YtgjamikmjknlfaaDoor
