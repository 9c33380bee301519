/-
  The built-in copy over rows of records, each of as many cells, as a law of the walk. Over any program.
-/
import Derived.Test.YtgjamikmjknlfaaDoorGn
import Derived.Laws.CopyRow
namespace Go.Proofs.YtgjamikmjknlfaaDoor
open Go Go.RowKit
section
variable {α : Type} [Rec α]
open Rec

theorem flat_cell {l : List α} {j : Nat} {v : Value} (h : (l.flatMap cells)[j]? = some v) : ∃ x, l[j / width α]? = some x ∧ (cells x)[j % width α]? = some v := by
  have hpos : 0 < width α := Rec.pos
  have e := flat_at l (j / width α) (j % width α) (Nat.mod_lt _ hpos)
  rw [Nat.mul_comm, Nat.div_add_mod] at e
  rw [e] at h
  cases hx : l[j / width α]? with
  | none => rw [hx] at h; simp at h
  | some x => rw [hx] at h; exact ⟨x, rfl, h⟩

theorem run_copy_rec {P : Program} (w : World) (dT sT ty elem : TypeId) (g cap B : Nat) (a : Option Addr) (n sCap : Nat) (l zs : List α)
    (hu : P.underlying dT = some (.slice elem)) (hs : (P.info? elem).map (·.size) = some (width α))
    (ho : ownsR w B elem (.slice (some ⟨g, 0, none⟩) n cap) zs) (hr : Reads w (.slice a n sCap) l) (h1 : ∀ x ∈ l, ∀ v ∈ cells x, v.oneCell' = true) :
    ∃ w', (Builtin.copy_ #[dT, sT] ty #[.slice (some ⟨g, 0, none⟩) n cap, .slice a n sCap]).run P w = .ok (goInt n) w' ∧ ownsR w' B elem (.slice (some ⟨g, 0, none⟩) n cap) l ∧ w.grownBy w' (some g) := by
  have hn := hr.len
  have hzn := ho.reads.len
  cases hq : P.info? elem with
  | none => simp [hq] at hs
  | some i =>
  have hi : i.size = width α := by simpa [hq] using hs
  by_cases h0 : n = 0
  · subst h0
    have hl0 : l = [] := List.eq_nil_of_length_eq_zero hn.symm
    have hz0 : zs = [] := List.eq_nil_of_length_eq_zero hzn.symm
    subst hl0 hz0
    have hl : ∀ (x : Addr), (loadCells x 0).run P w = .ok #[] w := fun x => by simpa using run_loadCells_list (P := P) w x [] (by simp)
    refine ⟨w, ?_, ho, grown_refl _ _⟩
    cases a <;> simp [Builtin.copy_, run_underlying hu, Builtin.lenOf, Builtin.firstCells, sizeOf, typeInfo, hq, storeCells, hl]
  · obtain ⟨ao, cap', e, hc⟩ := hr
    simp only [Value.slice.injEq] at e
    obtain ⟨rfl, _, rfl⟩ := e
    obtain ⟨b, o, rfl, hlt, hcell⟩ := hc (by rintro rfl; simp at hn; omega)
    have hlen : (l.flatMap cells).length = n * width α := by rw [flat_length, ← hn]
    have hl : (loadCells ⟨b, o, none⟩ (n * width α)).run P w = .ok (l.flatMap cells).toArray w := by
      rw [← hlen]
      refine run_loadCells_list (P := P) w ⟨b, o, none⟩ _ fun j v hv => ?_
      obtain ⟨x, hx, hv⟩ := flat_cell hv
      have := hcell _ x hx _ v hv
      have hadd : (⟨b, o, none⟩ : Addr).add j = ⟨b, o + j, none⟩ := by unfold Addr.add; split <;> simp_all
      rw [hadd]
      rw [Nat.add_assoc, Nat.mul_comm, Nat.div_add_mod] at this
      exact this
    rcases ho.2 with ⟨hv, _⟩ | ⟨g', cap2, cur, hv, hBg, hg, hcap, hmax, hsz, htake⟩
    · simp at hv
    · simp only [Value.slice.injEq, Option.some.injEq, Addr.mk.injEq, and_true] at hv
      obtain ⟨rfl, _, rfl⟩ := hv
      have hfit : (l.flatMap cells).length ≤ cur.size := by rw [hlen, hsz]; exact Nat.mul_le_mul_right _ (by omega)
      have hst := run_storeCells_at P g 0 elem (l.flatMap cells) 0 cur w hg (by simpa using hfit) (fun v hv => by
        obtain ⟨x, hx, hv⟩ := List.mem_flatMap.1 hv
        exact h1 x hx v hv)
      simp only [Nat.zero_add, List.take_zero, List.nil_append] at hst
      refine ⟨w.setRow g (l.flatMap cells ++ cur.toList.drop (l.flatMap cells).length).toArray, ?_, ?_, ?_⟩
      · simp [Builtin.copy_, run_underlying hu, Builtin.lenOf, Builtin.firstCells, sizeOf, typeInfo, hq, hi, hl, hst]
      · refine ⟨by rw [flat_length], .inr ⟨g, cap, _, by rw [← hn], hBg, setRow_heap w g cur _ elem _ hg, by omega, hmax, ?_, ?_⟩⟩
        · simp only [List.size_toArray, List.length_append, List.length_drop, Array.length_toList]
          omega
        · rw [← hn, ← hlen]; simp
      · exact ⟨rfl, rfl, rfl, by simp [World.setRow], fun k _ hk => setRow_other w g k _ (fun e => hk (by rw [e]))⟩

/-- copy(out, list) where out is a row of the call's own, as long as list. -/
theorem wpList_copy_rec {P : Program} {w : World} {ops : Array Oper} {rest : List Oper} {o : Oper} {a : Act} {Q : Exit → Act → World → Prop} (hgd : o.guard = none) (d s : Operand) (dT sT : TypeId)
    (ho : o.op = .call { callee := .builtin .copy, args := #[d, s], argTypes := #[dT, sT] }) (elem : TypeId) (hu : P.underlying dT = some (.slice elem)) (hsz : (P.info? elem).map (·.size) = some (width α))
    (g n cap B : Nat) (sp : Option Addr) (sCap : Nat) (hd : a.eval d = .slice (some ⟨g, 0, none⟩) n cap) (hs : a.eval s = .slice sp n sCap) (l zs : List α)
    (hown : ownsR w B elem (.slice (some ⟨g, 0, none⟩) n cap) zs) (hr : Reads w (.slice sp n sCap) l) (h1 : ∀ x ∈ l, ∀ v ∈ cells x, v.oneCell' = true)
    (h : ∀ w', ownsR w' B elem (.slice (some ⟨g, 0, none⟩) n cap) l → w.grownBy w' (some g) → wpList P ops Q rest (a.put o.dst (goInt n)) w') :
    wpList P ops Q (o :: rest) a w := by
  refine wpList_plain hgd fun K hK => ?_
  obtain ⟨w', hrun, ho', hg'⟩ := run_copy_rec (P := P) w dT sT o.type elem g cap B sp n sCap l zs hu hsz hown hr h1
  unfold Oper.wp
  simp [execOp, ho, resolve, invoke, builtin, hd, hs, hrun, Result.andThen]
  exact hK _ _ (h w' ho' hg')
end
end Go.Proofs.YtgjamikmjknlfaaDoor
