/-
  The built-in copy over rows of records, each of as many cells, as a law of the walk. Over any program. The built-in append of a row of records behind another one, as a run. Over any program. Rows of acts that are made; files with short names.
-/
import Derived.Test.YtgpojfkdcdgloaaDoorGn
import Derived.Laws.CopyRow
import Derived.Test.YtgpojfkdcdgloaaDoorAcn
import Derived.Test.YtgpojfkdcdgloaaDoorD1
namespace Go.Proofs.YtgpojfkdcdgloaaDoor
open Go Go.RowKit
section
variable {α : Type} [Rec α]
open Rec

theorem flat_cell {l : List α} {j : Nat} {v : Value} (h : (l.flatMap cells)[j]? = some v) : ∃ x, l[j / width α]? = some x ∧ (cells x)[j % width α]? = some v := by
  have hpos : 0 < width α := Rec.pos
  have e := flat_at l (j / width α) (j % width α) (Nat.mod_lt _ hpos)
  rw [Nat.mul_comm, Nat.div_add_mod] at e
  rw [e] at h
  cases hx : l[j / width α]? with
  | none => rw [hx] at h; simp at h
  | some x => rw [hx] at h; exact ⟨x, rfl, h⟩

theorem run_copy_rec {P : Program} (w : World) (dT sT ty elem : TypeId) (g cap B : Nat) (a : Option Addr) (n sCap : Nat) (l zs : List α)
    (hu : P.underlying dT = some (.slice elem)) (hs : (P.info? elem).map (·.size) = some (width α))
    (ho : ownsR w B elem (.slice (some ⟨g, 0, none⟩) n cap) zs) (hr : Reads w (.slice a n sCap) l) (h1 : ∀ x ∈ l, ∀ v ∈ cells x, v.oneCell' = true) :
    ∃ w', (Builtin.copy_ #[dT, sT] ty #[.slice (some ⟨g, 0, none⟩) n cap, .slice a n sCap]).run P w = .ok (goInt n) w' ∧ ownsR w' B elem (.slice (some ⟨g, 0, none⟩) n cap) l ∧ w.grownBy w' (some g) := by
  have hn := hr.len
  have hzn := ho.reads.len
  cases hq : P.info? elem with
  | none => simp [hq] at hs
  | some i =>
  have hi : i.size = width α := by simpa [hq] using hs
  by_cases h0 : n = 0
  · subst h0
    have hl0 : l = [] := List.eq_nil_of_length_eq_zero hn.symm
    have hz0 : zs = [] := List.eq_nil_of_length_eq_zero hzn.symm
    subst hl0 hz0
    have hl : ∀ (x : Addr), (loadCells x 0).run P w = .ok #[] w := fun x => by simpa using run_loadCells_list (P := P) w x [] (by simp)
    refine ⟨w, ?_, ho, grown_refl _ _⟩
    cases a <;> simp [Builtin.copy_, run_underlying hu, Builtin.lenOf, Builtin.firstCells, sizeOf, typeInfo, hq, storeCells, hl]
  · obtain ⟨ao, cap', e, hc⟩ := hr
    simp only [Value.slice.injEq] at e
    obtain ⟨rfl, _, rfl⟩ := e
    obtain ⟨b, o, rfl, hlt, hcell⟩ := hc (by rintro rfl; simp at hn; omega)
    have hlen : (l.flatMap cells).length = n * width α := by rw [flat_length, ← hn]
    have hl : (loadCells ⟨b, o, none⟩ (n * width α)).run P w = .ok (l.flatMap cells).toArray w := by
      rw [← hlen]
      refine run_loadCells_list (P := P) w ⟨b, o, none⟩ _ fun j v hv => ?_
      obtain ⟨x, hx, hv⟩ := flat_cell hv
      have := hcell _ x hx _ v hv
      have hadd : (⟨b, o, none⟩ : Addr).add j = ⟨b, o + j, none⟩ := by unfold Addr.add; split <;> simp_all
      rw [hadd]
      rw [Nat.add_assoc, Nat.mul_comm, Nat.div_add_mod] at this
      exact this
    rcases ho.2 with ⟨hv, _⟩ | ⟨g', cap2, cur, hv, hBg, hg, hcap, hmax, hsz, htake⟩
    · simp at hv
    · simp only [Value.slice.injEq, Option.some.injEq, Addr.mk.injEq, and_true] at hv
      obtain ⟨rfl, _, rfl⟩ := hv
      have hfit : (l.flatMap cells).length ≤ cur.size := by rw [hlen, hsz]; exact Nat.mul_le_mul_right _ (by omega)
      have hst := run_storeCells_at P g 0 elem (l.flatMap cells) 0 cur w hg (by simpa using hfit) (fun v hv => by
        obtain ⟨x, hx, hv⟩ := List.mem_flatMap.1 hv
        exact h1 x hx v hv)
      simp only [Nat.zero_add, List.take_zero, List.nil_append] at hst
      refine ⟨w.setRow g (l.flatMap cells ++ cur.toList.drop (l.flatMap cells).length).toArray, ?_, ?_, ?_⟩
      · simp [Builtin.copy_, run_underlying hu, Builtin.lenOf, Builtin.firstCells, sizeOf, typeInfo, hq, hi, hl, hst]
      · refine ⟨by rw [flat_length], .inr ⟨g, cap, _, by rw [← hn], hBg, setRow_heap w g cur _ elem _ hg, by omega, hmax, ?_, ?_⟩⟩
        · simp only [List.size_toArray, List.length_append, List.length_drop, Array.length_toList]
          omega
        · rw [← hn, ← hlen]; simp
      · exact ⟨rfl, rfl, rfl, by simp [World.setRow], fun k _ hk => setRow_other w g k _ (fun e => hk (by rw [e]))⟩

/-- copy(out, list) where out is a row of the call's own, as long as list. -/
theorem wpList_copy_rec {P : Program} {w : World} {ops : Array Oper} {rest : List Oper} {o : Oper} {a : Act} {Q : Exit → Act → World → Prop} (hgd : o.guard = none) (d s : Operand) (dT sT : TypeId)
    (ho : o.op = .call { callee := .builtin .copy, args := #[d, s], argTypes := #[dT, sT] }) (elem : TypeId) (hu : P.underlying dT = some (.slice elem)) (hsz : (P.info? elem).map (·.size) = some (width α))
    (g n cap B : Nat) (sp : Option Addr) (sCap : Nat) (hd : a.eval d = .slice (some ⟨g, 0, none⟩) n cap) (hs : a.eval s = .slice sp n sCap) (l zs : List α)
    (hown : ownsR w B elem (.slice (some ⟨g, 0, none⟩) n cap) zs) (hr : Reads w (.slice sp n sCap) l) (h1 : ∀ x ∈ l, ∀ v ∈ cells x, v.oneCell' = true)
    (h : ∀ w', ownsR w' B elem (.slice (some ⟨g, 0, none⟩) n cap) l → w.grownBy w' (some g) → wpList P ops Q rest (a.put o.dst (goInt n)) w') :
    wpList P ops Q (o :: rest) a w := by
  refine wpList_plain hgd fun K hK => ?_
  obtain ⟨w', hrun, ho', hg'⟩ := run_copy_rec (P := P) w dT sT o.type elem g cap B sp n sCap l zs hu hsz hown hr h1
  unfold Oper.wp
  simp [execOp, ho, resolve, invoke, builtin, hd, hs, hrun, Result.andThen]
  exact hK _ _ (h w' ho' hg')
end
end Go.Proofs.YtgpojfkdcdgloaaDoor

namespace Go.Proofs.YtgpojfkdcdgloaaDoor
open Go Go.RowKit
section
variable {α : Type} [Rec α]
open Rec
/-- A row without anything that was just made. -/
theorem ownsR_made0 (w : World) (B : Nat) (e : TypeId) (hB : B ≤ w.heap.size) : ownsR (w.alloc (.cells #[] e)) B e (.slice (some ⟨w.heap.size, 0, none⟩) 0 0) ([] : List α) :=
  World.ownsRow_made w #[] 0 hB (Nat.zero_le _) (by simp)
theorem run_append_recs {P : Program} (w : World) (B : Nat) (t ty e : TypeId) (z : Value) (bytes : Nat) (ht : P.underlying t = some (.slice e)) (hi : (P.info? e).map (fun i => (i.zero, i.size, i.bytes)) = some (some z, width α, bytes)) (hz : z.cells.size = width α)
    (v v2 : Value) (l1 l2 : List α) (hown : ownsR w B e v l1) (hr : Reads w v2 l2) (h1 : ∀ x ∈ l2, ∀ u ∈ cells x, u.oneCell' = true) (hlen : l1.length + l2.length ≤ 1048577) (hby : bytes ≤ 134217000) (hB : B ≤ w.heap.size) :
    ∃ v' w', (Builtin.append_ #[t, t] ty #[v, v2]).run P w = .ok v' w' ∧ ownsR w' B e v' (l1 ++ l2) ∧ w.grownBy w' v.ownBlock := by
  obtain ⟨i0, hi0, hz0, hz1, hz2⟩ := info_parts hi
  have hbytes : (l1.length + l2.length) * bytes ≤ 140737488355328 := by
    have : (l1.length + l2.length) * bytes ≤ 1048577 * 134217000 := Nat.mul_le_mul hlen hby
    omega
  have h63 : l1.length + l2.length ≤ maxLen := by unfold maxLen; omega
  have hone : ∀ u ∈ l2.flatMap cells, u.oneCell' = true := fun u hu => by
    obtain ⟨x, hx, hu⟩ := List.mem_flatMap.1 hu
    exact h1 x hx u hu
  obtain ⟨ao, cap, rfl, hc⟩ := hr
  cases ao with
  | none =>
    have h0 : l2 = [] := by
      cases l2 with
      | nil => rfl
      | cons x r => obtain ⟨b, o, e, _⟩ := hc (by simp); cases e
    subst h0
    refine ⟨v, w, ?_, by simpa using hown, grown_refl _ _⟩
    rcases hown.2 with ⟨rfl, h0⟩ | ⟨g, cap, cur, rfl, _, _, hnc, _⟩
    · simp [Builtin.append_, run_underlying ht, sizeOf, typeInfo, hi0, Builtin.lenOf, Builtin.firstCells]
    · simp [Builtin.append_, run_underlying ht, sizeOf, typeInfo, hi0, Builtin.lenOf, Builtin.firstCells, hnc, storeCells]
  | some a =>
    obtain ⟨v', w', hrun, ho, hg, _⟩ := run_append_own (P := P) (w := w) B t ty e i0 z (width α) bytes ht hi0 hz0 hz1 hz2 hz Rec.pos v l1.length _ hown a l2.length cap (l2.flatMap cells) (flat_length l2) (fun j u hj => by
      obtain ⟨x, hx, hu⟩ := flat_cell hj
      obtain ⟨b, o, e, _, hcell⟩ := hc (by rintro rfl; simp at hx)
      cases e
      have := hcell _ x hx _ u hu
      have hadd : (⟨b, o, none⟩ : Addr).add j = ⟨b, o + j, none⟩ := by unfold Addr.add; split <;> simp_all
      rw [hadd]
      rw [Nat.add_assoc, Nat.mul_comm, Nat.div_add_mod] at this
      exact this) hone h63 hbytes hB
    exact ⟨v', w', hrun, by simpa [ownsR, List.flatMap_append] using ho, hg⟩
/-- append(s, x...) where s is a row of the call's own. -/
theorem wpList_append_recs {P : Program} {w : World} {ops : Array Oper} {rest : List Oper} {o : Oper} {a : Act} {Q : Exit → Act → World → Prop} (hgd : o.guard = none) (s x : Operand) (t : TypeId)
    (ho : o.op = .call { callee := .builtin .append, args := #[s, x], argTypes := #[t, t] }) (B : Nat) (e : TypeId) (z : Value) (bytes : Nat) (ht : P.underlying t = some (.slice e)) (hi : (P.info? e).map (fun i => (i.zero, i.size, i.bytes)) = some (some z, width α, bytes)) (hz : z.cells.size = width α)
    (v v2 : Value) (l1 l2 : List α) (hs : a.eval s = v) (hx : a.eval x = v2) (hown : ownsR w B e v l1) (hr : Reads w v2 l2) (h1 : ∀ x ∈ l2, ∀ u ∈ cells x, u.oneCell' = true) (hlen : l1.length + l2.length ≤ 1048577) (hby : bytes ≤ 134217000) (hB : B ≤ w.heap.size)
    (h : ∀ v' w', ownsR w' B e v' (l1 ++ l2) → w.grownBy w' v.ownBlock → wpList P ops Q rest (a.put o.dst v') w') : wpList P ops Q (o :: rest) a w := by
  refine wpList_plain hgd fun K hK => ?_
  obtain ⟨v', w', hrun, ho', hg'⟩ := run_append_recs (P := P) w B t o.type e z bytes ht hi hz v v2 l1 l2 hown hr h1 hlen hby hB
  unfold Oper.wp
  simp [execOp, ho, resolve, invoke, builtin, hs, hx, hrun, Result.andThen]
  exact hK _ _ (h v' w' ho' hg')
/-- The same as one step of a region that draws its order. -/
theorem step_append_recs {P : Program} {ops : Array Oper} {o : Oper} {a : Act} {w : World} {K : Act → World → Prop} {Q : Exit → Act → World → Prop} {E : Prop} (hgd : o.guard = none) (s x : Operand) (t : TypeId)
    (ho : o.op = .call { callee := .builtin .append, args := #[s, x], argTypes := #[t, t] }) (B : Nat) (e : TypeId) (z : Value) (bytes : Nat) (ht : P.underlying t = some (.slice e)) (hi : (P.info? e).map (fun i => (i.zero, i.size, i.bytes)) = some (some z, width α, bytes)) (hz : z.cells.size = width α)
    (v v2 : Value) (l1 l2 : List α) (hs : a.eval s = v) (hx : a.eval x = v2) (hown : ownsR w B e v l1) (hr : Reads w v2 l2) (h1 : ∀ x ∈ l2, ∀ u ∈ cells x, u.oneCell' = true) (hlen : l1.length + l2.length ≤ 1048577) (hby : bytes ≤ 134217000) (hB : B ≤ w.heap.size)
    (h : ∀ v' w', ownsR w' B e v' (l1 ++ l2) → w.grownBy w' v.ownBlock → K (a.put o.dst v') w') :
    if Region.wanted o (yielded ops a.tmps) = true then Oper.wp P o a w K Q else E := by
  have hw : Region.wanted o (yielded ops a.tmps) = true := by simp [Region.wanted, hgd]
  rw [if_pos hw]
  obtain ⟨v', w', hrun, ho', hg'⟩ := run_append_recs (P := P) w B t o.type e z bytes ht hi hz v v2 l1 l2 hown hr h1 hlen hby hB
  unfold Oper.wp
  simp [execOp, ho, resolve, invoke, builtin, hs, hx, hrun, Result.andThen]
  exact h v' w' ho' hg'
end
end Go.Proofs.YtgpojfkdcdgloaaDoor

namespace Go.Proofs.YtgpojfkdcdgloaaDoor
open Go Go.RowKit

/-- The names of files are short. -/
def NamesL (l : List Fl) : Prop := ∀ f ∈ l, f.name.size ≤ 8
theorem names_right {l : List Fl} (h : diskR l = true) : NamesL l := fun f hf => by
  obtain ⟨i, hi⟩ := List.getElem?_of_mem hf
  have := (right_true (diskR_right h i f hi)).1
  simp [nameR] at this
  exact this.2
theorem cells_ac {b : Nat} {x : Ac} {w : World} (h0 : w.cell? ⟨b, 0, none⟩ = some (.int .i64 x.kind)) (h1 : w.cell? ⟨b, 1, none⟩ = some (.string x.name)) (h2 : w.cell? ⟨b, 2, none⟩ = some (.string x.text)) (h3 : w.cell? ⟨b, 3, none⟩ = some (.string x.to)) :
    ∀ j u, (Rec.cells x)[j]? = some u → w.cell? ⟨b, j, none⟩ = some u ∧ u.oneCell' = true := by
  intro j u hj
  match j, hj with
  | 0, hj =>
    have : Value.int .i64 x.kind = u := by simpa [Rec.cells] using hj
    subst this
    exact ⟨h0, rfl⟩
  | 1, hj =>
    have : Value.string x.name = u := by simpa [Rec.cells] using hj
    subst this
    exact ⟨h1, rfl⟩
  | 2, hj =>
    have : Value.string x.text = u := by simpa [Rec.cells] using hj
    subst this
    exact ⟨h2, rfl⟩
  | 3, hj =>
    have : Value.string x.to = u := by simpa [Rec.cells] using hj
    subst this
    exact ⟨h3, rfl⟩
theorem ownsA_made (w : World) (B cap : Nat) (cur : Array Value) (hb : B ≤ w.heap.size) (hm : cap ≤ maxLen) (hs : cur.size = cap * 4) :
    ownsR (w.alloc (.cells cur 75)) B 75 (.slice (some ⟨w.heap.size, 0, none⟩) 0 cap) ([] : List Ac) :=
  World.ownsRow_made w cur cap hb hm (by simp [Rec.width]; omega)
theorem ac_one (l : List Ac) : ∀ x ∈ l, ∀ u ∈ Rec.cells x, u.oneCell' = true := by
  intro x _ u hu
  simp [Rec.cells] at hu
  rcases hu with rfl | rfl | rfl | rfl <;> rfl
/-- A row of one act that was just built. -/
theorem reads_act {w : World} {g c : Nat} {x : Ac} (h : w.heap[g]? = some (.cells #[.int .i64 x.kind, .string x.name, .string x.text, .string x.to] 75)) : Reads w (.slice (some ⟨g, 0, none⟩) 1 c) [x] := by
  refine ⟨some ⟨g, 0, none⟩, c, rfl, fun _ => ⟨g, 0, rfl, (Array.getElem?_eq_some_iff.1 h).1, fun i y hy j u hu => ?_⟩⟩
  match i, hy with
  | 0, hy =>
    have e : x = y := by simpa using hy
    subst e
    match j, hu with
    | 0, hu => have e : Value.int .i64 x.kind = u := by simpa [Rec.cells] using hu
               subst e; simp [World.cell?, h]
    | 1, hu => have e : Value.string x.name = u := by simpa [Rec.cells] using hu
               subst e; simp [World.cell?, h]
    | 2, hu => have e : Value.string x.text = u := by simpa [Rec.cells] using hu
               subst e; simp [World.cell?, h]
    | 3, hu => have e : Value.string x.to = u := by simpa [Rec.cells] using hu
               subst e; simp [World.cell?, h]
/-- A row of two acts that was just built. -/
theorem reads_acts2 {w : World} {g c : Nat} {x y : Ac} (h : w.heap[g]? = some (.cells #[.int .i64 x.kind, .string x.name, .string x.text, .string x.to, .int .i64 y.kind, .string y.name, .string y.text, .string y.to] 75)) : Reads w (.slice (some ⟨g, 0, none⟩) 2 c) [x, y] := by
  refine ⟨some ⟨g, 0, none⟩, c, rfl, fun _ => ⟨g, 0, rfl, (Array.getElem?_eq_some_iff.1 h).1, fun i z hz j u hu => ?_⟩⟩
  match i, hz with
  | 0, hy =>
    have e : x = z := by simpa using hy
    subst e
    match j, hu with
    | 0, hu => have e : Value.int .i64 x.kind = u := by simpa [Rec.cells] using hu
               subst e; simp [World.cell?, h]
    | 1, hu => have e : Value.string x.name = u := by simpa [Rec.cells] using hu
               subst e; simp [World.cell?, h]
    | 2, hu => have e : Value.string x.text = u := by simpa [Rec.cells] using hu
               subst e; simp [World.cell?, h]
    | 3, hu => have e : Value.string x.to = u := by simpa [Rec.cells] using hu
               subst e; simp [World.cell?, h]
  | 1, hy =>
    have e : y = z := by simpa using hy
    subst e
    match j, hu with
    | 0, hu => have e : Value.int .i64 y.kind = u := by simpa [Rec.cells] using hu
               subst e; simp [World.cell?, h, ac_width]
    | 1, hu => have e : Value.string y.name = u := by simpa [Rec.cells] using hu
               subst e; simp [World.cell?, h, ac_width]
    | 2, hu => have e : Value.string y.text = u := by simpa [Rec.cells] using hu
               subst e; simp [World.cell?, h, ac_width]
    | 3, hu => have e : Value.string y.to = u := by simpa [Rec.cells] using hu
               subst e; simp [World.cell?, h, ac_width]
end Go.Proofs.YtgpojfkdcdgloaaDoor
