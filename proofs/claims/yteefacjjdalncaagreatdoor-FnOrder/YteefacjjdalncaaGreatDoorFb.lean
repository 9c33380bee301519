/-
  Blocks of sixty flags: read and written whole or flag by flag.
-/
import Derived.Test.YteefacjjdalncaaGreatDoorProg
import Derived.Test.YteefacjjdalncaaGreatDoorFld
import Derived.Test.YteefacjjdalncaaGreatDoorGn
import Derived.Test.YteefacjjdalncaaGreatDoorWd
import Derived.Deep.MidRow
import Derived.Laws.CopyOwn
namespace Go.Proofs.YteefacjjdalncaaGreatDoor
open Go Go.RowKit

/-- A block of sixty flags. -/
def Fb (t : TypeId) (W : World) (b : Nat) (p : Nat → Bool) : Prop := W.heap[b]? = some (.cells (fldA p) t)
theorem info55 : (Tryz.prog.info? 160).map (·.size) = some 60 := by kernel_rfl
theorem under55 : Tryz.prog.underlying 160 = some (.array 60 4) := by kernel_rfl
theorem fldA_one (p : Nat → Bool) : (fldA p).all (·.oneCell') = true := by
  rw [Array.all_eq_true_iff_forall_mem]
  intro v hv
  simp only [fldA, Array.mem_map, Array.mem_range] at hv
  obtain ⟨i, _, rfl⟩ := hv
  rfl
section
variable {t : TypeId} {W W' : World} {b : Nat} {p : Nat → Bool}
theorem Fb.lt (h : Fb t W b p) : b < W.heap.size := (Array.getElem?_eq_some_iff.1 h).1
theorem Fb.up (h : Fb t W b p) (hb : Below W.heap.size W W') : Fb t W' b p := (hb.block _ h.lt).trans h
theorem Fb.grown {r : Option Nat} (h : Fb t W b p) (hg : W.grownBy W' r) (hr : some b ≠ r) : Fb t W' b p := (hg.block b h.lt hr).trans h
theorem Fb.cell (h : Fb t W b p) {i : Nat} (hi : i < 60) : W.cell? ⟨b, i, none⟩ = some (.bool (p i)) := by simp [World.cell?, show W.heap[b]? = _ from h, fldA_at hi]
theorem Fb.fr (h : Fb t W b p) (o : Nat) : W.frozen? ⟨b, o, none⟩ = false := by simp [World.frozen?, show W.heap[b]? = _ from h]
theorem Fb.set (h : Fb t W b p) (n : Nat) (v : Bool) : Fb t (W.setCell ⟨b, n, none⟩ (.bool v)) b (fun i => if i = n then v else p i) := by
  simp [Fb, World.setCell, Array.getElem?_modify, show W.heap[b]? = _ from h, fldA_set]
theorem Fb.far {q : Addr} (h : Fb t W b p) (hp : q.block ≠ b) (u : Value) : Fb t (W.setCell q u) b p := (heap_setCell_other W q b u (fun e => hp e.symm)).trans h
theorem Fb.row (h : Fb t W b p) (q : Nat → Bool) : Fb t (W.setRow b (fldA q)) b q := setRow_heap W b _ _ t _ h
theorem Fb.rowFar {g : Nat} {cs : Array Value} (h : Fb t W b p) (hp : b ≠ g) : Fb t (W.setRow g cs) b p := (setRow_other W g b cs hp).trans h
theorem Fb.new {b : Nat} (t : TypeId) (W : World) (p : Nat → Bool) (h : b = W.heap.size) : Fb t (W.alloc (.cells (fldA p) t)) b p := by
  subst h
  show (W.heap.push _)[W.heap.size]? = _; simp
theorem Fb.alloc (h : Fb t W b p) (o : Obj) : Fb t (W.alloc o) b p := h.up (ba (Below.refl _ _) _)
theorem Fb.load (h : Fb t W b p) : (Instr.loadAt 160 (.pointer (some ⟨b, 0, none⟩))).run Tryz.prog W = .ok (.agg (fldA p)) W := by
  simp only [Instr.loadAt, Instr.sureAddr, Sem.run_bind, Sem.run_pure, Result.andThen]
  exact run_loadVar_row W b t 160 _ _ _ h under55 rfl (by rw [fldA_size]; exact info55)
theorem Fb.store (h : Fb t W b p) (q : Nat → Bool) : (Instr.storeAt 160 (.pointer (some ⟨b, 0, none⟩)) (.agg (fldA q))).run Tryz.prog W = .ok () (W.setRow b (fldA q)) := by
  simp only [Instr.storeAt, Instr.sureAddr, Sem.run_bind, Sem.run_pure, Result.andThen]
  exact run_storeVar_row W b t 160 _ _ h (by rw [fldA_size]; exact info55) (by rw [fldA_size, fldA_size]) (fldA_one q)
theorem Fb.loadC (h : Fb t W b p) : (loadCellsFrom ⟨b, 0, none⟩ 0 60 #[]).run Tryz.prog W = .ok (fldA p) W := by
  have := run_loadCells_list (P := Tryz.prog) W ⟨b, 0, none⟩ (fldA p).toList (fun j v hv => by
    have hadd : (⟨b, 0, none⟩ : Addr).add j = ⟨b, j, none⟩ := by unfold Addr.add; split <;> simp_all
    rw [hadd, cell_of_row _ _ j (fldA p) t (0, 0) h]
    simpa using hv)
  have e : (fldA p).toList.length = 60 := by rw [Array.length_toList, fldA_size]
  rw [e] at this
  simpa [loadCells] using this
theorem Fb.storeC (h : Fb t W b p) (q : Nat → Bool) : (storeCells ⟨b, 0, none⟩ (fldA q).toList 0).run Tryz.prog W = .ok () (W.setRow b (fldA q)) := by
  have := run_storeVar_row (P := Tryz.prog) W b t 160 _ _ h (by rw [fldA_size]; exact info55) (by rw [fldA_size, fldA_size]) (fldA_one q)
  cases hq : Tryz.prog.info? 160 with
  | none => have := info55; simp [hq] at this
  | some i =>
    have hs : (fldA q).size = i.size := by have := info55; simp [hq] at this; rw [fldA_size]; omega
    simpa [storeVar, sizeOf, typeInfo, hq, Value.cells, hs] using this
theorem wpl_load {ops : Array Oper} {rest : List Oper} {o : Oper} {a : Act} {Q : Exit → Act → World → Prop} (h : Fb t W b p) (x : Operand) (hgd : o.guard = none) (ho : o.op = .load 160 x) (hx : a.eval x = .pointer (some ⟨b, 0, none⟩))
    (k : wpList Tryz.prog ops Q rest (a.put o.dst (.agg (fldA p))) W) : wpList Tryz.prog ops Q (o :: rest) a W :=
  wpList_load_row hgd 160 x ho b hx t _ _ _ h under55 rfl (by rw [fldA_size]; exact info55) k
theorem wpl_store {ops : Array Oper} {rest : List Oper} {o : Oper} {a : Act} {Q : Exit → Act → World → Prop} (h : Fb t W b p) (q : Nat → Bool) (x y : Operand) (hgd : o.guard = none) (ho : o.op = .store 160 x y) (hx : a.eval x = .pointer (some ⟨b, 0, none⟩)) (hy : a.eval y = .agg (fldA q))
    (k : wpList Tryz.prog ops Q rest (a.put o.dst undef) (W.setRow b (fldA q))) : wpList Tryz.prog ops Q (o :: rest) a W :=
  wpList_store_row hgd 160 x y ho b _ hx hy t _ h (by rw [fldA_size]; exact info55) (by rw [fldA_size, fldA_size]) (fldA_one q) k
theorem ret_f {fn : Func} {u : Tmp} {tmps : Array Value} (hr : fn.results = #[.cell u 160]) (hp : tmps.getD u undef = .pointer (some ⟨b, 0, none⟩)) (h : Fb t W b p) : (results fn tmps).run Tryz.prog W = .ok (.agg (fldA p)) W :=
  results_cell_row hr tmps W b t _ _ _ hp h under55 rfl (by rw [fldA_size]; exact info55)
theorem ret_f2 {fn : Func} {u v : Tmp} {x : Value} {tmps : Array Value} (hr : fn.results = #[.cell u 160, .tmp v]) (hp : tmps.getD u undef = .pointer (some ⟨b, 0, none⟩)) (hv : tmps.getD v undef = x) (h : Fb t W b p) : (results fn tmps).run Tryz.prog W = .ok (.tuple #[.agg (fldA p), x]) W := by
  have hp' : tmps[u]?.getD undef = .pointer (some ⟨b, 0, none⟩) := by simpa using hp
  have hv' : tmps[v]?.getD undef = x := by simpa using hv
  simp [results, hr, hp', hv', asAddr, run_loadVar_row (P := Tryz.prog) W b t 160 _ _ _ h under55 rfl (by rw [fldA_size]; exact info55)]
end
theorem none55 : (#[.bool false, .bool false, .bool false, .bool false, .bool false, .bool false, .bool false, .bool false, .bool false, .bool false, .bool false, .bool false, .bool false, .bool false, .bool false, .bool false, .bool false, .bool false, .bool false, .bool false, .bool false, .bool false, .bool false, .bool false, .bool false, .bool false, .bool false, .bool false, .bool false, .bool false, .bool false, .bool false, .bool false, .bool false, .bool false, .bool false, .bool false, .bool false, .bool false, .bool false, .bool false, .bool false, .bool false, .bool false, .bool false, .bool false, .bool false, .bool false, .bool false, .bool false, .bool false, .bool false, .bool false, .bool false, .bool false, .bool false, .bool false, .bool false, .bool false, .bool false] : Array Value) = fldA fun _ => false := by kernel_rfl
theorem built55 : Tryz.prog.built 160 [] = some (fldA fun _ => false) := by kernel_rfl
theorem wpl_build {ops : Array Oper} {rest : List Oper} {o : Oper} {a : Act} {W : World} {Q : Exit → Act → World → Prop} (hg : o.guard = none) (ho : o.op = .build 160 #[])
    (h : wpList Tryz.prog ops Q rest (a.put o.dst (.agg (fldA fun _ => false))) W) : wpList Tryz.prog ops Q (o :: rest) a W := by
  have e : (Array.map (fun x : Nat × Operand => (x.fst, a.eval x.snd)) #[]).toList = [] := by simp
  refine wpList_build hg 160 #[] ho (by rw [e, built55]; rfl) ?_
  rw [e, built55]
  exact h
end Go.Proofs.YteefacjjdalncaaGreatDoor
