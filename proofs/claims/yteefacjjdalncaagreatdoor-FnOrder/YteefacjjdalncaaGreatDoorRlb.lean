/-
  Blocks of five times sixty flags: read and written whole or field by field.
-/
import Derived.Test.YteefacjjdalncaaGreatDoorFq
namespace Go.Proofs.YteefacjjdalncaaGreatDoor
open Go Go.RowKit
set_option linter.unusedVariables false

/-- Five fields of flags, as cells. -/
def rulA (r : Nat → Nat → Bool) : Array Value := (Array.range 300).map fun i => .bool (r (i / 60) (i % 60))
theorem rulA_size (r : Nat → Nat → Bool) : (rulA r).size = 300 := by simp [rulA]
theorem rulA_at {r : Nat → Nat → Bool} {i : Nat} (h : i < 300) : (rulA r)[i]? = some (.bool (r (i / 60) (i % 60))) := by simp [rulA, h]
theorem rulA_ext {r s : Nat → Nat → Bool} (h : ∀ k i, k < 5 → i < 60 → r k i = s k i) : rulA r = rulA s := by
  apply Array.ext
  · rw [rulA_size, rulA_size]
  · intro i h1 h2
    have h3 : i < 300 := by rw [rulA_size] at h1; exact h1
    simp only [rulA, Array.getElem_map, Array.getElem_range]
    rw [h (i / 60) (i % 60) (by omega) (by omega)]
theorem rulA_one (r : Nat → Nat → Bool) : (rulA r).all (·.oneCell') = true := by
  rw [Array.all_eq_true_iff_forall_mem]
  intro v hv
  simp only [rulA, Array.mem_map, Array.mem_range] at hv
  obtain ⟨i, _, rfl⟩ := hv
  rfl
theorem info57 : (Tryz.prog.info? 162).map (·.size) = some 300 := by kernel_rfl
theorem under57 : Tryz.prog.underlying 162 = some (.array 5 160) := by kernel_rfl
theorem zero57 : (Tryz.prog.info? 162).map (fun i => (i.zero, i.size)) = some (some (.agg (rulA fun _ _ => false)), 300) := by kernel_rfl
theorem built57 : Tryz.prog.built 162 [] = some (rulA fun _ _ => false) := by kernel_rfl
/-- A block of five fields of flags. -/
def Rb (W : World) (b : Nat) (r : Nat → Nat → Bool) : Prop := b < W.heap.size ∧ ∀ j, j < 300 → W.cell? ⟨b, j, none⟩ = some (.bool (r (j / 60) (j % 60))) ∧ W.frozen? ⟨b, j, none⟩ = false
theorem size_setCells (b : Nat) : ∀ (vs : List Value) (o : Nat) (w : World), (w.setCells b o vs).heap.size = w.heap.size
  | [], _, _ => rfl
  | v :: r, o, w => by rw [World.setCells, size_setCells b r]; simp
theorem below_setCells {B b : Nat} {w0 : World} (hb : B ≤ b) : ∀ (vs : List Value) (o : Nat) (w : World), Below B w0 w → Below B w0 (w.setCells b o vs)
  | [], _, _, h => h
  | v :: r, o, w, h => by rw [World.setCells]; exact below_setCells hb r _ _ (h.setCell hb v)
section
variable {W W' : World} {b : Nat} {r : Nat → Nat → Bool}
theorem Rb.lt (h : Rb W b r) : b < W.heap.size := h.1
theorem Rb.up (h : Rb W b r) (hb : Below W.heap.size W W') : Rb W' b r := ⟨Nat.lt_of_lt_of_le h.1 hb.size, fun j hj => ⟨(hb.cell (p := ⟨b, j, none⟩) h.1).trans (h.2 j hj).1, (hb.frozen (p := ⟨b, j, none⟩) h.1).trans (h.2 j hj).2⟩⟩
theorem Rb.cell (h : Rb W b r) {k i : Nat} (hk : k < 5) (hi : i < 60) : W.cell? ⟨b, k * 60 + i, none⟩ = some (.bool (r k i)) := by
  have := (h.2 (k * 60 + i) (by omega)).1
  rw [show (k * 60 + i) / 60 = k by omega, show (k * 60 + i) % 60 = i by omega] at this
  exact this
theorem Rb.all (h : Rb W b r) : W.rangeAt b 0 (rulA r).toList := fun j v hv => by
  have hj : j < 300 := by have := (List.getElem?_eq_some_iff.1 hv).1; rw [Array.length_toList, rulA_size] at this; exact this
  rw [Array.getElem?_toList, rulA_at hj] at hv
  rw [Nat.zero_add, (h.2 j hj).1]
  exact hv
theorem Rb.sub (h : Rb W b r) {k : Nat} (hk : k < 5) : W.rangeAt b (k * 60) (fldA (r k)).toList := fun j v hv => by
  have hj : j < 60 := by have := (List.getElem?_eq_some_iff.1 hv).1; rw [Array.length_toList, fldA_size] at this; exact this
  rw [Array.getElem?_toList, fldA_at hj] at hv
  rw [h.cell hk hj]
  exact hv
theorem Rb.thereAll (h : Rb W b r) : W.there b 0 300 := fun j hj => by
  rw [Nat.zero_add]
  exact ⟨by rw [(h.2 j hj).1]; rfl, (h.2 j hj).2⟩
theorem Rb.there (h : Rb W b r) {k : Nat} (hk : k < 5) : W.there b (k * 60) 60 := fun j hj => by
  obtain ⟨h1, h2⟩ := h.2 (k * 60 + j) (by omega)
  exact ⟨by rw [h1]; rfl, h2⟩
theorem Rb.setAll (h : Rb W b r) (s : Nat → Nat → Bool) : Rb (W.setCells b 0 (rulA s).toList) b s := by
  refine ⟨by rw [size_setCells]; exact h.1, fun j hj => ⟨?_, by rw [World.frozen?_setCells]; exact (h.2 j hj).2⟩⟩
  have hl : (rulA s).toList.length = 300 := by rw [Array.length_toList, rulA_size]
  have := World.cell?_setCells_in b (rulA s).toList 0 W (fun i hi => by rw [hl] at hi; rw [Nat.zero_add, (h.2 i hi).1]; rfl) j (by rw [hl]; exact hj)
  rw [Nat.zero_add] at this
  rw [this, ← List.getElem?_eq_getElem, Array.getElem?_toList, rulA_at hj]
theorem Rb.setSub (h : Rb W b r) {k : Nat} (hk : k < 5) (p : Nat → Bool) : Rb (W.setCells b (k * 60) (fldA p).toList) b (fun m => if m = k then p else r m) := by
  have hl : (fldA p).toList.length = 60 := by rw [Array.length_toList, fldA_size]
  refine ⟨by rw [size_setCells]; exact h.1, fun j hj => ⟨?_, by rw [World.frozen?_setCells]; exact (h.2 j hj).2⟩⟩
  by_cases e : j / 60 = k
  · have hm : j % 60 < 60 := by omega
    have := World.cell?_setCells_in b (fldA p).toList (k * 60) W (fun i hi => by rw [hl] at hi; rw [h.cell hk hi]; rfl) (j % 60) (by rw [hl]; exact hm)
    rw [show k * 60 + j % 60 = j by omega] at this
    rw [this, ← List.getElem?_eq_getElem, Array.getElem?_toList, fldA_at hm]
    show _ = some (Value.bool ((if j / 60 = k then p else r (j / 60)) (j % 60)))
    rw [if_pos e]
  · rw [World.cell?_setCells_out b (fldA p).toList (k * 60) W ⟨b, j, none⟩ (fun _ _ => by show j < k * 60 ∨ k * 60 + _ ≤ j; rw [hl]; omega)]
    show _ = some (Value.bool ((if j / 60 = k then p else r (j / 60)) (j % 60)))
    rw [if_neg e]
    exact (h.2 j hj).1
theorem Rb.far {g o : Nat} {vs : List Value} (h : Rb W b r) (hg : b ≠ g) : Rb (W.setCells g o vs) b r := by
  refine ⟨by rw [size_setCells]; exact h.1, fun j hj => ⟨?_, by rw [World.frozen?_setCells]; exact (h.2 j hj).2⟩⟩
  rw [World.cell?_setCells_out g vs o W ⟨b, j, none⟩ (fun e _ => absurd e hg)]
  exact (h.2 j hj).1
theorem Rb.new (W : World) (r : Nat → Nat → Bool) (t : TypeId) (h : b = W.heap.size) : Rb (W.alloc (.cells (rulA r) t)) b r := by
  subst h
  have hb : (W.alloc (.cells (rulA r) t)).heap[W.heap.size]? = some (.cells (rulA r) t) := heap_alloc_last W _
  refine ⟨(Array.getElem?_eq_some_iff.1 hb).1, fun j hj => ⟨?_, ?_⟩⟩
  · unfold World.cell?
    simp only [hb]
    exact rulA_at hj
  · unfold World.frozen?
    simp only [hb]
    simp
theorem Rb.alloc (h : Rb W b r) (o : Obj) : Rb (W.alloc o) b r := h.up (ba (Below.refl _ _) _)
theorem listA (r : Nat → Nat → Bool) : (rulA r).toList.toArray = rulA r := by simp
theorem wpr_load {ops : Array Oper} {rest : List Oper} {o : Oper} {a : Act} {Q : Exit → Act → World → Prop} (h : Rb W b r) (x : Operand) (hgd : o.guard = none) (ho : o.op = .load 162 x) (hx : a.eval x = .pointer (some ⟨b, 0, none⟩))
    (k : wpList Tryz.prog ops Q rest (a.put o.dst (.agg (rulA r))) W) : wpList Tryz.prog ops Q (o :: rest) a W :=
  wpList_load_mid hgd 162 x ho b 0 hx (rulA r).toList _ h.all under57 rfl (by rw [Array.length_toList, rulA_size]; exact info57) (by rw [listA]; exact k)
theorem wpr_store {ops : Array Oper} {rest : List Oper} {o : Oper} {a : Act} {Q : Exit → Act → World → Prop} (h : Rb W b r) (s : Nat → Nat → Bool) (x y : Operand) (hgd : o.guard = none) (ho : o.op = .store 162 x y) (hx : a.eval x = .pointer (some ⟨b, 0, none⟩)) (hy : a.eval y = .agg (rulA s))
    (k : wpList Tryz.prog ops Q rest (a.put o.dst undef) (W.setCells b 0 (rulA s).toList)) : wpList Tryz.prog ops Q (o :: rest) a W :=
  wpList_store_mid hgd 162 x y ho b 0 _ hx hy (by rw [rulA_size]; exact h.thereAll) (by rw [rulA_size]; exact info57) (rulA_one s) k
theorem wpr_storeSub {ops : Array Oper} {rest : List Oper} {o : Oper} {a : Act} {Q : Exit → Act → World → Prop} (h : Rb W b r) (n : Nat) (hn : n < 5) (p : Nat → Bool) (x y : Operand) (hgd : o.guard = none) (ho : o.op = .store 160 x y) (hx : a.eval x = .pointer (some ⟨b, n * 60, none⟩)) (hy : a.eval y = .agg (fldA p))
    (k : wpList Tryz.prog ops Q rest (a.put o.dst undef) (W.setCells b (n * 60) (fldA p).toList)) : wpList Tryz.prog ops Q (o :: rest) a W :=
  wpList_store_mid hgd 160 x y ho b (n * 60) _ hx hy (by rw [fldA_size]; exact h.there hn) (by rw [fldA_size]; exact info55) (fldA_one p) k
theorem wpr_build {ops : Array Oper} {rest : List Oper} {o : Oper} {a : Act} {Q : Exit → Act → World → Prop} (hg : o.guard = none) (ho : o.op = .build 162 #[])
    (h : wpList Tryz.prog ops Q rest (a.put o.dst (.agg (rulA fun _ _ => false))) W) : wpList Tryz.prog ops Q (o :: rest) a W := by
  have e : (Array.map (fun x : Nat × Operand => (x.fst, a.eval x.snd)) #[]).toList = [] := by simp
  refine wpList_build hg 162 #[] ho (by rw [e, built57]; rfl) ?_
  rw [e, built57]
  exact h
theorem ret_r2 {fn : Func} {u v : Tmp} {x : Value} {tmps : Array Value} (hr : fn.results = #[.cell u 162, .tmp v]) (hp : tmps.getD u undef = .pointer (some ⟨b, 0, none⟩)) (hv : tmps.getD v undef = x) (h : Rb W b r) : (results fn tmps).run Tryz.prog W = .ok (.tuple #[.agg (rulA r), x]) W := by
  have hp' : tmps[u]?.getD undef = .pointer (some ⟨b, 0, none⟩) := by simpa using hp
  have hv' : tmps[v]?.getD undef = x := by simpa using hv
  have hl := run_loadVar_mid (P := Tryz.prog) W b 0 162 (rulA r).toList _ h.all under57 rfl (by rw [Array.length_toList, rulA_size]; exact info57)
  rw [listA] at hl
  simp [results, hr, hp', hv', asAddr, hl]
/-- A field's new block. -/
theorem wpl_alloc {ops : Array Oper} {rest : List Oper} {o : Oper} {a : Act} {Q : Exit → Act → World → Prop} (hgd : o.guard = none) (ho : o.op = .alloc 160)
    (k : wpList Tryz.prog ops Q rest (a.put o.dst (.pointer (some ⟨W.heap.size, 0, none⟩))) (W.alloc (.cells (fldA fun _ => false) 160))) : wpList Tryz.prog ops Q (o :: rest) a W := by
  refine wpList_plain hgd fun K hK => ?_
  unfold Oper.wp
  have hz := (zero_of_info (P := Tryz.prog) (t := 160) (v := .agg (fldA fun _ => false)) (n := 60) (by kernel_rfl)).1 W
  simp [execOp, ho, Instr.alloc, hz, go_sem]
  exact hK _ _ k
theorem wpr_alloc {ops : Array Oper} {rest : List Oper} {o : Oper} {a : Act} {Q : Exit → Act → World → Prop} (hgd : o.guard = none) (ho : o.op = .alloc 162)
    (k : wpList Tryz.prog ops Q rest (a.put o.dst (.pointer (some ⟨W.heap.size, 0, none⟩))) (W.alloc (.cells (rulA fun _ _ => false) 162))) : wpList Tryz.prog ops Q (o :: rest) a W := by
  refine wpList_plain hgd fun K hK => ?_
  unfold Oper.wp
  have hz := (zero_of_info (P := Tryz.prog) (t := 162) (v := .agg (rulA fun _ _ => false)) (n := 300) zero57).1 W
  simp [execOp, ho, Instr.alloc, hz, go_sem]
  exact hK _ _ k
theorem wpl_store_new {ops : Array Oper} {rest : List Oper} {o : Oper} {a : Act} {Q : Exit → Act → World → Prop} {p : Nat → Bool} (q : Nat → Bool) (x y : Operand) (hgd : o.guard = none) (ho : o.op = .store 160 x y) (hx : a.eval x = .pointer (some ⟨W.heap.size, 0, none⟩)) (hy : a.eval y = .agg (fldA q))
    (k : wpList Tryz.prog ops Q rest (a.put o.dst undef) (W.alloc (.cells (fldA q) 160))) : wpList Tryz.prog ops Q (o :: rest) a (W.alloc (.cells (fldA p) 160)) :=
  wpl_store (Fb.new 160 W p rfl) q x y hgd ho hx hy (by rw [World.setRow_alloc_new]; exact k)
end
end Go.Proofs.YteefacjjdalncaaGreatDoor
