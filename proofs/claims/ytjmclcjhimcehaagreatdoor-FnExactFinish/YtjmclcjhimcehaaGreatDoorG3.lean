/-
  Operations of a drawn region taken in a told order: small laws. Flags inside regions that draw their order: read whole, held against each other. Blocks of five times sixty flags: read and written whole or field by field. Rows of numbers: copied, held against each other, marked: the walks. Rows of texts that a call owns: small facts of my own, over any program. Lists of numbers in bounds, and texts split at a byte, as the specification does it: the walks. The flags of a list of numbers, as the program makes them.
-/
import Derived.Test.YtjmclcjhimcehaaGreatDoorG2
import Derived.Test.YtjmclcjhimcehaaGreatDoorGn
import Derived.Test.YtjmclcjhimcehaaGreatDoorMt
import Derived.Test.YtjmclcjhimcehaaGreatDoorInf
import Derived.Test.YtjmclcjhimcehaaGreatDoorAid
import Derived.WalkSpells
import Derived.Lib.Strings
import Derived.WalkLawsBesides
namespace Go.Proofs.YtjmclcjhimcehaaGreatDoor
open Go Go.RowKit

theorem wpTakes_l {P : Program} {l : List Oper} {C : World → Prop} {K : Act → Prop} {k : Nat} {ts : List Nat} {a : Act} {o : Oper} (ho : l[k]? = some o) (hn : ∀ x, o.op = .nilCheck x → ∃ p, a.eval x = .pointer (some p)) (h : wpQuiet P l.toArray C (wpTakes P l.toArray C K ts) [o] a) : wpTakes P l.toArray C K (k :: ts) a := by
  refine ⟨fun o' ho' => ?_, ?_⟩
  · have : o' = o := Option.some.inj (ho'.symm.trans (by simpa using ho))
    subst this
    exact hn
  · have ho2 : l.toArray[k]? = some o := by simpa using ho
    unfold qOp
    simp only [ho2]
    exact h
theorem takes_nil {P : Program} {ops : Array Oper} {C : World → Prop} {K : Act → Prop} {a : Act} (h : K a) : wpTakes P ops C K [] a := h
theorem any_one {P : Program} {l : List Oper} {Q : Exit → Act → World → Prop} {C : World → Prop} {R : Act → World → Prop} {L listed : Array Bool} {fuel i : Nat} {o : Oper} {a : Act} {w : World} (hr : Region.ready .any l.toArray listed = [i]) (ho : l[i]? = some o) (hg : o.guard = none)
    (h : ∀ K : Act → World → Prop, Hid (∀ a' w', C w' → wpAnyU P .any l.toArray Q C L R fuel (listed.setIfInBounds i true) a' w' → K a' w') → wpList P l.toArray (Exit.then K Q) [o] a w) : wpAnyU P .any l.toArray Q C L R (fuel + 1) listed a w := wpAnyU_one hr (by simpa using ho) hg h
theorem any_done {P : Program} {ops : Array Oper} {md : Region.Mode} {Q : Exit → Act → World → Prop} {C : World → Prop} {R : Act → World → Prop} {L listed : Array Bool} {a : Act} {w : World} (hl : listed = L) (h : R a w) : wpAnyU P md ops Q C L R 0 listed a w := ⟨hl, h⟩
end Go.Proofs.YtjmclcjhimcehaaGreatDoor

namespace Go.Proofs.YtjmclcjhimcehaaGreatDoor
open Go Go.RowKit

section
variable {ops : Array Oper} {C : World → Prop} {Q : Act → Prop} {rest : List Oper} {o : Oper} {a : Act} {p q : Nat → Bool} {b : Nat} {t : TypeId}
theorem wpq_of {P : Program} (v : Value) (hgd : o.guard = none) (hr : ∀ w, C w → (execOp a.eval o).run P w = .ok (.value v) w) (k : wpQuiet P ops C Q rest (a.put o.dst v)) : wpQuiet P ops C Q (o :: rest) a := by
  unfold wpQuiet
  rw [if_pos (by simp [Region.wanted, hgd])]
  exact ⟨v, fun w hw => by unfold Oper.quietAt; rw [hr w hw]; exact ⟨rfl, rfl⟩, k⟩
theorem wpq_load (h : ∀ w, C w → Fb t w b p) (x : Operand) (hgd : o.guard = none) (ho : o.op = .load 200 x) (hx : a.eval x = .pointer (some ⟨b, 0, none⟩))
    (k : wpQuiet Tryz.prog ops C Q rest (a.put o.dst (.agg (fldA p)))) : wpQuiet Tryz.prog ops C Q (o :: rest) a := by
  refine wpq_of _ hgd (fun w hw => ?_) k
  unfold execOp
  simp only [ho, hx, Instr.loadAt, Instr.sureAddr, Sem.run_bind, Sem.run_pure, Result.andThen_ok, run_loadVar_row (P := Tryz.prog) w b t 200 _ _ _ (h w hw) under55 rfl (by rw [fldA_size]; exact info55)]
theorem cells4 : Tryz.prog.cellsOf 4 = 1 := by kernel_rfl
theorem info4 : ∃ i, Tryz.prog.info? 4 = some i := by
  cases h : Tryz.prog.info? 4 with
  | none => have : (Tryz.prog.info? 4).isSome = true := by kernel_rfl
            rw [h] at this; cases this
  | some i => exact ⟨i, rfl⟩
theorem equal55 (w : World) (p q : Nat → Bool) : (Op.equalIn 10000 200 (.agg (fldA p)) (.agg (fldA q))).run Tryz.prog w = .ok (fldE p q) w := by
  obtain ⟨i, hi⟩ := info4
  exact equal_flags w 9998 under55 hi cells4 Tryz.underlying4 (fun w => Tryz.isAgg4 w) p q
theorem guard_eql (x y : Operand) (u v : Array Value) (w : World) : (eqGuard .eql 200 x y (.agg u) (.agg v)).run Tryz.prog w = .ok () w := by
  simp [eqGuard, go_sem]
theorem guard_neq (x y : Operand) (u v : Array Value) (w : World) : (eqGuard .neq 200 x y (.agg u) (.agg v)).run Tryz.prog w = .ok () w := by
  simp [eqGuard, go_sem]
theorem wpq_eql (x y : Operand) (hgd : o.guard = none) (ho : o.op = .binOp .eql 200 x y 200) (hx : a.eval x = .agg (fldA p)) (hy : a.eval y = .agg (fldA q))
    (k : wpQuiet Tryz.prog ops C Q rest (a.put o.dst (.bool (fldE p q)))) : wpQuiet Tryz.prog ops C Q (o :: rest) a := by
  refine wpq_of _ hgd (fun w hw => ?_) k
  unfold execOp
  simp only [ho, hx, hy, Sem.run_bind, run_eql_struct, guard_eql, equal55, Result.andThen_ok, Sem.run_pure]
theorem wpq_neq (x y : Operand) (hgd : o.guard = none) (ho : o.op = .binOp .neq 200 x y 200) (hx : a.eval x = .agg (fldA p)) (hy : a.eval y = .agg (fldA q))
    (k : wpQuiet Tryz.prog ops C Q rest (a.put o.dst (.bool (!fldE p q)))) : wpQuiet Tryz.prog ops C Q (o :: rest) a := by
  refine wpq_of _ hgd (fun w hw => ?_) k
  unfold execOp
  simp only [ho, hx, hy, Sem.run_bind, run_neq_struct, guard_neq, equal55, Result.andThen_ok, Sem.run_pure]
theorem wpq_build (hgd : o.guard = none) (ho : o.op = .build 200 #[])
    (k : wpQuiet Tryz.prog ops C Q rest (a.put o.dst (.agg (fldA fun _ => false)))) : wpQuiet Tryz.prog ops C Q (o :: rest) a := by
  refine wpq_of _ hgd (fun w hw => ?_) k
  unfold execOp
  have e : (Array.map (fun x : Nat × Operand => (x.fst, a.eval x.snd)) #[]) = #[] := by simp
  have hr := run_build (P := Tryz.prog) w 200 #[] (fldA fun _ => false) built55
  simp only [ho, Sem.run_bind, e, hr, Result.andThen_ok, Sem.run_pure]
end
end Go.Proofs.YtjmclcjhimcehaaGreatDoor

namespace Go.Proofs.YtjmclcjhimcehaaGreatDoor
open Go Go.RowKit
set_option linter.unusedVariables false

/-- Five fields of flags, as cells. -/
def rulA (r : Nat → Nat → Bool) : Array Value := (Array.range 300).map fun i => .bool (r (i / 60) (i % 60))
theorem rulA_size (r : Nat → Nat → Bool) : (rulA r).size = 300 := by simp [rulA]
theorem rulA_at {r : Nat → Nat → Bool} {i : Nat} (h : i < 300) : (rulA r)[i]? = some (.bool (r (i / 60) (i % 60))) := by simp [rulA, h]
theorem rulA_ext {r s : Nat → Nat → Bool} (h : ∀ k i, k < 5 → i < 60 → r k i = s k i) : rulA r = rulA s := by
  apply Array.ext
  · rw [rulA_size, rulA_size]
  · intro i h1 h2
    have h3 : i < 300 := by rw [rulA_size] at h1; exact h1
    simp only [rulA, Array.getElem_map, Array.getElem_range]
    rw [h (i / 60) (i % 60) (by omega) (by omega)]
theorem rulA_one (r : Nat → Nat → Bool) : (rulA r).all (·.oneCell') = true := by
  rw [Array.all_eq_true_iff_forall_mem]
  intro v hv
  simp only [rulA, Array.mem_map, Array.mem_range] at hv
  obtain ⟨i, _, rfl⟩ := hv
  rfl
theorem info57 : (Tryz.prog.info? 202).map (·.size) = some 300 := by kernel_rfl
theorem under57 : Tryz.prog.underlying 202 = some (.array 5 200) := by kernel_rfl
theorem zero57 : (Tryz.prog.info? 202).map (fun i => (i.zero, i.size)) = some (some (.agg (rulA fun _ _ => false)), 300) := by kernel_rfl
theorem built57 : Tryz.prog.built 202 [] = some (rulA fun _ _ => false) := by kernel_rfl
/-- A block of five fields of flags. -/
def Rb (W : World) (b : Nat) (r : Nat → Nat → Bool) : Prop := b < W.heap.size ∧ ∀ j, j < 300 → W.cell? ⟨b, j, none⟩ = some (.bool (r (j / 60) (j % 60))) ∧ W.frozen? ⟨b, j, none⟩ = false
theorem size_setCells (b : Nat) : ∀ (vs : List Value) (o : Nat) (w : World), (w.setCells b o vs).heap.size = w.heap.size
  | [], _, _ => rfl
  | v :: r, o, w => by rw [World.setCells, size_setCells b r]; simp
theorem below_setCells {B b : Nat} {w0 : World} (hb : B ≤ b) : ∀ (vs : List Value) (o : Nat) (w : World), Below B w0 w → Below B w0 (w.setCells b o vs)
  | [], _, _, h => h
  | v :: r, o, w, h => by rw [World.setCells]; exact below_setCells hb r _ _ (h.setCell hb v)
section
variable {W W' : World} {b : Nat} {r : Nat → Nat → Bool}
theorem Rb.lt (h : Rb W b r) : b < W.heap.size := h.1
theorem Rb.up (h : Rb W b r) (hb : Below W.heap.size W W') : Rb W' b r := ⟨Nat.lt_of_lt_of_le h.1 hb.size, fun j hj => ⟨(hb.cell (p := ⟨b, j, none⟩) h.1).trans (h.2 j hj).1, (hb.frozen (p := ⟨b, j, none⟩) h.1).trans (h.2 j hj).2⟩⟩
theorem Rb.cell (h : Rb W b r) {k i : Nat} (hk : k < 5) (hi : i < 60) : W.cell? ⟨b, k * 60 + i, none⟩ = some (.bool (r k i)) := by
  have := (h.2 (k * 60 + i) (by omega)).1
  rw [show (k * 60 + i) / 60 = k by omega, show (k * 60 + i) % 60 = i by omega] at this
  exact this
theorem Rb.all (h : Rb W b r) : W.rangeAt b 0 (rulA r).toList := fun j v hv => by
  have hj : j < 300 := by have := (List.getElem?_eq_some_iff.1 hv).1; rw [Array.length_toList, rulA_size] at this; exact this
  rw [Array.getElem?_toList, rulA_at hj] at hv
  rw [Nat.zero_add, (h.2 j hj).1]
  exact hv
theorem Rb.sub (h : Rb W b r) {k : Nat} (hk : k < 5) : W.rangeAt b (k * 60) (fldA (r k)).toList := fun j v hv => by
  have hj : j < 60 := by have := (List.getElem?_eq_some_iff.1 hv).1; rw [Array.length_toList, fldA_size] at this; exact this
  rw [Array.getElem?_toList, fldA_at hj] at hv
  rw [h.cell hk hj]
  exact hv
theorem Rb.thereAll (h : Rb W b r) : W.there b 0 300 := fun j hj => by
  rw [Nat.zero_add]
  exact ⟨by rw [(h.2 j hj).1]; rfl, (h.2 j hj).2⟩
theorem Rb.there (h : Rb W b r) {k : Nat} (hk : k < 5) : W.there b (k * 60) 60 := fun j hj => by
  obtain ⟨h1, h2⟩ := h.2 (k * 60 + j) (by omega)
  exact ⟨by rw [h1]; rfl, h2⟩
theorem Rb.setAll (h : Rb W b r) (s : Nat → Nat → Bool) : Rb (W.setCells b 0 (rulA s).toList) b s := by
  refine ⟨by rw [size_setCells]; exact h.1, fun j hj => ⟨?_, by rw [World.frozen?_setCells]; exact (h.2 j hj).2⟩⟩
  have hl : (rulA s).toList.length = 300 := by rw [Array.length_toList, rulA_size]
  have := World.cell?_setCells_in b (rulA s).toList 0 W (fun i hi => by rw [hl] at hi; rw [Nat.zero_add, (h.2 i hi).1]; rfl) j (by rw [hl]; exact hj)
  rw [Nat.zero_add] at this
  rw [this, ← List.getElem?_eq_getElem, Array.getElem?_toList, rulA_at hj]
theorem Rb.setSub (h : Rb W b r) {k : Nat} (hk : k < 5) (p : Nat → Bool) : Rb (W.setCells b (k * 60) (fldA p).toList) b (fun m => if m = k then p else r m) := by
  have hl : (fldA p).toList.length = 60 := by rw [Array.length_toList, fldA_size]
  refine ⟨by rw [size_setCells]; exact h.1, fun j hj => ⟨?_, by rw [World.frozen?_setCells]; exact (h.2 j hj).2⟩⟩
  by_cases e : j / 60 = k
  · have hm : j % 60 < 60 := by omega
    have := World.cell?_setCells_in b (fldA p).toList (k * 60) W (fun i hi => by rw [hl] at hi; rw [h.cell hk hi]; rfl) (j % 60) (by rw [hl]; exact hm)
    rw [show k * 60 + j % 60 = j by omega] at this
    rw [this, ← List.getElem?_eq_getElem, Array.getElem?_toList, fldA_at hm]
    show _ = some (Value.bool ((if j / 60 = k then p else r (j / 60)) (j % 60)))
    rw [if_pos e]
  · rw [World.cell?_setCells_out b (fldA p).toList (k * 60) W ⟨b, j, none⟩ (fun _ _ => by show j < k * 60 ∨ k * 60 + _ ≤ j; rw [hl]; omega)]
    show _ = some (Value.bool ((if j / 60 = k then p else r (j / 60)) (j % 60)))
    rw [if_neg e]
    exact (h.2 j hj).1
theorem Rb.far {g o : Nat} {vs : List Value} (h : Rb W b r) (hg : b ≠ g) : Rb (W.setCells g o vs) b r := by
  refine ⟨by rw [size_setCells]; exact h.1, fun j hj => ⟨?_, by rw [World.frozen?_setCells]; exact (h.2 j hj).2⟩⟩
  rw [World.cell?_setCells_out g vs o W ⟨b, j, none⟩ (fun e _ => absurd e hg)]
  exact (h.2 j hj).1
theorem Rb.new (W : World) (r : Nat → Nat → Bool) (t : TypeId) (h : b = W.heap.size) : Rb (W.alloc (.cells (rulA r) t)) b r := by
  subst h
  have hb : (W.alloc (.cells (rulA r) t)).heap[W.heap.size]? = some (.cells (rulA r) t) := heap_alloc_last W _
  refine ⟨(Array.getElem?_eq_some_iff.1 hb).1, fun j hj => ⟨?_, ?_⟩⟩
  · unfold World.cell?
    simp only [hb]
    exact rulA_at hj
  · unfold World.frozen?
    simp only [hb]
    simp
theorem Rb.alloc (h : Rb W b r) (o : Obj) : Rb (W.alloc o) b r := h.up (ba (Below.refl _ _) _)
theorem listA (r : Nat → Nat → Bool) : (rulA r).toList.toArray = rulA r := by simp
theorem wpr_load {ops : Array Oper} {rest : List Oper} {o : Oper} {a : Act} {Q : Exit → Act → World → Prop} (h : Rb W b r) (x : Operand) (hgd : o.guard = none) (ho : o.op = .load 202 x) (hx : a.eval x = .pointer (some ⟨b, 0, none⟩))
    (k : wpList Tryz.prog ops Q rest (a.put o.dst (.agg (rulA r))) W) : wpList Tryz.prog ops Q (o :: rest) a W :=
  wpList_load_mid hgd 202 x ho b 0 hx (rulA r).toList _ h.all under57 rfl (by rw [Array.length_toList, rulA_size]; exact info57) (by rw [listA]; exact k)
theorem wpr_store {ops : Array Oper} {rest : List Oper} {o : Oper} {a : Act} {Q : Exit → Act → World → Prop} (h : Rb W b r) (s : Nat → Nat → Bool) (x y : Operand) (hgd : o.guard = none) (ho : o.op = .store 202 x y) (hx : a.eval x = .pointer (some ⟨b, 0, none⟩)) (hy : a.eval y = .agg (rulA s))
    (k : wpList Tryz.prog ops Q rest (a.put o.dst undef) (W.setCells b 0 (rulA s).toList)) : wpList Tryz.prog ops Q (o :: rest) a W :=
  wpList_store_mid hgd 202 x y ho b 0 _ hx hy (by rw [rulA_size]; exact h.thereAll) (by rw [rulA_size]; exact info57) (rulA_one s) k
theorem wpr_storeSub {ops : Array Oper} {rest : List Oper} {o : Oper} {a : Act} {Q : Exit → Act → World → Prop} (h : Rb W b r) (n : Nat) (hn : n < 5) (p : Nat → Bool) (x y : Operand) (hgd : o.guard = none) (ho : o.op = .store 200 x y) (hx : a.eval x = .pointer (some ⟨b, n * 60, none⟩)) (hy : a.eval y = .agg (fldA p))
    (k : wpList Tryz.prog ops Q rest (a.put o.dst undef) (W.setCells b (n * 60) (fldA p).toList)) : wpList Tryz.prog ops Q (o :: rest) a W :=
  wpList_store_mid hgd 200 x y ho b (n * 60) _ hx hy (by rw [fldA_size]; exact h.there hn) (by rw [fldA_size]; exact info55) (fldA_one p) k
theorem wpr_build {ops : Array Oper} {rest : List Oper} {o : Oper} {a : Act} {Q : Exit → Act → World → Prop} (hg : o.guard = none) (ho : o.op = .build 202 #[])
    (h : wpList Tryz.prog ops Q rest (a.put o.dst (.agg (rulA fun _ _ => false))) W) : wpList Tryz.prog ops Q (o :: rest) a W := by
  have e : (Array.map (fun x : Nat × Operand => (x.fst, a.eval x.snd)) #[]).toList = [] := by simp
  refine wpList_build hg 202 #[] ho (by rw [e, built57]; rfl) ?_
  rw [e, built57]
  exact h
theorem ret_r2 {fn : Func} {u v : Tmp} {x : Value} {tmps : Array Value} (hr : fn.results = #[.cell u 202, .tmp v]) (hp : tmps.getD u undef = .pointer (some ⟨b, 0, none⟩)) (hv : tmps.getD v undef = x) (h : Rb W b r) : (results fn tmps).run Tryz.prog W = .ok (.tuple #[.agg (rulA r), x]) W := by
  have hp' : tmps[u]?.getD undef = .pointer (some ⟨b, 0, none⟩) := by simpa using hp
  have hv' : tmps[v]?.getD undef = x := by simpa using hv
  have hl := run_loadVar_mid (P := Tryz.prog) W b 0 202 (rulA r).toList _ h.all under57 rfl (by rw [Array.length_toList, rulA_size]; exact info57)
  rw [listA] at hl
  simp [results, hr, hp', hv', asAddr, hl]
/-- A field's new block. -/
theorem wpl_alloc {ops : Array Oper} {rest : List Oper} {o : Oper} {a : Act} {Q : Exit → Act → World → Prop} (hgd : o.guard = none) (ho : o.op = .alloc 200)
    (k : wpList Tryz.prog ops Q rest (a.put o.dst (.pointer (some ⟨W.heap.size, 0, none⟩))) (W.alloc (.cells (fldA fun _ => false) 200))) : wpList Tryz.prog ops Q (o :: rest) a W := by
  refine wpList_plain hgd fun K hK => ?_
  unfold Oper.wp
  have hz := (zero_of_info (P := Tryz.prog) (t := 200) (v := .agg (fldA fun _ => false)) (n := 60) (by kernel_rfl)).1 W
  simp [execOp, ho, Instr.alloc, hz, go_sem]
  exact hK _ _ k
theorem wpr_alloc {ops : Array Oper} {rest : List Oper} {o : Oper} {a : Act} {Q : Exit → Act → World → Prop} (hgd : o.guard = none) (ho : o.op = .alloc 202)
    (k : wpList Tryz.prog ops Q rest (a.put o.dst (.pointer (some ⟨W.heap.size, 0, none⟩))) (W.alloc (.cells (rulA fun _ _ => false) 202))) : wpList Tryz.prog ops Q (o :: rest) a W := by
  refine wpList_plain hgd fun K hK => ?_
  unfold Oper.wp
  have hz := (zero_of_info (P := Tryz.prog) (t := 202) (v := .agg (rulA fun _ _ => false)) (n := 300) zero57).1 W
  simp [execOp, ho, Instr.alloc, hz, go_sem]
  exact hK _ _ k
theorem wpl_store_new {ops : Array Oper} {rest : List Oper} {o : Oper} {a : Act} {Q : Exit → Act → World → Prop} {p : Nat → Bool} (q : Nat → Bool) (x y : Operand) (hgd : o.guard = none) (ho : o.op = .store 200 x y) (hx : a.eval x = .pointer (some ⟨W.heap.size, 0, none⟩)) (hy : a.eval y = .agg (fldA q))
    (k : wpList Tryz.prog ops Q rest (a.put o.dst undef) (W.alloc (.cells (fldA q) 200))) : wpList Tryz.prog ops Q (o :: rest) a (W.alloc (.cells (fldA p) 200)) :=
  wpl_store (Fb.new 200 W p rfl) q x y hgd ho hx hy (by rw [World.setRow_alloc_new]; exact k)
end
end Go.Proofs.YtjmclcjhimcehaaGreatDoor

namespace Go.Proofs.YtjmclcjhimcehaaGreatDoor
open Go Go.RowKit

instance : Rec Int := ⟨1, fun n => [.int .i64 n], fun _ => rfl, by decide⟩
theorem int_at {w : World} {ao : Option Addr} {n cap : Nat} {l : List Int} (h : Reads w (.slice ao n cap) l) {k : Nat} {x : Int} (hk : l[k]? = some x) :
    ∃ b o, ao = some ⟨b, o, none⟩ ∧ b < w.heap.size ∧ w.cell? ⟨b, o + k, none⟩ = some (.int .i64 x) := by
  obtain ⟨b, o, rfl, hlt, hc⟩ := h.at hk
  have := hc 0 _ rfl
  refine ⟨b, o, rfl, hlt, ?_⟩
  have e : o + k * Rec.width Int + 0 = o + k := by show o + k * 1 + 0 = o + k; omega
  rw [e] at this
  exact this
theorem flat_int : ∀ l : List Int, l.flatMap (Rec.cells (α := Int)) = l.map (Value.int .i64)
  | [] => rfl
  | x :: r => by rw [List.flatMap_cons, List.map_cons, flat_int r]; rfl
theorem underI : Tryz.prog.underlying 90 = some (.slice 3) := by kernel_rfl
theorem made_ints (n : Nat) : (madeCells (Value.cells (.int .i64 0)) (n * 1)).toList = (List.replicate n (0 : Int)).flatMap Rec.cells := by
  apply List.ext_getElem?
  intro m
  have e := flat_at (List.replicate n (0 : Int)) m 0 (by decide)
  have e1 : m * Rec.width Int + 0 = m := by show m * 1 + 0 = m; omega
  rw [e1] at e
  rw [e]
  simp only [madeCells, Value.cells, Array.toList_map, Array.toList_range, List.getElem?_map, List.getElem?_replicate]
  by_cases hlt : m < n
  · rw [if_pos hlt, List.getElem?_range (by omega)]
    simp [Nat.mod_one]
    rfl
  · rw [if_neg hlt, List.getElem?_eq_none (by simp; omega)]
    rfl

def filledI (l : List Int) (k : Nat) : List Int := l.take k ++ List.replicate (l.length - k) 0
theorem filledI_at {l : List Int} {k : Nat} (h : k < l.length) : (filledI l k)[k]? = some 0 := by
  unfold filledI
  rw [List.getElem?_append_right (by simp; omega), List.getElem?_replicate, if_pos (by simp; omega)]
theorem filledI_set {l : List Int} {k : Nat} {f : Int} (h : l[k]? = some f) : (filledI l k).set k f = filledI l (k + 1) := by
  have hk : k < l.length := (List.getElem?_eq_some_iff.1 h).1
  unfold filledI
  rw [List.take_add_one, h, List.set_append_right _ _ (by simp; omega)]
  have e : k - (List.take k l).length = 0 := by simp; omega
  rw [e, show l.length - k = (l.length - (k + 1)) + 1 by omega, List.replicate_succ]
  simp
theorem filledI_all (l : List Int) : filledI l l.length = l := by simp [filledI]
theorem filledI_length {l : List Int} {k : Nat} (h : k ≤ l.length) : (filledI l k).length = l.length := by simp [filledI]; omega
theorem filledI_none (l : List Int) : filledI l 0 = List.replicate l.length 0 := by simp [filledI]

/-- A number is stored into an owned row. -/
theorem int_put {w : World} {B : Nat} {e : TypeId} {g n cap : Nat} {l : List Int} (h : ownsR w B e (.slice (some ⟨g, 0, none⟩) n cap) l) {i : Nat} {y : Int} (f : Int) (hi : l[i]? = some y) :
    ownsR (w.setCell ⟨g, i, none⟩ (.int .i64 f)) B e (.slice (some ⟨g, 0, none⟩) n cap) (l.set i f) := by
  have h1 := h.put (j := 0) (u := .int .i64 f) f hi (by decide) rfl
  have e1 : i * Rec.width Int + 0 = i := by show i * 1 + 0 = i; omega
  rw [e1] at h1
  exact h1
theorem int_own {w : World} {B : Nat} {e : TypeId} {g n cap : Nat} {l : List Int} (h : ownsR w B e (.slice (some ⟨g, 0, none⟩) n cap) l) {i : Nat} {x : Int} (hi : l[i]? = some x) :
    g < w.heap.size ∧ w.cell? ⟨g, i, none⟩ = some (.int .i64 x) ∧ w.frozen? ⟨g, i, none⟩ = false := by
  obtain ⟨h1, _, _, h2⟩ := h.at hi
  have h3 := h2 0 (by decide)
  have e1 : i * Rec.width Int + 0 = i := by show i * 1 + 0 = i; omega
  rw [e1] at h3
  exact ⟨h1, h3.1, h3.2⟩

/-- The numbers from k on. -/
def numsFrom (k : Nat) : Nat → List Int
  | 0 => []
  | n + 1 => (k : Int) :: numsFrom (k + 1) n

end Go.Proofs.YtjmclcjhimcehaaGreatDoor

namespace Go.Proofs.YtjmclcjhimcehaaGreatDoor
open Go Go.RowKit

/-- A row of texts that the call owns, from block B on. -/
def ownsS (w : World) (B : Nat) (e : TypeId) (v : Value) (l : List ByteArray) : Prop := w.ownsRow B e 1 v l.length (l.map Value.string)

theorem ownsS.alloc {w : World} {B : Nat} {e : TypeId} {v : Value} {l : List ByteArray} (h : ownsS w B e v l) (o : Obj) : ownsS (w.alloc o) B e v l := World.ownsRow.alloc h o
theorem ownsS.drew {w : World} {B : Nat} {e : TypeId} {v : Value} {l : List ByteArray} (h : ownsS w B e v l) : ownsS w.drew B e v l := World.ownsRow.drew h
theorem ownsS_made (w : World) (B cap : Nat) (e : TypeId) (cur : Array Value) (hb : B ≤ w.heap.size) (hm : cap ≤ maxLen) (hs : cur.size = cap) :
    ownsS (w.alloc (.cells cur e)) B e (.slice (some ⟨w.heap.size, 0, none⟩) 0 cap) [] :=
  World.ownsRow_made w cur cap hb hm (by omega)
/-- What is owned stays so while nothing that is there is turned. -/
theorem ownsS.below {w w' : World} {B B' : Nat} {e : TypeId} {v : Value} {l : List ByteArray} (h : ownsS w B e v l) (hb : Below B' w w') (hB : ∀ k, v.ownBlock = some k → k < B') : ownsS w' B e v l := by
  refine ⟨h.1, ?_⟩
  rcases h.2 with hn | ⟨g, cap, cur, rfl, hb2, hgg, rest⟩
  · exact .inl hn
  · refine .inr ⟨g, cap, cur, rfl, hb2, ?_, rest⟩
    rw [hb.block g (hB g rfl)]
    exact hgg
theorem ownsS.all {w w' : World} {B : Nat} {e : TypeId} {v : Value} {l : List ByteArray} (h : ownsS w B e v l) (hb : Below w.heap.size w w') : ownsS w' B e v l :=
  h.below hb fun k hk => (h.lt k hk).2
theorem ownsS.mono {w : World} {B B' : Nat} {e : TypeId} {v : Value} {l : List ByteArray} (h : ownsS w B e v l) (hB : B' ≤ B) : ownsS w B' e v l := by
  refine ⟨h.1, ?_⟩
  rcases h.2 with hn | ⟨g, cap, cur, rfl, hb2, rest⟩
  · exact .inl hn
  · exact .inr ⟨g, cap, cur, rfl, by omega, rest⟩

/-- One text more behind a row of texts that the call owns. -/
theorem wpList_append_text {P : Program} (w w0 : World) {ops : Array Oper} {rest : List Oper} {o : Oper} {a : Act} {Q : Exit → Act → World → Prop} (hgd : o.guard = none) (s x : Operand) (t : TypeId)
    (ho : o.op = .call { callee := .builtin .append, args := #[s, x], argTypes := #[t, t] })
    (B : Nat) (e : TypeId) (ht : P.underlying t = some (.slice e)) (hi : (P.info? e).map (fun i => (i.zero, i.size, i.bytes)) = some (some (.string ByteArray.empty), 1, 16))
    (v : Value) (l : List ByteArray) (hs : a.eval s = v) (hown : ownsS w B e v l) (hbel : Below B w0 w)
    (ad : Addr) (c : Nat) (n : ByteArray) (hx : a.eval x = .slice (some ad) 1 c) (hc : w.cell? ad = some (.string n))
    (hlen : l.length < 8796093022207) (hB : B ≤ w.heap.size)
    (h : ∀ v' w', ownsS w' B e v' (l ++ [n]) → Below B w0 w' → wpList P ops Q rest (a.put o.dst v') w') : wpList P ops Q (o :: rest) a w := by
  obtain ⟨i0, hi0, hz0, hz1, hz2⟩ := info_parts hi
  refine wpList_append_own w hgd s x t ho B e i0 (.string ByteArray.empty) 1 16 ht hi0 hz0 hz1 hz2 rfl (by decide) v l.length _ hs hown ad 1 c [.string n] hx rfl ?_ ?_ (by unfold maxLen; omega) (by omega) hB ?_
  · intro j u hj
    match j, hj with
    | 0, hj => simp at hj; subst hj; simpa [Addr.add] using hc
  · intro u hu; simp at hu; subst hu; rfl
  · intro v' w' h1 h2 _
    refine h v' w' (by simpa [ownsS] using h1) (hbel.grown h2 hB fun k hk => (hown.lt k hk).1)

/-- Of a row that is not empty: where it lies, and what its cells hold. -/
theorem ownsS_form {w : World} {B : Nat} {e : TypeId} {v : Value} {l : List ByteArray} (h : ownsS w B e v l) (hne : l ≠ []) :
    ∃ g cap, v = .slice (some ⟨g, 0, none⟩) l.length cap ∧ B ≤ g ∧ g < w.heap.size ∧ l.length ≤ cap ∧ (∀ j (hj : j < l.length), w.cell? ⟨g, j, none⟩ = some (.string l[j])) ∧ ∀ j, w.frozen? ⟨g, j, none⟩ = false := by
  rcases h.2 with ⟨_, hn⟩ | ⟨g, cap, cur, rfl, hb, hg, hc, _⟩
  · exact absurd (List.eq_nil_of_length_eq_zero hn) hne
  · refine ⟨g, cap, rfl, hb, (h.lt g rfl).2, hc, fun j hj => ?_, fun j => World.ownsRow.frozenAt h j⟩
    rw [World.ownsRow.cellAt h j (by omega)]
    simp [hj]
theorem ownsS_empty {w : World} {B : Nat} {e : TypeId} {v : Value} (h : ownsS w B e v []) : ∃ ao cap, v = .slice ao 0 cap := by
  rcases h.2 with ⟨h, _⟩ | ⟨g, cap, cur, rfl, _⟩
  · exact ⟨none, 0, h⟩
  · exact ⟨_, _, rfl⟩
/-- A text stored into the row. -/
theorem ownsS_stored {w : World} {B : Nat} {e : TypeId} {g cap : Nat} {l : List ByteArray} (h : ownsS w B e (.slice (some ⟨g, 0, none⟩) l.length cap) l) (j : Nat) (t : ByteArray) :
    ownsS (w.setCell ⟨g, j, none⟩ (.string t)) B e (.slice (some ⟨g, 0, none⟩) l.length cap) (l.set j t) := by
  have := (World.ownsRow.stored h j (.string t)).1
  unfold ownsS
  simpa [List.map_set] using this

theorem ownsS_cell {w : World} {B : Nat} {e : TypeId} {g n cap : Nat} {l : List ByteArray} (h : ownsS w B e (.slice (some ⟨g, 0, none⟩) n cap) l) {k : Nat} (hk : k < n) :
    ∃ t, l[k]? = some t ∧ w.cell? ⟨g, k, none⟩ = some (.string t) ∧ w.frozen? ⟨g, k, none⟩ = false ∧ g < w.heap.size ∧ n = l.length := by
  have hn : n = l.length := by
    rcases h.2 with ⟨h', _⟩ | ⟨g', cap', cur, h', _⟩
    · simp at h'
    · simp only [Value.slice.injEq] at h'
      exact h'.2.1
  subst hn
  have hc := World.ownsRow.cellAt h k (by omega)
  refine ⟨l[k], List.getElem?_eq_getElem hk, ?_, World.ownsRow.frozenAt h k, (h.lt g rfl).2, rfl⟩
  rw [hc]
  simp [hk]
theorem ownsS_store {w : World} {B : Nat} {e : TypeId} {g n cap : Nat} {l : List ByteArray} (h : ownsS w B e (.slice (some ⟨g, 0, none⟩) n cap) l) (j : Nat) (t : ByteArray) :
    ownsS (w.setCell ⟨g, j, none⟩ (.string t)) B e (.slice (some ⟨g, 0, none⟩) n cap) (l.set j t) := by
  have hn : n = l.length := by
    rcases h.2 with ⟨h', _⟩ | ⟨g', cap', cur, h', _⟩
    · simp at h'
    · simp only [Value.slice.injEq] at h'
      exact h'.2.1
  subst hn
  exact ownsS_stored h j t
theorem set_same {l : List ByteArray} {k : Nat} {t : ByteArray} (h : l[k]? = some t) : l.set k t = l := by
  apply List.ext_getElem?
  intro j
  rw [List.getElem?_set]
  by_cases e : k = j
  · subst e
    rw [if_pos rfl, h]
    have : k < l.length := (List.getElem?_eq_some_iff.1 h).1
    simp [this]
  · rw [if_neg e]

end Go.Proofs.YtjmclcjhimcehaaGreatDoor

namespace Go.Proofs.YtjmclcjhimcehaaGreatDoor
open Go Go.RowKit

theorem in_any (x lo hi : Int) (w : World) :
    Calls Tryz.prog 56 #[.int .i64 x, .int .i64 lo, .int .i64 hi] w fun e w' => e = .returned (.bool (decide (lo ≤ x) && decide (x ≤ hi))) ∧ w' = w := by
  by_cases h1 : lo ≤ x
  · have h2 : decide (lo ≤ x) = true := decide_eq_true h1
    go_enter Tryz.func56, Tryz.ntmps56
    go_wp2
    go_ret
    exact ⟨by simp [h1], rfl⟩
  · have h2 : decide (lo ≤ x) = false := decide_eq_false h1
    go_enter Tryz.func56, Tryz.ntmps56
    go_wp2
    go_ret
    exact ⟨by simp, rfl⟩

/-- Within bounds, and rising from the one ahead. -/
def riseB (lo hi : Int) : Option Int → List Int → Bool
  | _, [] => true
  | p, x :: r => (decide (lo ≤ x) && decide (x ≤ hi)) && p.all (fun y => decide (y < x)) && riseB lo hi (some x) r
/-- A list of a rule's field. -/
def listB (lo hi : Int) (l : List Int) : Bool := !l.isEmpty && riseB lo hi none l
theorem riseB_at {lo hi : Int} {l : List Int} {k : Nat} {p : Option Int} {x : Int} (h : l[k]? = some x) : riseB lo hi p (l.drop k) = ((decide (lo ≤ x) && decide (x ≤ hi)) && p.all (fun y => decide (y < x)) && riseB lo hi (some x) (l.drop (k + 1))) := by
  obtain ⟨hk, rfl⟩ := List.getElem?_eq_some_iff.1 h
  rw [List.drop_eq_getElem_cons hk]
  rfl
theorem riseB_end {lo hi : Int} {l : List Int} {k : Nat} {p : Option Int} (h : k = l.length) : riseB lo hi p (l.drop k) = true := by
  subst h
  rw [List.drop_length]
  rfl
theorem listB_rise {lo hi : Int} {l : List Int} (h : riseB lo hi none l = true) : listB lo hi l = decide (0 < l.length) := by
  unfold listB
  rw [h]
  cases l with
  | nil => simp
  | cons x r => simp
theorem listB_no {lo hi : Int} {l : List Int} (h : riseB lo hi none l = false) : listB lo hi l = false := by simp [listB, h]

set_option maxHeartbeats 2000000 in
theorem l10List_try (ao : Option Addr) (n c : Nat) (l : List Int) (lo hi : Int) (w : World) (hr : Reads w (.slice ao n c) l) (hn : n ≤ 1048577) :
    Calls Tryz.prog 159 #[.slice ao n c, .int .i64 lo, .int .i64 hi] w fun e w' => e = .returned (.bool (listB lo hi l)) ∧ Below w.heap.size w w' := by
  have HR : Hid (Reads w (.slice ao n c) l) := hr
  have HN : Hid (n = l.length) := hr.len
  clear hr
  go_enter Tryz.func159, Tryz.ntmps159
  go_wp2
  go_loopw [7] (fun i wr => ∃ (k : Nat) (p : Option Int), k ≤ n ∧ i = .int .i64 k ∧ Hid (riseB lo hi none l = riseB lo hi p (l.drop k) ∧ (k = 0 → p = none) ∧ ∀ j, k = j + 1 → ∃ a, p = some a ∧ l[j]? = some a) ∧ Below w.heap.size w wr) (fun i _ => n - (intOf i).toNat)
  case atStart => exact ⟨0, none, Nat.zero_le _, rfl, ⟨rfl, fun _ => rfl, fun j hj => by omega⟩, Below.refl _ _⟩
  case round =>
    obtain ⟨k, p, hk, rfl, HE, hbel⟩ := hrel
    by_cases hlt : k < n
    · obtain ⟨x, hx⟩ : ∃ x, l[k]? = some x := ⟨_, List.getElem?_eq_getElem (by rw [← HN.out]; exact hlt)⟩
      have HX : Hid (l[k]? = some x) := hx
      have HA : Hid (riseB lo hi none l = ((decide (lo ≤ x) && decide (x ≤ hi)) && p.all (fun y => decide (y < x)) && riseB lo hi (some x) (l.drop (k + 1)))) := HE.out.1.trans (riseB_at hx)
      obtain ⟨b, o, rfl, hb, c0⟩ := int_at (HR.out.below hbel) hx
      clear hx
      have q0 := Wd.cell c0
      have fin : ∀ y : Wd wr, Below w.heap.size w y.at' := fun y => hbel.trans (y.ok.mono hbel.size)
      cases h1 : (decide (lo ≤ x) && decide (x ≤ hi)) with
      | false =>
        have HF : Hid (listB lo hi l = false) := listB_no (HA.out.trans (by rw [h1]; rfl))
        go_wp2
        refine wp_region_wd (by kernel_rfl) (by kernel_rfl) ?_
        repeat (go_big_quiet_step ((go_at_call 56; refine calls_wd_same (v := .bool false) ?_; rw [← h1]; exact in_any _ _ _ _)))
        refine wpQuiet_nil ?_
        rintro _ ⟨y, rfl⟩
        go_wp2
        go_ret
        exact ⟨by rw [HF.out]; rfl, fin y⟩
      | true =>
        rcases Nat.eq_zero_or_pos k with hk0 | hk0
        · have HF : Hid (riseB lo hi none l = riseB lo hi (some x) (l.drop (k + 1)) ∧ (k + 1 = 0 → some x = none) ∧ ∀ j, k + 1 = j + 1 → ∃ a, some x = some a ∧ l[j]? = some a) := by
            refine ⟨HA.out.trans ?_, fun h => by omega, fun j hj => ⟨x, rfl, by rw [← Nat.succ.inj hj]; exact HX.out⟩⟩
            rw [h1, HE.out.2.1 hk0]
            rfl
          have hg0 : decide ((0 : Int) < (k : Int)) = false := decide_eq_false (by omega)
          have hg1 : decide (0 < k) = false := decide_eq_false (by omega)
          clear hk0
          go_wp2
          refine wp_region_wd (by kernel_rfl) (by kernel_rfl) ?_
          repeat (go_big_quiet_step ((go_at_call 56; refine calls_wd_same (v := .bool true) ?_; rw [← h1]; exact in_any _ _ _ _)))
          refine wpQuiet_nil ?_
          rintro _ ⟨y, rfl⟩
          go_wp2
          go_roundw
          case rel => exact ⟨k + 1, some x, by omega, by go_num, HF, fin y⟩
          case measure => simp [intOf]; omega
        · obtain ⟨j, rfl⟩ : ∃ j, k = j + 1 := ⟨k - 1, by omega⟩
          obtain ⟨a, hpa, hp⟩ := HE.out.2.2 j rfl
          have HPA : Hid (p = some a) := hpa
          obtain ⟨b', o', hbo, -, p0⟩ := int_at (HR.out.below hbel) hp
          clear hp hpa
          simp only [Option.some.injEq, Addr.mk.injEq, and_true] at hbo
          obtain ⟨rfl, rfl⟩ := hbo
          have q1 := Wd.cell p0
          cases h2 : decide (x ≤ a) with
          | true =>
            have HF : Hid (listB lo hi l = false) := listB_no (HA.out.trans (by
              rw [HPA.out, h1]
              have : decide (a < x) = false := decide_eq_false (by have := of_decide_eq_true h2; omega)
              simp [this]))
            go_wp2
            refine wp_region_wd (by kernel_rfl) (by kernel_rfl) ?_
            repeat (go_big_quiet_step ((go_at_call 56; refine calls_wd_same (v := .bool true) ?_; rw [← h1]; exact in_any _ _ _ _)))
            refine wpQuiet_nil ?_
            rintro _ ⟨y, rfl⟩
            go_wp2
            go_ret
            exact ⟨by rw [HF.out]; rfl, fin y⟩
          | false =>
            have HF : Hid (riseB lo hi none l = riseB lo hi (some x) (l.drop (j + 1 + 1)) ∧ (j + 1 + 1 = 0 → some x = none) ∧ ∀ i, j + 1 + 1 = i + 1 → ∃ a, some x = some a ∧ l[i]? = some a) := by
              refine ⟨HA.out.trans ?_, fun h => by omega, fun i hi => ⟨x, rfl, by rw [← Nat.succ.inj hi]; exact HX.out⟩⟩
              rw [HPA.out, h1]
              have : decide (a < x) = true := decide_eq_true (by have := of_decide_eq_false h2; omega)
              simp [this]
            go_wp2
            refine wp_region_wd (by kernel_rfl) (by kernel_rfl) ?_
            repeat (go_big_quiet_step ((go_at_call 56; refine calls_wd_same (v := .bool true) ?_; rw [← h1]; exact in_any _ _ _ _)))
            refine wpQuiet_nil ?_
            rintro _ ⟨y, rfl⟩
            go_wp2
            go_roundw
            case rel => exact ⟨j + 2, some x, by omega, by go_num, HF, fin y⟩
            case measure => simp [intOf]; omega
    · have HF : Hid (listB lo hi l = decide (0 < n)) := by
        show _ = _
        rw [listB_rise (HE.out.1.trans (riseB_end (by rw [← HN.out]; omega))), HN.out]
      go_wp2
      go_ret
      exact ⟨by rw [HF.out]; rfl, hbel⟩
theorem l10List_any {w : World} {v : Value} {l : List Int} (lo hi : Int) (hr : Reads w v l) (hn : l.length ≤ 1048577) : Calls Tryz.prog 159 #[v, .int .i64 lo, .int .i64 hi] w fun e w' => e = .returned (.bool (listB lo hi l)) ∧ Below w.heap.size w w' := by
  obtain ⟨ao, c, rfl, _⟩ := id hr
  exact l10List_try ao _ c l lo hi w hr hn

theorem mem_drop_at {m : List Int} {k : Nat} {y x : Int} (h : m[k]? = some y) : x ∈ m.drop k ↔ x = y ∨ x ∈ m.drop (k + 1) := by
  obtain ⟨hk, rfl⟩ := List.getElem?_eq_some_iff.1 h
  rw [List.drop_eq_getElem_cons hk]
  exact List.mem_cons
theorem not_mem_end {m : List Int} {k : Nat} {x : Int} (h : k = m.length) : ¬ x ∈ m.drop k := by
  subst h
  rw [List.drop_length]
  exact List.not_mem_nil
set_option maxHeartbeats 1000000 in
theorem l10In_try (ao : Option Addr) (n c : Nat) (m : List Int) (x : Int) (w : World) (hr : Reads w (.slice ao n c) m) (hn : n ≤ 1048577) :
    Calls Tryz.prog 120 #[.slice ao n c, .int .i64 x] w fun e w' => e = .returned (.bool (decide (x ∈ m))) ∧ w' = w := by
  have HR : Hid (Reads w (.slice ao n c) m) := hr
  have HN : Hid (n = m.length) := hr.len
  clear hr
  go_enter Tryz.func120, Tryz.ntmps120
  go_wp2
  go_loopw [5] (fun i wr => ∃ k : Nat, k ≤ n ∧ i = .int .i64 k ∧ Hid (x ∈ m ↔ x ∈ m.drop k) ∧ wr = w) (fun i _ => n - (intOf i).toNat)
  case atStart => exact ⟨0, Nat.zero_le _, rfl, (by show x ∈ m ↔ x ∈ m.drop 0; rw [List.drop_zero]), rfl⟩
  case round =>
    obtain ⟨k, hk, rfl, HE, rfl⟩ := hrel
    by_cases hlt : k < n
    · obtain ⟨y, hy⟩ : ∃ y, m[k]? = some y := ⟨_, List.getElem?_eq_getElem (by rw [← HN.out]; exact hlt)⟩
      have HM : Hid (x ∈ m ↔ x = y ∨ x ∈ m.drop (k + 1)) := HE.out.trans (mem_drop_at hy)
      obtain ⟨b, o, rfl, hb, c0⟩ := int_at HR.out hy
      clear hy HE
      by_cases hyx : y = x
      · have HF : Hid (decide (x ∈ m) = true) := decide_eq_true (HM.out.2 (.inl hyx.symm))
        go_wp2
        go_ret
        exact ⟨by rw [HF.out]; rfl, rfl⟩
      · have HF : Hid (x ∈ m ↔ x ∈ m.drop (k + 1)) := HM.out.trans ⟨fun h => h.resolve_left fun e => hyx e.symm, .inr⟩
        go_wp2
        go_roundw
        case rel => exact ⟨k + 1, by omega, by go_num, HF, trivial⟩
        case measure => simp [intOf]; omega
    · have HF : Hid (decide (x ∈ m) = false) := decide_eq_false fun h => not_mem_end (by rw [← HN.out]; omega) (HE.out.1 h)
      go_wp2
      go_ret
      exact ⟨by rw [HF.out]; rfl, rfl⟩

/-- The pieces behind the first i places, and where the next one begins. -/
def cutsN (s : ByteArray) (c : Nat) : Nat → List ByteArray × Nat
  | 0 => ([], 0)
  | i + 1 => if i = s.size ∨ (s.data[i]?.map (fun b => b.toNat)) = some c then ((cutsN s c i).1 ++ [s.extract (cutsN s c i).2 i], i + 1) else cutsN s c i
/-- A text split at a byte. -/
def splitB (s : ByteArray) (c : Nat) : List ByteArray := (cutsN s c (s.size + 1)).1
theorem cutsN_bd (s : ByteArray) (c : Nat) : ∀ i, (cutsN s c i).2 ≤ i ∧ (cutsN s c i).1.length ≤ i
  | 0 => ⟨Nat.le_refl _, Nat.le_refl _⟩
  | i + 1 => by
    obtain ⟨h1, h2⟩ := cutsN_bd s c i
    unfold cutsN
    split
    · exact ⟨Nat.le_refl _, by simp; omega⟩
    · exact ⟨by omega, by omega⟩
theorem byte_is {s : ByteArray} {i : Nat} (h : i < s.size) : s.data[i]?.map (fun b => b.toNat) = some s[i].toNat := by
  have h' : i < s.data.size := h
  rw [Array.getElem?_eq_getElem h']
  rfl

set_option maxRecDepth 10000 in
set_option maxHeartbeats 1000000 in
theorem l10Split_any (s : ByteArray) (c : Nat) (w : World) (hs : s.size ≤ 1048576) :
    Calls Tryz.prog 157 #[.string s, .int .u8 (c : Int)] w fun e w' => ∃ v, e = .returned v ∧ ownsS w' w.heap.size 9 v (splitB s c) ∧ Below w.heap.size w w' := by
  go_enter Tryz.func157, Tryz.ntmps157
  go_wp2
  go_loopw [5, 6, 7] (fun out bg i wr => ∃ (k b : Nat) (l : List ByteArray), k ≤ s.size + 1 ∧ i = .int .i64 k ∧ bg = .int .i64 b ∧ b ≤ k ∧ l.length ≤ k ∧ Hid (cutsN s c k = (l, b)) ∧ ownsS wr w.heap.size 9 out l ∧ Below w.heap.size w wr) (fun _ _ i _ => s.size + 1 - (intOf i).toNat)
  case atStart => exact ⟨0, 0, [], Nat.zero_le _, rfl, rfl, Nat.le_refl _, Nat.le_refl _, rfl, ownsS_made _ _ _ _ _ (Nat.le_refl _) (by decide) rfl, (Below.refl _ _).alloc (Nat.le_refl _) _⟩
  case round =>
    obtain ⟨k, b, l, hk, rfl, rfl, hb, hl, HE, hown, hbel⟩ := hrel
    have hsz := hbel.size
    by_cases hlt : k ≤ s.size
    · have hcut : ∀ wx, (Instr.slice 9 (.string s) (some (.int .i64 (b : Int))) (some (.int .i64 (k : Int))) none).run Tryz.prog wx = .ok (.string (s.extract b k)) wx := fun wx => by
        have := run_slice_string (P := Tryz.prog) wx 9 s .i64 .i64 (b : Int) (k : Int) Tryz.underlying9 (by omega) (by omega) (by omega)
        rw [Int.toNat_natCast, Int.toNat_natCast] at this
        exact this
      by_cases hend : k = s.size
      · have HN : Hid (cutsN s c (k + 1) = (l ++ [s.extract b k], k + 1)) := by
          show cutsN s c (k + 1) = _
          rw [cutsN, if_pos (.inl hend), HE.out]
        have hei : (k : Int) = (s.size : Int) := by omega
        clear hend
        go_wp2_with (at_builtin; refine wpList_append_text _ w rfl (.tmp 26) (.tmp 31) 86 rfl w.heap.size 9 Tryz.underlying86 info9 _ l rfl (hown.alloc _) (hbel.alloc hsz _) ⟨wr.heap.size, 0, none⟩ 1 (s.extract b k) rfl ?c1 ?c2 ?c3 ?_)
        case c1 => simp; rw [show s.size = k by omega]
        case c2 => omega
        case c3 => simp; omega
        intro v' w1 hown1 hbel1
        clear hown hbel
        go_wp2
        go_roundw
        case rel => exact ⟨k + 1, k + 1, _, by omega, by go_num, by go_num, Nat.le_refl _, by simp; omega, HN, hown1, hbel1⟩
        case measure => simp [intOf]; omega
      · have hlt2 : k < s.size := by omega
        have hne : ¬ (k : Int) = (s.size : Int) := by omega
        by_cases hby : s[k].toNat = c
        · have HN : Hid (cutsN s c (k + 1) = (l ++ [s.extract b k], k + 1)) := by
            show cutsN s c (k + 1) = _
            rw [cutsN, if_pos (.inr (by rw [byte_is hlt2, hby])), HE.out]
          go_wp2_with (at_builtin; refine wpList_append_text _ w rfl (.tmp 26) (.tmp 31) 86 rfl w.heap.size 9 Tryz.underlying86 info9 _ l rfl (hown.alloc _) (hbel.alloc hsz _) ⟨wr.heap.size, 0, none⟩ 1 (s.extract b k) rfl ?c1 ?c2 ?c3 ?_)
          case c1 => simp
          case c2 => omega
          case c3 => simp; omega
          intro v' w1 hown1 hbel1
          clear hown hbel
          go_wp2
          go_roundw
          case rel => exact ⟨k + 1, k + 1, _, by omega, by go_num, by go_num, Nat.le_refl _, by simp; omega, HN, hown1, hbel1⟩
          case measure => simp [intOf]; omega
        · have HN : Hid (cutsN s c (k + 1) = (l, b)) := by
            show cutsN s c (k + 1) = _
            rw [cutsN, if_neg, HE.out]
            rintro (h | h)
            · omega
            · rw [byte_is hlt2] at h
              exact hby (Option.some.inj h)
          have hby2 : ((s[k].toNat : Int) == (c : Int)) = false := beq_eq_false_iff_ne.2 (by omega)
          have hby3 : (s[k].toNat == c) = false := by simpa using hby
          go_wp2
          go_roundw
          case rel => exact ⟨k + 1, b, l, by omega, by go_num, rfl, by omega, by omega, HN, hown, hbel⟩
          case measure => simp [intOf]; omega
    · have hkn : k = s.size + 1 := by omega
      have HF : Hid (splitB s c = l) := by show (cutsN s c (s.size + 1)).1 = l; rw [← hkn, HE.out]
      clear hkn
      go_wp2
      go_ret
      exact ⟨_, rfl, by rw [HF.out]; exact hown, hbel⟩
end Go.Proofs.YtjmclcjhimcehaaGreatDoor

namespace Go.Proofs.YtjmclcjhimcehaaGreatDoor
open Go Go.RowKit
set_option linter.unusedVariables false

/-- A list's numbers, as flags. -/
def memP (l : List Int) (i : Nat) : Bool := decide ((i : Int) ∈ l)
theorem memP_next {l : List Int} {k : Nat} {x : Nat} (h : l[k]? = some (x : Int)) (i : Nat) : memP (l.take (k + 1)) i = if i = x then true else memP (l.take k) i := by
  unfold memP
  rw [List.take_add_one, h]
  by_cases e : i = x
  · subst e; simp
  · rw [if_neg e]
    congr 1
    apply propext
    simp only [Option.toList_some, List.mem_append, List.mem_singleton]
    exact ⟨fun h => h.resolve_right (by omega), .inl⟩
/-- What fieldOf answers. -/
def fldO (lo hi : Int) (l : List Int) : Nat → Bool := if listB lo hi l = true then memP l else fun _ => false
theorem fldO_yes {lo hi : Int} {l : List Int} (h : listB lo hi l = true) : fldO lo hi l = memP l := if_pos h
theorem fldO_no {lo hi : Int} {l : List Int} (h : listB lo hi l = false) : fldO lo hi l = fun _ => false := if_neg (by rw [h]; exact Bool.false_ne_true)
theorem riseB_up2 {lo hi : Int} : ∀ (l : List Int) (p : Option Int), riseB lo hi p l = true → ∀ x ∈ l, lo ≤ x ∧ x ≤ hi
  | [], _, _, x, hx => by cases hx
  | y :: r, p, h, x, hx => by
    unfold riseB at h
    simp only [Bool.and_eq_true, decide_eq_true_eq] at h
    rcases List.mem_cons.1 hx with rfl | hx
    · exact h.1.1
    · exact riseB_up2 r _ h.2 x hx
/-- What lies there in the round. -/
structure FoS (w : World) (B : Nat) (lo hi : Int) (W : World) (p : Nat → Bool) : Prop where
  z1 : ∃ q, Fb 200 W (B + 1) q
  z2 : Fb 200 W (B + 1 + 1) p
  c0 : W.cell? ⟨B, 0, none⟩ = some (.int .i64 lo)
  c1 : W.cell? ⟨B, 1, none⟩ = some (.int .i64 hi)
  be : Below B w W
theorem cell_not {W : World} {p q : Addr} {x : Value} (h : W.cell? q = some x) (hne : q.block ≠ p.block) (u : Value) : (W.setCell p u).cell? q = some x := by
  have e := heap_setCell_other W p q.block u hne
  unfold World.cell? at h ⊢
  rw [e]
  exact h
theorem FoS.put {w W : World} {B : Nat} {lo hi : Int} {p : Nat → Bool} (h : FoS w B lo hi W p) (n : Nat) : FoS w B lo hi (W.setCell ⟨B + 1 + 1, n, none⟩ (.bool true)) (fun i => if i = n then true else p i) := by
  obtain ⟨⟨q, z1⟩, z2, c0, c1, be⟩ := h
  exact ⟨⟨q, z1.far (by show B + 1 + 1 ≠ B + 1; omega) _⟩, z2.set n true, cell_not c0 (by show B ≠ B + 1 + 1; omega) _, cell_not c1 (by show B ≠ B + 1 + 1; omega) _, be.setCell (by show B ≤ B + 1 + 1; omega) _⟩

set_option maxRecDepth 10000 in
set_option maxHeartbeats 2000000 in
theorem fieldOf_try (ao : Option Addr) (n c : Nat) (l : List Int) (lo hi : Int) (w : World) (hr : Reads w (.slice ao n c) l) (hn : n ≤ 1048577) (h0 : 0 ≤ lo) (hl : lo ≤ 60) (h1 : hi ≤ 59) :
    Calls Tryz.prog 195 #[.slice ao n c, .agg #[.int .i64 lo, .int .i64 hi]] w fun e w' => e = .returned (.tuple #[.agg (fldA (fldO lo hi l)), .bool (listB lo hi l)]) ∧ Below w.heap.size w w' := by
  have HR : Hid (Reads w (.slice ao n c) l) := hr
  have HN : Hid (n = l.length) := hr.len
  clear hr
  go_enter Tryz.func195, Tryz.ntmps195
  go_wp2
  rw [none55]
  obtain ⟨W, hW⟩ : ∃ W, ((w.alloc (.cells #[.int .i64 lo, .int .i64 hi] 206)).alloc (.cells (fldA fun _ => false) 200)).alloc (.cells (fldA fun _ => false) 200) = W := ⟨_, rfl⟩
  have Z1 : Fb 200 W (w.heap.size + 1) (fun _ => false) := by rw [← hW]; exact ((Fb.new 200 (w.alloc (.cells #[.int .i64 lo, .int .i64 hi] 206)) _ (by simp)).alloc _)
  have Z2 : Fb 200 W (w.heap.size + 1 + 1) (fun _ => false) := by rw [← hW]; exact (Fb.new 200 _ _ (by simp))
  have c0 : W.cell? ⟨w.heap.size, 0, none⟩ = some (.int .i64 lo) := by rw [← hW]; simp [go_sem]
  have c1 : W.cell? ⟨w.heap.size, 1, none⟩ = some (.int .i64 hi) := by rw [← hW]; simp [go_sem]
  have hb : Below w.heap.size w W := by rw [← hW]; exact ba (ba (ba (Below.refl _ _) _) _) _
  rw [hW]
  clear hW
  have HZ : Hid (FoS w w.heap.size lo hi W fun _ => false) := ⟨⟨_, Z1⟩, Z2, c0, c1, hb⟩
  clear Z1 Z2 c0 c1 hb
  have HRB : Hid (∀ wr, Below w.heap.size w wr → Reads wr (.slice ao n c) l) := fun wr hb => HR.out.below hb
  generalize hB : w.heap.size = B at *
  go_loopw [7, 15] (fun a i wr => ∃ (k : Nat) (y : Int) (p : Nat → Bool) (pr : Option Int), k ≤ n ∧ i = .int .i64 k ∧ a = .int .i64 y ∧ lo - 1 ≤ y ∧ y ≤ 59 ∧ Hid (riseB lo hi none l = riseB lo hi pr (l.drop k) ∧ (pr = none → y = lo - 1) ∧ (∀ z, pr = some z → z = y) ∧ ∀ i, p i = memP (l.take k) i) ∧ Hid (FoS w B lo hi wr p)) (fun _ i _ => n - (intOf i).toNat)
  case atStart => exact ⟨0, lo - 1, _, none, Nat.zero_le _, rfl, by go_num, by omega, by omega, ⟨rfl, fun _ => rfl, fun z hz => (by cases hz), fun i => (by simp [memP])⟩, HZ⟩
  case round =>
    obtain ⟨k, y, p, pr, hk, rfl, rfl, hy0, hy1, HE, HS⟩ := hrel
    have c1 := HS.out.c1
    by_cases hlt : k < n
    · obtain ⟨x, hx⟩ : ∃ x, l[k]? = some x := ⟨_, List.getElem?_eq_getElem (by rw [← HN.out]; exact hlt)⟩
      have HX : Hid (l[k]? = some x) := hx
      have HA : Hid (riseB lo hi none l = ((decide (lo ≤ x) && decide (x ≤ hi)) && pr.all (fun y => decide (y < x)) && riseB lo hi (some x) (l.drop (k + 1)))) := HE.out.1.trans (riseB_at hx)
      obtain ⟨b, o, rfl, hb, d0⟩ := int_at (HRB.out _ HS.out.be) hx
      clear hx
      by_cases hgo : y < x ∧ x ≤ hi
      · obtain ⟨hyx, hxh⟩ := hgo
        obtain ⟨m, rfl⟩ : ∃ m : Nat, x = (m : Int) := ⟨x.toNat, by omega⟩
        have f0 := HS.out.z2.fr m
        have e0 := HS.out.z2.cell (i := m) (by omega)
        have HNX : Hid (riseB lo hi none l = riseB lo hi (some (m : Int)) (l.drop (k + 1)) ∧ (some (m : Int) = none → (m : Int) = lo - 1) ∧ (∀ z, some (m : Int) = some z → z = m) ∧ ∀ i, (if i = m then true else p i) = memP (l.take (k + 1)) i) := by
          refine ⟨HA.out.trans ?_, fun h => (by cases h), fun z hz => (Option.some.inj hz).symm, fun i => ?_⟩
          · have h2 : pr.all (fun y => decide (y < (m : Int))) = true := by
              cases pr with
              | none => rfl
              | some z => have := HE.out.2.2.1 z rfl
                          subst this
                          simpa using hyx
            rw [h2]
            simp [show lo ≤ (m : Int) by omega, hxh]
          · rw [memP_next HX.out, HE.out.2.2.2 i]
        have HT : Hid (FoS w B lo hi (wr.setCell ⟨B + 1 + 1, m, none⟩ (.bool true)) (fun i => if i = m then true else p i)) := HS.out.put m
        have g1 : decide ((m : Int) ≤ y) = false := decide_eq_false (by omega)
        have g2 : decide (hi < (m : Int)) = false := decide_eq_false (by omega)
        go_wp2
        go_roundw
        case rel => exact ⟨k + 1, m, _, some (m : Int), by omega, by go_num, rfl, by omega, by omega, HNX, HT⟩
        case measure => simp [intOf]; omega
      · have HF : Hid (listB lo hi l = false) := listB_no (HA.out.trans (by
          by_cases h3 : x ≤ hi
          · have h4 : ¬ y < x := fun h => hgo ⟨h, h3⟩
            cases pr with
            | none => have := HE.out.2.1 rfl
                      have h5 : decide (lo ≤ x) = false := decide_eq_false (by omega)
                      rw [h5]; rfl
            | some z => have := HE.out.2.2.1 z rfl
                        subst this
                        simp [h4]
          · simp [h3]))
        obtain ⟨q1, z1⟩ := HS.out.z1
        have HZ1 : Hid (Fb 200 wr (B + 1) q1) := z1
        have HRR : Hid (Fb 200 (wr.setRow (B + 1) (fldA fun _ => false)) (B + 1) (fun _ => false) ∧ Below B w (wr.setRow (B + 1) (fldA fun _ => false))) := ⟨z1.row _, below_setRow HS.out.be (by omega) _⟩
        clear z1
        by_cases h3 : x ≤ y
        · have g1 : decide (x ≤ y) = true := decide_eq_true h3
          go_wp2_with (first | (refine wpl_build rfl rfl ?_) | (refine wpl_store HZ1.out (fun _ => false) (.tmp 4) (.tmp 28) rfl rfl rfl rfl ?_))
          refine bodyPost_ret (ret_f2 rfl rfl rfl HRR.out.1) rfl ?_
          subst hB
          exact ⟨by rw [HF.out, fldO_no HF.out]; rfl, HRR.out.2⟩
        · have g1 : decide (x ≤ y) = false := decide_eq_false h3
          have g2 : decide (hi < x) = true := decide_eq_true (by omega)
          go_wp2_with (first | (refine wpl_build rfl rfl ?_) | (refine wpl_store HZ1.out (fun _ => false) (.tmp 4) (.tmp 28) rfl rfl rfl rfl ?_))
          refine bodyPost_ret (ret_f2 rfl rfl rfl HRR.out.1) rfl ?_
          subst hB
          exact ⟨by rw [HF.out, fldO_no HF.out]; rfl, HRR.out.2⟩
    · have hkn : k = n := by omega
      have HF : Hid (listB lo hi l = !fldE p (fun _ => false) ∧ fldA p = fldA (fldO lo hi l)) := by
        have hkl : k = l.length := by rw [← HN.out]; omega
        have h2 : riseB lo hi none l = true := HE.out.1.trans (riseB_end hkl)
        have h3 := listB_rise h2
        have hp : ∀ i, p i = memP l i := fun i => by rw [HE.out.2.2.2 i, hkl, List.take_length]
        have hup := riseB_up2 l none h2
        by_cases h4 : 0 < l.length
        · have h5 : listB lo hi l = true := by rw [h3]; exact decide_eq_true h4
          refine ⟨?_, by rw [fldO_yes h5]; exact fldA_ext fun i _ => hp i⟩
          rw [h5]
          cases he : fldE p (fun _ => false) with
          | false => rfl
          | true =>
            exfalso
            obtain ⟨x, hx⟩ : ∃ x, x ∈ l := ⟨l[0], List.getElem_mem h4⟩
            have hb := hup x hx
            have := fldE_iff.1 he x.toNat (by omega)
            rw [hp] at this
            exact absurd hx (by have := of_decide_eq_false this; rw [Int.toNat_of_nonneg (by omega)] at this; exact this)
        · have h5 : listB lo hi l = false := by rw [h3]; exact decide_eq_false h4
          have h6 : l = [] := List.eq_nil_of_length_eq_zero (by omega)
          refine ⟨?_, by rw [fldO_no h5]; exact fldA_ext fun i _ => by rw [hp, h6]; simp [memP]⟩
          rw [h5]
          have : fldE p (fun _ => false) = true := fldE_iff.2 fun i _ => by rw [hp, h6]; simp [memP]
          rw [this]; rfl
      obtain ⟨q1, z1⟩ := HS.out.z1
      have HZ1 : Hid (Fb 200 wr.drew (B + 1) q1) := z1
      have HZ2 : Hid (Fb 200 wr.drew (B + 1 + 1) p) := HS.out.z2
      have HRR : Hid (Fb 200 (wr.drew.setRow (B + 1) (fldA p)) (B + 1) p ∧ Below B w (wr.drew.setRow (B + 1) (fldA p))) := ⟨Fb.row (W := wr.drew) z1 p, below_setRow HS.out.be.drew (by omega) _⟩
      clear z1 hkn
      go_wp2
      refine wp_region_pick (fun w' => Fb 200 w' (B + 1 + 1) p) [0, 1, 2, 3] 5 1 (by kernel_rfl) (by decide) (by decide) (by kernel_rfl) (fun _ _ d _ _ h => by cases d <;> exact h) HZ2.out ?_
      refine wpTakes_l rfl (fun x h => by cases h) (wpq_load (fun _ h => h) (.tmp 6) rfl rfl rfl ?_)
      refine wpQuiet_nil ?_
      refine wpTakes_l rfl (fun x h => by cases h) (wpq_load (fun _ h => h) (.tmp 6) rfl rfl rfl ?_)
      refine wpQuiet_nil ?_
      refine wpTakes_l rfl (fun x h => by cases h) (wpq_build rfl rfl ?_)
      refine wpQuiet_nil ?_
      refine wpTakes_l rfl (fun x h => by cases h) (wpq_neq (.tmp 34) (.tmp 35) rfl rfl rfl rfl ?_)
      refine wpQuiet_nil ?_
      refine takes_nil ?_
      refine any_one (fuel := 0) (i := 4) (by kernel_rfl) rfl rfl ?_
      intro K hK
      refine wpl_store HZ1.out p (.tmp 4) (.tmp 33) rfl rfl rfl rfl ?_
      go_wp2
      refine hK.out _ _ (HZ2.out.rowFar (by omega)) ?_
      clear hK K
      refine any_done (by kernel_rfl) ?_
      simp only [List.drop_succ_cons, List.drop_zero]
      go_wp2
      refine bodyPost_ret (ret_f2 rfl rfl rfl HRR.out.1) rfl ?_
      subst hB
      exact ⟨by rw [HF.out.1, HF.out.2]; rfl, HRR.out.2⟩
theorem fieldOf_any {w : World} {v : Value} {l : List Int} (lo hi : Int) (hr : Reads w v l) (hn : l.length ≤ 1048577) (h0 : 0 ≤ lo) (hl : lo ≤ 60) (h1 : hi ≤ 59) : Calls Tryz.prog 195 #[v, .agg #[.int .i64 lo, .int .i64 hi]] w fun e w' => e = .returned (.tuple #[.agg (fldA (fldO lo hi l)), .bool (listB lo hi l)]) ∧ Below w.heap.size w w' := by
  obtain ⟨ao, c, rfl, _⟩ := id hr
  exact fieldOf_try ao _ c l lo hi w hr hn h0 hl h1
end Go.Proofs.YtjmclcjhimcehaaGreatDoor
