/-
  Flags inside regions that draw their order: read whole, held against each other.
-/
import Derived.Test.YtbecdaholpiaeaaDoorFb
import Derived.Test.YtbecdaholpiaeaaDoorRp
namespace Go.Proofs.YtbecdaholpiaeaaDoor
open Go Go.RowKit

theorem wpTakes_l {P : Program} {l : List Oper} {C : World → Prop} {K : Act → Prop} {k : Nat} {ts : List Nat} {a : Act} {o : Oper} (ho : l[k]? = some o) (hn : ∀ x, o.op = .nilCheck x → ∃ p, a.eval x = .pointer (some p)) (h : wpQuiet P l.toArray C (wpTakes P l.toArray C K ts) [o] a) : wpTakes P l.toArray C K (k :: ts) a := by
  refine ⟨fun o' ho' => ?_, ?_⟩
  · have : o' = o := Option.some.inj (ho'.symm.trans (by simpa using ho))
    subst this
    exact hn
  · have ho2 : l.toArray[k]? = some o := by simpa using ho
    unfold qOp
    simp only [ho2]
    exact h
theorem takes_nil {P : Program} {ops : Array Oper} {C : World → Prop} {K : Act → Prop} {a : Act} (h : K a) : wpTakes P ops C K [] a := h
theorem any_one {P : Program} {l : List Oper} {Q : Exit → Act → World → Prop} {C : World → Prop} {R : Act → World → Prop} {L listed : Array Bool} {fuel i : Nat} {o : Oper} {a : Act} {w : World} (hr : Region.ready .any l.toArray listed = [i]) (ho : l[i]? = some o) (hg : o.guard = none)
    (h : ∀ K : Act → World → Prop, Hid (∀ a' w', C w' → wpAnyU P .any l.toArray Q C L R fuel (listed.setIfInBounds i true) a' w' → K a' w') → wpList P l.toArray (Exit.then K Q) [o] a w) : wpAnyU P .any l.toArray Q C L R (fuel + 1) listed a w := wpAnyU_one hr (by simpa using ho) hg h
theorem any_done {P : Program} {ops : Array Oper} {md : Region.Mode} {Q : Exit → Act → World → Prop} {C : World → Prop} {R : Act → World → Prop} {L listed : Array Bool} {a : Act} {w : World} (hl : listed = L) (h : R a w) : wpAnyU P md ops Q C L R 0 listed a w := ⟨hl, h⟩
section
variable {ops : Array Oper} {C : World → Prop} {Q : Act → Prop} {rest : List Oper} {o : Oper} {a : Act} {p q : Nat → Bool} {b : Nat} {t : TypeId}
theorem wpq_of {P : Program} (v : Value) (hgd : o.guard = none) (hr : ∀ w, C w → (execOp a.eval o).run P w = .ok (.value v) w) (k : wpQuiet P ops C Q rest (a.put o.dst v)) : wpQuiet P ops C Q (o :: rest) a := by
  unfold wpQuiet
  rw [if_pos (by simp [Region.wanted, hgd])]
  exact ⟨v, fun w hw => by unfold Oper.quietAt; rw [hr w hw]; exact ⟨rfl, rfl⟩, k⟩
theorem wpq_load (h : ∀ w, C w → Fb t w b p) (x : Operand) (hgd : o.guard = none) (ho : o.op = .load 88 x) (hx : a.eval x = .pointer (some ⟨b, 0, none⟩))
    (k : wpQuiet Tryd.prog ops C Q rest (a.put o.dst (.agg (fldA p)))) : wpQuiet Tryd.prog ops C Q (o :: rest) a := by
  refine wpq_of _ hgd (fun w hw => ?_) k
  unfold execOp
  simp only [ho, hx, Instr.loadAt, Instr.sureAddr, Sem.run_bind, Sem.run_pure, Result.andThen_ok, run_loadVar_row (P := Tryd.prog) w b t 88 _ _ _ (h w hw) under55 rfl (by rw [fldA_size]; exact info55)]
theorem cells4 : Tryd.prog.cellsOf 4 = 1 := by kernel_rfl
theorem info4 : ∃ i, Tryd.prog.info? 4 = some i := by
  cases h : Tryd.prog.info? 4 with
  | none => have : (Tryd.prog.info? 4).isSome = true := by kernel_rfl
            rw [h] at this; cases this
  | some i => exact ⟨i, rfl⟩
theorem equal55 (w : World) (p q : Nat → Bool) : (Op.equalIn 10000 88 (.agg (fldA p)) (.agg (fldA q))).run Tryd.prog w = .ok (fldE p q) w := by
  obtain ⟨i, hi⟩ := info4
  exact equal_flags w 9998 under55 hi cells4 Tryd.underlying4 (fun w => Tryd.isAgg4 w) p q
theorem guard_eql (x y : Operand) (u v : Array Value) (w : World) : (eqGuard .eql 88 x y (.agg u) (.agg v)).run Tryd.prog w = .ok () w := by
  simp [eqGuard, go_sem]
theorem guard_neq (x y : Operand) (u v : Array Value) (w : World) : (eqGuard .neq 88 x y (.agg u) (.agg v)).run Tryd.prog w = .ok () w := by
  simp [eqGuard, go_sem]
theorem wpq_eql (x y : Operand) (hgd : o.guard = none) (ho : o.op = .binOp .eql 88 x y 88) (hx : a.eval x = .agg (fldA p)) (hy : a.eval y = .agg (fldA q))
    (k : wpQuiet Tryd.prog ops C Q rest (a.put o.dst (.bool (fldE p q)))) : wpQuiet Tryd.prog ops C Q (o :: rest) a := by
  refine wpq_of _ hgd (fun w hw => ?_) k
  unfold execOp
  simp only [ho, hx, hy, Sem.run_bind, run_eql_struct, guard_eql, equal55, Result.andThen_ok, Sem.run_pure]
theorem wpq_neq (x y : Operand) (hgd : o.guard = none) (ho : o.op = .binOp .neq 88 x y 88) (hx : a.eval x = .agg (fldA p)) (hy : a.eval y = .agg (fldA q))
    (k : wpQuiet Tryd.prog ops C Q rest (a.put o.dst (.bool (!fldE p q)))) : wpQuiet Tryd.prog ops C Q (o :: rest) a := by
  refine wpq_of _ hgd (fun w hw => ?_) k
  unfold execOp
  simp only [ho, hx, hy, Sem.run_bind, run_neq_struct, guard_neq, equal55, Result.andThen_ok, Sem.run_pure]
theorem wpq_build (hgd : o.guard = none) (ho : o.op = .build 88 #[])
    (k : wpQuiet Tryd.prog ops C Q rest (a.put o.dst (.agg (fldA fun _ => false)))) : wpQuiet Tryd.prog ops C Q (o :: rest) a := by
  refine wpq_of _ hgd (fun w hw => ?_) k
  unfold execOp
  have e : (Array.map (fun x : Nat × Operand => (x.fst, a.eval x.snd)) #[]) = #[] := by simp
  have hr := run_build (P := Tryd.prog) w 88 #[] (fldA fun _ => false) built55
  simp only [ho, Sem.run_bind, e, hr, Result.andThen_ok, Sem.run_pure]
end
end Go.Proofs.YtbecdaholpiaeaaDoor
