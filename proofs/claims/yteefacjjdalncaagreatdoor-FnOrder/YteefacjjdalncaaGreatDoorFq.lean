/-
  Flags inside regions that draw their order: read whole, held against each other.
-/
import Derived.Test.YteefacjjdalncaaGreatDoorFb
import Derived.Test.YteefacjjdalncaaGreatDoorTak
namespace Go.Proofs.YteefacjjdalncaaGreatDoor
open Go Go.RowKit

section
variable {ops : Array Oper} {C : World → Prop} {Q : Act → Prop} {rest : List Oper} {o : Oper} {a : Act} {p q : Nat → Bool} {b : Nat} {t : TypeId}
theorem wpq_of {P : Program} (v : Value) (hgd : o.guard = none) (hr : ∀ w, C w → (execOp a.eval o).run P w = .ok (.value v) w) (k : wpQuiet P ops C Q rest (a.put o.dst v)) : wpQuiet P ops C Q (o :: rest) a := by
  unfold wpQuiet
  rw [if_pos (by simp [Region.wanted, hgd])]
  exact ⟨v, fun w hw => by unfold Oper.quietAt; rw [hr w hw]; exact ⟨rfl, rfl⟩, k⟩
theorem wpq_load (h : ∀ w, C w → Fb t w b p) (x : Operand) (hgd : o.guard = none) (ho : o.op = .load 160 x) (hx : a.eval x = .pointer (some ⟨b, 0, none⟩))
    (k : wpQuiet Tryz.prog ops C Q rest (a.put o.dst (.agg (fldA p)))) : wpQuiet Tryz.prog ops C Q (o :: rest) a := by
  refine wpq_of _ hgd (fun w hw => ?_) k
  unfold execOp
  simp only [ho, hx, Instr.loadAt, Instr.sureAddr, Sem.run_bind, Sem.run_pure, Result.andThen_ok, run_loadVar_row (P := Tryz.prog) w b t 160 _ _ _ (h w hw) under55 rfl (by rw [fldA_size]; exact info55)]
theorem cells4 : Tryz.prog.cellsOf 4 = 1 := by kernel_rfl
theorem info4 : ∃ i, Tryz.prog.info? 4 = some i := by
  cases h : Tryz.prog.info? 4 with
  | none => have : (Tryz.prog.info? 4).isSome = true := by kernel_rfl
            rw [h] at this; cases this
  | some i => exact ⟨i, rfl⟩
theorem equal55 (w : World) (p q : Nat → Bool) : (Op.equalIn 10000 160 (.agg (fldA p)) (.agg (fldA q))).run Tryz.prog w = .ok (fldE p q) w := by
  obtain ⟨i, hi⟩ := info4
  exact equal_flags w 9998 under55 hi cells4 Tryz.underlying4 (fun w => Tryz.isAgg4 w) p q
theorem guard_eql (x y : Operand) (u v : Array Value) (w : World) : (eqGuard .eql 160 x y (.agg u) (.agg v)).run Tryz.prog w = .ok () w := by
  simp [eqGuard, go_sem]
theorem guard_neq (x y : Operand) (u v : Array Value) (w : World) : (eqGuard .neq 160 x y (.agg u) (.agg v)).run Tryz.prog w = .ok () w := by
  simp [eqGuard, go_sem]
theorem wpq_eql (x y : Operand) (hgd : o.guard = none) (ho : o.op = .binOp .eql 160 x y 160) (hx : a.eval x = .agg (fldA p)) (hy : a.eval y = .agg (fldA q))
    (k : wpQuiet Tryz.prog ops C Q rest (a.put o.dst (.bool (fldE p q)))) : wpQuiet Tryz.prog ops C Q (o :: rest) a := by
  refine wpq_of _ hgd (fun w hw => ?_) k
  unfold execOp
  simp only [ho, hx, hy, Sem.run_bind, run_eql_struct, guard_eql, equal55, Result.andThen_ok, Sem.run_pure]
theorem wpq_neq (x y : Operand) (hgd : o.guard = none) (ho : o.op = .binOp .neq 160 x y 160) (hx : a.eval x = .agg (fldA p)) (hy : a.eval y = .agg (fldA q))
    (k : wpQuiet Tryz.prog ops C Q rest (a.put o.dst (.bool (!fldE p q)))) : wpQuiet Tryz.prog ops C Q (o :: rest) a := by
  refine wpq_of _ hgd (fun w hw => ?_) k
  unfold execOp
  simp only [ho, hx, hy, Sem.run_bind, run_neq_struct, guard_neq, equal55, Result.andThen_ok, Sem.run_pure]
theorem wpq_build (hgd : o.guard = none) (ho : o.op = .build 160 #[])
    (k : wpQuiet Tryz.prog ops C Q rest (a.put o.dst (.agg (fldA fun _ => false)))) : wpQuiet Tryz.prog ops C Q (o :: rest) a := by
  refine wpq_of _ hgd (fun w hw => ?_) k
  unfold execOp
  have e : (Array.map (fun x : Nat × Operand => (x.fst, a.eval x.snd)) #[]) = #[] := by simp
  have hr := run_build (P := Tryz.prog) w 160 #[] (fldA fun _ => false) built55
  simp only [ho, Sem.run_bind, e, hr, Result.andThen_ok, Sem.run_pure]
end
end Go.Proofs.YteefacjjdalncaaGreatDoor
