/-
  Whether a rule's flags have all of a reach, and whether they have a minute's time: the walks.
-/
import Derived.Test.YtbecdaholpiaeaaDoorRo
import Derived.Test.YtbecdaholpiaeaaDoorEa
namespace Go.Proofs.YtbecdaholpiaeaaDoor
open Go Go.RowKit
set_option linter.unusedVariables false

theorem wpq_loadSub {ops : Array Oper} {C : World → Prop} {Q : Act → Prop} {rest : List Oper} {o : Oper} {a : Act} {b : Nat} {r : Nat → Nat → Bool} (h : ∀ w, C w → Rb w b r) (n : Nat) (hn : n < 5) (x : Operand) (hgd : o.guard = none) (ho : o.op = .load 88 x) (hx : a.eval x = .pointer (some ⟨b, n * 60, none⟩))
    (k : wpQuiet Tryd.prog ops C Q rest (a.put o.dst (.agg (fldA (r n))))) : wpQuiet Tryd.prog ops C Q (o :: rest) a := by
  refine wpq_of _ hgd (fun w hw => ?_) k
  have hl := run_loadVar_mid (P := Tryd.prog) w b (n * 60) 88 (fldA (r n)).toList _ ((h w hw).sub hn) under55 rfl (by rw [Array.length_toList, fldA_size]; exact info55)
  have e : (fldA (r n)).toList.toArray = fldA (r n) := by simp
  rw [e] at hl
  unfold execOp
  simp only [ho, hx, Instr.loadAt, Instr.sureAddr, Sem.run_bind, Sem.run_pure, Result.andThen_ok, hl]
theorem wpr_load_g {ops : Array Oper} {rest : List Oper} {o : Oper} {a : Act} {W : World} {b : Nat} {r : Nat → Nat → Bool} {Q : Exit → Act → World → Prop} (h : Rb W b r) (x : Operand) (hw : Region.wanted o (yielded ops a.tmps) = true) (ho : o.op = .load 90 x) (hx : a.eval x = .pointer (some ⟨b, 0, none⟩))
    (k : wpList Tryd.prog ops Q rest (a.put o.dst (.agg (rulA r))) W) : wpList Tryd.prog ops Q (o :: rest) a W := by
  unfold wpList
  rw [if_pos hw]
  refine .inl ?_
  refine wp_load_mid 90 x ho b 0 hx (rulA r).toList _ h.all under57 rfl (by rw [Array.length_toList, rulA_size]; exact info57) ?_
  rw [listA]
  exact k

set_option maxRecDepth 10000 in
set_option maxHeartbeats 1000000 in
theorem hasAll_2 (r : Nat → Nat → Bool) (w : World) (hg : RchIs w) :
    Calls Tryd.prog 70 #[.agg (rulA r), .int .i64 2] w fun e w' => e = .returned (.bool (fldE (r 2) (eachP 1 31 1))) ∧ Below w.heap.size w w' := by
  have HG : Hid (RchIs w) := hg
  clear hg
  have HE : Hid (∀ W, Calls Tryd.prog 73 #[.agg #[.int .i64 1, .int .i64 31], .int .i64 1] W fun e w' => e = .returned (.agg (fldA (eachP 1 31 1))) ∧ Below W.heap.size W w') := fun W => eachOf_nat 1 1 31 W (by decide) (by decide) (by decide) (by decide)
  go_enter Tryd.func70, Tryd.ntmps70
  go_wp2
  obtain ⟨W, hW⟩ : ∃ W, w.alloc (.cells (rulA r) 90) = W := ⟨_, rfl⟩
  have Z : Rb W w.heap.size r := by rw [← hW]; exact Rb.new _ _ 90 rfl
  have hb : Below w.heap.size w W := by rw [← hW]; exact ba (Below.refl _ _) _
  rw [hW]
  clear hW
  have HZ : Hid (∀ x : Wd W, Rb x.at' w.heap.size r) := fun x => Z.up x.ok
  have q0 := Wd.cell ((HG.out.up hb).at 4 _ rfl)
  have q1 := Wd.cell ((HG.out.up hb).at 5 _ rfl)
  have HB : Hid (∀ x : Wd W, Below w.heap.size w x.at') := fun x => Below.on hb x.ok
  clear Z hb
  refine wp_region_wd (by kernel_rfl) (by kernel_rfl) ?_
  go_big_quiet_step (fail)
  go_big_quiet_step (fail)
  refine wpq_loadSub (fun _ ⟨x, hx⟩ => by rw [hx]; exact HZ.out x) 2 (by decide) (.tmp 6) rfl rfl rfl ?_
  simp only [Act.put, List.setIfInBounds_toArray, List.set_cons_succ, List.set_cons_zero]
  go_big_quiet_step (fail)
  go_big_quiet_step (fail)
  go_big_quiet_step (fail)
  go_big_quiet_step ((go_at_call 73; refine calls_wd (v := .agg (fldA (eachP 1 31 1))) ?_; with_reducible exact HE.out _))
  refine wpq_eql (.tmp 7) (.tmp 11) rfl rfl rfl rfl ?_
  simp only [Act.put, List.setIfInBounds_toArray, List.set_cons_succ, List.set_cons_zero]
  go_big_quiet_step (fail)
  refine wpQuiet_nil ?_
  rintro _ ⟨y, rfl⟩
  go_wp2
  go_ret
  exact ⟨rfl, HB.out y⟩
set_option maxRecDepth 10000 in
set_option maxHeartbeats 1000000 in
theorem hasAll_4 (r : Nat → Nat → Bool) (w : World) (hg : RchIs w) :
    Calls Tryd.prog 70 #[.agg (rulA r), .int .i64 4] w fun e w' => e = .returned (.bool (fldE (r 4) (eachP 0 6 1))) ∧ Below w.heap.size w w' := by
  have HG : Hid (RchIs w) := hg
  clear hg
  have HE : Hid (∀ W, Calls Tryd.prog 73 #[.agg #[.int .i64 0, .int .i64 6], .int .i64 1] W fun e w' => e = .returned (.agg (fldA (eachP 0 6 1))) ∧ Below W.heap.size W w') := fun W => eachOf_nat 0 1 6 W (by decide) (by decide) (by decide) (by decide)
  go_enter Tryd.func70, Tryd.ntmps70
  go_wp2
  obtain ⟨W, hW⟩ : ∃ W, w.alloc (.cells (rulA r) 90) = W := ⟨_, rfl⟩
  have Z : Rb W w.heap.size r := by rw [← hW]; exact Rb.new _ _ 90 rfl
  have hb : Below w.heap.size w W := by rw [← hW]; exact ba (Below.refl _ _) _
  rw [hW]
  clear hW
  have HZ : Hid (∀ x : Wd W, Rb x.at' w.heap.size r) := fun x => Z.up x.ok
  have q0 := Wd.cell ((HG.out.up hb).at 8 _ rfl)
  have q1 := Wd.cell ((HG.out.up hb).at 9 _ rfl)
  have HB : Hid (∀ x : Wd W, Below w.heap.size w x.at') := fun x => Below.on hb x.ok
  clear Z hb
  refine wp_region_wd (by kernel_rfl) (by kernel_rfl) ?_
  go_big_quiet_step (fail)
  go_big_quiet_step (fail)
  refine wpq_loadSub (fun _ ⟨x, hx⟩ => by rw [hx]; exact HZ.out x) 4 (by decide) (.tmp 6) rfl rfl rfl ?_
  simp only [Act.put, List.setIfInBounds_toArray, List.set_cons_succ, List.set_cons_zero]
  go_big_quiet_step (fail)
  go_big_quiet_step (fail)
  go_big_quiet_step (fail)
  go_big_quiet_step ((go_at_call 73; refine calls_wd (v := .agg (fldA (eachP 0 6 1))) ?_; with_reducible exact HE.out _))
  refine wpq_eql (.tmp 7) (.tmp 11) rfl rfl rfl rfl ?_
  simp only [Act.put, List.setIfInBounds_toArray, List.set_cons_succ, List.set_cons_zero]
  go_big_quiet_step (fail)
  refine wpQuiet_nil ?_
  rintro _ ⟨y, rfl⟩
  go_wp2
  go_ret
  exact ⟨rfl, HB.out y⟩

set_option maxRecDepth 10000 in
set_option maxHeartbeats 1000000 in
theorem atTime_any (r : Nat → Nat → Bool) (m : Int) (w : World) (h0 : 0 ≤ m) (h1 : m ≤ 4611686018427387904) :
    Calls Tryd.prog 66 #[.agg (rulA r), .int .i64 m] w fun e w' => e = .returned (.bool (r 1 (m % 1440 / 60).toNat && r 0 (m % 60).toNat)) ∧ Below w.heap.size w w' := by
  obtain ⟨h, hh⟩ : ∃ h : Nat, m % 1440 / 60 = (h : Int) := ⟨(m % 1440 / 60).toNat, by omega⟩
  obtain ⟨i, hi⟩ : ∃ i : Nat, m % 1440 % 60 = (i : Int) := ⟨(m % 1440 % 60).toNat, by omega⟩
  have HE : Hid ((m % 1440 / 60).toNat = h ∧ (m % 60).toNat = i) := ⟨by omega, by omega⟩
  have hlt : h < 24 := by omega
  have ilt : i < 60 := by omega
  rw [HE.out.1, HE.out.2]
  have c1 : (rulA r)[60 + h]? = some (.bool (r 1 h)) := by rw [rulA_at (by omega), show (60 + h) / 60 = 1 by omega, show (60 + h) % 60 = h by omega]
  have c0 : (rulA r)[i]? = some (.bool (r 0 i)) := by rw [rulA_at (by omega), show i / 60 = 0 by omega, show i % 60 = i by omega]
  obtain ⟨q, hq⟩ : ∃ q, r 1 h = q := ⟨_, rfl⟩
  rw [hq] at c1
  rw [hq]
  clear hq
  cases q with
  | false =>
    go_enter Tryd.func66, Tryd.ntmps66
    go_wp2
    go_ret
    exact ⟨rfl, ba (Below.refl _ _) _⟩
  | true =>
    go_enter Tryd.func66, Tryd.ntmps66
    go_wp2
    go_ret
    exact ⟨rfl, ba (Below.refl _ _) _⟩
end Go.Proofs.YtbecdaholpiaeaaDoor
