/-
  A task is cleared, as the specification does it: the walk.
-/
import Derived.Test.YtjmclcjhimcehaaGreatDoorH7
import Derived.Test.YtjmclcjhimcehaaGreatDoorH6
import Derived.Test.YtjmclcjhimcehaaGreatDoorG28
namespace Go.Proofs.YtjmclcjhimcehaaGreatDoor
open Go Go.RowKit
set_option linter.unusedVariables false

/-- What lies there while states are cleared. -/
structure ClT (w : World) (nm cr : ByteArray) (fr up : Int) (cu : Bool) (tv : Value) (rn : ByteArray) (rf ru re : Int) (rv : Value) (P g rl vc lg ll lc : Nat) (L : List Int) (W : World) (s : List Sa) : Prop where
  bel : Below w.heap.size w W
  dag : P6 W w.heap.size nm cr fr up cu tv
  run : R5 W (w.heap.size + 1) rn rf ru re rv
  res : R5 W (w.heap.size + 1 + 1) ⟨#[]⟩ 0 0 0 (.slice none 0 0)
  out : R5 W P rn rf ru re (.slice (some ⟨g, 0, none⟩) rl vc)
  row : Reads W (.slice (some ⟨lg, 0, none⟩) ll lc) L
  own : ownsR W w.heap.size 85 (.slice (some ⟨g, 0, none⟩) rl vc) s
  far : w.heap.size + 1 + 1 < g
  farP : w.heap.size + 1 + 1 < P
  apart : g ≠ lg
  apartP : g ≠ P
section ClTx
variable {w : World} {nm cr : ByteArray} {fr up : Int} {cu : Bool} {tv : Value} {rn : ByteArray} {rf ru re : Int} {rv : Value} {P g rl vc lg ll lc : Nat} {L : List Int} {W W' : World} {s : List Sa}
theorem ClT.on (h : ClT w nm cr fr up cu tv rn rf ru re rv P g rl vc lg ll lc L W s) (hb : Below W.heap.size W W') : ClT w nm cr fr up cu tv rn rf ru re rv P g rl vc lg ll lc L W' s :=
  ⟨Below.on h.bel hb, h.dag.on hb, h.run.on hb, h.res.on hb, h.out.on hb, h.row.below hb, h.own.all hb, h.far, h.farP, h.apart, h.apartP⟩
theorem ClT.put (h : ClT w nm cr fr up cu tv rn rf ru re rv P g rl vc lg ll lc L W s) {j : Nat} {y : Sa} (hy : s[j]? = some y) (f : Sa) :
    ClT w nm cr fr up cu tv rn rf ru re rv P g rl vc lg ll lc L ((((W.setCell ⟨g, j * 4, none⟩ (.int .i64 f.is)).setCell ⟨g, j * 4 + 1, none⟩ (.int .i64 f.tries)).setCell ⟨g, j * 4 + 2, none⟩ (.int .i64 f.tok)).setCell ⟨g, j * 4 + 3, none⟩ (.int .i64 f.til)) (s.set j f) := by
  have hf := h.far
  have n0 : g ≠ w.heap.size := by omega
  have n1 : g ≠ w.heap.size + 1 := by omega
  have n2 : g ≠ w.heap.size + 1 + 1 := by omega
  have lw : w.heap.size ≤ g := by omega
  exact ⟨(((h.bel.setCell (p := ⟨g, j * 4, none⟩) lw _).setCell (p := ⟨g, j * 4 + 1, none⟩) lw _).setCell (p := ⟨g, j * 4 + 2, none⟩) lw _).setCell (p := ⟨g, j * 4 + 3, none⟩) lw _, (((h.dag.far (a := ⟨g, j * 4, none⟩) n0 _).far (a := ⟨g, j * 4 + 1, none⟩) n0 _).far (a := ⟨g, j * 4 + 2, none⟩) n0 _).far (a := ⟨g, j * 4 + 3, none⟩) n0 _, (((h.run.far (a := ⟨g, j * 4, none⟩) n1 _).far (a := ⟨g, j * 4 + 1, none⟩) n1 _).far (a := ⟨g, j * 4 + 2, none⟩) n1 _).far (a := ⟨g, j * 4 + 3, none⟩) n1 _, (((h.res.far (a := ⟨g, j * 4, none⟩) n2 _).far (a := ⟨g, j * 4 + 1, none⟩) n2 _).far (a := ⟨g, j * 4 + 2, none⟩) n2 _).far (a := ⟨g, j * 4 + 3, none⟩) n2 _, (((h.out.far (a := ⟨g, j * 4, none⟩) h.apartP _).far (a := ⟨g, j * 4 + 1, none⟩) h.apartP _).far (a := ⟨g, j * 4 + 2, none⟩) h.apartP _).far (a := ⟨g, j * 4 + 3, none⟩) h.apartP _, reads_farI (reads_farI (reads_farI (reads_farI h.row h.apart _) h.apart _) h.apart _) h.apart _, sa_put h.own f hy, h.far, h.farP, h.apart, h.apartP⟩
end ClTx
theorem int_one (l : List Int) : ∀ x ∈ l, ∀ u ∈ Rec.cells x, u.oneCell' = true := by
  intro x _ u hu
  simp only [Rec.cells, List.mem_cons, List.not_mem_nil, or_false] at hu
  subst hu
  rfl
set_option maxRecDepth 10000 in
set_option maxHeartbeats 16000000 in
theorem specClearTask_any (ao : Option Addr) (n cap : Nat) (nm cr : ByteArray) (fr up : Int) (cu : Bool) (ts : List Ta) (ro : Option Addr) (rl rc : Nat) (rn : ByteArray) (rf ru re : Int) (st : List Sa) (i : Int) (w : World) (hd : DagAt w (.slice ao n cap) ⟨nm, cr, fr, up, cu, ts⟩) (hr : Reads w (.slice ro rl rc) st) (hl : rl ≤ 1048577) (R : Rr) (HRR : Hid (cleR ⟨nm, cr, fr, up, cu, ts⟩ ⟨rn, rf, ru, re, st⟩ i = R)) :
    Calls Tryz.prog 27 #[.agg #[.string nm, .string cr, .int .i64 fr, .int .i64 up, .bool cu, .slice ao n cap], .agg #[.string rn, .int .i64 rf, .int .i64 ru, .int .i64 re, .slice ro rl rc], .int .i64 i] w fun e w' => ∃ v, e = .returned (.tuple #[.agg #[.string R.nm, .int .i64 R.fr, .int .i64 R.up, .int .i64 R.ep, v], .bool (clearB ⟨nm, cr, fr, up, cu, ts⟩ ⟨rn, rf, ru, re, st⟩ i)]) ∧ ownsR w' w.heap.size 85 v R.st ∧ Below w.heap.size w w' := by
  have HN : Hid (ts.length = n) := by
    obtain ⟨ao', cap', e⟩ := hd.tasks.slice
    injection e with _ e2 _
    exact e2.symm
  have HRN : Hid (st.length = rl) := hr.len.symm
  obtain ⟨q, HQ⟩ : ∃ q, Hid (runB ⟨nm, cr, fr, up, cu, ts⟩ ⟨rn, rf, ru, re, st⟩ = q) := ⟨_, rfl⟩
  have HD : Hid (∀ W, Below w.heap.size w W → Calls Tryz.prog 20 #[.agg #[.string nm, .string cr, .int .i64 fr, .int .i64 up, .bool cu, .slice ao n cap], .agg #[.string rn, .int .i64 rf, .int .i64 ru, .int .i64 re, .slice ro rl rc]] W fun e w' => e = .returned (.bool q) ∧ Below W.heap.size W w') := fun W hb => by
    have := specRunOk_any ao n cap nm cr fr up cu ts ro rl rc rn rf ru re st W (hd.below hb) (hr.below hb) hl
    rw [HQ.out] at this
    exact this
  have HC : Hid (∀ W : World, Below w.heap.size w W → Calls Tryz.prog 57 #[.agg #[.string rn, .int .i64 rf, .int .i64 ru, .int .i64 re, .slice ro rl rc]] W fun e w' => ∃ v, e = .returned (.agg #[.string rn, .int .i64 rf, .int .i64 ru, .int .i64 re, v]) ∧ ownsR w' W.heap.size 85 v st ∧ Below W.heap.size W w') := fun W hb => l14Copy_any ro rl rc rn rf ru re st W (hr.below hb) hl
  have HDI : Hid (∀ W, Below w.heap.size w W → DagAt W (.slice ao n cap) ⟨nm, cr, fr, up, cu, ts⟩) := fun W hb => hd.below hb
  have HRD : Hid (∀ W, Below w.heap.size w W → Reads W (.slice ro rl rc) st) := fun W hb => hr.below hb
  clear hd hr
  obtain ⟨W1, hW1⟩ : ∃ W1, ((w.alloc (.cells #[.string nm, .string cr, .int .i64 fr, .int .i64 up, .bool cu, .slice ao n cap] 36)).alloc (.cells #[.string rn, .int .i64 rf, .int .i64 ru, .int .i64 re, .slice ro rl rc] 31)).alloc (.cells #[.string ⟨#[]⟩, .int .i64 0, .int .i64 0, .int .i64 0, .slice none 0 0] 31) = W1 := ⟨_, rfl⟩
  have Z1 : P6 W1 w.heap.size nm cr fr up cu (.slice ao n cap) := by rw [← hW1]; exact (P6.new _ _ _ _ _ _ _).on (ba (ba (Below.refl _ _) (.cells #[.string rn, .int .i64 rf, .int .i64 ru, .int .i64 re, .slice ro rl rc] 31)) (.cells #[.string ⟨#[]⟩, .int .i64 0, .int .i64 0, .int .i64 0, .slice none 0 0] 31))
  have X1 : R5 W1 (w.heap.size + 1) rn rf ru re (.slice ro rl rc) := by
    rw [← hW1]
    have := (R5.new (w.alloc (.cells #[.string nm, .string cr, .int .i64 fr, .int .i64 up, .bool cu, .slice ao n cap] 36)) rn rf ru re (.slice ro rl rc)).on (ba (Below.refl _ _) (.cells #[.string ⟨#[]⟩, .int .i64 0, .int .i64 0, .int .i64 0, .slice none 0 0] 31))
    simpa using this
  have Y1 : R5 W1 (w.heap.size + 1 + 1) ⟨#[]⟩ 0 0 0 (.slice none 0 0) := by
    rw [← hW1]
    have := R5.new ((w.alloc (.cells #[.string nm, .string cr, .int .i64 fr, .int .i64 up, .bool cu, .slice ao n cap] 36)).alloc (.cells #[.string rn, .int .i64 rf, .int .i64 ru, .int .i64 re, .slice ro rl rc] 31)) ⟨#[]⟩ 0 0 0 (.slice none 0 0)
    simpa using this
  have B1 : Below w.heap.size w W1 := by rw [← hW1]; exact ba (ba (ba (Below.refl _ _) _) _) _
  have c0 := Z1.c0
  have c1 := Z1.c1
  have c2 := Z1.c2
  have c3 := Z1.c3
  have c4 := Z1.c4
  have c5 := Z1.c5
  have x0 := X1.c0
  have x1 := X1.c1
  have x2 := X1.c2
  have x3 := X1.c3
  have x4 := X1.c4
  go_enter Tryz.func27, Tryz.ntmps27
  go_wp2_with fail
  refine (HD.out _ B1).mono ?_
  rintro e w2 ⟨rfl, hb2⟩
  have Z2 := Z1.on hb2
  have X2 := X1.on hb2
  have Y2 := Y1.on hb2
  have B2 := Below.on B1 hb2
  clear c0 c1 c2 c3 c4 c5 x0 x1 x2 x3 x4 Z1 X1 Y1 B1 hb2 HD hW1
  have HCB : Hid (clearB ⟨nm, cr, fr, up, cu, ts⟩ ⟨rn, rf, ru, re, st⟩ i = (q && (decide (0 ≤ i ∧ i < (st.length : Int) ∧ re ≠ 1000) && (!((downC ts i ++ [i]).any fun a => isN st a 1) && !(upsA ts i).any (stuckB st))))) := by show clearB _ _ _ = _; unfold clearB; rw [HQ.out]
  have NOT : Hid (¬ (0 ≤ i ∧ i < (rl : Int) ∧ re ≠ 1000) → clearB ⟨nm, cr, fr, up, cu, ts⟩ ⟨rn, rf, ru, re, st⟩ i = false) := fun h => by
    rw [HCB.out, decide_eq_false (by rw [HRN.out]; exact h)]
    cases q <;> rfl
  cases q with
  | false =>
    have HF : Hid (clearB ⟨nm, cr, fr, up, cu, ts⟩ ⟨rn, rf, ru, re, st⟩ i = false) := HCB.out
    have HR0 : Hid (R = noneR) := by show R = _; rw [← HRR.out]; exact if_neg (by rw [HF.out]; decide)
    have y0 := Y2.c0
    have y1 := Y2.c1
    have y2 := Y2.c2
    have y3 := Y2.c3
    have y4 := Y2.c4
    have yf := Y2.fz
    go_wp2
    refine bodyPost_ret (ret_run2 rfl rfl rfl (Y2.set ⟨#[]⟩ 0 0 0 (.slice none 0 0))) rfl ⟨.slice none 0 0, ?_, ?_, below_putR5 B2 (by omega) ⟨#[]⟩ 0 0 0 (.slice none 0 0)⟩
    · rw [HR0.out, HF.out]; rfl
    · rw [HR0.out]; exact ownsR_nil _ _ _
  | true =>
  have x4 := X2.c4
  obtain ⟨z, hz⟩ : ∃ z, decide (0 ≤ i ∧ i ≤ (rl : Int) - 1) = z := ⟨_, rfl⟩
  have HIN : Hid (∀ W, Calls Tryz.prog 56 #[.int .i64 i, .int .i64 0, .int .i64 ((rl : Int) - 1)] W fun e w' => e = .returned (.bool z) ∧ Below W.heap.size W w') := fun W => inB_any i 0 ((rl : Int) - 1) z hz W
  have HZ : Hid (decide (0 ≤ i ∧ i ≤ (rl : Int) - 1) = z) := hz
  clear hz
  go_wp2_with fail
  refine (HIN.out _).mono ?_
  rintro e w3 ⟨rfl, hb3⟩
  have Z3 := Z2.on hb3
  have X3 := X2.on hb3
  have Y3 := Y2.on hb3
  have B3 := Below.on B2 hb3
  clear x4 Z2 X2 Y2 B2 hb3 HIN
  have x3 := X3.c3
  cases z with
  | false =>
    have HF : Hid (clearB ⟨nm, cr, fr, up, cu, ts⟩ ⟨rn, rf, ru, re, st⟩ i = false) := NOT.out (fun h => by have := of_decide_eq_false HZ.out; omega)
    clear NOT HCB
    have HR0 : Hid (R = noneR) := by show R = _; rw [← HRR.out]; exact if_neg (by rw [HF.out]; decide)
    have y0 := Y3.c0
    have y1 := Y3.c1
    have y2 := Y3.c2
    have y3 := Y3.c3
    have y4 := Y3.c4
    have yf := Y3.fz
    go_wp2
    refine bodyPost_ret (ret_run2 rfl rfl rfl (Y3.set ⟨#[]⟩ 0 0 0 (.slice none 0 0))) rfl ⟨.slice none 0 0, ?_, ?_, below_putR5 B3 (by omega) ⟨#[]⟩ 0 0 0 (.slice none 0 0)⟩
    · rw [HR0.out, HF.out]; rfl
    · rw [HR0.out]; exact ownsR_nil _ _ _
  | true =>
  have hin : 0 ≤ i ∧ i ≤ (rl : Int) - 1 := of_decide_eq_true HZ.out
  clear HZ
  by_cases he : re = 1000
  · have HF : Hid (clearB ⟨nm, cr, fr, up, cu, ts⟩ ⟨rn, rf, ru, re, st⟩ i = false) := NOT.out (fun h => h.2.2 he)
    clear NOT HCB
    subst he
    have HR0 : Hid (R = noneR) := by show R = _; rw [← HRR.out]; exact if_neg (by rw [HF.out]; decide)
    have y0 := Y3.c0
    have y1 := Y3.c1
    have y2 := Y3.c2
    have y3 := Y3.c3
    have y4 := Y3.c4
    have yf := Y3.fz
    go_wp2
    refine bodyPost_ret (ret_run2 rfl rfl rfl (Y3.set ⟨#[]⟩ 0 0 0 (.slice none 0 0))) rfl ⟨.slice none 0 0, ?_, ?_, below_putR5 B3 (by omega) ⟨#[]⟩ 0 0 0 (.slice none 0 0)⟩
    · rw [HR0.out, HF.out]; rfl
    · rw [HR0.out]; exact ownsR_nil _ _ _
  have he2 : (re == 1000) = false := beq_eq_false_iff_ne.2 he
  obtain ⟨k, ei⟩ : ∃ k : Nat, i = (k : Int) := ⟨i.toNat, by omega⟩
  subst ei
  have hk : k < rl := by omega
  have HRUN : Hid (runB ⟨nm, cr, fr, up, cu, ts⟩ ⟨rn, rf, ru, re, st⟩ = true) := HQ.out
  have hln : rl = n := by have := run_len HRUN.out; rw [← HRN.out, ← HN.out]; exact this
  have HDG : Hid (dagB ⟨nm, cr, fr, up, cu, ts⟩ = true) := (run_parts HRUN.out).1
  have HEP : Hid (0 ≤ re ∧ re ≤ 1000) := by
    have h1 := of_decide_eq_true (run_parts HRUN.out).2.1
    exact ⟨h1.2.2.1, h1.2.2.2.1⟩
  subst hln
  have HRG3 : Hid (Rg4 ts) := rg_of HDG.out
  have HDE : Hid (dnD ⟨nm, cr, fr, up, cu, ts⟩ (k : Int) = downC ts (k : Int)) := by show dnD _ _ = _; unfold dnD; rw [HDG.out, if_pos rfl]
  have HDN : Hid (∀ W, Below w.heap.size w W → Calls Tryz.prog 66 #[.agg #[.string nm, .string cr, .int .i64 fr, .int .i64 up, .bool cu, .slice ao rl cap], .int .i64 k] W fun e w' => ∃ v, e = .returned v ∧ ownsR w' W.heap.size 3 v (downC ts (k : Int)) ∧ Below W.heap.size W w') := fun W hb => by
    have := specDown_any ao rl cap nm cr fr up cu ts (k : Int) W (HDI.out W hb)
    rw [HDE.out] at this
    exact this
  have HDL : Hid ((downC ts (k : Int)).length ≤ 4) := by have := dnD_len ⟨nm, cr, fr, up, cu, ts⟩ (k : Int); rw [HDE.out] at this; exact this
  have HDP : Hid (∀ a ∈ downC ts (k : Int), ∃ j : Nat, a = (j : Int) ∧ j < rl) := fun a ha => by obtain ⟨j, e, hj⟩ := down_pl ha; exact ⟨j, e, by rw [← HN.out]; exact hj⟩
  obtain ⟨A2, HA2⟩ : ∃ x, Hid ((upsA ts (k : Int)).any (stuckB st) = x) := ⟨_, rfl⟩
  have HCB2 : Hid (clearB ⟨nm, cr, fr, up, cu, ts⟩ ⟨rn, rf, ru, re, st⟩ (k : Int) = (!(((k : Int) :: downC ts (k : Int)).any fun a => isN st a 1) && !A2)) := by
    show clearB _ _ _ = _
    rw [HCB.out, decide_eq_true (by rw [HRN.out]; exact ⟨by omega, by omega, he⟩), HA2.out]
    show (!((downC ts (k : Int) ++ [(k : Int)]).any fun a => isN st a 1) && !A2) = _
    rw [List.any_append, List.any_cons, List.any_cons, List.any_nil, Bool.or_false, Bool.or_comm]
  have HCS2 : Hid (clearS ⟨nm, cr, fr, up, cu, ts⟩ ⟨rn, rf, ru, re, st⟩ (k : Int) = blockL ts (clearL st ((k : Int) :: downC ts (k : Int)))) := by
    show blockL ts (clearL st (downC ts (k : Int) ++ [(k : Int)])) = _
    rw [clearL_comm]
  have HUP : Hid (∀ W, Below w.heap.size w W → Calls Tryz.prog 65 #[.agg #[.string nm, .string cr, .int .i64 fr, .int .i64 up, .bool cu, .slice ao rl cap], .agg #[.string rn, .int .i64 rf, .int .i64 ru, .int .i64 re, .slice ro rl rc], .int .i64 k] W fun e w' => e = .returned (.tuple #[.bool (!(upsA ts (k : Int)).any (undoneB st)), .bool A2]) ∧ Below W.heap.size W w') := fun W hb => by
    have := l14Ups_any ao rl cap nm cr fr up cu ts ro rl rc rn rf ru re st k W (HDI.out W hb).tasks HRG3.out hk (HRD.out W hb) rfl
    rw [HA2.out] at this
    exact this
  obtain ⟨A3, HA3⟩ : ∃ x, Hid ((!(upsA ts (k : Int)).any (undoneB st)) = x) := ⟨_, rfl⟩
  rw [HA3.out] at HUP
  obtain ⟨D9, HD9⟩ : ∃ x, Hid (downC ts (k : Int) = x) := ⟨_, rfl⟩
  rw [HD9.out] at HDN HDL HDP HCB2 HCS2
  clear HCB NOT HDE HD9 he HA2 HA3
  have c0 := Z3.c0
  have c1 := Z3.c1
  have c2 := Z3.c2
  have c3 := Z3.c3
  have c4 := Z3.c4
  have c5 := Z3.c5
  have x0 := X3.c0
  have x1 := X3.c1
  have x2 := X3.c2
  have x4 := X3.c4
  go_wp2_with fail
  refine (HUP.out _ B3).mono ?_
  rintro e w4 ⟨rfl, hb4⟩
  have Z4 := Z3.on hb4
  have X4 := X3.on hb4
  have Y4 := Y3.on hb4
  have B4 := Below.on B3 hb4
  clear c0 c1 c2 c3 c4 c5 x0 x1 x2 x3 x4 Z3 X3 Y3 B3 hb4 HUP
  obtain ⟨W5, hW5⟩ : ∃ V, w4.alloc (.cells #[.int .i64 k] 3) = V := ⟨_, rfl⟩
  have hb5 : Below w4.heap.size w4 W5 := by rw [← hW5]; exact ba (Below.refl _ _) _
  have Z5 := Z4.on hb5
  have X5 := X4.on hb5
  have Y5 := Y4.on hb5
  have B5 := Below.on B4 hb5
  have hl4 := Y4.lt
  have HO5 : Hid (ownsR W5 w.heap.size 3 (.slice (some ⟨w4.heap.size, 0, none⟩) 1 1) [(k : Int)]) := by
    show World.ownsRow W5 w.heap.size 3 1 (.slice (some ⟨w4.heap.size, 0, none⟩) 1 1) 1 [.int .i64 (k : Int)]
    rw [← hW5]
    exact ⟨by simp, .inr ⟨w4.heap.size, 1, #[.int .i64 k], rfl, B4.size, heap_alloc_new w4 _, Nat.le_refl _, by decide, by simp, by simp⟩⟩
  clear Z4 X4 Y4 hb5
  have c0 := Z5.c0
  have c1 := Z5.c1
  have c2 := Z5.c2
  have c3 := Z5.c3
  have c4 := Z5.c4
  have c5 := Z5.c5
  go_wp2_with fail
  refine (HDN.out _ B5).mono ?_
  rintro e w6 ⟨v6, rfl, ho6, hb6⟩
  have Z6 := Z5.on hb6
  have X6 := X5.on hb6
  have Y6 := Y5.on hb6
  have B6 := Below.on B5 hb6
  have HO6 : Hid (ownsR w6 w.heap.size 3 (.slice (some ⟨w4.heap.size, 0, none⟩) 1 1) [(k : Int)]) := HO5.out.all hb6
  have HR6 : Hid (Reads w6 v6 D9) := ho6.reads
  obtain ⟨va, vc6, ev⟩ := ho6.slice
  subst ev
  obtain ⟨dl, HDL2⟩ : ∃ x, Hid (D9.length = x) := ⟨_, rfl⟩
  have hdl : dl ≤ 4 := by rw [← HDL2.out]; exact HDL.out
  rw [HDL2.out] at HR6
  rw [HDL2.out]
  have HLN : Hid ([(k : Int)].length + D9.length ≤ 1048577) := by show _ ≤ _; rw [HDL2.out]; simp; omega
  clear c0 c1 c2 c3 c4 c5 Z5 X5 Y5 B5 hb6 HO5 ho6 HDN hW5 HDL
  go_wp2_with (at_builtin; refine wpList_append_recs rfl (.tmp 40) (.tmp 43) 90 rfl w.heap.size 3 _ 8 underI info3 rfl _ (.slice va dl vc6) [(k : Int)] D9 (by rfl) (by rfl) HO6.out HR6.out (int_one _) HLN.out (by decide) B6.size ?_)
  intro v7 w7 ho7 hg7
  have Z7 : P6 w7 w.heap.size nm cr fr up cu (.slice ao rl cap) := Z6.grown hg7 (by simp [Value.ownBlock]; omega)
  have X7 : R5 w7 (w.heap.size + 1) rn rf ru re (.slice ro rl rc) := X6.grown hg7 (by simp [Value.ownBlock]; omega)
  have Y7 : R5 w7 (w.heap.size + 1 + 1) ⟨#[]⟩ 0 0 0 (.slice none 0 0) := Y6.grown hg7 (by simp [Value.ownBlock]; omega)
  have B7 : Below w.heap.size w w7 := B6.grown hg7 B6.size (by simp [Value.ownBlock]; omega)
  obtain ⟨L, HL⟩ : ∃ L, Hid ((k : Int) :: D9 = L) := ⟨_, rfl⟩
  have ho7' : ownsR w7 w.heap.size 3 v7 L := by rw [← HL.out]; exact ho7
  have HLL : Hid (L.length = dl + 1) := by show L.length = _; rw [← HL.out, List.length_cons, HDL2.out]
  have HLP : Hid (∀ a ∈ L, ∃ j : Nat, a = (j : Int) ∧ j < rl) := fun a ha => by
    rw [← HL.out, List.mem_cons] at ha
    rcases ha with rfl | ha
    · exact ⟨k, rfl, hk⟩
    · exact HDP.out a ha
  rw [HL.out] at HCB2 HCS2
  obtain ⟨lg, lc, el⟩ : ∃ lg lc, v7 = .slice (some ⟨lg, 0, none⟩) L.length lc := by
    rcases ho7'.2 with ⟨_, h0⟩ | ⟨g, cap, cur, e, _⟩
    · have := HLL.out; omega
    · exact ⟨g, cap, e⟩
  subst el
  have hlg7 : lg < w7.heap.size := (ho7'.lt lg rfl).2
  have HR7 : Hid (Reads w7 (.slice (some ⟨lg, 0, none⟩) L.length lc) L) := ho7'.reads
  rw [HLL.out] at HR7
  rw [HLL.out]
  clear ho7 ho7' hg7 Z6 X6 Y6 B6 HO6 HR6 HLN HDP HDL2 HL hl4 B4
  obtain ⟨ll, hll⟩ : ∃ ll, dl + 1 = ll := ⟨_, rfl⟩
  have hl5 : ll ≤ 5 := by omega
  rw [hll] at HR7 HLL
  rw [hll]
  clear hll hdl
  have x0 := X7.c0
  have x1 := X7.c1
  have x2 := X7.c2
  have x3 := X7.c3
  have x4 := X7.c4
  go_wp2_with fail
  refine (HC.out _ B7).mono ?_
  rintro e w8 ⟨v8, rfl, ho8, hb8⟩
  have Z8 := Z7.on hb8
  have X8 := X7.on hb8
  have Y8 := Y7.on hb8
  have B8 := Below.on B7 hb8
  obtain ⟨xk, hxk⟩ : ∃ x, st[k]? = some x := ⟨_, List.getElem?_eq_getElem (by rw [HRN.out]; exact hk)⟩
  obtain ⟨g, vc, ev, hg1, hg2, hvc⟩ := own_some ho8 hxk
  have hgl : w.heap.size + 1 + 1 < g := Nat.lt_of_lt_of_le Y7.lt hg1
  have hPl : w.heap.size + 1 + 1 < w8.heap.size := Y8.lt
  have hgg : g ≠ lg := by omega
  have hgP : g ≠ w8.heap.size := by omega
  have HR8 : Hid (Reads w8 (.slice (some ⟨lg, 0, none⟩) ll lc) L) := HR7.out.below hb8
  have HO8 : Hid (ownsR w8 w.heap.size 85 v8 st) := ho8.mono B7.size
  clear x0 x1 x2 x3 x4 Z7 X7 Y7 B7 hb8 HC ho8 hg1 hxk HR7
  subst ev
  rw [HRN.out] at HO8 hvc
  rw [HRN.out]
  have CS : Hid (ClT w nm cr fr up cu (.slice ao rl cap) rn rf ru re (.slice ro rl rc) w8.heap.size g rl vc lg ll lc L (w8.alloc (.cells #[.string rn, .int .i64 rf, .int .i64 ru, .int .i64 re, .slice (some ⟨g, 0, none⟩) rl vc] 31)) st) :=
    ⟨ba B8 _, Z8.on (ba (Below.refl _ _) _), X8.on (ba (Below.refl _ _) _), Y8.on (ba (Below.refl _ _) _), R5.new _ _ _ _ _ _, HR8.out.below (ba (Below.refl _ _) _), HO8.out.alloc _, hgl, hPl, hgg, hgP⟩
  obtain ⟨P, HP⟩ : ∃ P, Hid (w8.heap.size = P) := ⟨_, rfl⟩
  rw [HP.out] at CS
  have hep := HEP.out
  have HBR : Hid (∀ W, Below w.heap.size w W → Reads W (.slice (some ⟨g, 0, none⟩) rl vc) (clearL st L) → Calls Tryz.prog 58 #[.agg #[.string nm, .string cr, .int .i64 fr, .int .i64 up, .bool cu, .slice ao rl cap], .agg #[.string rn, .int .i64 rf, .int .i64 ru, .int .i64 (re + 1), .slice (some ⟨g, 0, none⟩) rl vc]] W fun e w' => ∃ (va : Option Addr) (vd : Nat), e = .returned (.agg #[.string rn, .int .i64 rf, .int .i64 ru, .int .i64 (re + 1), .slice va rl vd]) ∧ ownsR w' W.heap.size 85 (.slice va rl vd) (blockL ts (clearL st L)) ∧ Below W.heap.size W w') := fun W hb hrd => by
    have hlen : (clearL st L).length = rl := by rw [clearL_len]; exact HRN.out
    have hbl : Hid (blkR ⟨nm, cr, fr, up, cu, ts⟩ ⟨rn, rf, ru, re + 1, clearL st L⟩ = ⟨rn, rf, ru, re + 1, blockL ts (clearL st L)⟩) := by
      show Rr.mk rn rf ru (re + 1) (blockR ⟨nm, cr, fr, up, cu, ts⟩ _) = _
      unfold blockR
      rw [if_pos ⟨HDG.out, by show (clearL st L).length = ts.length; rw [hlen]; exact HN.out.symm⟩]
    refine (specBlockRest_any ao rl cap nm cr fr up cu ts (some ⟨g, 0, none⟩) rl vc rn rf ru (re + 1) (clearL st L) W (HDI.out W hb) hrd hl _ hbl).mono fun e w' ⟨v, he, ho, hb2⟩ => ?_
    obtain ⟨va, vd, ev⟩ := ho.slice
    have h2 : (blockL ts (clearL st L)).length = rl := by rw [blockL_len, hlen]
    rw [show (Rr.st ⟨rn, rf, ru, re + 1, blockL ts (clearL st L)⟩).length = rl from h2] at ev
    subst ev
    exact ⟨va, vd, he, ho, hb2⟩
  clear Z8 X8 Y8 B8 HO8 HR8 HDG HRUN HQ HEP HRG3 hgl hPl hgg hgP hg2 hlg7
  go_wp2_with fail
  rw [HP.out]
  clear HP
  go_loopw [12] (fun iv wr => ∃ j : Nat, j ≤ ll ∧ iv = .int .i64 j ∧ Hid (((L.take j).any fun a => isN st a 1) = false) ∧ Hid (ClT w nm cr fr up cu (.slice ao rl cap) rn rf ru re (.slice ro rl rc) P g rl vc lg ll lc L wr (clearL st (L.take j)))) (fun iv _ => ll - (intOf iv).toNat)
  case atStart => exact ⟨0, Nat.zero_le _, rfl, rfl, CS.out⟩
  case round =>
    clear CS
    obtain ⟨j, hj, rfl, HAN, CW⟩ := hrel
    by_cases hlt : j < ll
    · obtain ⟨a, ha⟩ : ∃ a, L[j]? = some a := ⟨_, List.getElem?_eq_getElem (by rw [HLL.out]; exact hlt)⟩
      obtain ⟨m, ea, hm⟩ := HLP.out a (List.mem_of_getElem? ha)
      subst ea
      obtain ⟨b9, o9, e9, hb9, r0⟩ := int_at CW.out.row ha
      injection e9 with e9
      injection e9 with e9 e10 _
      subst e9 e10
      rw [Nat.zero_add] at r0
      obtain ⟨x, hx⟩ : ∃ x, st[m]? = some x := ⟨_, List.getElem?_eq_getElem (by rw [HRN.out]; exact hm)⟩
      obtain ⟨bs, os, es, hbs, s0, -, -, -⟩ := sa_at (HRD.out wr CW.out.bel) hx
      subst es
      have hcl : (clearL st (L.take j)).length = rl := by rw [clearL_len]; exact HRN.out
      obtain ⟨y, hy⟩ : ∃ y, (clearL st (L.take j))[m]? = some y := ⟨_, List.getElem?_eq_getElem (by rw [hcl]; exact hm)⟩
      have HY : Hid ((clearL st (L.take j))[m]? = some y) := hy
      have HTK : Hid (clearL st (L.take (j + 1)) = (clearL st (L.take j)).set m ⟨0, 0, 0, 0⟩ ∧ ((L.take (j + 1)).any fun a => isN st a 1) = isN st (m : Int) 1) := by
        constructor
        · rw [List.take_add_one, ha]
          unfold clearL
          rw [Option.toList_some, List.foldl_append]
          rfl
        · rw [List.take_add_one, ha, Option.toList_some, List.any_append, HAN.out]
          simp
      have HIS : Hid (isN st (m : Int) 1 = decide (x.is = 1)) := isN_in hx 1
      have HMEM : Hid ((m : Int) ∈ L) := List.mem_of_getElem? ha
      have qk := Wd.cell CW.out.run.c4
      have qr := Wd.cell r0
      have qs := Wd.cell s0
      clear hy hcl ha hx
      by_cases hrun : x.is = 1
      · have HF : Hid (clearB ⟨nm, cr, fr, up, cu, ts⟩ ⟨rn, rf, ru, re, st⟩ (k : Int) = false) := by
          show clearB _ _ _ = false
          rw [HCB2.out, show (L.any fun a => isN st a 1) = true from List.any_eq_true.2 ⟨_, HMEM.out, by rw [HIS.out]; exact decide_eq_true hrun⟩]
          rfl
        have hrun2 : (x.is == 1) = true := beq_iff_eq.2 hrun
        clear hrun HCB2 HCS2
        go_wp2_with fail
        refine wp_region_wd (by kernel_rfl) (by kernel_rfl) ?_
        repeat (go_big_quiet_step (fail))
        refine wpQuiet_nil ?_
        rintro _ ⟨y9, rfl⟩
        have CY := CW.out.on y9.ok
        have Y9 := CY.res
        have B9 := CY.bel
        clear CW qk qr qs r0 s0
        have HR0 : Hid (R = noneR) := by show R = _; rw [← HRR.out]; exact if_neg (by rw [HF.out]; decide)
        have y0 := Y9.c0
        have y1 := Y9.c1
        have y2 := Y9.c2
        have y3 := Y9.c3
        have y4 := Y9.c4
        have yf := Y9.fz
        go_wp2
        refine bodyPost_ret (ret_run2 rfl rfl rfl (Y9.set ⟨#[]⟩ 0 0 0 (.slice none 0 0))) rfl ⟨.slice none 0 0, ?_, ?_, below_putR5 B9 (by omega) ⟨#[]⟩ 0 0 0 (.slice none 0 0)⟩
        · rw [HR0.out, HF.out]; rfl
        · rw [HR0.out]; exact ownsR_nil _ _ _
      · have HNB : Hid (((L.take (j + 1)).any fun a => isN st a 1) = false) := by
          show (List.any _ _) = false
          rw [HTK.out.2, HIS.out]
          exact decide_eq_false hrun
        have hrun2 : (x.is == 1) = false := beq_eq_false_iff_ne.2 hrun
        clear hrun
        go_wp2_with fail
        refine wp_region_wd (by kernel_rfl) (by kernel_rfl) ?_
        repeat (go_big_quiet_step (fail))
        refine wpQuiet_nil ?_
        rintro _ ⟨y9, rfl⟩
        have CY : Hid (ClT w nm cr fr up cu (.slice ao rl cap) rn rf ru re (.slice (some ⟨bs, os, none⟩) rl rc) P g rl vc lg ll lc L y9.at' (clearL st (L.take j))) := CW.out.on y9.ok
        obtain ⟨W9, hW9⟩ : ∃ W, y9.at' = W := ⟨_, rfl⟩
        rw [hW9] at CY
        have r1 : W9.cell? ⟨lg, j, none⟩ = some (.int .i64 m) := by rw [← hW9]; exact (y9.ok.cell (p := ⟨lg, j, none⟩) (World.block_lt_of_cell? wr _ r0)).trans r0
        rw [hW9]
        clear CW qk qr qs r0 s0 hW9
        obtain ⟨hg7, ⟨d0, d1, d2, d3⟩, df0, df1, df2, df3⟩ := sa_own CY.out.own HY.out
        have k4 := CY.out.out.c4
        have CN : Hid (ClT w nm cr fr up cu (.slice ao rl cap) rn rf ru re (.slice (some ⟨bs, os, none⟩) rl rc) P g rl vc lg ll lc L ((((W9.setCell ⟨g, m * 4, none⟩ (.int .i64 0)).setCell ⟨g, m * 4 + 1, none⟩ (.int .i64 0)).setCell ⟨g, m * 4 + 2, none⟩ (.int .i64 0)).setCell ⟨g, m * 4 + 3, none⟩ (.int .i64 0)).drew (clearL st (L.take (j + 1)))) := by
          have h := (CY.out.put HY.out ⟨0, 0, 0, 0⟩).on (Below.refl _ _).drew
          show ClT _ _ _ _ _ _ _ _ _ _ _ _ _ _ _ _ _ _ _ _ _ _
          rw [HTK.out.1]
          exact h
        obtain ⟨y0, y1, y2, y3⟩ := y
        dsimp only at d0 d1 d2 d3
        clear CY HY HTK HIS HMEM HAN
        go_wp2_with fail
        go_region
        go_wp2
        go_roundw
        case rel => exact ⟨j + 1, by omega, by go_num, HNB, CN⟩
        case measure => simp [intOf]; omega
    · have ejl : j = ll := by omega
      have CE : Hid (ClT w nm cr fr up cu (.slice ao rl cap) rn rf ru re (.slice ro rl rc) P g rl vc lg ll lc L wr (clearL st L)) := by
        have h := CW.out
        rw [List.take_of_length_le (by rw [HLL.out, ejl]; exact Nat.le_refl _)] at h
        exact h
      have HAN2 : Hid ((L.any fun a => isN st a 1) = false) := by
        have h := HAN.out
        rw [List.take_of_length_le (by rw [HLL.out, ejl]; exact Nat.le_refl _)] at h
        exact h
      have HF : Hid (clearB ⟨nm, cr, fr, up, cu, ts⟩ ⟨rn, rf, ru, re, st⟩ (k : Int) = !A2) := by show clearB _ _ _ = _; rw [HCB2.out, HAN2.out]; rfl
      have fP := CE.out.farP
      have p0 : P ≠ w.heap.size := by omega
      have p1 : P ≠ w.heap.size + 1 := by omega
      have p2 : P ≠ w.heap.size + 1 + 1 := by omega
      obtain ⟨W9, HW9⟩ : ∃ W, Hid (wr.setCell ⟨P, 3, none⟩ (.int .i64 (re + 1)) = W) := ⟨_, rfl⟩
      have Z9 : P6 W9 w.heap.size nm cr fr up cu (.slice ao rl cap) := by rw [← HW9.out]; exact CE.out.dag.far (a := ⟨P, 3, none⟩) p0 _
      have Y9 : R5 W9 (w.heap.size + 1 + 1) ⟨#[]⟩ 0 0 0 (.slice none 0 0) := by rw [← HW9.out]; exact CE.out.res.far (a := ⟨P, 3, none⟩) p2 _
      have X9 : R5 W9 P rn rf ru (re + 1) (.slice (some ⟨g, 0, none⟩) rl vc) := by rw [← HW9.out]; exact CE.out.out.s3 (re + 1)
      have B9 : Below w.heap.size w W9 := by rw [← HW9.out]; exact CE.out.bel.setCell (p := ⟨P, 3, none⟩) (by show w.heap.size ≤ P; omega) _
      have HO9 : Hid (ownsR W9 w.heap.size 85 (.slice (some ⟨g, 0, none⟩) rl vc) (clearL st L)) := by
        show ownsR _ _ _ _ _
        rw [← HW9.out]
        exact grown_put (w' := wr) CE.out.own _ (not_rowR5 CE.out.out CE.out.own)
      have k3 := CE.out.run.c3
      have o3 := CE.out.out.c3
      have of := CE.out.out.fz
      have hw1 : IntKind.i64.wrap (re + 1) = re + 1 := by rw [IntKind.wrap_i64]; omega
      clear CW CE HAN HAN2 HCB2
      cases A2 with
      | true =>
        have HF2 : Hid (clearB ⟨nm, cr, fr, up, cu, ts⟩ ⟨rn, rf, ru, re, st⟩ (k : Int) = false) := HF.out
        clear HF
        have HF : Hid (clearB ⟨nm, cr, fr, up, cu, ts⟩ ⟨rn, rf, ru, re, st⟩ (k : Int) = false) := HF2.out
        clear HF2 HCS2
        have HR0 : Hid (R = noneR) := by show R = _; rw [← HRR.out]; exact if_neg (by rw [HF.out]; decide)
        have y0 := Y9.c0
        have y1 := Y9.c1
        have y2 := Y9.c2
        have y3 := Y9.c3
        have y4 := Y9.c4
        have yf := Y9.fz
        have hW9 := HW9.out
        go_wp2
        refine bodyPost_ret (ret_run2 rfl rfl rfl (Y9.set ⟨#[]⟩ 0 0 0 (.slice none 0 0))) rfl ⟨.slice none 0 0, ?_, ?_, below_putR5 B9 (by omega) ⟨#[]⟩ 0 0 0 (.slice none 0 0)⟩
        · rw [HR0.out, HF.out]; rfl
        · rw [HR0.out]; exact ownsR_nil _ _ _
      | false =>
        have HF2 : Hid (clearB ⟨nm, cr, fr, up, cu, ts⟩ ⟨rn, rf, ru, re, st⟩ (k : Int) = true) := HF.out
        have HR0 : Hid (R = ⟨rn, rf, ru, re + 1, blockL ts (clearL st L)⟩) := by show R = _; rw [← HRR.out]; unfold cleR; rw [HF2.out, if_pos rfl]; show Rr.mk rn rf ru (re + 1) (clearS ⟨nm, cr, fr, up, cu, ts⟩ ⟨rn, rf, ru, re, st⟩ (k : Int)) = _; rw [HCS2.out]
        clear HF HCS2 HRR
        have c0 := Z9.c0
        have c1 := Z9.c1
        have c2 := Z9.c2
        have c3 := Z9.c3
        have c4 := Z9.c4
        have c5 := Z9.c5
        have x0 := X9.c0
        have x1 := X9.c1
        have x2 := X9.c2
        have x3 := X9.c3
        have x4 := X9.c4
        have hW9 := HW9.out
        go_wp2_with fail
        refine (HBR.out _ B9 HO9.out.reads).mono ?_
        rintro e wt ⟨va9, vd9, rfl, ho9, hb9⟩
        have Yt := Y9.on hb9
        have Bt := Below.on B9 hb9
        have HOt : Hid (ownsR wt w.heap.size 85 (.slice va9 rl vd9) (blockL ts (clearL st L))) := ho9.mono B9.size
        clear c0 c1 c2 c3 c4 c5 x0 x1 x2 x3 x4 hb9 ho9 HBR hW9 HW9 Z9 X9 Y9 B9 HO9 k3 o3 of
        have y0 := Yt.c0
        have y1 := Yt.c1
        have y2 := Yt.c2
        have y3 := Yt.c3
        have y4 := Yt.c4
        have yf := Yt.fz
        go_wp2
        refine bodyPost_ret (ret_run2 rfl rfl rfl (Yt.set rn rf ru (re + 1) (.slice va9 rl vd9))) rfl ⟨.slice va9 rl vd9, ?_, ?_, below_putR5 Bt (by omega) rn rf ru (re + 1) _⟩
        · rw [HR0.out, HF2.out]; rfl
        · rw [HR0.out]; exact own_putR5 HOt.out (not_rowR5 Yt HOt.out) rn rf ru (re + 1) _
end Go.Proofs.YtjmclcjhimcehaaGreatDoor
