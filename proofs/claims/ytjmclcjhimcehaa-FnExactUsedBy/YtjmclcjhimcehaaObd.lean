/-
  A board that came in as an argument, opened.
-/
import Derived.Test.YtjmclcjhimcehaaBdh
import Derived.Test.YtjmclcjhimcehaaOdg
import Derived.Test.YtjmclcjhimcehaaOrn
namespace Go.Proofs.Ytjmclcjhimcehaa
open Go Go.RowKit Go.ChangeShapes Go.WideShapes
set_option linter.unusedVariables false

theorem cellsSe : Try.prog.cellsOf 86 = 3 := by kernel_rfl
theorem cellsPl : Try.prog.cellsOf 92 = 9 := by kernel_rfl
theorem cellsBd : Try.prog.cellsOf 35 = 5 := by kernel_rfl
theorem cellsSeS : Try.prog.cellsOf 31 = 1 := by kernel_rfl
theorem cellsPlS : Try.prog.cellsOf 32 = 1 := by kernel_rfl
theorem cellsRkS : Try.prog.cellsOf 33 = 1 := by kernel_rfl
theorem len9 {α : Type} {l : List α} (h : l.length = 9) : ∃ a b c d e f g i j, l = [a, b, c, d, e, f, g, i, j] := by
  match l, h with
  | [a, b, c, d, e, f, g, i, j], _ => exact ⟨a, b, c, d, e, f, g, i, j, rfl⟩
theorem rtrod3 {H : Type} {enc : TypeId × Value → H} {P : Program} {w : World} {base : Nat} {spare : Nat → Bool} {held : Bool} {t : TypeId} {f0 f1 f2 : Field} {fuel : Nat} {cs : List Value} {x : DataW H × List MemPlace} (ht : P.underlying t = some (.struct #[f0, f1, f2])) (h : DataW.trod enc P w base spare held fuel t cs = some x) :
    ∃ y0 y1 y2 n, cs.length = P.cellsOf t ∧ DataW.trod enc P w base spare held n f0.type ((cs.drop f0.offset).take (P.cellsOf f0.type)) = some y0 ∧
      DataW.trod enc P w base spare held n f1.type ((cs.drop f1.offset).take (P.cellsOf f1.type)) = some y1 ∧ DataW.trod enc P w base spare held n f2.type ((cs.drop f2.offset).take (P.cellsOf f2.type)) = some y2 := by
  obtain ⟨xs, n, _, rfl, hl, hlen, hf⟩ := DataW.trod_struct ht h
  match xs, hlen with
  | [y0, y1, y2], _ => exact ⟨y0, y1, y2, n, hl, by simpa using hf 0 f0 rfl, by simpa using hf 1 f1 rfl, by simpa using hf 2 f2 rfl⟩
theorem plains_of {κ τ : Type} {R : κ → τ → Prop} : ∀ l : List κ, (∀ r ∈ l, ∃ t, R r t) → ∃ ts : List τ, ts.length = l.length ∧ ∀ (i : Nat) (t : τ), ts[i]? = some t → ∃ r, l[i]? = some r ∧ R r t
  | [], _ => ⟨[], rfl, fun i t h => by simp at h⟩
  | r :: l, h => by
    obtain ⟨t, ht⟩ := h r (List.mem_cons_self ..)
    obtain ⟨ts, h1, h2⟩ := plains_of l (fun x hx => h x (List.mem_cons_of_mem _ hx))
    refine ⟨t :: ts, by simp [h1], fun i u hu => ?_⟩
    cases i with
    | zero => simp at hu; subst hu; exact ⟨r, rfl, ht⟩
    | succ i => simp at hu; obtain ⟨x, hx, ho⟩ := h2 i u hu; exact ⟨x, by simpa using hx, ho⟩
theorem drow_of {κ τ : Type} [Rec κ] {One : World → κ → τ → Prop} {Fit : τ → Prop} {w : World} {v : Value} {l : List κ} (hr : Reads w v l) (hG : ∀ r ∈ l, ∃ t, One w r t ∧ Fit t) : ∃ ts : List τ, DRow One w v ts ∧ ∀ t ∈ ts, Fit t := by
  obtain ⟨ts, h1, h2⟩ := plains_of (R := fun r t => One w r t ∧ Fit t) l hG
  refine ⟨ts, ⟨l, hr, h1.symm, fun i t ht => ?_⟩, fun t ht => ?_⟩
  · obtain ⟨r, hr, ho, _⟩ := h2 i t ht
    exact ⟨r, hr, ho⟩
  · obtain ⟨i, hi⟩ := List.getElem?_of_mem ht
    obtain ⟨r, hr, _, hf⟩ := h2 i t hi
    exact hf
theorem session_cells {H : Type} {enc : TypeId × Value → H} {W : World} {n : Nat} {cs : List Value} {y : DataW H × List MemPlace} (h : DataW.trod enc Try.prog W 0 (fun _ => true) true n 86 cs = some y) :
    ∃ r : Se, cs = Rec.cells r ∧ r.reply.size ≤ 9223372036854775807 := by
  obtain ⟨y0, y1, y2, m, hl, e0, e1, e2⟩ := rtrod3 Try.underlying86 h
  rw [cellsSe] at hl
  obtain ⟨c0, c1, c2, rfl⟩ := len3 hl
  simp only [cellsI, cellsS, List.drop_zero, List.drop_succ_cons, List.take_succ_cons, List.take_zero] at e0 e1 e2
  obtain ⟨k0, g0, _, _⟩ := DataW.trod_int Try.underlying3 e0
  obtain ⟨k1, g1, _, _⟩ := DataW.trod_int Try.underlying3 e1
  obtain ⟨s2, g2, _, z2⟩ := DataW.trod_string Try.underlying9 e2
  simp only [List.cons.injEq, and_true] at g0 g1 g2
  subst g0 g1 g2
  exact ⟨⟨k0, k1, s2⟩, rfl, z2⟩
theorem plan_cells {H : Type} {enc : TypeId × Value → H} {W : World} {n : Nat} {cs : List Value} {y : DataW H × List MemPlace} (h : DataW.trod enc Try.prog W 0 (fun _ => true) true n 92 cs = some y) :
    ∃ r : Pl, cs = Rec.cells r ∧ ∃ p : Po, OnePl W r p ∧ FitP p := by
  obtain ⟨y0, y1, y2, y3, m, hl, e0, e1, e2, e3⟩ := rtrod4 Try.underlying92 h
  rw [cellsPl] at hl
  obtain ⟨c0, c1, c2, c3, c4, c5, c6, c7, c8, rfl⟩ := len9 hl
  simp only [cellsD, cellsI, cellsB, List.drop_zero, List.drop_succ_cons, List.take_succ_cons, List.take_zero] at e0 e1 e2 e3
  obtain ⟨x0, x1, x2, x3, x4, x5, m', hl', d0, d1, d2, d3, d4, d5⟩ := trod_struct6 Try.underlying90 e0
  simp only [cellsS, cellsI, cellsB, cellsTS, List.drop_zero, List.drop_succ_cons, List.take_succ_cons, List.take_zero] at d0 d1 d2 d3 d4 d5
  obtain ⟨s0, g0, _, z0⟩ := DataW.trod_string Try.underlying9 d0
  obtain ⟨s1, g1, _, z1⟩ := DataW.trod_string Try.underlying9 d1
  obtain ⟨k2, g2, _, _⟩ := DataW.trod_int Try.underlying3 d2
  obtain ⟨k3, g3, _, _⟩ := DataW.trod_int Try.underlying3 d3
  obtain ⟨b4, g4, _⟩ := DataW.trod_bool Try.underlying4 d4
  obtain ⟨ao, k, cap, ts, hv, hT, hF, hm⟩ := tasks_of d5
  obtain ⟨b6, g6, _⟩ := DataW.trod_bool Try.underlying4 e1
  obtain ⟨k7, g7, _, _⟩ := DataW.trod_int Try.underlying3 e2
  obtain ⟨k8, g8, _, _⟩ := DataW.trod_int Try.underlying3 e3
  simp only [List.cons.injEq, and_true] at g0 g1 g2 g3 g4 g6 g7 g8
  subst g0 g1 g2 g3 g4 g6 g7 g8 hv
  have hlen : ts.length = k := by
    obtain ⟨ao', cap', e⟩ := hT.slice
    injection e with _ e2 _
    exact e2.symm
  exact ⟨⟨s0, s1, k2, k3, b4, .slice ao k cap, b6, k7, k8⟩, rfl, ⟨s0, s1, k2, k3, b4, ts, b6, k7, k8⟩, ⟨rfl, rfl, rfl, rfl, rfl, hT, rfl, rfl, rfl⟩, ⟨z0, z1, by rw [hlen]; exact hm, hF⟩⟩
theorem run_cells {H : Type} {enc : TypeId × Value → H} {W : World} {n : Nat} {cs : List Value} {y : DataW H × List MemPlace} (h : DataW.trod enc Try.prog W 0 (fun _ => true) true n 97 cs = some y) :
    ∃ r : Rk, cs = Rec.cells r ∧ ∃ p : Rr, OneRk W r p ∧ FitR p := by
  obtain ⟨y0, y1, y2, y3, m, hl, e0, e1, e2, e3⟩ := rtrod4 Try.underlying97 h
  rw [rcellsR] at hl
  obtain ⟨c0, c1, c2, c3, c4, rfl⟩ := rlen5 hl
  simp only [rcellsS, rcellsSp, rcellsI, rcellsSS, List.drop_zero, List.drop_succ_cons, List.take_succ_cons, List.take_zero] at e0 e1 e2 e3
  obtain ⟨s0, g0, _, z0⟩ := DataW.trod_string Try.underlying9 e0
  obtain ⟨a1, b1, g1⟩ := rspan_cells e1
  obtain ⟨k2, g2, _, _⟩ := DataW.trod_int Try.underlying3 e2
  obtain ⟨a, k, c, rfl⟩ := rslice_form Try.underlying95 e3
  obtain ⟨l, hr, _, hm⟩ := open_rows (fun _ : Sa => True) Try.underlying95 rcellsSt (fun n cs y h => state_cells h) e3
  simp only [List.cons.injEq, and_true] at g0 g1 g2
  obtain ⟨g1, g3⟩ := g1
  subst g0 g1 g2 g3
  exact ⟨⟨s0, a1, b1, k2, .slice a k c⟩, rfl, ⟨s0, a1, b1, k2, l⟩, ⟨rfl, rfl, rfl, rfl, hr⟩, ⟨z0, by rw [← hr.len]; exact hm⟩⟩
/-- A board, opened. -/
theorem open_board {H : Type} {enc : TypeId × Value → H} {W : World} {v : Value} {d : DataW H} {p : List MemPlace} (hv : ∃ cs, v = .agg cs ∧ cs.size = Try.prog.cellsOf 35) (h : DataW.Trod enc Try.prog W 0 (fun _ => true) true 35 v d p) :
    ∃ (so po ro : Option Addr) (sn sc pn pc rn rc : Nat) (ck tk : Int) (b : Bo), v = .agg #[.slice so sn sc, .slice po pn pc, .slice ro rn rc, .int .i64 ck, .int .i64 tk] ∧ BdA W (.slice so sn sc) (.slice po pn pc) (.slice ro rn rc) b ∧ FitB b := by
  obtain ⟨cs, rfl, _⟩ := hv
  obtain ⟨fuel, hf⟩ := h
  obtain ⟨y0, y1, y2, y3, y4, m, hl, e0, e1, e2, e3, e4⟩ := trod_struct5 Try.underlying35 hf
  rw [cellsBd] at hl
  obtain ⟨c0, c1, c2, c3, c4, hcs⟩ := len5 hl
  simp only [cellsSeS, cellsPlS, cellsRkS, cellsI, hcs, List.drop_zero, List.drop_succ_cons, List.take_succ_cons, List.take_zero] at e0 e1 e2 e3 e4
  obtain ⟨so, sn, sc, rfl⟩ := slice_form Try.underlying31 e0
  obtain ⟨po, pn, pc, rfl⟩ := slice_form Try.underlying32 e1
  obtain ⟨ro, rn, rc, rfl⟩ := slice_form Try.underlying33 e2
  obtain ⟨k3, g3, _, _⟩ := DataW.trod_int Try.underlying3 e3
  obtain ⟨k4, g4, _, _⟩ := DataW.trod_int Try.underlying3 e4
  simp only [List.cons.injEq, and_true] at g3 g4
  subst g3 g4
  obtain ⟨ls, hs, hsG, hsm⟩ := open_rows (fun s : Se => s.reply.size ≤ 9223372036854775807) Try.underlying31 cellsSe (fun n cs y h => session_cells h) e0
  obtain ⟨lp, hp, hpG, hpm⟩ := open_rows (fun r : Pl => ∃ p : Po, OnePl W r p ∧ FitP p) Try.underlying32 cellsPl (fun n cs y h => plan_cells h) e1
  obtain ⟨lr, hr, hrG, hrm⟩ := open_rows (fun r : Rk => ∃ p : Rr, OneRk W r p ∧ FitR p) Try.underlying33 rcellsR (fun n cs y h => run_cells h) e2
  obtain ⟨ps, hP, hPf⟩ := drow_of hp hpG
  obtain ⟨rs, hR, hRf⟩ := drow_of hr hrG
  refine ⟨so, po, ro, sn, sc, pn, pc, rn, rc, k3, k4, ⟨ls, ps, rs⟩, ?_, ⟨hs, hP, hR⟩, ⟨by rw [← hs.len]; exact hsm, hsG, by rw [hP.len]; exact hpm, hPf, by rw [hR.len]; exact hrm, hRf⟩⟩
  congr 1
  exact Array.toList_inj.1 hcs
end Go.Proofs.Ytjmclcjhimcehaa
