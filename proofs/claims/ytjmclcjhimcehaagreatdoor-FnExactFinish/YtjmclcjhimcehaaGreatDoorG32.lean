/-
  Arguments that are rows of records, opened. Over any program. Numbers that came in as an argument, opened. The table of reaches, as the row lists it; a rule that came in as an argument, opened. A plan that came in as an argument, opened. The wrap of a tied row whose contract also wants the world's shape; the library's word of the greatest length, off that shape. A run that came in as an argument, opened.
-/
import Derived.Test.YtjmclcjhimcehaaGreatDoorRec
import Derived.Deep.Slices
import Derived.Deep.Strs
import Derived.ProofKit
import Derived.OpenShut
import Derived.Test.YtjmclcjhimcehaaGreatDoorG3
import Derived.Test.YtjmclcjhimcehaaGreatDoorRows
import Derived.Test.YtjmclcjhimcehaaGreatDoorG4
import Derived.Lib.LaidU8
import Derived.Test.YtjmclcjhimcehaaGreatDoorG29
import Derived.Test.YtjmclcjhimcehaaGreatDoorG11
import Derived.Handed
import Derived.Shelf.Vars
import Derived.Test.YtjmclcjhimcehaaGreatDoorG1
import Derived.ChangeSame
namespace Go.Proofs.YtjmclcjhimcehaaGreatDoor
open Go Go.RowKit Go.ChangeShapes Go.WideShapes

section
variable {α : Type} [Rec α] [Inhabited α] {H : Type} {enc : TypeId × Value → H} {P : Program} {w : World} {held : Bool}

/-- A slice of records that came in: the records that it reads as. -/
theorem open_rows {t e : TypeId} {fuel : Nat} {a : Option Addr} {len cap : Nat} {x : DataW H × List MemPlace} (G : α → Prop) (ht : P.underlying t = some (.slice e)) (hc : P.cellsOf e = Rec.width α)
    (each : ∀ n cs y, DataW.trod enc P w 0 (fun _ => true) held n e cs = some y → ∃ r : α, cs = Rec.cells r ∧ G r)
    (h : DataW.trod enc P w 0 (fun _ => true) held fuel t [.slice a len cap] = some x) : ∃ l : List α, Reads w (.slice a len cap) l ∧ (∀ r ∈ l, G r) ∧ len ≤ maxLen := by
  rcases Deep.open_slice ht h with ⟨hcs, _⟩ | ⟨b, len', cap', m, n, D, Pl, hcs, _, hl, hm, hmm, _, hx⟩
  · simp only [List.cons.injEq, Value.slice.injEq, and_true] at hcs
    obtain ⟨rfl, rfl, rfl⟩ := hcs
    exact ⟨[], reads_none w none 0, fun r hr => by simp at hr, Nat.zero_le _⟩
  · simp only [List.cons.injEq, Value.slice.injEq, and_true] at hcs
    obtain ⟨rfl, rfl, rfl⟩ := hcs
    simp only [if_true] at hmm
    subst hmm
    have hex : ∀ i, i < len → ∃ r : α, G r ∧ ∀ j u, (Rec.cells r)[j]? = some u → w.cell? (b.add (i * Rec.width α + j)) = some u := by
      intro i hi
      obtain ⟨cs', h1, h2⟩ := hx i (by omega)
      obtain ⟨r, rfl, hG⟩ := each _ _ _ h2
      rw [hc] at h1
      obtain ⟨_, hlen, hcell⟩ := World.cells?_some h1
      refine ⟨r, hG, fun j u hu => ?_⟩
      have hj := (List.getElem?_eq_some_iff.1 hu).1
      have := hcell j (by rw [← Rec.len r]; exact hj)
      rw [Deep.add_add] at this
      rw [this, hu]
    obtain ⟨f, hf⟩ := Deep.choose_lt hex
    refine ⟨(List.range len).map f, ⟨some b, _, by simp; rfl, fun hne => ?_⟩, ?_, by omega⟩
    · have hpos : 0 < len := by
        rcases Nat.eq_zero_or_pos len with h0 | h0
        · subst h0; simp at hne
        · exact h0
      have hw : 0 < Rec.width α := Rec.pos
      obtain ⟨u, hu⟩ : ∃ u, (Rec.cells (f 0))[0]? = some u := ⟨_, List.getElem?_eq_getElem (by rw [Rec.len]; exact hw)⟩
      have h0 := (hf 0 hpos).2 0 u hu
      obtain ⟨bb, oo, sp⟩ := b
      have hsp : sp = none := by
        simp only [Nat.zero_mul, Nat.add_zero, Addr.add, if_true, World.cell?] at h0
        cases sp with
        | none => rfl
        | some s => split at h0 <;> simp at h0
      subst hsp
      have hlt : bb < w.heap.size := by
        have := World.block_lt_of_cell? w _ h0
        simpa [Addr.add] using this
      refine ⟨bb, oo, rfl, hlt, fun i r hr j u hu => ?_⟩
      rw [List.getElem?_map] at hr
      by_cases hi : i < len
      · rw [List.getElem?_range hi] at hr
        simp only [Option.map_some, Option.some.injEq] at hr
        subst hr
        have := (hf i hi).2 j u hu
        have hadd : (⟨bb, oo, none⟩ : Addr).add (i * Rec.width α + j) = ⟨bb, oo + (i * Rec.width α + j), none⟩ := by unfold Addr.add; split <;> simp_all
        rw [hadd, ← Nat.add_assoc] at this
        exact this
      · rw [List.getElem?_eq_none (by simp; omega)] at hr
        simp at hr
    · intro r hr
      obtain ⟨i, hi, rfl⟩ := List.mem_map.1 hr
      exact (hf i (List.mem_range.1 hi)).1
end
end Go.Proofs.YtjmclcjhimcehaaGreatDoor

namespace Go.Proofs.YtjmclcjhimcehaaGreatDoor
open Go Go.RowKit Go.ChangeShapes Go.WideShapes

end Go.Proofs.YtjmclcjhimcehaaGreatDoor

namespace Go.Proofs.YtjmclcjhimcehaaGreatDoor
open Go Go.RowKit Go.ChangeShapes Go.WideShapes
set_option linter.unusedVariables false

theorem gRch : Tryz.prog.globalNamed "loop.example/g00188/impl.fieldReaches" = some 0 := by kernel_rfl
theorem tRch : (Tryz.prog.globals[0]?).map (·.type) = some 207 := by kernel_rfl
theorem cells63 : Tryz.prog.cellsOf 206 = 2 := by kernel_rfl
theorem under64 : Tryz.prog.underlying 207 = some (.array 5 206) := by kernel_rfl
theorem rch_of_reads {W : World} (h : Lib.VarReads Tryz.prog W "loop.example/g00188/impl.fieldReaches" (Rows.laid_loop_example_g00188_impl_fieldReaches (H := Unit))) : RchIs W := by
  obtain ⟨g, t, cs, fuel, p, hg, hty, hvar, hd⟩ := h
  obtain rfl := Option.some.inj (gRch.symm.trans hg)
  obtain rfl := Option.some.inj (tRch.symm.trans hty)
  have hc := fun j => World.var?_cell hg hvar j
  have two : ∀ (i : Nat) (lo hi : Int), i < 5 → ([.agg [.lit (.int .i64 0), .lit (.int .i64 59)], .agg [.lit (.int .i64 0), .lit (.int .i64 23)], .agg [.lit (.int .i64 1), .lit (.int .i64 31)], .agg [.lit (.int .i64 1), .lit (.int .i64 12)], .agg [.lit (.int .i64 0), .lit (.int .i64 6)]] : List (DataW Unit))[i]? = some (.agg [.lit (.int .i64 lo), .lit (.int .i64 hi)]) → cs[i * 2]? = some (.int .i64 lo) ∧ cs[i * 2 + 1]? = some (.int .i64 hi) := by
    intro i lo hi h5 hi5
    obtain ⟨f', d, q, hds, ht⟩ := Lib.array_elem under64 hd i h5
    rw [hi5] at hds
    obtain rfl := Option.some.inj hds
    rw [cells63] at ht
    have := Lib.ints_of_struct (zs := [lo, hi]) Tryz.underlying206 (by
      intro j f hj
      match j, hj with
      | 0, hj => simp at hj; subst hj; exact ⟨Tryz.underlying3, rfl, by kernel_rfl⟩
      | 1, hj => simp at hj; subst hj; exact ⟨Tryz.underlying3, rfl, by kernel_rfl⟩
      | j + 2, hj => simp at hj) (by kernel_rfl) ht
    have e0 := congrArg (fun l => l[0]?) this
    have e1 := congrArg (fun l => l[1]?) this
    simp at e0 e1
    exact ⟨by simpa using e0, by simpa using e1⟩
  have t0 := two 0 0 59 (by decide) rfl
  have t1 := two 1 0 23 (by decide) rfl
  have t2 := two 2 1 31 (by decide) rfl
  have t3 := two 3 1 12 (by decide) rfl
  have t4 := two 4 0 6 (by decide) rfl
  have hc0 : W.cell? ⟨0, 0, none⟩ = some (.int .i64 0) := (hc 0).trans t0.1
  refine ⟨World.block_lt_of_cell? W _ hc0, fun j v hv => ?_⟩
  rw [hc j]
  unfold reachL at hv
  match j, hv with
  | 0, hv => obtain rfl := Option.some.inj hv; exact t0.1
  | 1, hv => obtain rfl := Option.some.inj hv; exact t0.2
  | 2, hv => obtain rfl := Option.some.inj hv; exact t1.1
  | 3, hv => obtain rfl := Option.some.inj hv; exact t1.2
  | 4, hv => obtain rfl := Option.some.inj hv; exact t2.1
  | 5, hv => obtain rfl := Option.some.inj hv; exact t2.2
  | 6, hv => obtain rfl := Option.some.inj hv; exact t3.1
  | 7, hv => obtain rfl := Option.some.inj hv; exact t3.2
  | 8, hv => obtain rfl := Option.some.inj hv; exact t4.1
  | 9, hv => obtain rfl := Option.some.inj hv; exact t4.2
  | j + 10, hv => simp at hv
theorem len5 {α : Type} {l : List α} (h : l.length = 5) : ∃ a b c d e, l = [a, b, c, d, e] := by
  match l, h with
  | [a, b, c, d, e], _ => exact ⟨a, b, c, d, e, rfl⟩
theorem trod_struct5 {H : Type} {enc : TypeId × Value → H} {P : Program} {w : World} {base : Nat} {spare : Nat → Bool} {held : Bool} {t : TypeId} {f0 f1 f2 f3 f4 : Field} {fuel : Nat} {cs : List Value} {x : DataW H × List MemPlace} (ht : P.underlying t = some (.struct #[f0, f1, f2, f3, f4])) (h : DataW.trod enc P w base spare held fuel t cs = some x) :
    ∃ y0 y1 y2 y3 y4 n, cs.length = P.cellsOf t ∧ DataW.trod enc P w base spare held n f0.type ((cs.drop f0.offset).take (P.cellsOf f0.type)) = some y0 ∧
      DataW.trod enc P w base spare held n f1.type ((cs.drop f1.offset).take (P.cellsOf f1.type)) = some y1 ∧ DataW.trod enc P w base spare held n f2.type ((cs.drop f2.offset).take (P.cellsOf f2.type)) = some y2 ∧
      DataW.trod enc P w base spare held n f3.type ((cs.drop f3.offset).take (P.cellsOf f3.type)) = some y3 ∧ DataW.trod enc P w base spare held n f4.type ((cs.drop f4.offset).take (P.cellsOf f4.type)) = some y4 := by
  obtain ⟨xs, n, _, rfl, hl, hlen, hf⟩ := DataW.trod_struct ht h
  match xs, hlen with
  | [y0, y1, y2, y3, y4], _ => exact ⟨y0, y1, y2, y3, y4, n, hl, by simpa using hf 0 f0 rfl, by simpa using hf 1 f1 rfl, by simpa using hf 2 f2 rfl, by simpa using hf 3 f3 rfl, by simpa using hf 4 f4 rfl⟩
end Go.Proofs.YtjmclcjhimcehaaGreatDoor

namespace Go.Proofs.YtjmclcjhimcehaaGreatDoor
open Go Go.RowKit Go.ChangeShapes Go.WideShapes
set_option linter.unusedVariables false

instance : Inhabited Ta := ⟨⟨⟨#[]⟩, ⟨#[]⟩, 0, false, []⟩⟩
theorem cellsT : Tryz.prog.cellsOf 118 = 5 := by kernel_rfl
theorem cellsD : Tryz.prog.cellsOf 24 = 6 := by kernel_rfl
theorem cellsS : Tryz.prog.cellsOf 9 = 1 := by kernel_rfl
theorem cellsI : Tryz.prog.cellsOf 3 = 1 := by kernel_rfl
theorem cellsB : Tryz.prog.cellsOf 4 = 1 := by kernel_rfl
theorem cellsSS : Tryz.prog.cellsOf 86 = 1 := by kernel_rfl
theorem cellsTS : Tryz.prog.cellsOf 22 = 1 := by kernel_rfl
theorem len6 {α : Type} {l : List α} (h : l.length = 6) : ∃ a b c d e f, l = [a, b, c, d, e, f] := by
  match l, h with
  | [a, b, c, d, e, f], _ => exact ⟨a, b, c, d, e, f, rfl⟩
theorem trod_struct6 {H : Type} {enc : TypeId × Value → H} {P : Program} {w : World} {base : Nat} {spare : Nat → Bool} {held : Bool} {t : TypeId} {f0 f1 f2 f3 f4 f5 : Field} {fuel : Nat} {cs : List Value} {x : DataW H × List MemPlace} (ht : P.underlying t = some (.struct #[f0, f1, f2, f3, f4, f5])) (h : DataW.trod enc P w base spare held fuel t cs = some x) :
    ∃ y0 y1 y2 y3 y4 y5 n, cs.length = P.cellsOf t ∧ DataW.trod enc P w base spare held n f0.type ((cs.drop f0.offset).take (P.cellsOf f0.type)) = some y0 ∧
      DataW.trod enc P w base spare held n f1.type ((cs.drop f1.offset).take (P.cellsOf f1.type)) = some y1 ∧ DataW.trod enc P w base spare held n f2.type ((cs.drop f2.offset).take (P.cellsOf f2.type)) = some y2 ∧
      DataW.trod enc P w base spare held n f3.type ((cs.drop f3.offset).take (P.cellsOf f3.type)) = some y3 ∧ DataW.trod enc P w base spare held n f4.type ((cs.drop f4.offset).take (P.cellsOf f4.type)) = some y4 ∧ DataW.trod enc P w base spare held n f5.type ((cs.drop f5.offset).take (P.cellsOf f5.type)) = some y5 := by
  obtain ⟨xs, n, _, rfl, hl, hlen, hf⟩ := DataW.trod_struct ht h
  match xs, hlen with
  | [y0, y1, y2, y3, y4, y5], _ => exact ⟨y0, y1, y2, y3, y4, y5, n, hl, by simpa using hf 0 f0 rfl, by simpa using hf 1 f1 rfl, by simpa using hf 2 f2 rfl, by simpa using hf 3 f3 rfl, by simpa using hf 4 f4 rfl, by simpa using hf 5 f5 rfl⟩
theorem slice_form {H : Type} {enc : TypeId × Value → H} {P : Program} {W : World} {t e : TypeId} {fuel : Nat} {v : Value} {x : DataW H × List MemPlace} (ht : P.underlying t = some (.slice e)) (h : DataW.trod enc P W 0 (fun _ => true) true fuel t [v] = some x) : ∃ a n c, v = .slice a n c := by
  rcases Deep.open_slice ht h with ⟨hcs, _⟩ | ⟨b, len', cap', m, n, D, Pl, hcs, _⟩
  · simp only [List.cons.injEq, and_true] at hcs
    exact ⟨_, _, _, hcs⟩
  · simp only [List.cons.injEq, and_true] at hcs
    exact ⟨_, _, _, hcs⟩
theorem texts_of {H : Type} {enc : TypeId × Value → H} {W : World} {fuel : Nat} {v : Value} {x : DataW H × List MemPlace} (h : DataW.trod enc Tryz.prog W 0 (fun _ => true) true fuel 86 [v] = some x) :
    ∃ l : List ByteArray, Reads W v l ∧ (∀ s ∈ l, Fit s) ∧ l.length ≤ maxLen := by
  obtain ⟨a, n, c, rfl⟩ := slice_form Tryz.underlying86 h
  obtain ⟨l, hr, hG, hm⟩ := open_rows (fun s : ByteArray => Fit s) Tryz.underlying86 cellsS (fun n cs y h => by
    obtain ⟨s, rfl, _, hz⟩ := DataW.trod_string Tryz.underlying9 h
    exact ⟨s, rfl, hz⟩) h
  exact ⟨l, hr, hG, by rw [← hr.len]; exact hm⟩
theorem task_cells {H : Type} {enc : TypeId × Value → H} {W : World} {n : Nat} {cs : List Value} {y : DataW H × List MemPlace} (h : DataW.trod enc Tryz.prog W 0 (fun _ => true) true n 118 cs = some y) :
    ∃ r : Tk, cs = Rec.cells r ∧ ∃ t : Ta, OneT W r t ∧ FitT t := by
  obtain ⟨y0, y1, y2, y3, y4, m, hl, e0, e1, e2, e3, e4⟩ := trod_struct5 Tryz.underlying118 h
  rw [cellsT] at hl
  obtain ⟨c0, c1, c2, c3, c4, rfl⟩ := len5 hl
  simp only [cellsS, cellsI, cellsB, cellsSS, List.drop_zero, List.drop_succ_cons, List.take_succ_cons, List.take_zero] at e0 e1 e2 e3 e4
  obtain ⟨s0, g0, _, z0⟩ := DataW.trod_string Tryz.underlying9 e0
  obtain ⟨s1, g1, _, z1⟩ := DataW.trod_string Tryz.underlying9 e1
  obtain ⟨k2, g2, _, _⟩ := DataW.trod_int Tryz.underlying3 e2
  obtain ⟨b3, g3, _⟩ := DataW.trod_bool Tryz.underlying4 e3
  obtain ⟨l, hr, hf, hm⟩ := texts_of e4
  simp only [List.cons.injEq, and_true] at g0 g1 g2 g3
  subst g0 g1 g2 g3
  exact ⟨⟨s0, s1, k2, b3, c4⟩, rfl, ⟨s0, s1, k2, b3, l⟩, ⟨rfl, rfl, rfl, rfl, hr⟩, ⟨z0, z1, hm, hf⟩⟩
theorem tasks_of {H : Type} {enc : TypeId × Value → H} {W : World} {fuel : Nat} {v : Value} {x : DataW H × List MemPlace} (h : DataW.trod enc Tryz.prog W 0 (fun _ => true) true fuel 22 [v] = some x) :
    ∃ (ao : Option Addr) (n cap : Nat) (ts : List Ta), v = .slice ao n cap ∧ Tasks W (.slice ao n cap) ts ∧ (∀ t ∈ ts, FitT t) ∧ n ≤ maxLen := by
  obtain ⟨a, n, c, rfl⟩ := slice_form Tryz.underlying22 h
  obtain ⟨l, hr, hG, hm⟩ := open_rows (fun r : Tk => ∃ t : Ta, OneT W r t ∧ FitT t) Tryz.underlying22 cellsT (fun n cs y h => task_cells h) h
  have hl : n = l.length := hr.len
  have hex : ∀ i, i < l.length → ∃ t : Ta, (∀ r, l[i]? = some r → OneT W r t) ∧ FitT t := fun i hi => by
    obtain ⟨t, h1, h2⟩ := hG l[i] (List.getElem_mem hi)
    exact ⟨t, fun r hr => by rw [List.getElem?_eq_getElem hi] at hr; cases hr; exact h1, h2⟩
  obtain ⟨f, hf⟩ := Deep.choose_lt hex
  refine ⟨a, n, c, (List.range l.length).map f, rfl, ⟨l, hr, by simp, fun i t ht => ?_⟩, fun t ht => ?_, hm⟩
  · rw [List.getElem?_map] at ht
    obtain ⟨j, hj, rfl⟩ := Option.map_eq_some_iff.1 ht
    have hi : i < l.length := by
      have := (List.getElem?_eq_some_iff.1 hj).1
      simpa using this
    have : j = i := by rw [List.getElem?_range hi] at hj; exact (Option.some.inj hj).symm
    subst this
    exact ⟨l[j], List.getElem?_eq_getElem hi, (hf j hi).1 _ (List.getElem?_eq_getElem hi)⟩
  · obtain ⟨j, hj, rfl⟩ := List.mem_map.1 ht
    exact (hf j (List.mem_range.1 hj)).2
/-- A plan, opened. -/
theorem open_dag {H : Type} {enc : TypeId × Value → H} {W : World} {v : Value} {d : DataW H} {p : List MemPlace} (hv : ∃ cs, v = .agg cs ∧ cs.size = Tryz.prog.cellsOf 24) (h : DataW.Trod enc Tryz.prog W 0 (fun _ => true) true 24 v d p) :
    ∃ (ao : Option Addr) (n cap : Nat) (nm cr : ByteArray) (fr up : Int) (cu : Bool) (ts : List Ta), v = .agg #[.string nm, .string cr, .int .i64 fr, .int .i64 up, .bool cu, .slice ao n cap] ∧ Tasks W (.slice ao n cap) ts ∧ FitD ⟨nm, cr, fr, up, cu, ts⟩ n := by
  obtain ⟨cs, rfl, _⟩ := hv
  obtain ⟨fuel, hf⟩ := h
  obtain ⟨y0, y1, y2, y3, y4, y5, m, hl, e0, e1, e2, e3, e4, e5⟩ := trod_struct6 Tryz.underlying24 hf
  rw [cellsD] at hl
  obtain ⟨c0, c1, c2, c3, c4, c5, hcs⟩ := len6 hl
  simp only [cellsS, cellsI, cellsB, cellsTS, hcs, List.drop_zero, List.drop_succ_cons, List.take_succ_cons, List.take_zero] at e0 e1 e2 e3 e4 e5
  obtain ⟨s0, g0, _, z0⟩ := DataW.trod_string Tryz.underlying9 e0
  obtain ⟨s1, g1, _, z1⟩ := DataW.trod_string Tryz.underlying9 e1
  obtain ⟨k2, g2, _, _⟩ := DataW.trod_int Tryz.underlying3 e2
  obtain ⟨k3, g3, _, _⟩ := DataW.trod_int Tryz.underlying3 e3
  obtain ⟨b4, g4, _⟩ := DataW.trod_bool Tryz.underlying4 e4
  obtain ⟨ao, n, cap, ts, rfl, hT, hF, hm⟩ := tasks_of e5
  simp only [List.cons.injEq, and_true] at g0 g1 g2 g3 g4
  subst g0 g1 g2 g3 g4
  refine ⟨ao, n, cap, s0, s1, k2, k3, b4, ts, ?_, hT, ⟨z0, z1, hm, hF⟩⟩
  congr 1
  exact Array.toList_inj.1 hcs
end Go.Proofs.YtjmclcjhimcehaaGreatDoor

namespace Go.Proofs.YtjmclcjhimcehaaGreatDoor
open Go Go.RowKit
set_option linter.unusedVariables false

theorem handed_shaped_and {H : Type} {enc : TypeId × Value → H} {C : Checked} {os : Os} {f : FuncId} {fn : Func} {s : ChangeSpec} {X : World → Array Value → Prop}
    (hX : ∀ (w w' : World) (args : Array Value), w.heap = w'.heap → X w args → X w' args)
    (own : ownKnob C.prog.godebug = none) (started : os.Started) (noInit : C.prog.inits.idxOf? f = none) (hfn : C.prog.funcs[f]? = some fn)
    (witness : ∃ (w : World) (tape : Tape) (i : Input), w.os = os ∧ (w.forCall tape i).Shaped C.prog ∧ i.vars = [] ∧ Input.okWide C.prog (w.forCall tape i) .any w.heap.size f i ∧
      ((s.pre enc C.prog fn [] false (w.forCall tape i).memory i.args ∧ X (w.forCall tape i).memory i.args) ∧ sizedMet enc C.prog fn (OpenSpec.ofChange s) false (w.forCall tape i).memory i.args) ∧ ({} : Assume).holds C.prog (lone (Frame.enter C.prog f i.args .normal) [] (w.forCall tape i)))
    (contract : ∀ (W : World) (base : Nat) (args : Array Value) (ds gs : List (DataW H)) (before : List MemPlace),
      (∀ (j : Nat) t v, fn.params[j]? = some t → args[j]? = some v → Value.okWide C.prog W .any base t v) →
      DataW.Whole enc C.prog fn.params.toList s.vars false W args.toList ds gs before → X W args → W.ShapedOpen C.prog →
      Calls C.prog f args W fun e W' => ∃ v, e = .returned v ∧ s.post enc C.prog fn false true false false W args v W') :
    ReturnsInHanded {} C os f .any (fun w args => (s.pre enc C.prog fn [] false w args ∧ X w args) ∧ sizedMet enc C.prog fn (OpenSpec.ofChange s) false w args) (s.post enc C.prog fn false true false false) := by
  refine returnsInHanded_of_calls own started noInit witness ?_
  intro w tape i _ hsh _ hok hpre _
  obtain ⟨_, _, _, fn', hfn', _, _, _, _, hval⟩ := hok
  obtain rfl : fn' = fn := Option.some.inj (hfn'.symm.trans hfn)
  obtain ⟨⟨⟨ds, gs, before, hw, _⟩, hx⟩, _⟩ := hpre
  refine (contract (w.forCall tape i) w.heap.size i.args ds gs before hval (DataW.Whole.of_heap (w' := w.forCall tape i) (by rfl) hw) (hX _ _ _ (by rfl) hx) hsh).mono fun e W' ⟨v, he, hp⟩ => ?_
  subst he
  exact ChangeSpec.post_blind hp
theorem max_of_shaped {W : World} (h : W.ShapedOpen Tryz.prog) : MaxIs W :=
  cell_of_shapedOpen_int (g := 3) (t := 3) (zero := #[.int .i64 0]) h (of_decide_eq_true (by kernel_rfl)) (by kernel_rfl) rfl (by kernel_rfl) (by kernel_rfl) Tryz.underlying3
end Go.Proofs.YtjmclcjhimcehaaGreatDoor

namespace Go.Proofs.YtjmclcjhimcehaaGreatDoor
open Go Go.RowKit Go.ChangeShapes Go.WideShapes
set_option linter.unusedVariables false

theorem rcellsSt : Tryz.prog.cellsOf 136 = 4 := by kernel_rfl
theorem rcellsSp : Tryz.prog.cellsOf 26 = 2 := by kernel_rfl
theorem rcellsR : Tryz.prog.cellsOf 46 = 5 := by kernel_rfl
theorem rcellsI : Tryz.prog.cellsOf 3 = 1 := by kernel_rfl
theorem rcellsS : Tryz.prog.cellsOf 9 = 1 := by kernel_rfl
theorem rcellsSS : Tryz.prog.cellsOf 44 = 1 := by kernel_rfl
theorem rlen2 {α : Type} {l : List α} (h : l.length = 2) : ∃ a b, l = [a, b] := by
  match l, h with
  | [a, b], _ => exact ⟨a, b, rfl⟩
theorem rlen4 {α : Type} {l : List α} (h : l.length = 4) : ∃ a b c d, l = [a, b, c, d] := by
  match l, h with
  | [a, b, c, d], _ => exact ⟨a, b, c, d, rfl⟩
theorem rlen5 {α : Type} {l : List α} (h : l.length = 5) : ∃ a b c d e, l = [a, b, c, d, e] := by
  match l, h with
  | [a, b, c, d, e], _ => exact ⟨a, b, c, d, e, rfl⟩
theorem rtrod4 {H : Type} {enc : TypeId × Value → H} {P : Program} {w : World} {base : Nat} {spare : Nat → Bool} {held : Bool} {t : TypeId} {f0 f1 f2 f3 : Field} {fuel : Nat} {cs : List Value} {x : DataW H × List MemPlace} (ht : P.underlying t = some (.struct #[f0, f1, f2, f3])) (h : DataW.trod enc P w base spare held fuel t cs = some x) :
    ∃ y0 y1 y2 y3 n, cs.length = P.cellsOf t ∧ DataW.trod enc P w base spare held n f0.type ((cs.drop f0.offset).take (P.cellsOf f0.type)) = some y0 ∧
      DataW.trod enc P w base spare held n f1.type ((cs.drop f1.offset).take (P.cellsOf f1.type)) = some y1 ∧ DataW.trod enc P w base spare held n f2.type ((cs.drop f2.offset).take (P.cellsOf f2.type)) = some y2 ∧
      DataW.trod enc P w base spare held n f3.type ((cs.drop f3.offset).take (P.cellsOf f3.type)) = some y3 := by
  obtain ⟨xs, n, _, rfl, hl, hlen, hf⟩ := DataW.trod_struct ht h
  match xs, hlen with
  | [y0, y1, y2, y3], _ => exact ⟨y0, y1, y2, y3, n, hl, by simpa using hf 0 f0 rfl, by simpa using hf 1 f1 rfl, by simpa using hf 2 f2 rfl, by simpa using hf 3 f3 rfl⟩
theorem state_cells {H : Type} {enc : TypeId × Value → H} {W : World} {n : Nat} {cs : List Value} {y : DataW H × List MemPlace} (h : DataW.trod enc Tryz.prog W 0 (fun _ => true) true n 136 cs = some y) :
    ∃ r : Sa, cs = Rec.cells r ∧ True := by
  obtain ⟨y0, y1, y2, y3, m, hl, e0, e1, e2, e3⟩ := rtrod4 Tryz.underlying136 h
  rw [rcellsSt] at hl
  obtain ⟨c0, c1, c2, c3, rfl⟩ := rlen4 hl
  simp only [rcellsI, List.drop_zero, List.drop_succ_cons, List.take_succ_cons, List.take_zero] at e0 e1 e2 e3
  obtain ⟨k0, g0, _, _⟩ := DataW.trod_int Tryz.underlying3 e0
  obtain ⟨k1, g1, _, _⟩ := DataW.trod_int Tryz.underlying3 e1
  obtain ⟨k2, g2, _, _⟩ := DataW.trod_int Tryz.underlying3 e2
  obtain ⟨k3, g3, _, _⟩ := DataW.trod_int Tryz.underlying3 e3
  simp only [List.cons.injEq, and_true] at g0 g1 g2 g3
  subst g0 g1 g2 g3
  exact ⟨⟨k0, k1, k2, k3⟩, rfl, trivial⟩
theorem rspan_cells {H : Type} {enc : TypeId × Value → H} {W : World} {n : Nat} {cs : List Value} {y : DataW H × List MemPlace} (h : DataW.trod enc Tryz.prog W 0 (fun _ => true) true n 26 cs = some y) :
    ∃ a b : Int, cs = [.int .i64 a, .int .i64 b] := by
  obtain ⟨y0, y1, m, _, hl, e0, e1⟩ := Go.ChangeShapes.trod_struct2 Tryz.underlying26 h
  rw [rcellsSp] at hl
  obtain ⟨c0, c1, rfl⟩ := rlen2 hl
  simp only [rcellsI, List.drop_zero, List.drop_succ_cons, List.take_succ_cons, List.take_zero] at e0 e1
  obtain ⟨k0, g0, _, _⟩ := DataW.trod_int Tryz.underlying3 e0
  obtain ⟨k1, g1, _, _⟩ := DataW.trod_int Tryz.underlying3 e1
  simp only [List.cons.injEq, and_true] at g0 g1
  subst g0 g1
  exact ⟨k0, k1, rfl⟩
theorem rslice_form {H : Type} {enc : TypeId × Value → H} {P : Program} {W : World} {t e : TypeId} {fuel : Nat} {v : Value} {x : DataW H × List MemPlace} (ht : P.underlying t = some (.slice e)) (h : DataW.trod enc P W 0 (fun _ => true) true fuel t [v] = some x) : ∃ a n c, v = .slice a n c := by
  rcases Deep.open_slice ht h with ⟨hcs, _⟩ | ⟨b, len', cap', m, n, D, Pl, hcs, _⟩
  · simp only [List.cons.injEq, and_true] at hcs
    exact ⟨_, _, _, hcs⟩
  · simp only [List.cons.injEq, and_true] at hcs
    exact ⟨_, _, _, hcs⟩
/-- A run, opened. -/
theorem open_run {H : Type} {enc : TypeId × Value → H} {W : World} {v : Value} {d : DataW H} {p : List MemPlace} (hv : ∃ cs, v = .agg cs ∧ cs.size = Tryz.prog.cellsOf 46) (h : DataW.Trod enc Tryz.prog W 0 (fun _ => true) true 46 v d p) :
    ∃ (ro : Option Addr) (rl rc : Nat) (rn : ByteArray) (rf ru re : Int) (st : List Sa), v = .agg #[.string rn, .int .i64 rf, .int .i64 ru, .int .i64 re, .slice ro rl rc] ∧ Reads W (.slice ro rl rc) st ∧ rl ≤ 9223372036854775807 ∧ rn.size ≤ 9223372036854775807 := by
  obtain ⟨cs, rfl, _⟩ := hv
  obtain ⟨fuel, hf⟩ := h
  obtain ⟨y0, y1, y2, y3, m, hl, e0, e1, e2, e3⟩ := rtrod4 Tryz.underlying46 hf
  rw [rcellsR] at hl
  obtain ⟨c0, c1, c2, c3, c4, hcs⟩ := rlen5 hl
  simp only [rcellsS, rcellsSp, rcellsI, rcellsSS, hcs, List.drop_zero, List.drop_succ_cons, List.take_succ_cons, List.take_zero] at e0 e1 e2 e3
  obtain ⟨s0, g0, _, z0⟩ := DataW.trod_string Tryz.underlying9 e0
  obtain ⟨a1, b1, g1⟩ := rspan_cells e1
  obtain ⟨k2, g2, _, _⟩ := DataW.trod_int Tryz.underlying3 e2
  obtain ⟨a, n, c, rfl⟩ := rslice_form Tryz.underlying44 e3
  obtain ⟨l, hr, _, hm⟩ := open_rows (fun _ : Sa => True) Tryz.underlying44 rcellsSt (fun n cs y h => state_cells h) e3
  simp only [List.cons.injEq, and_true] at g0 g1 g2
  obtain ⟨g1, g3⟩ := g1
  subst g0 g1 g2 g3
  refine ⟨a, n, c, s0, a1, b1, k2, l, ?_, hr, hm, z0⟩
  congr 1
  exact Array.toList_inj.1 hcs
end Go.Proofs.YtjmclcjhimcehaaGreatDoor
