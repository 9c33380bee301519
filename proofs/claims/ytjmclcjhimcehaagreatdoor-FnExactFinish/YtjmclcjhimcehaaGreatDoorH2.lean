/-
  What is behind what is stuck is blocked, on both sides: the walks.
-/
import Derived.Test.YtjmclcjhimcehaaGreatDoorG27
import Derived.Test.YtjmclcjhimcehaaGreatDoorG28
import Derived.Test.YtjmclcjhimcehaaGreatDoorH1
import Derived.Test.YtjmclcjhimcehaaGreatDoorG24
import Derived.Deep.RegionLaw
namespace Go.Proofs.YtjmclcjhimcehaaGreatDoor
open Go Go.RowKit
set_option linter.unusedVariables false

def blkR (d : Dg) (r : Rr) : Rr := ⟨r.nm, r.fr, r.up, r.ep, blockR d r.st⟩
theorem blkR_len (d : Dg) (r : Rr) : (blkR d r).st.length ≤ r.st.length := by
  show (blockR d r.st).length ≤ _
  unfold blockR
  split
  · rw [blockL_len]; exact Nat.le_refl _
  · exact Nat.le_refl _
theorem foldl_at {α β : Type} {f : β → α → β} {l : List α} {k : Nat} {x : α} (h : l[k]? = some x) (b : β) : (l.drop k).foldl f b = (l.drop (k + 1)).foldl f (f b x) := by
  obtain ⟨hk, rfl⟩ := List.getElem?_eq_some_iff.1 h
  rw [List.drop_eq_getElem_cons hk, List.foldl_cons]
/-- What lies there while tasks are blocked: the box of the run at p, its row of states, the answer's box. -/
structure BkS (w : World) (p : Nat) (nm cr : ByteArray) (fr up : Int) (cu : Bool) (tv : Value) (y : Nat) (rn : ByteArray) (rf ru re : Int) (v ov : Value) (O : List Int) (W : World) (s : List Sa) : Prop where
  bel : Below w.heap.size w W
  dag : P6 W w.heap.size nm cr fr up cu tv
  run : R5 W p rn rf ru re v
  ans : R5 W y ⟨#[]⟩ 0 0 0 (.slice none 0 0)
  own : ownsR W w.heap.size 85 v s
  ord : ownsR W w.heap.size 3 ov O
section
variable {w : World} {p : Nat} {nm cr : ByteArray} {fr up : Int} {cu : Bool} {tv : Value} {y : Nat} {rn : ByteArray} {rf ru re : Int} {v ov : Value} {O : List Int} {W W' : World} {s : List Sa}
theorem BkS.on (h : BkS w p nm cr fr up cu tv y rn rf ru re v ov O W s) (hb : Below W.heap.size W W') : BkS w p nm cr fr up cu tv y rn rf ru re v ov O W' s :=
  ⟨Below.on h.bel hb, h.dag.on hb, h.run.on hb, h.ans.on hb, h.own.all hb, h.ord.all hb⟩
theorem not_rowP6 {b B : Nat} {v : Value} {l : List Sa} (h : P6 W b nm cr fr up cu tv) (ho : ownsR W B 85 v l) : v.ownBlock ≠ some b := by
  intro e
  rcases ho.2 with ⟨rfl, _⟩ | ⟨g, cap, cur, rfl, _, hg, _⟩
  · cases e
  · cases e
    rw [show W.heap[g]? = _ from h] at hg
    injection hg with hg
    injection hg with _ hg
    exact absurd hg (by decide)
theorem not_rowI {B B' : Nat} {v ov : Value} {l : List Sa} {O : List Int} (h : ownsR W B' 3 ov O) (ho : ownsR W B 85 v l) {k : Nat} (hk : ov.ownBlock = some k) : v.ownBlock ≠ some k := by
  intro e
  rcases ho.2 with ⟨rfl, _⟩ | ⟨g, cap, cur, rfl, _, hg, _⟩
  · cases e
  · cases e
    rcases h.2 with ⟨rfl, _⟩ | ⟨g2, cap2, cur2, rfl, _, hg2, _⟩
    · cases hk
    · cases hk
      rw [hg] at hg2
      injection hg2 with hg2
      injection hg2 with _ hg2
      exact absurd hg2 (by decide)
/-- One cell of the row of states is written. -/
theorem BkS.put {g rl vc : Nat} (hv : v = .slice (some ⟨g, 0, none⟩) rl vc) (h : BkS w p nm cr fr up cu tv y rn rf ru re v ov O W s) {k j : Nat} {x x' : Sa} {u : Value} (hx : s[k]? = some x) (hj : j < 4) (hc : Rec.cells x' = (Rec.cells x).set j u) : BkS w p nm cr fr up cu tv y rn rf ru re v ov O (W.setCell ⟨g, k * 4 + j, none⟩ u) (s.set k x') := by
  subst hv
  have hg : w.heap.size ≤ g := (h.own.lt g rfl).1
  have n1 : g ≠ w.heap.size := fun e => not_rowP6 h.dag h.own (by show some g = some w.heap.size; rw [e])
  have n2 : g ≠ p := fun e => not_rowR5 h.run h.own (by show some g = some p; rw [e])
  have n3 : g ≠ y := fun e => not_rowR5 h.ans h.own (by show some g = some y; rw [e])
  refine ⟨h.bel.setCell (p := ⟨g, k * 4 + j, none⟩) hg u, h.dag.far (a := ⟨g, k * 4 + j, none⟩) n1 u, h.run.far (a := ⟨g, k * 4 + j, none⟩) n2 u, h.ans.far (a := ⟨g, k * 4 + j, none⟩) n3 u, h.own.put x' hx hj hc, own_keep h.ord fun b hb => heap_setCell_other W ⟨g, k * 4 + j, none⟩ b u fun e => ?_⟩
  have e' : b = g := e
  subst e'
  exact not_rowI h.ord h.own hb rfl
/-- A state is blocked. -/
theorem BkS.block {g rl vc : Nat} (hv : v = .slice (some ⟨g, 0, none⟩) rl vc) (h : BkS w p nm cr fr up cu tv y rn rf ru re v ov O W s) {k : Nat} {x : Sa} (hx : s[k]? = some x) : BkS w p nm cr fr up cu tv y rn rf ru re v ov O ((W.setCell ⟨g, k * 4, none⟩ (.int .i64 4)).setCell ⟨g, k * 4 + 3, none⟩ (.int .i64 0)) (s.set k ⟨4, x.tries, x.tok, 0⟩) := by
  have hl := (List.getElem?_eq_some_iff.1 hx).1
  have h1 := h.put hv (j := 0) (x' := ⟨4, x.tries, x.tok, x.til⟩) (u := .int .i64 4) hx (by decide) rfl
  have h2 := h1.put hv (k := k) (j := 3) (x' := ⟨4, x.tries, x.tok, 0⟩) (u := .int .i64 0) (List.getElem?_set_self hl) (by decide) rfl
  rw [List.set_set] at h2
  exact h2
end
set_option maxRecDepth 10000 in
set_option maxHeartbeats 8000000 in
theorem implBlockRest_any (ao : Option Addr) (n cap : Nat) (nm cr : ByteArray) (fr up : Int) (cu : Bool) (ts : List Ta) (ro : Option Addr) (rl rc : Nat) (rn : ByteArray) (rf ru re : Int) (st : List Sa) (w : World) (hd : DagI w ao n cap ⟨nm, cr, fr, up, cu, ts⟩) (hg : Gl w) (hr : Reads w (.slice ro rl rc) st) (hl : rl ≤ 1048577) (hz : rn.size ≤ 1048576) (R : Rr) (HRR : Hid (blkR ⟨nm, cr, fr, up, cu, ts⟩ ⟨rn, rf, ru, re, st⟩ = R)) :
    Calls Tryz.prog 64 #[.agg #[.string nm, .string cr, .int .i64 fr, .int .i64 up, .bool cu, .slice ao n cap], .agg #[.string rn, .int .i64 rf, .int .i64 ru, .int .i64 re, .slice ro rl rc]] w fun e w' => ∃ v, e = .returned (.agg #[.string R.nm, .int .i64 R.fr, .int .i64 R.up, .int .i64 R.ep, v]) ∧ ownsR w' w.heap.size 85 v R.st ∧ Below w.heap.size w w' := by
  have HN : Hid (ts.length = n) := by
    obtain ⟨ao', cap', e⟩ := hd.tasks.slice
    injection e with _ e2 _
    exact e2.symm
  have HRN : Hid (st.length = rl) := hr.len.symm
  obtain ⟨q, HQ⟩ : ∃ q, Hid (dagB ⟨nm, cr, fr, up, cu, ts⟩ = q) := ⟨_, rfl⟩
  have hnn : n ≤ 1048577 := hd.few
  have HC : Hid (∀ W : World, Below w.heap.size w W → Calls Tryz.prog 62 #[.agg #[.string rn, .int .i64 rf, .int .i64 ru, .int .i64 re, .slice ro rl rc]] W fun e w' => ∃ v, e = .returned (.agg #[.string rn, .int .i64 rf, .int .i64 ru, .int .i64 re, v]) ∧ ownsR w' W.heap.size 85 v st ∧ Below W.heap.size W w') := fun W hb => cloned_any ro rl rc rn rf ru re st W (hr.below hb) hl hz
  have HOR : Hid (∀ W, Below w.heap.size w W → Calls Tryz.prog 111 #[.agg #[.string nm, .string cr, .int .i64 fr, .int .i64 up, .bool cu, .slice ao n cap]] W fun e w' => ∃ v, e = .returned v ∧ ownsR w' W.heap.size 3 v (ordC ⟨nm, cr, fr, up, cu, ts⟩) ∧ Below W.heap.size W w') := fun W hb => implOrder_any ao n cap nm cr fr up cu ts W (hd.below hb) (hg.up hb)
  have HDI : Hid (∀ W, Below w.heap.size w W → DagI W ao n cap ⟨nm, cr, fr, up, cu, ts⟩) := fun W hb => hd.below hb
  have HBL : Hid (blkR ⟨nm, cr, fr, up, cu, ts⟩ ⟨rn, rf, ru, re, st⟩ = ⟨rn, rf, ru, re, blockR ⟨nm, cr, fr, up, cu, ts⟩ st⟩) := rfl
  clear hd hg hr
  obtain ⟨W1, hW1⟩ : ∃ W1, ((w.alloc (.cells #[.string nm, .string cr, .int .i64 fr, .int .i64 up, .bool cu, .slice ao n cap] 36)).alloc (.cells #[.string rn, .int .i64 rf, .int .i64 ru, .int .i64 re, .slice ro rl rc] 31)).alloc (.cells #[.string ⟨#[]⟩, .int .i64 0, .int .i64 0, .int .i64 0, .slice none 0 0] 31) = W1 := ⟨_, rfl⟩
  have Z1 : P6 W1 w.heap.size nm cr fr up cu (.slice ao n cap) := by rw [← hW1]; exact (P6.new _ _ _ _ _ _ _).on (ba (ba (Below.refl _ _) (.cells #[.string rn, .int .i64 rf, .int .i64 ru, .int .i64 re, .slice ro rl rc] 31)) (.cells #[.string ⟨#[]⟩, .int .i64 0, .int .i64 0, .int .i64 0, .slice none 0 0] 31))
  have X1 : R5 W1 (w.heap.size + 1) rn rf ru re (.slice ro rl rc) := by
    rw [← hW1]
    have := (R5.new (w.alloc (.cells #[.string nm, .string cr, .int .i64 fr, .int .i64 up, .bool cu, .slice ao n cap] 36)) rn rf ru re (.slice ro rl rc)).on (ba (Below.refl _ _) (.cells #[.string ⟨#[]⟩, .int .i64 0, .int .i64 0, .int .i64 0, .slice none 0 0] 31))
    simpa using this
  have Y1 : R5 W1 (w.heap.size + 1 + 1) ⟨#[]⟩ 0 0 0 (.slice none 0 0) := by
    rw [← hW1]
    have := R5.new ((w.alloc (.cells #[.string nm, .string cr, .int .i64 fr, .int .i64 up, .bool cu, .slice ao n cap] 36)).alloc (.cells #[.string rn, .int .i64 rf, .int .i64 ru, .int .i64 re, .slice ro rl rc] 31)) ⟨#[]⟩ 0 0 0 (.slice none 0 0)
    simpa using this
  have B1 : Below w.heap.size w W1 := by rw [← hW1]; exact ba (ba (ba (Below.refl _ _) _) _) _
  have x0 := X1.c0
  have x1 := X1.c1
  have x2 := X1.c2
  have x3 := X1.c3
  have x4 := X1.c4
  go_enter Tryz.func64, Tryz.ntmps64
  go_wp2_with fail
  refine (HC.out _ B1).mono ?_
  rintro e w2 ⟨v2, rfl, ho2, hb2⟩
  have Z2 := Z1.on hb2
  have X2 := X1.on hb2
  have Y2 := Y1.on hb2
  have B2 := Below.on B1 hb2
  have HO2 : Hid (ownsR w2 w.heap.size 85 v2 st) := ho2.mono B1.size
  obtain ⟨va, vc, ev⟩ := ho2.slice
  subst ev
  rw [HRN.out] at HO2
  rw [HRN.out]
  clear x0 x1 x2 x3 x4 Z1 X1 Y1 B1 hb2 HC ho2 hW1
  have X3 := X2.set rn rf ru re (.slice va rl vc)
  have Y3 := Y2.farPut (g' := w.heap.size + 1) (nm' := rn) (fr' := rf) (up' := ru) (ep' := re) (tv' := (.slice va rl vc)) (by omega)
  have Z3 : P6 (putR5 w2 (w.heap.size + 1) rn rf ru re (.slice va rl vc)) w.heap.size nm cr fr up cu (.slice ao n cap) := ((((Z2.far (a := ⟨w.heap.size + 1, 0, none⟩) (by show w.heap.size + 1 ≠ w.heap.size; omega) _).far (a := ⟨w.heap.size + 1, 1, none⟩) (by show w.heap.size + 1 ≠ w.heap.size; omega) _).far (a := ⟨w.heap.size + 1, 2, none⟩) (by show w.heap.size + 1 ≠ w.heap.size; omega) _).far (a := ⟨w.heap.size + 1, 3, none⟩) (by show w.heap.size + 1 ≠ w.heap.size; omega) _).far (a := ⟨w.heap.size + 1, 4, none⟩) (by show w.heap.size + 1 ≠ w.heap.size; omega) _
  have B3 := below_putR5 (g := w.heap.size + 1) B2 (Nat.le_succ _) rn rf ru re (.slice va rl vc)
  have O3 := own_putR5 (b := w.heap.size + 1) HO2.out (not_rowR5 X2 HO2.out) rn rf ru re (.slice va rl vc)
  obtain ⟨W3, hW3⟩ : ∃ W, putR5 w2 (w.heap.size + 1) rn rf ru re (.slice va rl vc) = W := ⟨_, rfl⟩
  have HW3 : Hid (((((w2.setCell ⟨w.heap.size + 1, 0, none⟩ (.string rn)).setCell ⟨w.heap.size + 1, 1, none⟩ (.int .i64 rf)).setCell ⟨w.heap.size + 1, 2, none⟩ (.int .i64 ru)).setCell ⟨w.heap.size + 1, 3, none⟩ (.int .i64 re)).setCell ⟨w.heap.size + 1, 4, none⟩ (.slice va rl vc) = W3) := hW3
  rw [hW3] at X3 Y3 Z3 B3 O3
  have HO3 : Hid (ownsR W3 w.heap.size 85 (.slice va rl vc) st) := O3
  have x0 := X2.c0
  have x1 := X2.c1
  have x2 := X2.c2
  have x3 := X2.c3
  have x4 := X2.c4
  have xf := X2.fz
  clear hW3 O3
  have k4 := X3.c4
  have z5 := Z3.c5
  by_cases hne : rl = n
  case neg =>
    have hne' : ((rl : Int) != (n : Int)) = true := bne_iff_ne.2 (by omega)
    have HR0 : Hid (R = ⟨rn, rf, ru, re, st⟩) := by
      show R = _
      rw [← HRR.out, HBL.out]
      unfold blockR
      rw [if_neg (fun h => hne (by rw [← HRN.out, ← HN.out]; exact h.2))]
    clear hne
    have j0 := X3.c0
    have j1 := X3.c1
    have j2 := X3.c2
    have j3 := X3.c3
    have y0 := Y3.c0
    have y1 := Y3.c1
    have y2 := Y3.c2
    have y3 := Y3.c3
    have y4 := Y3.c4
    have yf := Y3.fz
    go_wp2_with (rw [HW3.out])
    have Y4 := Y3.set rn rf ru re (.slice va rl vc)
    have B4 := below_putR5 (g := w.heap.size + 1 + 1) B3 (by omega) rn rf ru re (.slice va rl vc)
    have O4 := own_putR5 (b := w.heap.size + 1 + 1) HO3.out (not_rowR5 Y3 HO3.out) rn rf ru re (.slice va rl vc)
    refine bodyPost_ret (ret_run1 rfl rfl Y4) rfl ⟨(.slice va rl vc), ?_, ?_, B4⟩
    · rw [HR0.out]
    · rw [HR0.out]; exact O4
  subst hne
  have HR0 : Hid (R = ⟨rn, rf, ru, re, (ordC ⟨nm, cr, fr, up, cu, ts⟩).foldl (blockS ts) st⟩) := by
    show R = _
    rw [← HRR.out, HBL.out]
    unfold blockR ordC
    by_cases hq : dagB ⟨nm, cr, fr, up, cu, ts⟩ = true
    · rw [if_pos ⟨hq, by show st.length = ts.length; rw [HRN.out, HN.out]⟩, if_pos hq]; rfl
    · rw [if_neg (fun h => hq h.1), if_neg hq]; rfl
  have HOI : Hid ((∀ a ∈ ordC ⟨nm, cr, fr, up, cu, ts⟩, ∃ k : Nat, k < rl ∧ a = (k : Int)) ∧ (ordC ⟨nm, cr, fr, up, cu, ts⟩ ≠ [] → Rg4 ts) ∧ (ordC ⟨nm, cr, fr, up, cu, ts⟩).length ≤ 4) := by
    show (∀ a ∈ ordC ⟨nm, cr, fr, up, cu, ts⟩, ∃ k : Nat, k < rl ∧ a = (k : Int)) ∧ (ordC ⟨nm, cr, fr, up, cu, ts⟩ ≠ [] → Rg4 ts) ∧ (ordC ⟨nm, cr, fr, up, cu, ts⟩).length ≤ 4
    unfold ordC
    by_cases hq : dagB ⟨nm, cr, fr, up, cu, ts⟩ = true
    · rw [if_pos hq]
      have hrg : Rg4 ts := rg_of hq
      refine ⟨fun a ha => ?_, fun _ => hrg, by show (orderL ts).length ≤ 4; rw [hrg.full]; exact hrg.few⟩
      obtain ⟨j, t, e, hj⟩ := (order_ol hrg).pl a ha
      exact ⟨j, by rw [← HN.out]; exact (List.getElem?_eq_some_iff.1 hj).1, e⟩
    · rw [if_neg hq]
      exact ⟨fun a ha => (nomatch ha), fun h => absurd rfl h, by decide⟩
  obtain ⟨O, HOE⟩ : ∃ O, Hid (ordC ⟨nm, cr, fr, up, cu, ts⟩ = O) := ⟨_, rfl⟩
  rw [HOE.out] at HR0 HOI HOR
  obtain ⟨ol, HOL⟩ : ∃ ol, Hid (O.length = ol) := ⟨_, rfl⟩
  have hol : ol ≤ 4 := by rw [← HOL.out]; exact HOI.out.2.2
  clear HRR HBL HOE HQ
  have c0 := Z3.c0
  have c1 := Z3.c1
  have c2 := Z3.c2
  have c3 := Z3.c3
  have c4 := Z3.c4
  have c5 := Z3.c5
  go_wp2_with (rw [HW3.out])
  refine (HOR.out _ B3).mono ?_
  rintro e w4 ⟨ov, rfl, ho4, hb4⟩
  obtain ⟨oa, oc, eo⟩ := ho4.slice
  subst eo
  have HS4 : Hid (BkS w (w.heap.size + 1) nm cr fr up cu (.slice ao rl cap) (w.heap.size + 1 + 1) rn rf ru re (.slice va rl vc) (.slice oa ol oc) O w4 st) := by
    have h5 := ho4.mono B3.size
    rw [HOL.out] at h5
    exact ⟨Below.on B3 hb4, Z3.on hb4, X3.on hb4, Y3.on hb4, HO3.out.all hb4, h5⟩
  rw [HOL.out]
  clear x0 x1 x2 x3 x4 xf k4 z5 c0 c1 c2 c3 c4 c5 ho4 hb4 X2 Y2 Z2 B2 X3 Y3 Z3 B3 HO2 HO3 HW3 HOR
  go_wp2
  go_loopw [20] (fun iv wr => ∃ (k : Nat) (s : List Sa), k ≤ ol ∧ iv = .int .i64 k ∧ Hid (O.foldl (blockS ts) st = (O.drop k).foldl (blockS ts) s) ∧ Hid (s.length = rl) ∧ Hid (BkS w (w.heap.size + 1) nm cr fr up cu (.slice ao rl cap) (w.heap.size + 1 + 1) rn rf ru re (.slice va rl vc) (.slice oa ol oc) O wr s)) (fun iv _ => ol - (intOf iv).toNat)
  case atStart => exact ⟨0, st, Nat.zero_le _, rfl, (by show _ = (O.drop 0).foldl _ _; rw [List.drop_zero]), HRN, HS4⟩
  case round =>
    clear HS4
    obtain ⟨k, s, hk, rfl, HF, HSL, HS⟩ := hrel
    by_cases hlt : k < ol
    · obtain ⟨a, ha⟩ : ∃ a, O[k]? = some a := ⟨_, List.getElem?_eq_getElem (by rw [HOL.out]; exact hlt)⟩
      obtain ⟨bo, oo, eo, hbo, ca⟩ := int_at HS.out.ord.reads ha
      have hmem := List.mem_of_getElem? ha
      obtain ⟨j, hj, ea⟩ := HOI.out.1 a hmem
      subst ea
      have HRG : Hid (Rg4 ts) := HOI.out.2.1 (by intro h; rw [h] at hmem; cases hmem)
      obtain ⟨x, hx⟩ : ∃ x, s[j]? = some x := ⟨_, List.getElem?_eq_getElem (by rw [HSL.out]; exact hj)⟩
      have HX : Hid (s[j]? = some x) := hx
      obtain ⟨g, gc, eg, hg1, hg2, hgc⟩ := own_some HS.out.own hx
      rw [HSL.out] at eg
      injection eg with eg1 _ eg3
      subst eg1 eg3 eo
      have HF1 : Hid (O.foldl (blockS ts) st = (O.drop (k + 1)).foldl (blockS ts) (blockS ts s (j : Int))) := by show _ = _; rw [HF.out, foldl_at ha]
      have HLU : Hid ((upsA ts (j : Int)).length ≤ 4) := ups_len HRG.out _
      obtain ⟨z, HZ⟩ : ∃ z, Hid (isN s (j : Int) 0 = z) := ⟨_, rfl⟩
      obtain ⟨A, HA⟩ : ∃ A, Hid ((upsA ts (j : Int)).any (stuckB s) = A) := ⟨_, rfl⟩
      have HBS : Hid (blockS ts s (j : Int) = if (z && A) = true then s.set j ⟨4, x.tries, x.tok, 0⟩ else s) := by
        show blockS ts s (j : Int) = _
        unfold blockS
        rw [HZ.out, HA.out, Int.toNat_natCast, sAt_at hx]
      have HWT : Hid (∀ W : World, Below wr.heap.size wr W → Calls Tryz.prog 52 #[.agg #[.string rn, .int .i64 rf, .int .i64 ru, .int .i64 re, .slice (some ⟨g, 0, none⟩) rl vc], .int .i64 j] W fun e w' => e = .returned (.bool z) ∧ Below W.heap.size W w') := fun W hb => by
        have := isWaiting_any (some ⟨g, 0, none⟩) rl vc rn rf ru re s (j : Int) W (HS.out.own.reads.below hb) hl
        rw [HZ.out] at this
        exact this
      have HWQ : Hid (∀ y : Wd wr, Calls Tryz.prog 52 #[.agg #[.string rn, .int .i64 rf, .int .i64 ru, .int .i64 re, .slice (some ⟨g, 0, none⟩) rl vc], .int .i64 j] y.at' fun e w' => e = .returned (.bool z) ∧ Below y.at'.heap.size y.at' w') := fun y => HWT.out _ y.ok
      have HU : Hid (∀ W, Below wr.heap.size wr W → Calls Tryz.prog 54 #[.agg #[.string nm, .string cr, .int .i64 fr, .int .i64 up, .bool cu, .slice ao rl cap], .int .i64 j] W fun e w' => ∃ (va : Option Addr) (vc : Nat), e = .returned (.slice va (upsA ts (j : Int)).length vc) ∧ ownsR w' W.heap.size 3 (.slice va (upsA ts (j : Int)).length vc) (upsA ts (j : Int)) ∧ Below W.heap.size W w') := fun W hb => upsR_any ao rl cap nm cr fr up cu ts j W (HDI.out W (Below.on HS.out.bel hb)) HRG.out hj
      obtain ⟨U, HUE⟩ : ∃ U, Hid (upsA ts (j : Int) = U) := ⟨_, rfl⟩
      rw [HUE.out] at HA HLU HU
      obtain ⟨ul, HUL⟩ : ∃ ul, Hid (U.length = ul) := ⟨_, rfl⟩
      rw [HUL.out] at HLU HU
      have HCT : Hid (∀ (ua : Option Addr) (uc : Nat) W, Below wr.heap.size wr W → Reads W (.slice ua ul uc) U → Calls Tryz.prog 53 #[.slice ua ul uc, .func (.func 68) #[.agg #[.string rn, .int .i64 rf, .int .i64 ru, .int .i64 re, .slice (some ⟨g, 0, none⟩) rl vc]] #[]] W fun e w' => e = .returned (.bool A) ∧ Below W.heap.size W w') := fun ua uc W hb hu => by
        have := cont_isStuck ua ul uc U (some ⟨g, 0, none⟩) rl vc rn rf ru re s W (HS.out.own.reads.below hb) hl hu (by have := HLU.out; omega)
        rw [HA.out] at this
        exact this
      have HSL2 : Hid ((s.set j ⟨4, x.tries, x.tok, 0⟩).length = rl) := by show _ = rl; rw [List.length_set]; exact HSL.out
      clear hmem HF hx ha HUE HUL HLU HZ HA
      have c0 := HS.out.dag.c0
      go_wp2_with fail
      clear c0
      cases z with
      | false =>
        have HF2 : Hid (O.foldl (blockS ts) st = (O.drop (k + 1)).foldl (blockS ts) s) := by show _ = _; rw [HF1.out, HBS.out]; rfl
        clear HF1 HBS HSL2 HU HCT
        have p0 := Wd.cell HS.out.run.c0
        have p1 := Wd.cell HS.out.run.c1
        have p2 := Wd.cell HS.out.run.c2
        have p3 := Wd.cell HS.out.run.c3
        have p4 := Wd.cell HS.out.run.c4
        refine wp_region_wd (by kernel_rfl) (by kernel_rfl) ?_
        repeat (go_big_quiet_step ((go_at_call 52; refine calls_wd (v := .bool false) ?_; exact HWQ.out _)))
        refine wpQuiet_nil ?_
        rintro _ ⟨y, rfl⟩
        have HS2 : Hid (BkS w (w.heap.size + 1) nm cr fr up cu (.slice ao rl cap) (w.heap.size + 1 + 1) rn rf ru re (.slice (some ⟨g, 0, none⟩) rl vc) (.slice (some ⟨bo, oo, none⟩) ol oc) O y.at' s) := HS.out.on y.ok
        clear HS p0 p1 p2 p3 p4 ca
        go_wp2
        go_roundw
        case rel => exact ⟨k + 1, s, by omega, by go_num, HF2, HSL, HS2⟩
        case measure => simp [intOf]; omega
      | true =>
        have d0 := Below.cellOf (B := wr.heap.size) (W := wr) (p := ⟨w.heap.size, 0, none⟩) HS.out.dag.lt HS.out.dag.c0
        have d1 := Below.cellOf (B := wr.heap.size) (W := wr) (p := ⟨w.heap.size, 1, none⟩) HS.out.dag.lt HS.out.dag.c1
        have d2 := Below.cellOf (B := wr.heap.size) (W := wr) (p := ⟨w.heap.size, 2, none⟩) HS.out.dag.lt HS.out.dag.c2
        have d3 := Below.cellOf (B := wr.heap.size) (W := wr) (p := ⟨w.heap.size, 3, none⟩) HS.out.dag.lt HS.out.dag.c3
        have d4 := Below.cellOf (B := wr.heap.size) (W := wr) (p := ⟨w.heap.size, 4, none⟩) HS.out.dag.lt HS.out.dag.c4
        have d5 := Below.cellOf (B := wr.heap.size) (W := wr) (p := ⟨w.heap.size, 5, none⟩) HS.out.dag.lt HS.out.dag.c5
        have e0 := Below.cellOf (B := wr.heap.size) (W := wr) (p := ⟨w.heap.size + 1, 0, none⟩) HS.out.run.lt HS.out.run.c0
        have e1 := Below.cellOf (B := wr.heap.size) (W := wr) (p := ⟨w.heap.size + 1, 1, none⟩) HS.out.run.lt HS.out.run.c1
        have e2 := Below.cellOf (B := wr.heap.size) (W := wr) (p := ⟨w.heap.size + 1, 2, none⟩) HS.out.run.lt HS.out.run.c2
        have e3 := Below.cellOf (B := wr.heap.size) (W := wr) (p := ⟨w.heap.size + 1, 3, none⟩) HS.out.run.lt HS.out.run.c3
        have e4 := Below.cellOf (B := wr.heap.size) (W := wr) (p := ⟨w.heap.size + 1, 4, none⟩) HS.out.run.lt HS.out.run.c4
        go_region_held3 (fun w' => Below wr.heap.size wr w') ((first | exact (Below.refl _ _).drew | exact hS5 | exact hS6 | exact hS7)) ((first | (go_at_call 53; refine (HCT.out _ _ _ hS6 ho6.reads).mono ?_; rintro e w7 ⟨rfl, hb7⟩; have hS7 := keep_on (B := wr.heap.size) (W := wr) hb7 hS6 (Nat.le_refl _)) | (go_at_call 54; refine (HU.out _ (by assumption)).mono ?_; rintro e w6 ⟨ua, uc, rfl, ho6, hb6⟩; have hS6 := keep_on (B := wr.heap.size) (W := wr) hb6 (by assumption) (Nat.le_refl _)) | (go_at_call 52; refine (HWT.out _ (by assumption)).mono ?_; rintro e w5 ⟨rfl, hb5⟩; have hS5 := keep_on (B := wr.heap.size) (W := wr) hb5 (by assumption) (Nat.le_refl _))))
        all_goals
          have HS2 : Hid (BkS w (w.heap.size + 1) nm cr fr up cu (.slice ao rl cap) (w.heap.size + 1 + 1) rn rf ru re (.slice (some ⟨g, 0, none⟩) rl vc) (.slice (some ⟨bo, oo, none⟩) ol oc) O w7 s) := HS.out.on hS7
          clear d0 d1 d2 d3 d4 d5 e0 e1 e2 e3 e4 ca HS hb5 hS5 ho6 hb6 hS6 hb7 hS7 HWT HU HCT
          cases A with
          | false =>
            have HF2 : Hid (O.foldl (blockS ts) st = (O.drop (k + 1)).foldl (blockS ts) s) := by show _ = _; rw [HF1.out, HBS.out]; rfl
            clear HF1 HBS HSL2
            go_wp2
            go_roundw
            case rel => exact ⟨k + 1, s, by omega, by go_num, HF2, HSL, HS2⟩
            case measure => simp [intOf]; omega
          | true =>
            have HF2 : Hid (O.foldl (blockS ts) st = (O.drop (k + 1)).foldl (blockS ts) (s.set j ⟨4, x.tries, x.tok, 0⟩)) := by show _ = _; rw [HF1.out, HBS.out]; rfl
            have HS3 : Hid (BkS w (w.heap.size + 1) nm cr fr up cu (.slice ao rl cap) (w.heap.size + 1 + 1) rn rf ru re (.slice (some ⟨g, 0, none⟩) rl vc) (.slice (some ⟨bo, oo, none⟩) ol oc) O (((w7.setCell ⟨g, j * 4, none⟩ (.int .i64 4)).setCell ⟨g, j * 4 + 3, none⟩ (.int .i64 0))).drew (s.set j ⟨4, x.tries, x.tok, 0⟩)) := (HS2.out.block rfl HX.out).on (Below.refl _ _).drew
            obtain ⟨hg3, ⟨a0, a1, a2, a3⟩, af0, af1, af2, af3⟩ := sa_own HS2.out.own HX.out
            have k4 := HS2.out.run.c4
            have hgp : w.heap.size + 1 ≠ g := fun e => not_rowR5 HS2.out.run HS2.out.own (by show some g = some (w.heap.size + 1); rw [e])
            have k5 : (w7.setCell ⟨g, j * 4, none⟩ (.int .i64 4)).cell? ⟨w.heap.size + 1, 4, none⟩ = some (.slice (some ⟨g, 0, none⟩) rl vc) := (HS2.out.run.far (a := ⟨g, j * 4, none⟩) (fun e => hgp e.symm) (.int .i64 4)).c4
            have k6 : (w7.setCell ⟨g, j * 4 + 3, none⟩ (.int .i64 0)).cell? ⟨w.heap.size + 1, 4, none⟩ = some (.slice (some ⟨g, 0, none⟩) rl vc) := (HS2.out.run.far (a := ⟨g, j * 4 + 3, none⟩) (fun e => hgp e.symm) (.int .i64 0)).c4
            clear HF1 HBS HS2
            go_wp2_with fail
            go_region
            go_wp2
            clear a0 a1 a2 a3 af0 af1 af2 af3 k4 k5 k6
            go_roundw
            case rel => exact ⟨k + 1, _, by omega, by go_num, HF2, HSL2, HS3⟩
            case measure => simp [intOf]; omega
    · have HR1 : Hid (R = ⟨rn, rf, ru, re, s⟩) := by show R = _; rw [HR0.out, HF.out, List.drop_eq_nil_of_le (by rw [HOL.out]; omega)]; rfl
      obtain ⟨B5, Z5, X5, Y5, O5, -⟩ := HS.out
      have HO5 : Hid (ownsR wr w.heap.size 85 (.slice va rl vc) s) := O5
      clear O5 HS HF HR0
      have j0 := X5.c0
      have j1 := X5.c1
      have j2 := X5.c2
      have j3 := X5.c3
      have j4 := X5.c4
      have y0 := Y5.c0
      have y1 := Y5.c1
      have y2 := Y5.c2
      have y3 := Y5.c3
      have y4 := Y5.c4
      have yf := Y5.fz
      go_wp2
      have Y6 := Y5.set rn rf ru re (.slice va rl vc)
      have B6 := below_putR5 (g := w.heap.size + 1 + 1) B5 (by omega) rn rf ru re (.slice va rl vc)
      have O6 := own_putR5 (b := w.heap.size + 1 + 1) HO5.out (not_rowR5 Y5 HO5.out) rn rf ru re (.slice va rl vc)
      refine bodyPost_ret (ret_run1 rfl rfl Y6) rfl ⟨(.slice va rl vc), ?_, ?_, B6⟩
      · rw [HR1.out]
      · rw [HR1.out]; exact O6

set_option maxRecDepth 10000 in
set_option maxHeartbeats 8000000 in
theorem specBlockRest_any (ao : Option Addr) (n cap : Nat) (nm cr : ByteArray) (fr up : Int) (cu : Bool) (ts : List Ta) (ro : Option Addr) (rl rc : Nat) (rn : ByteArray) (rf ru re : Int) (st : List Sa) (w : World) (hd : DagAt w (.slice ao n cap) ⟨nm, cr, fr, up, cu, ts⟩) (hr : Reads w (.slice ro rl rc) st) (hl : rl ≤ 1048577) (R : Rr) (HRR : Hid (blkR ⟨nm, cr, fr, up, cu, ts⟩ ⟨rn, rf, ru, re, st⟩ = R)) :
    Calls Tryz.prog 58 #[.agg #[.string nm, .string cr, .int .i64 fr, .int .i64 up, .bool cu, .slice ao n cap], .agg #[.string rn, .int .i64 rf, .int .i64 ru, .int .i64 re, .slice ro rl rc]] w fun e w' => ∃ v, e = .returned (.agg #[.string R.nm, .int .i64 R.fr, .int .i64 R.up, .int .i64 R.ep, v]) ∧ ownsR w' w.heap.size 85 v R.st ∧ Below w.heap.size w w' := by
  have HN : Hid (ts.length = n) := by
    obtain ⟨ao', cap', e⟩ := hd.tasks.slice
    injection e with _ e2 _
    exact e2.symm
  have HRN : Hid (st.length = rl) := hr.len.symm
  obtain ⟨q, HQ⟩ : ∃ q, Hid (dagB ⟨nm, cr, fr, up, cu, ts⟩ = q) := ⟨_, rfl⟩
  have hnn : n ≤ 1048577 := by rw [← HN.out]; exact hd.few
  have HC : Hid (∀ W : World, Below w.heap.size w W → Calls Tryz.prog 57 #[.agg #[.string rn, .int .i64 rf, .int .i64 ru, .int .i64 re, .slice ro rl rc]] W fun e w' => ∃ v, e = .returned (.agg #[.string rn, .int .i64 rf, .int .i64 ru, .int .i64 re, v]) ∧ ownsR w' W.heap.size 85 v st ∧ Below W.heap.size W w') := fun W hb => l14Copy_any ro rl rc rn rf ru re st W (hr.below hb) hl
  have HDG : Hid (∀ W, Below w.heap.size w W → Calls Tryz.prog 35 #[.agg #[.string nm, .string cr, .int .i64 fr, .int .i64 up, .bool cu, .slice ao n cap]] W fun e w' => e = .returned (.bool q) ∧ Below W.heap.size W w') := fun W hb => by
    have := dagOk_try _ nm cr fr up cu ts W (hd.below hb)
    rw [HQ.out] at this
    exact this
  have HOR : Hid (∀ W, Below w.heap.size w W → q = true → Calls Tryz.prog 93 #[.slice ao n cap] W fun e w' => ∃ v', e = .returned v' ∧ ownsR w' W.heap.size 3 v' (orderL ts) ∧ Below W.heap.size W w') := fun W hb hq => by
    have h4 := (rg_of (HQ.out.trans hq)).few
    exact l12Order_any (hd.tasks.below hb) (Nat.le_trans h4 (by decide)) fun t ht => (hd.small t ht).1
  have HTS : Hid (∀ W, Below w.heap.size w W → Tasks W (.slice ao n cap) ts) := fun W hb => hd.tasks.below hb
  have HRG0 : Hid (q = true → Rg4 ts) := fun h => rg_of (HQ.out.trans h)
  have HBL : Hid (blkR ⟨nm, cr, fr, up, cu, ts⟩ ⟨rn, rf, ru, re, st⟩ = ⟨rn, rf, ru, re, if q = true ∧ rl = n then blockL ts st else st⟩) := by
    show Rr.mk rn rf ru re (blockR ⟨nm, cr, fr, up, cu, ts⟩ st) = _
    unfold blockR
    rw [HQ.out, ← HRN.out, ← HN.out]
  clear hd hr
  obtain ⟨W1, hW1⟩ : ∃ W1, ((w.alloc (.cells #[.string nm, .string cr, .int .i64 fr, .int .i64 up, .bool cu, .slice ao n cap] 36)).alloc (.cells #[.string rn, .int .i64 rf, .int .i64 ru, .int .i64 re, .slice ro rl rc] 31)).alloc (.cells #[.string ⟨#[]⟩, .int .i64 0, .int .i64 0, .int .i64 0, .slice none 0 0] 31) = W1 := ⟨_, rfl⟩
  have Z1 : P6 W1 w.heap.size nm cr fr up cu (.slice ao n cap) := by rw [← hW1]; exact (P6.new _ _ _ _ _ _ _).on (ba (ba (Below.refl _ _) (.cells #[.string rn, .int .i64 rf, .int .i64 ru, .int .i64 re, .slice ro rl rc] 31)) (.cells #[.string ⟨#[]⟩, .int .i64 0, .int .i64 0, .int .i64 0, .slice none 0 0] 31))
  have X1 : R5 W1 (w.heap.size + 1) rn rf ru re (.slice ro rl rc) := by
    rw [← hW1]
    have := (R5.new (w.alloc (.cells #[.string nm, .string cr, .int .i64 fr, .int .i64 up, .bool cu, .slice ao n cap] 36)) rn rf ru re (.slice ro rl rc)).on (ba (Below.refl _ _) (.cells #[.string ⟨#[]⟩, .int .i64 0, .int .i64 0, .int .i64 0, .slice none 0 0] 31))
    simpa using this
  have Y1 : R5 W1 (w.heap.size + 1 + 1) ⟨#[]⟩ 0 0 0 (.slice none 0 0) := by
    rw [← hW1]
    have := R5.new ((w.alloc (.cells #[.string nm, .string cr, .int .i64 fr, .int .i64 up, .bool cu, .slice ao n cap] 36)).alloc (.cells #[.string rn, .int .i64 rf, .int .i64 ru, .int .i64 re, .slice ro rl rc] 31)) ⟨#[]⟩ 0 0 0 (.slice none 0 0)
    simpa using this
  have B1 : Below w.heap.size w W1 := by rw [← hW1]; exact ba (ba (ba (Below.refl _ _) _) _) _
  have x0 := X1.c0
  have x1 := X1.c1
  have x2 := X1.c2
  have x3 := X1.c3
  have x4 := X1.c4
  go_enter Tryz.func58, Tryz.ntmps58
  go_wp2_with fail
  refine (HC.out _ B1).mono ?_
  rintro e w2 ⟨v2, rfl, ho2, hb2⟩
  have Z2 := Z1.on hb2
  have X2 := X1.on hb2
  have Y2 := Y1.on hb2
  have B2 := Below.on B1 hb2
  have HO2 : Hid (ownsR w2 w.heap.size 85 v2 st) := ho2.mono B1.size
  obtain ⟨va, vc, ev⟩ := ho2.slice
  subst ev
  rw [HRN.out] at HO2
  rw [HRN.out]
  clear x0 x1 x2 x3 x4 Z1 X1 Y1 B1 hb2 HC ho2 hW1
  obtain ⟨W3, hW3⟩ : ∃ W, w2.alloc (.cells #[.string rn, .int .i64 rf, .int .i64 ru, .int .i64 re, (.slice va rl vc)] 31) = W := ⟨_, rfl⟩
  have hb3 : Below w2.heap.size w2 W3 := by rw [← hW3]; exact ba (Below.refl _ _) _
  have U3 : R5 W3 w2.heap.size rn rf ru re (.slice va rl vc) := by rw [← hW3]; exact R5.new _ _ _ _ _ _
  have Z3 := Z2.on hb3
  have X3 := X2.on hb3
  have Y3 := Y2.on hb3
  have B3 := Below.on B2 hb3
  have HO3 : Hid (ownsR W3 w.heap.size 85 (.slice va rl vc) st) := HO2.out.all hb3
  obtain ⟨P, HP⟩ : ∃ P, Hid (w2.heap.size = P) := ⟨_, rfl⟩
  have c0 := Z3.c0
  have c1 := Z3.c1
  have c2 := Z3.c2
  have c3 := Z3.c3
  have c4 := Z3.c4
  have c5 := Z3.c5
  go_wp2_with fail
  refine (HDG.out _ B3).mono ?_
  rintro e w4 ⟨rfl, hb4⟩
  have U4 := U3.on hb4
  have Z4 := Z3.on hb4
  have X4 := X3.on hb4
  have Y4 := Y3.on hb4
  have B4 := Below.on B3 hb4
  have HO4 : Hid (ownsR w4 w.heap.size 85 (.slice va rl vc) st) := HO3.out.all hb4
  rw [HP.out] at U4
  rw [HP.out]
  clear c0 c1 c2 c3 c4 c5 hW3 U3 Z2 X2 Y2 B2 HO2 Z3 X3 Y3 B3 HO3 hb3 hb4 HDG HP
  have END : Hid (∀ (W : World) (s : List Sa), R5 W P rn rf ru re (.slice va rl vc) → R5 W (w.heap.size + 1 + 1) ⟨#[]⟩ 0 0 0 (.slice none 0 0) → ownsR W w.heap.size 85 (.slice va rl vc) s → Below w.heap.size w W → R = ⟨rn, rf, ru, re, s⟩ → ∃ v, Ending.returned (.agg #[.string rn, .int .i64 rf, .int .i64 ru, .int .i64 re, (.slice va rl vc)]) = .returned (.agg #[.string R.nm, .int .i64 R.fr, .int .i64 R.up, .int .i64 R.ep, v]) ∧ ownsR (putR5 W (w.heap.size + 1 + 1) rn rf ru re (.slice va rl vc)) w.heap.size 85 v R.st ∧ Below w.heap.size w (putR5 W (w.heap.size + 1 + 1) rn rf ru re (.slice va rl vc))) := fun W s _ hy ho hb hR => by
    rw [hR]
    exact ⟨(.slice va rl vc), rfl, own_putR5 ho (not_rowR5 hy ho) rn rf ru re (.slice va rl vc), below_putR5 hb (by omega) rn rf ru re (.slice va rl vc)⟩
  have x4 := X4.c4
  have z5 := Z4.c5
  have u0 := U4.c0
  have u1 := U4.c1
  have u2 := U4.c2
  have u3 := U4.c3
  have u4 := U4.c4
  have y0 := Y4.c0
  have y1 := Y4.c1
  have y2 := Y4.c2
  have y3 := Y4.c3
  have y4 := Y4.c4
  have yf := Y4.fz
  cases q with
  | false =>
    have HR0 : Hid (R = ⟨rn, rf, ru, re, st⟩) := by show R = _; rw [← HRR.out, HBL.out, if_neg (by simp)]
    go_wp2
    exact bodyPost_ret (ret_run1 rfl rfl (Y4.set rn rf ru re (.slice va rl vc))) rfl (END.out w4 st U4 Y4 HO4.out B4 HR0.out)
  | true =>
  by_cases hne : rl = n
  case neg =>
    have HR0 : Hid (R = ⟨rn, rf, ru, re, st⟩) := by show R = _; rw [← HRR.out, HBL.out, if_neg (fun h => hne h.2)]
    have hne' : ((rl : Int) != (n : Int)) = true := bne_iff_ne.2 (by omega)
    clear hne
    go_wp2
    exact bodyPost_ret (ret_run1 rfl rfl (Y4.set rn rf ru re (.slice va rl vc))) rfl (END.out w4 st U4 Y4 HO4.out B4 HR0.out)
  subst hne
  have HRG : Hid (Rg4 ts) := HRG0.out rfl
  have HR0 : Hid (R = ⟨rn, rf, ru, re, (orderL ts).foldl (blockS ts) st⟩) := by show R = _; rw [← HRR.out, HBL.out, if_pos ⟨rfl, rfl⟩]; rfl
  have HOI : Hid ((∀ a ∈ orderL ts, ∃ k : Nat, k < rl ∧ a = (k : Int)) ∧ (orderL ts).length ≤ 4) := by
    refine ⟨fun a ha => ?_, by rw [HRG.out.full]; exact HRG.out.few⟩
    obtain ⟨j, t, e, hj⟩ := (order_ol HRG.out).pl a ha
    exact ⟨j, by rw [← HN.out]; exact (List.getElem?_eq_some_iff.1 hj).1, e⟩
  have HOR2 : Hid (∀ W, Below w.heap.size w W → Calls Tryz.prog 93 #[.slice ao rl cap] W fun e w' => ∃ v', e = .returned v' ∧ ownsR w' W.heap.size 3 v' (orderL ts) ∧ Below W.heap.size W w') := fun W hb => HOR.out W hb rfl
  obtain ⟨O, HOE⟩ : ∃ O, Hid (orderL ts = O) := ⟨_, rfl⟩
  rw [HOE.out] at HR0 HOI HOR2
  obtain ⟨ol, HOL⟩ : ∃ ol, Hid (O.length = ol) := ⟨_, rfl⟩
  have hol : ol ≤ 4 := by rw [← HOL.out]; exact HOI.out.2
  clear HRR HBL HOE HQ HOR HRG0
  go_wp2_with fail
  refine (HOR2.out _ B4).mono ?_
  rintro e w5 ⟨ov, rfl, ho5, hb5⟩
  obtain ⟨oa, oc, eo⟩ := ho5.slice
  subst eo
  have HS5 : Hid (BkS w P nm cr fr up cu (.slice ao rl cap) (w.heap.size + 1 + 1) rn rf ru re (.slice va rl vc) (.slice oa ol oc) O w5 st) := by
    have h6 := ho5.mono B4.size
    rw [HOL.out] at h6
    exact ⟨Below.on B4 hb5, Z4.on hb5, U4.on hb5, Y4.on hb5, HO4.out.all hb5, h6⟩
  rw [HOL.out]
  clear x4 z5 u0 u1 u2 u3 u4 y0 y1 y2 y3 y4 yf ho5 hb5 U4 Z4 X4 Y4 B4 HO4 HOR2
  go_wp2
  go_loopw [7] (fun iv wr => ∃ (k : Nat) (s : List Sa), k ≤ ol ∧ iv = .int .i64 k ∧ Hid (O.foldl (blockS ts) st = (O.drop k).foldl (blockS ts) s) ∧ Hid (s.length = rl) ∧ Hid (BkS w P nm cr fr up cu (.slice ao rl cap) (w.heap.size + 1 + 1) rn rf ru re (.slice va rl vc) (.slice oa ol oc) O wr s)) (fun iv _ => ol - (intOf iv).toNat)
  case atStart => exact ⟨0, st, Nat.zero_le _, rfl, (by show _ = (O.drop 0).foldl _ _; rw [List.drop_zero]), HRN, HS5⟩
  case round =>
    clear HS5
    obtain ⟨k, s, hk, rfl, HF, HSL, HS⟩ := hrel
    by_cases hlt : k < ol
    · obtain ⟨a, ha⟩ : ∃ a, O[k]? = some a := ⟨_, List.getElem?_eq_getElem (by rw [HOL.out]; exact hlt)⟩
      obtain ⟨bo, oo, eo, hbo, ca⟩ := int_at HS.out.ord.reads ha
      obtain ⟨j, hj, ea⟩ := HOI.out.1 a (List.mem_of_getElem? ha)
      subst ea
      obtain ⟨x, hx⟩ : ∃ x, s[j]? = some x := ⟨_, List.getElem?_eq_getElem (by rw [HSL.out]; exact hj)⟩
      have HX : Hid (s[j]? = some x) := hx
      obtain ⟨g, gc, eg, hg1, hg2, hgc⟩ := own_some HS.out.own hx
      rw [HSL.out] at eg
      injection eg with eg1 _ eg3
      subst eg1 eg3 eo
      have HF1 : Hid (O.foldl (blockS ts) st = (O.drop (k + 1)).foldl (blockS ts) (blockS ts s (j : Int))) := by show _ = _; rw [HF.out, foldl_at ha]
      obtain ⟨A0, HA0⟩ : ∃ A, Hid ((upsA ts (j : Int)).any (undoneB s) = A) := ⟨_, rfl⟩
      obtain ⟨A, HA⟩ : ∃ A, Hid ((upsA ts (j : Int)).any (stuckB s) = A) := ⟨_, rfl⟩
      have HBS : Hid (blockS ts s (j : Int) = if (decide (x.is = 0) && A) = true then s.set j ⟨4, x.tries, x.tok, 0⟩ else s) := by
        show blockS ts s (j : Int) = _
        unfold blockS
        rw [isN_in hx, HA.out, Int.toNat_natCast, sAt_at hx]
      have HUP : Hid (∀ y : Wd wr, Calls Tryz.prog 65 #[.agg #[.string nm, .string cr, .int .i64 fr, .int .i64 up, .bool cu, .slice ao rl cap], .agg #[.string rn, .int .i64 rf, .int .i64 ru, .int .i64 re, .slice (some ⟨g, 0, none⟩) rl vc], .int .i64 j] y.at' fun e w' => e = .returned (.tuple #[.bool (!A0), .bool A]) ∧ Below y.at'.heap.size y.at' w') := fun y => by
        have := l14Ups_any ao rl cap nm cr fr up cu ts (some ⟨g, 0, none⟩) rl vc rn rf ru re s j y.at' (HTS.out _ (Below.on HS.out.bel y.ok)) HRG.out hj (HS.out.own.reads.below y.ok) rfl
        rw [HA0.out, HA.out] at this
        exact this
      have HSL2 : Hid ((s.set j ⟨4, x.tries, x.tok, 0⟩).length = rl) := by show _ = rl; rw [List.length_set]; exact HSL.out
      have HK : Hid (O[k]? = some (j : Int)) := ha
      clear HF hx ha HA HA0
      have d0 := Wd.cell HS.out.dag.c0
      have d1 := Wd.cell HS.out.dag.c1
      have d2 := Wd.cell HS.out.dag.c2
      have d3 := Wd.cell HS.out.dag.c3
      have d4 := Wd.cell HS.out.dag.c4
      have d5 := Wd.cell HS.out.dag.c5
      have e0 := Wd.cell HS.out.run.c0
      have e1 := Wd.cell HS.out.run.c1
      have e2 := Wd.cell HS.out.run.c2
      have e3 := Wd.cell HS.out.run.c3
      have e4 := Wd.cell HS.out.run.c4
      have qa := Wd.cell ca
      go_wp2
      refine wp_region_wd (by kernel_rfl) (by kernel_rfl) ?_
      repeat (go_big_quiet_step ((go_at_call 65; refine calls_wd (v := .tuple #[.bool (!A0), .bool A]) ?_; exact HUP.out _)))
      refine wpQuiet_nil ?_
      rintro _ ⟨y, rfl⟩
      have HS2 : Hid (BkS w P nm cr fr up cu (.slice ao rl cap) (w.heap.size + 1 + 1) rn rf ru re (.slice (some ⟨g, 0, none⟩) rl vc) (.slice (some ⟨bo, oo, none⟩) ol oc) O y.at' s) := HS.out.on y.ok
      have cb := Wd.cell ca y
      obtain ⟨V1, hV1⟩ : ∃ V, y.at' = V := ⟨_, rfl⟩
      rw [hV1] at HS2 cb
      rw [hV1]
      clear hV1 y HS d0 d1 d2 d3 d4 d5 e0 e1 e2 e3 e4 qa ca HUP
      obtain ⟨hg3, ⟨a0, a1, a2, a3⟩, af0, af1, af2, af3⟩ := sa_own HS2.out.own HX.out
      have k4 := HS2.out.run.c4
      have q0 := Wd.cell a0
      have q4 := Wd.cell k4
      have qb := Wd.cell cb
      have NEXT : Hid (∀ W' : World, Below V1.heap.size V1 W' → BkS w P nm cr fr up cu (.slice ao rl cap) (w.heap.size + 1 + 1) rn rf ru re (.slice (some ⟨g, 0, none⟩) rl vc) (.slice (some ⟨bo, oo, none⟩) ol oc) O W' s) := fun W' hb => HS2.out.on hb
      cases A with
      | false =>
        have HF2 : Hid (O.foldl (blockS ts) st = (O.drop (k + 1)).foldl (blockS ts) s) := by show _ = _; rw [HF1.out, HBS.out, Bool.and_false]; rfl
        clear HF1 HBS HSL2
        go_wp2
        refine wp_region_wd (by kernel_rfl) (by kernel_rfl) ?_
        repeat (go_big_quiet_step (fail))
        refine wpQuiet_nil ?_
        rintro _ ⟨y, rfl⟩
        have HS3 := NEXT.out y.at' y.ok
        have HS4 : Hid (BkS w P nm cr fr up cu (.slice ao rl cap) (w.heap.size + 1 + 1) rn rf ru re (.slice (some ⟨g, 0, none⟩) rl vc) (.slice (some ⟨bo, oo, none⟩) ol oc) O y.at' s) := HS3
        clear HS3 NEXT HS2 a0 a1 a2 a3 af0 af1 af2 af3 k4 q0 q4 qb cb
        go_wp2
        go_roundw
        case rel => exact ⟨k + 1, s, by omega, by go_num, HF2, HSL, HS4⟩
        case measure => simp [intOf]; omega
      | true =>
        by_cases h0 : x.is = 0
        case neg =>
          have h0' : (x.is == 0) = false := beq_eq_false_iff_ne.2 h0
          have HF2 : Hid (O.foldl (blockS ts) st = (O.drop (k + 1)).foldl (blockS ts) s) := by show _ = _; rw [HF1.out, HBS.out, decide_eq_false h0]; rfl
          clear HF1 HBS HSL2 h0
          go_wp2
          refine wp_region_wd (by kernel_rfl) (by kernel_rfl) ?_
          repeat (go_big_quiet_step (fail))
          refine wpQuiet_nil ?_
          rintro _ ⟨y, rfl⟩
          have HS3 := NEXT.out y.at' y.ok
          have HS4 : Hid (BkS w P nm cr fr up cu (.slice ao rl cap) (w.heap.size + 1 + 1) rn rf ru re (.slice (some ⟨g, 0, none⟩) rl vc) (.slice (some ⟨bo, oo, none⟩) ol oc) O y.at' s) := HS3
          clear HS3 NEXT HS2 a0 a1 a2 a3 af0 af1 af2 af3 k4 q0 q4 qb cb
          go_wp2
          go_roundw
          case rel => exact ⟨k + 1, s, by omega, by go_num, HF2, HSL, HS4⟩
          case measure => simp [intOf]; omega
        have h0' : (x.is == 0) = true := beq_iff_eq.2 h0
        have HF2 : Hid (O.foldl (blockS ts) st = (O.drop (k + 1)).foldl (blockS ts) (s.set j ⟨4, x.tries, x.tok, 0⟩)) := by show _ = _; rw [HF1.out, HBS.out, decide_eq_true h0]; rfl
        clear HF1 HBS h0
        go_wp2
        refine wp_region_wd (by kernel_rfl) (by kernel_rfl) ?_
        repeat (go_big_quiet_step (fail))
        refine wpQuiet_nil ?_
        rintro _ ⟨y, rfl⟩
        have HS3 := NEXT.out y.at' y.ok
        have cc := Wd.cell cb y
        obtain ⟨V2, hV2⟩ : ∃ V, y.at' = V := ⟨_, rfl⟩
        rw [hV2] at HS3 cc
        rw [hV2]
        clear hV2 y NEXT HS2 a0 a1 a2 a3 af0 af1 af2 af3 k4 q0 q4 qb cb hg3
        have HS4 : Hid (BkS w P nm cr fr up cu (.slice ao rl cap) (w.heap.size + 1 + 1) rn rf ru re (.slice (some ⟨g, 0, none⟩) rl vc) (.slice (some ⟨bo, oo, none⟩) ol oc) O V2 s) := HS3
        clear HS3
        obtain ⟨hg3, ⟨a0, a1, a2, a3⟩, af0, af1, af2, af3⟩ := sa_own HS4.out.own HX.out
        have k4 := HS4.out.run.c4
        have hsl : j < s.length := by rw [HSL.out]; exact hj
        have HS5 : Hid (BkS w P nm cr fr up cu (.slice ao rl cap) (w.heap.size + 1 + 1) rn rf ru re (.slice (some ⟨g, 0, none⟩) rl vc) (.slice (some ⟨bo, oo, none⟩) ol oc) O (V2.setCell ⟨g, j * 4, none⟩ (.int .i64 4)).drew (s.set j ⟨4, x.tries, x.tok, x.til⟩)) := (HS4.out.put rfl (j := 0) (x' := ⟨4, x.tries, x.tok, x.til⟩) (u := .int .i64 4) HX.out (by decide) rfl).on (Below.refl _ _).drew
        go_wp2
        go_region
        clear a0 a1 a2 a3 af0 af1 af2 af3 k4 HS4 cc
        obtain ⟨V3, hV3⟩ : ∃ V, (V2.setCell ⟨g, j * 4, none⟩ (.int .i64 4)).drew = V := ⟨_, rfl⟩
        rw [hV3] at HS5
        rw [hV3]
        clear hV3
        have HX2 : Hid ((s.set j ⟨4, x.tries, x.tok, x.til⟩)[j]? = some ⟨4, x.tries, x.tok, x.til⟩) := List.getElem?_set_self hsl
        obtain ⟨bo2, oo2, eo2, hbo2, cc⟩ := int_at HS5.out.ord.reads HK.out
        injection eo2 with eo2
        injection eo2 with eo3 eo4 _
        subst eo3 eo4
        obtain ⟨hg4, ⟨b0, b1, b2, b3⟩, bf0, bf1, bf2, bf3⟩ := sa_own HS5.out.own HX2.out
        have k5 := HS5.out.run.c4
        have HS6 : Hid (BkS w P nm cr fr up cu (.slice ao rl cap) (w.heap.size + 1 + 1) rn rf ru re (.slice (some ⟨g, 0, none⟩) rl vc) (.slice (some ⟨bo, oo, none⟩) ol oc) O (V3.setCell ⟨g, j * 4 + 3, none⟩ (.int .i64 0)).drew (s.set j ⟨4, x.tries, x.tok, 0⟩)) := by
          have h1 := (HS5.out.put rfl (j := 3) (x' := ⟨4, x.tries, x.tok, 0⟩) (u := .int .i64 0) HX2.out (by decide) rfl).on (Below.refl _ _).drew
          rw [List.set_set] at h1
          exact h1
        go_wp2
        go_region
        clear b0 b1 b2 b3 bf0 bf1 bf2 bf3 k5 HS5 cc
        go_wp2
        go_roundw
        case rel => exact ⟨k + 1, _, by omega, by go_num, HF2, HSL2, HS6⟩
        case measure => simp [intOf]; omega
    · have HR1 : Hid (R = ⟨rn, rf, ru, re, s⟩) := by show R = _; rw [HR0.out, HF.out, List.drop_eq_nil_of_le (by rw [HOL.out]; omega)]; rfl
      obtain ⟨B5, Z5, X5, Y5, O5, -⟩ := HS.out
      have HO5 : Hid (ownsR wr w.heap.size 85 (.slice va rl vc) s) := O5
      clear O5 HS HF HR0
      have j0 := X5.c0
      have j1 := X5.c1
      have j2 := X5.c2
      have j3 := X5.c3
      have j4 := X5.c4
      have y0 := Y5.c0
      have y1 := Y5.c1
      have y2 := Y5.c2
      have y3 := Y5.c3
      have y4 := Y5.c4
      have yf := Y5.fz
      go_wp2
      exact bodyPost_ret (ret_run1 rfl rfl (Y5.set rn rf ru re (.slice va rl vc))) rfl (END.out wr s X5 Y5 HO5.out B5 HR1.out)
end Go.Proofs.YtjmclcjhimcehaaGreatDoor
