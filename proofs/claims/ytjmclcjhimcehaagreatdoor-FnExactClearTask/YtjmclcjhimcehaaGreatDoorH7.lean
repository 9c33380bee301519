/-
  Steps of a region that draws its order: one of two, and several that only yield. A task is cleared, as the program does it: the walk.
-/
import Derived.Test.YtjmclcjhimcehaaGreatDoorH3
import Derived.Test.YtjmclcjhimcehaaGreatDoorH2
import Derived.Test.YtjmclcjhimcehaaGreatDoorG27
import Derived.Test.YtjmclcjhimcehaaGreatDoorH6
namespace Go.Proofs.YtjmclcjhimcehaaGreatDoor
open Go Go.RowKit

/-- What comes up next, one, whose guard is on. -/
theorem pk_oneW {P : Program} {l : List Oper} {Q : Exit → Act → World → Prop} {C : World → Prop} {R : Act → World → Prop} {L listed : Array Bool} {fuel i : Nat} {o : Oper} {a : Act} {w : World} (hr : Region.ready .any l.toArray listed = [i]) (ho : l[i]? = some o) (hw : Region.wanted o (yielded l.toArray a.tmps) = true)
    (h : ∀ K : Act → World → Prop, Hid (∀ a' w', C w' → wpAnyU P .any l.toArray Q C L R fuel (listed.setIfInBounds i true) a' w' → K a' w') → wpList P l.toArray (Exit.then K Q) [o] a w) : wpAnyU P .any l.toArray Q C L R (fuel + 1) listed a w := by
  refine ⟨by rw [hr]; simp, fun j hj => ?_⟩
  rw [hr] at hj
  simp only [List.mem_singleton] at hj
  subst hj
  have h1 := h (fun a' w' => C w' ∧ wpAnyU P .any l.toArray Q C L R fuel (listed.setIfInBounds j true) a' w') (fun a' w' h1 h2 => ⟨h1, h2⟩)
  have ho' : l.toArray[j]? = some o := by simpa using ho
  unfold wpOp
  simp only [ho']
  unfold wpList at h1
  rw [if_pos hw] at h1 ⊢
  exact h1
/-- One of two, whose guards are on. -/
theorem pk_twoW {P : Program} {l : List Oper} {Q : Exit → Act → World → Prop} {C : World → Prop} {R : Act → World → Prop} {L listed : Array Bool} {fuel i j : Nat} {o p : Oper} {a : Act} {w : World} (hr : Region.ready .any l.toArray listed = [i, j]) (ho : l[i]? = some o) (hp : l[j]? = some p) (hw : Region.wanted o (yielded l.toArray a.tmps) = true) (hv : Region.wanted p (yielded l.toArray a.tmps) = true)
    (h : ∀ K : Act → World → Prop, Hid (∀ a' w', C w' → wpAnyU P .any l.toArray Q C L R fuel (listed.setIfInBounds i true) a' w' → K a' w') → wpList P l.toArray (Exit.then K Q) [o] a w)
    (h' : ∀ K : Act → World → Prop, Hid (∀ a' w', C w' → wpAnyU P .any l.toArray Q C L R fuel (listed.setIfInBounds j true) a' w' → K a' w') → wpList P l.toArray (Exit.then K Q) [p] a w) : wpAnyU P .any l.toArray Q C L R (fuel + 1) listed a w := by
  have ho' : l.toArray[i]? = some o := by simpa using ho
  have hp' : l.toArray[j]? = some p := by simpa using hp
  refine ⟨by rw [hr]; simp, fun k hk => ?_⟩
  rw [hr] at hk
  simp only [List.mem_cons, List.not_mem_nil, or_false] at hk
  rcases hk with hk | hk
  · subst hk
    have h1 := h (fun a' w' => C w' ∧ wpAnyU P .any l.toArray Q C L R fuel (listed.setIfInBounds k true) a' w') (fun a' w' h1 h2 => ⟨h1, h2⟩)
    unfold wpOp
    simp only [ho']
    unfold wpList at h1
    rw [if_pos hw] at h1 ⊢
    exact h1
  · subst hk
    have h1 := h' (fun a' w' => C w' ∧ wpAnyU P .any l.toArray Q C L R fuel (listed.setIfInBounds k true) a' w') (fun a' w' h1 h2 => ⟨h1, h2⟩)
    unfold wpOp
    simp only [hp']
    unfold wpList at h1
    rw [if_pos hv] at h1 ⊢
    exact h1
end Go.Proofs.YtjmclcjhimcehaaGreatDoor

namespace Go.Proofs.YtjmclcjhimcehaaGreatDoor
open Go Go.RowKit
set_option linter.unusedVariables false

def cleR (d : Dg) (r : Rr) (i : Int) : Rr := if clearB d r i = true then ⟨r.nm, r.fr, r.up, r.ep + 1, clearS d r i⟩ else noneR
theorem cleR_len (d : Dg) (r : Rr) (i : Int) : (cleR d r i).st.length ≤ r.st.length := by
  unfold cleR
  split
  · show (clearS d r i).length ≤ _
    unfold clearS
    rw [blockL_len, clearL_len]
    exact Nat.le_refl _
  · exact Nat.zero_le _
theorem down_pl {ts : List Ta} {i a : Int} (h : a ∈ downC ts i) : ∃ j : Nat, a = (j : Int) ∧ j < ts.length := by
  unfold downC ascL at h
  obtain ⟨j, hj, e⟩ := List.mem_map.1 h
  exact ⟨j, e.symm, List.mem_range.1 (List.mem_filter.1 hj).1⟩
/-- What the region of two questions leaves open. -/
structure UpX where
  a : Option Addr
  c : Nat
/-- What comes up next, one, whose guard is off. -/
theorem pk_off {P : Program} {l : List Oper} {Q : Exit → Act → World → Prop} {C : World → Prop} {R : Act → World → Prop} {L listed : Array Bool} {fuel i : Nat} {o : Oper} {a : Act} {w : World} (hr : Region.ready .any l.toArray listed = [i]) (ho : l[i]? = some o) (hw : Region.wanted o (yielded l.toArray a.tmps) = false) (hC : C w)
    (h : wpAnyU P .any l.toArray Q C L R fuel (listed.setIfInBounds i true) (a.put o.dst undef) w) : wpAnyU P .any l.toArray Q C L R (fuel + 1) listed a w := by
  refine ⟨by rw [hr]; simp, fun j hj => ?_⟩
  rw [hr] at hj
  simp only [List.mem_singleton] at hj
  subst hj
  have ho' : l.toArray[j]? = some o := by simpa using ho
  unfold wpOp
  simp only [ho']
  rw [if_neg (by rw [hw]; decide)]
  exact ⟨hC, h⟩
theorem pk_offTwo {P : Program} {l : List Oper} {Q : Exit → Act → World → Prop} {C : World → Prop} {R : Act → World → Prop} {L listed : Array Bool} {fuel i j : Nat} {o p : Oper} {a : Act} {w : World} (hr : Region.ready .any l.toArray listed = [i, j]) (ho : l[i]? = some o) (hp : l[j]? = some p) (hw : Region.wanted o (yielded l.toArray a.tmps) = false) (hv : Region.wanted p (yielded l.toArray a.tmps) = false) (hC : C w)
    (h : wpAnyU P .any l.toArray Q C L R fuel (listed.setIfInBounds i true) (a.put o.dst undef) w) (h' : wpAnyU P .any l.toArray Q C L R fuel (listed.setIfInBounds j true) (a.put p.dst undef) w) : wpAnyU P .any l.toArray Q C L R (fuel + 1) listed a w := by
  have ho' : l.toArray[i]? = some o := by simpa using ho
  have hp' : l.toArray[j]? = some p := by simpa using hp
  refine ⟨by rw [hr]; simp, fun k hk => ?_⟩
  rw [hr] at hk
  simp only [List.mem_cons, List.not_mem_nil, or_false] at hk
  rcases hk with hk | hk
  · subst hk
    unfold wpOp
    simp only [ho']
    rw [if_neg (by rw [hw]; decide)]
    exact ⟨hC, h⟩
  · subst hk
    unfold wpOp
    simp only [hp']
    rw [if_neg (by rw [hv]; decide)]
    exact ⟨hC, h'⟩
theorem reads_farI {α : Type} [Rec α] {W : World} {b n c : Nat} {l : List α} (h : Reads W (.slice (some ⟨b, 0, none⟩) n c) l) {a : Addr} (ha : a.block ≠ b) (u : Value) : Reads (W.setCell a u) (.slice (some ⟨b, 0, none⟩) n c) l := by
  obtain ⟨ao, c', e, hr⟩ := h
  refine ⟨ao, c', e, fun hne => ?_⟩
  obtain ⟨b', o, rfl, hlt, hc⟩ := hr hne
  injection e with e _ _
  injection e with e
  injection e with e _ _
  subst e
  exact ⟨b, o, rfl, by simpa using hlt, fun i x hx m u' hu => cell_far (hc i x hx m u' hu) ha u⟩
theorem own_type_ne {α : Type} [Rec α] {W : World} {B b : Nat} {e t : TypeId} {v : Value} {l : List α} {cs : Array Value} (ho : ownsR W B e v l) (hb : W.heap[b]? = some (.cells cs t)) (hne : t ≠ e) : v.ownBlock ≠ some b := by
  intro hk
  rcases ho.2 with ⟨rfl, _⟩ | ⟨g, cap, cur, rfl, _, hg, _⟩
  · cases hk
  · have e1 : g = b := by simpa [Value.ownBlock] using hk
    subst e1
    rw [hb] at hg
    simp only [Option.some.injEq, Obj.cells.injEq] at hg
    exact hne hg.2.1
/-- What lies there while states are cleared. -/
structure ClS (w : World) (nm cr : ByteArray) (fr up : Int) (cu : Bool) (tv : Value) (rn : ByteArray) (rf ru re : Int) (g rl vc lg ll lc : Nat) (L : List Int) (W : World) (st : List Sa) : Prop where
  bel : Below w.heap.size w W
  dag : P6 W w.heap.size nm cr fr up cu tv
  run : R5 W (w.heap.size + 1) rn rf ru re (.slice (some ⟨g, 0, none⟩) rl vc)
  res : R5 W (w.heap.size + 1 + 1) ⟨#[]⟩ 0 0 0 (.slice none 0 0)
  row : Reads W (.slice (some ⟨lg, 0, none⟩) ll lc) L
  own : ownsR W w.heap.size 85 (.slice (some ⟨g, 0, none⟩) rl vc) st
  far : w.heap.size + 1 + 1 < g
  apart : g ≠ lg
theorem ClS.put {w : World} {nm cr : ByteArray} {fr up : Int} {cu : Bool} {tv : Value} {rn : ByteArray} {rf ru re : Int} {g rl vc lg ll lc : Nat} {L : List Int} {W : World} {st : List Sa} (h : ClS w nm cr fr up cu tv rn rf ru re g rl vc lg ll lc L W st) {j : Nat} {y : Sa} (hy : st[j]? = some y) (f : Sa) :
    ClS w nm cr fr up cu tv rn rf ru re g rl vc lg ll lc L ((((W.setCell ⟨g, j * 4, none⟩ (.int .i64 f.is)).setCell ⟨g, j * 4 + 1, none⟩ (.int .i64 f.tries)).setCell ⟨g, j * 4 + 2, none⟩ (.int .i64 f.tok)).setCell ⟨g, j * 4 + 3, none⟩ (.int .i64 f.til)) (st.set j f) := by
  have hf := h.far
  have n0 : g ≠ w.heap.size := by omega
  have n1 : g ≠ w.heap.size + 1 := by omega
  have n2 : g ≠ w.heap.size + 1 + 1 := by omega
  have lw : w.heap.size ≤ g := by omega
  exact ⟨(((h.bel.setCell (p := ⟨g, j * 4, none⟩) lw _).setCell (p := ⟨g, j * 4 + 1, none⟩) lw _).setCell (p := ⟨g, j * 4 + 2, none⟩) lw _).setCell (p := ⟨g, j * 4 + 3, none⟩) lw _, (((h.dag.far (a := ⟨g, j * 4, none⟩) n0 _).far (a := ⟨g, j * 4 + 1, none⟩) n0 _).far (a := ⟨g, j * 4 + 2, none⟩) n0 _).far (a := ⟨g, j * 4 + 3, none⟩) n0 _, (((h.run.far (a := ⟨g, j * 4, none⟩) n1 _).far (a := ⟨g, j * 4 + 1, none⟩) n1 _).far (a := ⟨g, j * 4 + 2, none⟩) n1 _).far (a := ⟨g, j * 4 + 3, none⟩) n1 _, (((h.res.far (a := ⟨g, j * 4, none⟩) n2 _).far (a := ⟨g, j * 4 + 1, none⟩) n2 _).far (a := ⟨g, j * 4 + 2, none⟩) n2 _).far (a := ⟨g, j * 4 + 3, none⟩) n2 _, reads_farI (reads_farI (reads_farI (reads_farI h.row h.apart _) h.apart _) h.apart _) h.apart _, sa_put h.own f hy, h.far, h.apart⟩
set_option maxRecDepth 10000 in
set_option maxHeartbeats 16000000 in
theorem implClearTask_any (ao : Option Addr) (n cap : Nat) (nm cr : ByteArray) (fr up : Int) (cu : Bool) (ts : List Ta) (ro : Option Addr) (rl rc : Nat) (rn : ByteArray) (rf ru re : Int) (st : List Sa) (i : Int) (w : World) (hd : DagI w ao n cap ⟨nm, cr, fr, up, cu, ts⟩) (hg : Gl w) (hr : Reads w (.slice ro rl rc) st) (hl : rl ≤ 1048577) (hz : rn.size ≤ 1048576) (R : Rr) (HRR : Hid (cleR ⟨nm, cr, fr, up, cu, ts⟩ ⟨rn, rf, ru, re, st⟩ i = R)) :
    Calls Tryz.prog 28 #[.agg #[.string nm, .string cr, .int .i64 fr, .int .i64 up, .bool cu, .slice ao n cap], .agg #[.string rn, .int .i64 rf, .int .i64 ru, .int .i64 re, .slice ro rl rc], .int .i64 i] w fun e w' => ∃ v, e = .returned (.tuple #[.agg #[.string R.nm, .int .i64 R.fr, .int .i64 R.up, .int .i64 R.ep, v], .bool (clearB ⟨nm, cr, fr, up, cu, ts⟩ ⟨rn, rf, ru, re, st⟩ i)]) ∧ ownsR w' w.heap.size 85 v R.st ∧ Below w.heap.size w w' := by
  have HN : Hid (ts.length = n) := by
    obtain ⟨ao', cap', e⟩ := hd.tasks.slice
    injection e with _ e2 _
    exact e2.symm
  have HRN : Hid (st.length = rl) := hr.len.symm
  obtain ⟨q, HQ⟩ : ∃ q, Hid (runB ⟨nm, cr, fr, up, cu, ts⟩ ⟨rn, rf, ru, re, st⟩ = q) := ⟨_, rfl⟩
  have HD : Hid (∀ W, Below w.heap.size w W → Calls Tryz.prog 22 #[.agg #[.string nm, .string cr, .int .i64 fr, .int .i64 up, .bool cu, .slice ao n cap], .agg #[.string rn, .int .i64 rf, .int .i64 ru, .int .i64 re, .slice ro rl rc]] W fun e w' => e = .returned (.bool q) ∧ Below W.heap.size W w') := fun W hb => by
    have := implRunOk_any ao n cap nm cr fr up cu ts ro rl rc rn rf ru re st W (hd.below hb) (hg.up hb) (hr.below hb) hl
    rw [HQ.out] at this
    exact this
  have HC : Hid (∀ W : World, Below w.heap.size w W → Calls Tryz.prog 62 #[.agg #[.string rn, .int .i64 rf, .int .i64 ru, .int .i64 re, .slice ro rl rc]] W fun e w' => ∃ v, e = .returned (.agg #[.string rn, .int .i64 rf, .int .i64 ru, .int .i64 re, v]) ∧ ownsR w' W.heap.size 85 v st ∧ Below W.heap.size W w') := fun W hb => cloned_any ro rl rc rn rf ru re st W (hr.below hb) hl hz
  have HDI : Hid (∀ W, Below w.heap.size w W → DagI W ao n cap ⟨nm, cr, fr, up, cu, ts⟩) := fun W hb => hd.below hb
  have HGL : Hid (∀ W, Below w.heap.size w W → Gl W) := fun W hb => hg.up hb
  have HRD : Hid (∀ W, Below w.heap.size w W → Reads W (.slice ro rl rc) st) := fun W hb => hr.below hb
  clear hd hg hr
  obtain ⟨W1, hW1⟩ : ∃ W1, ((w.alloc (.cells #[.string nm, .string cr, .int .i64 fr, .int .i64 up, .bool cu, .slice ao n cap] 36)).alloc (.cells #[.string rn, .int .i64 rf, .int .i64 ru, .int .i64 re, .slice ro rl rc] 31)).alloc (.cells #[.string ⟨#[]⟩, .int .i64 0, .int .i64 0, .int .i64 0, .slice none 0 0] 31) = W1 := ⟨_, rfl⟩
  have Z1 : P6 W1 w.heap.size nm cr fr up cu (.slice ao n cap) := by rw [← hW1]; exact (P6.new _ _ _ _ _ _ _).on (ba (ba (Below.refl _ _) (.cells #[.string rn, .int .i64 rf, .int .i64 ru, .int .i64 re, .slice ro rl rc] 31)) (.cells #[.string ⟨#[]⟩, .int .i64 0, .int .i64 0, .int .i64 0, .slice none 0 0] 31))
  have X1 : R5 W1 (w.heap.size + 1) rn rf ru re (.slice ro rl rc) := by
    rw [← hW1]
    have := (R5.new (w.alloc (.cells #[.string nm, .string cr, .int .i64 fr, .int .i64 up, .bool cu, .slice ao n cap] 36)) rn rf ru re (.slice ro rl rc)).on (ba (Below.refl _ _) (.cells #[.string ⟨#[]⟩, .int .i64 0, .int .i64 0, .int .i64 0, .slice none 0 0] 31))
    simpa using this
  have Y1 : R5 W1 (w.heap.size + 1 + 1) ⟨#[]⟩ 0 0 0 (.slice none 0 0) := by
    rw [← hW1]
    have := R5.new ((w.alloc (.cells #[.string nm, .string cr, .int .i64 fr, .int .i64 up, .bool cu, .slice ao n cap] 36)).alloc (.cells #[.string rn, .int .i64 rf, .int .i64 ru, .int .i64 re, .slice ro rl rc] 31)) ⟨#[]⟩ 0 0 0 (.slice none 0 0)
    simpa using this
  have B1 : Below w.heap.size w W1 := by rw [← hW1]; exact ba (ba (ba (Below.refl _ _) _) _) _
  have c0 := Z1.c0
  have c1 := Z1.c1
  have c2 := Z1.c2
  have c3 := Z1.c3
  have c4 := Z1.c4
  have c5 := Z1.c5
  have x0 := X1.c0
  have x1 := X1.c1
  have x2 := X1.c2
  have x3 := X1.c3
  have x4 := X1.c4
  go_enter Tryz.func28, Tryz.ntmps28
  go_wp2_with fail
  refine (HD.out _ B1).mono ?_
  rintro e w2 ⟨rfl, hb2⟩
  have Z2 := Z1.on hb2
  have X2 := X1.on hb2
  have Y2 := Y1.on hb2
  have B2 := Below.on B1 hb2
  clear c0 c1 c2 c3 c4 c5 x0 x1 x2 x3 x4 Z1 X1 Y1 B1 hb2 HD hW1
  have HCB : Hid (clearB ⟨nm, cr, fr, up, cu, ts⟩ ⟨rn, rf, ru, re, st⟩ i = (q && (decide (0 ≤ i ∧ i < (st.length : Int) ∧ re ≠ 1000) && (!((downC ts i ++ [i]).any fun a => isN st a 1) && !(upsA ts i).any (stuckB st))))) := by show clearB _ _ _ = _; unfold clearB; rw [HQ.out]
  have NOT : Hid (¬ (0 ≤ i ∧ i < (rl : Int) ∧ re ≠ 1000) → clearB ⟨nm, cr, fr, up, cu, ts⟩ ⟨rn, rf, ru, re, st⟩ i = false) := fun h => by
    rw [HCB.out, decide_eq_false (by rw [HRN.out]; exact h)]
    cases q <;> rfl
  cases q with
  | false =>
    have HF : Hid (clearB ⟨nm, cr, fr, up, cu, ts⟩ ⟨rn, rf, ru, re, st⟩ i = false) := HCB.out
    have HR0 : Hid (R = noneR) := by show R = _; rw [← HRR.out]; exact if_neg (by rw [HF.out]; decide)
    have y0 := Y2.c0
    have y1 := Y2.c1
    have y2 := Y2.c2
    have y3 := Y2.c3
    have y4 := Y2.c4
    have yf := Y2.fz
    go_wp2
    refine bodyPost_ret (ret_run2 rfl rfl rfl (Y2.set ⟨#[]⟩ 0 0 0 (.slice none 0 0))) rfl ⟨.slice none 0 0, ?_, ?_, below_putR5 B2 (by omega) ⟨#[]⟩ 0 0 0 (.slice none 0 0)⟩
    · rw [HR0.out, HF.out]; rfl
    · rw [HR0.out]; exact ownsR_nil _ _ _
  | true =>
  have x3 := X2.c3
  have x4 := X2.c4
  by_cases hi0 : i < 0
  · have HF : Hid (clearB ⟨nm, cr, fr, up, cu, ts⟩ ⟨rn, rf, ru, re, st⟩ i = false) := NOT.out (fun h => by omega)
    clear NOT HCB
    have HR0 : Hid (R = noneR) := by show R = _; rw [← HRR.out]; exact if_neg (by rw [HF.out]; decide)
    have y0 := Y2.c0
    have y1 := Y2.c1
    have y2 := Y2.c2
    have y3 := Y2.c3
    have y4 := Y2.c4
    have yf := Y2.fz
    go_wp2
    refine bodyPost_ret (ret_run2 rfl rfl rfl (Y2.set ⟨#[]⟩ 0 0 0 (.slice none 0 0))) rfl ⟨.slice none 0 0, ?_, ?_, below_putR5 B2 (by omega) ⟨#[]⟩ 0 0 0 (.slice none 0 0)⟩
    · rw [HR0.out, HF.out]; rfl
    · rw [HR0.out]; exact ownsR_nil _ _ _
  by_cases hi1 : (rl : Int) ≤ i
  · have HF : Hid (clearB ⟨nm, cr, fr, up, cu, ts⟩ ⟨rn, rf, ru, re, st⟩ i = false) := NOT.out (fun h => by omega)
    clear NOT HCB
    have HR0 : Hid (R = noneR) := by show R = _; rw [← HRR.out]; exact if_neg (by rw [HF.out]; decide)
    have y0 := Y2.c0
    have y1 := Y2.c1
    have y2 := Y2.c2
    have y3 := Y2.c3
    have y4 := Y2.c4
    have yf := Y2.fz
    go_wp2
    refine bodyPost_ret (ret_run2 rfl rfl rfl (Y2.set ⟨#[]⟩ 0 0 0 (.slice none 0 0))) rfl ⟨.slice none 0 0, ?_, ?_, below_putR5 B2 (by omega) ⟨#[]⟩ 0 0 0 (.slice none 0 0)⟩
    · rw [HR0.out, HF.out]; rfl
    · rw [HR0.out]; exact ownsR_nil _ _ _
  by_cases he : re = 1000
  · have HF : Hid (clearB ⟨nm, cr, fr, up, cu, ts⟩ ⟨rn, rf, ru, re, st⟩ i = false) := NOT.out (fun h => h.2.2 he)
    clear NOT HCB
    subst he
    have HR0 : Hid (R = noneR) := by show R = _; rw [← HRR.out]; exact if_neg (by rw [HF.out]; decide)
    have y0 := Y2.c0
    have y1 := Y2.c1
    have y2 := Y2.c2
    have y3 := Y2.c3
    have y4 := Y2.c4
    have yf := Y2.fz
    go_wp2
    refine bodyPost_ret (ret_run2 rfl rfl rfl (Y2.set ⟨#[]⟩ 0 0 0 (.slice none 0 0))) rfl ⟨.slice none 0 0, ?_, ?_, below_putR5 B2 (by omega) ⟨#[]⟩ 0 0 0 (.slice none 0 0)⟩
    · rw [HR0.out, HF.out]; rfl
    · rw [HR0.out]; exact ownsR_nil _ _ _
  have he2 : (re == 1000) = false := beq_eq_false_iff_ne.2 he
  obtain ⟨k, ei⟩ : ∃ k : Nat, i = (k : Int) := ⟨i.toNat, by omega⟩
  subst ei
  have hk : k < rl := by omega
  have HRUN : Hid (runB ⟨nm, cr, fr, up, cu, ts⟩ ⟨rn, rf, ru, re, st⟩ = true) := HQ.out
  have hln : rl = n := by have := run_len HRUN.out; rw [← HRN.out, ← HN.out]; exact this
  have HDG : Hid (dagB ⟨nm, cr, fr, up, cu, ts⟩ = true) := (run_parts HRUN.out).1
  have HEP : Hid (0 ≤ re ∧ re ≤ 1000) := by
    have h1 := of_decide_eq_true (run_parts HRUN.out).2.1
    exact ⟨h1.2.2.1, h1.2.2.2.1⟩
  subst hln
  have HRG3 : Hid (Rg4 ts) := rg_of HDG.out
  have HDE : Hid (dnD ⟨nm, cr, fr, up, cu, ts⟩ (k : Int) = downC ts (k : Int)) := by show dnD _ _ = _; unfold dnD; rw [HDG.out, if_pos rfl]
  have HDN : Hid (∀ W, Below w.heap.size w W → Calls Tryz.prog 67 #[.agg #[.string nm, .string cr, .int .i64 fr, .int .i64 up, .bool cu, .slice ao rl cap], .int .i64 k] W fun e w' => ∃ v, e = .returned v ∧ ownsR w' W.heap.size 3 v (downC ts (k : Int)) ∧ Below W.heap.size W w') := fun W hb => by
    have := implDown_any ao rl cap nm cr fr up cu ts (k : Int) W (HDI.out W hb) (HGL.out W hb)
    rw [HDE.out] at this
    exact this
  have HDL : Hid ((downC ts (k : Int)).length ≤ 4) := by have := dnD_len ⟨nm, cr, fr, up, cu, ts⟩ (k : Int); rw [HDE.out] at this; exact this
  have HDP : Hid (∀ a ∈ downC ts (k : Int), ∃ j : Nat, a = (j : Int) ∧ j < rl) := fun a ha => by obtain ⟨j, e, hj⟩ := down_pl ha; exact ⟨j, e, by rw [← HN.out]; exact hj⟩
  have HCB2 : Hid (clearB ⟨nm, cr, fr, up, cu, ts⟩ ⟨rn, rf, ru, re, st⟩ (k : Int) = (!((downC ts (k : Int) ++ [(k : Int)]).any fun a => isN st a 1) && !(upsA ts (k : Int)).any (stuckB st))) := by
    show clearB _ _ _ = _
    rw [HCB.out, decide_eq_true (by rw [HRN.out]; exact ⟨by omega, by omega, he⟩)]
    rfl
  have HCS2 : Hid (clearS ⟨nm, cr, fr, up, cu, ts⟩ ⟨rn, rf, ru, re, st⟩ (k : Int) = blockL ts (clearL st (downC ts (k : Int) ++ [(k : Int)]))) := rfl
  obtain ⟨D9, HD9⟩ : ∃ x, Hid (downC ts (k : Int) = x) := ⟨_, rfl⟩
  rw [HD9.out] at HDN HDL HDP HCB2 HCS2
  obtain ⟨dl, HDL2⟩ : ∃ x, Hid (D9.length = x) := ⟨_, rfl⟩
  have hdl : dl ≤ 4 := by rw [← HDL2.out]; exact HDL.out
  clear HCB NOT HDE HD9 he HDL
  have c0 := Z2.c0
  have c1 := Z2.c1
  have c2 := Z2.c2
  have c3 := Z2.c3
  have c4 := Z2.c4
  have c5 := Z2.c5
  go_wp2_with fail
  refine (HDN.out _ B2).mono ?_
  rintro e w3 ⟨v3, rfl, ho3, hb3⟩
  have Z3 := Z2.on hb3
  have X3 := X2.on hb3
  have Y3 := Y2.on hb3
  have B3 := Below.on B2 hb3
  have HB3 : Hid (∀ b, v3.ownBlock = some b → w.heap.size + 1 + 1 < b) := fun b hb => Nat.lt_of_lt_of_le Y2.lt (ho3.lt b hb).1
  have HO3 : Hid (ownsR w3 w.heap.size 3 v3 D9) := ho3.mono B2.size
  obtain ⟨va, vc3, ev⟩ := ho3.slice
  subst ev
  rw [HDL2.out] at HB3 HO3
  rw [HDL2.out]
  clear c0 c1 c2 c3 c4 c5 x3 x4 Z2 X2 Y2 B2 hb3 ho3 HDN
  have hs3 := B3.size
  have HV : Hid (∀ o : Obj, ownsR (w3.alloc o) w.heap.size 3 (.slice va dl vc3) D9 ∧ Below w.heap.size w (w3.alloc o)) := fun o => ⟨HO3.out.alloc o, ba B3 o⟩
  go_wp2_with (at_builtin; refine append_recW _ w rfl (.tmp 34) (.tmp 36) 90 rfl w.heap.size 3 _ 8 underI info3 rfl _ D9 rfl (HV.out _).1 (HV.out _).2 w3.heap.size 1 (k : Int) rfl (cell_int (by simp [go_sem])) (by rw [HDL2.out]; omega) (by decide) (by simp; omega) ?_; intro v4 w4 ho4 hb4 hg4 hl4)
  have Z4 : P6 w4 w.heap.size nm cr fr up cu (.slice ao rl cap) := (Z3.on (ba (Below.refl _ _) _)).grown hg4 (fun e => by have := HB3.out _ e.symm; omega)
  have X4 : R5 w4 (w.heap.size + 1) rn rf ru re (.slice ro rl rc) := (X3.on (ba (Below.refl _ _) _)).grown hg4 (fun e => by have := HB3.out _ e.symm; omega)
  have Y4 : R5 w4 (w.heap.size + 1 + 1) ⟨#[]⟩ 0 0 0 (.slice none 0 0) := (Y3.on (ba (Below.refl _ _) _)).grown hg4 (fun e => by have := HB3.out _ e.symm; omega)
  have HLB : Hid (∀ b, v4.ownBlock = some b → b < w4.heap.size ∧ b ≠ w.heap.size ∧ b ≠ w.heap.size + 1 ∧ b ≠ w.heap.size + 1 + 1) := fun b hb => ⟨(ho4.lt b hb).2, fun e => own_type_ne ho4 Z4 (by decide) (by rw [hb, e]), fun e => own_type_ne ho4 X4 (by decide) (by rw [hb, e]), fun e => own_type_ne ho4 Y4 (by decide) (by rw [hb, e])⟩
  obtain ⟨L, HL⟩ : ∃ L, Hid (D9 ++ [(k : Int)] = L) := ⟨_, rfl⟩
  have HLL : Hid (L.length = dl + 1) := by show L.length = _; rw [← HL.out, List.length_append, HDL2.out]; rfl
  have HLP : Hid (∀ a ∈ L, ∃ j : Nat, a = (j : Int) ∧ j < rl) := fun a ha => by
    rw [← HL.out, List.mem_append, List.mem_singleton] at ha
    rcases ha with ha | rfl
    · exact HDP.out a ha
    · exact ⟨k, rfl, hk⟩
  rw [HL.out] at ho4 HCB2 HCS2
  have HO4 : Hid (ownsR w4 w.heap.size 3 v4 L) := ho4
  obtain ⟨lg, lc, el⟩ : ∃ lg lc, v4 = .slice (some ⟨lg, 0, none⟩) L.length lc := by
    rcases ho4.2 with ⟨_, h0⟩ | ⟨g, cap, cur, e, _⟩
    · have := HLL.out; omega
    · exact ⟨g, cap, e⟩
  subst el
  have hlb := HLB.out lg rfl
  rw [HLL.out] at HO4
  rw [HLL.out]
  clear HLB
  have B4 : Below w.heap.size w w4 := hb4
  clear Z3 X3 Y3 B3 hg4 hl4 ho4 hb4 HV HB3 HO3 HDP HDL2 HL hs3
  obtain ⟨ll, hll⟩ : ∃ ll, dl + 1 = ll := ⟨_, rfl⟩
  have hl5 : ll ≤ 5 := by omega
  rw [hll] at HO4 HLL
  rw [hll]
  clear hll hdl
  obtain ⟨A1, HA1⟩ : ∃ x, Hid ((L.any fun a => isN st a 1) = x) := ⟨_, rfl⟩
  obtain ⟨A2, HA2⟩ : ∃ x, Hid ((upsA ts (k : Int)).any (stuckB st) = x) := ⟨_, rfl⟩
  rw [HA1.out, HA2.out] at HCB2
  have HRD4 : Hid (∀ W, Below w4.heap.size w4 W → Reads W (.slice (some ⟨lg, 0, none⟩) ll lc) L) := fun W hb => HO4.out.reads.below hb
  have HC1 : Hid (∀ W, Below w4.heap.size w4 W → Calls Tryz.prog 53 #[.slice (some ⟨lg, 0, none⟩) ll lc, .func (.func 60) #[.agg #[.string rn, .int .i64 rf, .int .i64 ru, .int .i64 re, .slice ro rl rc]] #[]] W fun e w' => e = .returned (.bool A1) ∧ Below W.heap.size W w') := fun W hb => by
    have := cont_isRunning (some ⟨lg, 0, none⟩) ll lc L ro rl rc rn rf ru re st W (HRD.out W (Below.on B4 hb)) hl (HRD4.out W hb) (by omega)
    rw [HA1.out] at this
    exact this
  have HLU : Hid ((upsA ts (k : Int)).length ≤ 4) := ups_len HRG3.out _
  have HU : Hid (∀ W, Below w.heap.size w W → Calls Tryz.prog 54 #[.agg #[.string nm, .string cr, .int .i64 fr, .int .i64 up, .bool cu, .slice ao rl cap], .int .i64 k] W fun e w' => ∃ (va : Option Addr) (vc : Nat), e = .returned (.slice va (upsA ts (k : Int)).length vc) ∧ ownsR w' W.heap.size 3 (.slice va (upsA ts (k : Int)).length vc) (upsA ts (k : Int)) ∧ Below W.heap.size W w') := fun W hb => upsR_any _ rl cap nm cr fr up cu ts k W (HDI.out W hb) HRG3.out hk
  obtain ⟨U, HUE⟩ : ∃ U, Hid (upsA ts (k : Int) = U) := ⟨_, rfl⟩
  rw [HUE.out] at HA2 HLU HU
  obtain ⟨ul, HUL⟩ : ∃ ul, Hid (U.length = ul) := ⟨_, rfl⟩
  rw [HUL.out] at HLU HU
  have HC2 : Hid (∀ (ua : Option Addr) (uc : Nat) W, Below w.heap.size w W → Reads W (.slice ua ul uc) U → Calls Tryz.prog 53 #[.slice ua ul uc, .func (.func 68) #[.agg #[.string rn, .int .i64 rf, .int .i64 ru, .int .i64 re, .slice ro rl rc]] #[]] W fun e w' => e = .returned (.bool A2) ∧ Below W.heap.size W w') := fun ua uc W hb hu => by
    have := cont_isStuck ua ul uc U ro rl rc rn rf ru re st W (HRD.out W hb) hl hu (by have := HLU.out; omega)
    rw [HA2.out] at this
    exact this
  clear HUE HUL HLU HA1 HA2
  have q0 := Wd.cell Z4.c0
  have q1 := Wd.cell Z4.c1
  have q2 := Wd.cell Z4.c2
  have q3 := Wd.cell Z4.c3
  have q4 := Wd.cell Z4.c4
  have q5 := Wd.cell Z4.c5
  have p0 := Wd.cell X4.c0
  have p1 := Wd.cell X4.c1
  have p2 := Wd.cell X4.c2
  have p3 := Wd.cell X4.c3
  have p4 := Wd.cell X4.c4
  go_wp2_with fail
  have hdr : Below w4.heap.size w4 w4.drew := (Below.refl _ _).drew
  cases A1 with
  | true =>
    have HF : Hid (clearB ⟨nm, cr, fr, up, cu, ts⟩ ⟨rn, rf, ru, re, st⟩ (k : Int) = false) := HCB2.out
    clear HCB2 HCS2
    refine wp_region_pick (fun w' => ∃ x : Wd w4, w' = x.at') [0, 1] 12 10 (by kernel_rfl) (by decide) (by decide) (by kernel_rfl) (fun _ _ d _ _ h => by cases d <;> exact h) ⟨⟨w4.drew, hdr⟩, rfl⟩ ?_
    (repeat (refine wpTakes_l rfl (by first | (intro x h; cases h; done) | (intro x h; cases h; exact ⟨_, rfl⟩)) ?_; go_big_quiet_step (fail); refine wpQuiet_nil ?_)); refine takes_nil ?_
    refine pk_oneW (fuel := 9) (i := 2) (by kernel_rfl) rfl (by kernel_rfl) ?_
    intro K hK
    go_wp2
    refine hK.out _ _ ⟨⟨w4.drew, hdr⟩, rfl⟩ ?_
    clear hK K
    refine pk_oneW (fuel := 8) (i := 3) (by kernel_rfl) rfl (by kernel_rfl) ?_
    intro K hK
    go_wp2_with fail
    refine (HC1.out _ hdr).mono ?_
    rintro e w5 ⟨rfl, hb5⟩
    have B5 : Below w4.heap.size w4 w5 := Below.on hdr hb5
    clear hb5
    go_wp2
    refine hK.out _ _ ⟨⟨w5, B5⟩, rfl⟩ ?_
    clear hK K
    refine pk_takes [4, 5, 6, 8] 12 4 ⟨⟨w5, B5⟩, rfl⟩ (by kernel_rfl) (fun _ _ d _ _ h => by cases d <;> exact h) ?_
    (repeat (refine wpTakes_l rfl (by first | (intro x h; cases h; done) | (intro x h; cases h; exact ⟨_, rfl⟩)) ?_; go_big_quiet_step (fail); refine wpQuiet_nil ?_)); refine takes_nil ?_
    refine pk_offTwo (fuel := 3) (i := 7) (j := 9) (by kernel_rfl) rfl rfl (by kernel_rfl) (by kernel_rfl) ⟨⟨w5, B5⟩, rfl⟩ ?_ ?_
    · skip
      refine pk_off (fuel := 2) (i := 9) (by kernel_rfl) rfl (by kernel_rfl) ⟨⟨w5, B5⟩, rfl⟩ ?_
      refine pk_off (fuel := 1) (i := 10) (by kernel_rfl) rfl (by kernel_rfl) ⟨⟨w5, B5⟩, rfl⟩ ?_
      refine pk_oneW (fuel := 0) (i := 11) (by kernel_rfl) rfl (by kernel_rfl) ?_
      intro K hK
      go_wp2
      refine hK.out _ _ ⟨⟨w5, B5⟩, rfl⟩ ?_
      clear hK K
      refine any_done (by kernel_rfl) ?_
      simp only [List.drop_succ_cons, List.drop_zero]
      clear q0 q1 q2 q3 q4 q5 p0 p1 p2 p3 p4
      have Y9 := Y4.on B5
      have B9 := Below.on B4 B5
      have HR0 : Hid (R = noneR) := by show R = _; rw [← HRR.out]; exact if_neg (by rw [HF.out]; decide)
      have y0 := Y9.c0
      have y1 := Y9.c1
      have y2 := Y9.c2
      have y3 := Y9.c3
      have y4 := Y9.c4
      have yf := Y9.fz
      go_wp2
      refine bodyPost_ret (ret_run2 rfl rfl rfl (Y9.set ⟨#[]⟩ 0 0 0 (.slice none 0 0))) rfl ⟨.slice none 0 0, ?_, ?_, below_putR5 B9 (by omega) ⟨#[]⟩ 0 0 0 (.slice none 0 0)⟩
      · rw [HR0.out, HF.out]; rfl
      · rw [HR0.out]; exact ownsR_nil _ _ _
    · skip
      refine pk_off (fuel := 2) (i := 7) (by kernel_rfl) rfl (by kernel_rfl) ⟨⟨w5, B5⟩, rfl⟩ ?_
      refine pk_off (fuel := 1) (i := 10) (by kernel_rfl) rfl (by kernel_rfl) ⟨⟨w5, B5⟩, rfl⟩ ?_
      refine pk_oneW (fuel := 0) (i := 11) (by kernel_rfl) rfl (by kernel_rfl) ?_
      intro K hK
      go_wp2
      refine hK.out _ _ ⟨⟨w5, B5⟩, rfl⟩ ?_
      clear hK K
      refine any_done (by kernel_rfl) ?_
      simp only [List.drop_succ_cons, List.drop_zero]
      clear q0 q1 q2 q3 q4 q5 p0 p1 p2 p3 p4
      have Y9 := Y4.on B5
      have B9 := Below.on B4 B5
      have HR0 : Hid (R = noneR) := by show R = _; rw [← HRR.out]; exact if_neg (by rw [HF.out]; decide)
      have y0 := Y9.c0
      have y1 := Y9.c1
      have y2 := Y9.c2
      have y3 := Y9.c3
      have y4 := Y9.c4
      have yf := Y9.fz
      go_wp2
      refine bodyPost_ret (ret_run2 rfl rfl rfl (Y9.set ⟨#[]⟩ 0 0 0 (.slice none 0 0))) rfl ⟨.slice none 0 0, ?_, ?_, below_putR5 B9 (by omega) ⟨#[]⟩ 0 0 0 (.slice none 0 0)⟩
      · rw [HR0.out, HF.out]; rfl
      · rw [HR0.out]; exact ownsR_nil _ _ _
  | false =>
    refine wp_puts (α := UpX) (fun x => [(38, .slice (some ⟨lg, 0, none⟩) ll lc), (39, .agg #[.string rn, .int .i64 rf, .int .i64 ru, .int .i64 re, .slice ro rl rc]), (40, .func (.func 60) #[.agg #[.string rn, .int .i64 rf, .int .i64 ru, .int .i64 re, .slice ro rl rc]] #[]), (41, .bool false), (42, .bool false), (43, .agg #[.string nm, .string cr, .int .i64 fr, .int .i64 up, .bool cu, .slice ao rl cap]), (44, .int .i64 k), (45, .slice x.a ul x.c), (46, .agg #[.string rn, .int .i64 rf, .int .i64 ru, .int .i64 re, .slice ro rl rc]), (47, .func (.func 68) #[.agg #[.string rn, .int .i64 rf, .int .i64 ru, .int .i64 re, .slice ro rl rc]] #[]), (48, .bool A2), (49, .bool A2)]) (fun x w' => Below w4.heap.size w4 w') ?_ ?_
    · skip
      refine wp_region_pick (fun w' => ∃ x : Wd w4, w' = x.at') [0, 1] 12 10 (by kernel_rfl) (by decide) (by decide) (by kernel_rfl) (fun _ _ _ _ _ h => (by cases h.1)) ⟨⟨w4.drew, hdr⟩, rfl⟩ ?_
      (repeat (refine wpTakes_l rfl (by first | (intro x h; cases h; done) | (intro x h; cases h; exact ⟨_, rfl⟩)) ?_; go_big_quiet_step (fail); refine wpQuiet_nil ?_)); refine takes_nil ?_
      refine pk_oneW (fuel := 9) (i := 2) (by kernel_rfl) rfl (by kernel_rfl) ?_
      intro K hK
      go_wp2
      refine hK.out _ _ ⟨⟨w4.drew, hdr⟩, rfl⟩ ?_
      clear hK K
      refine pk_oneW (fuel := 8) (i := 3) (by kernel_rfl) rfl (by kernel_rfl) ?_
      intro K hK
      go_wp2_with fail
      refine (HC1.out _ hdr).mono ?_
      rintro e w5 ⟨rfl, hb5⟩
      have B5 : Below w4.heap.size w4 w5 := Below.on hdr hb5
      clear hb5
      go_wp2
      refine hK.out _ _ ⟨⟨w5, B5⟩, rfl⟩ ?_
      clear hK K
      refine pk_takes [4, 5, 6, 8] 12 4 ⟨⟨w5, B5⟩, rfl⟩ (by kernel_rfl) (fun _ _ _ _ _ h => (by cases h.1)) ?_
      (repeat (refine wpTakes_l rfl (by first | (intro x h; cases h; done) | (intro x h; cases h; exact ⟨_, rfl⟩)) ?_; go_big_quiet_step (fail); refine wpQuiet_nil ?_)); refine takes_nil ?_
      refine pk_twoW (fuel := 3) (i := 7) (j := 9) (by kernel_rfl) rfl rfl (by kernel_rfl) (by kernel_rfl) ?_ ?_
      · skip
        intro K hK
        go_wp2_with fail
        refine (HU.out _ (Below.on B4 B5)).mono ?_
        rintro e w6 ⟨ua, uc, rfl, ho6, hb6⟩
        have B6 : Below w4.heap.size w4 w6 := Below.on B5 hb6
        have hr6 := ho6.reads
        clear ho6 hb6
        go_wp2
        refine hK.out _ _ ⟨⟨w6, B6⟩, rfl⟩ ?_
        clear hK K
        refine pk_oneW (fuel := 2) (i := 9) (by kernel_rfl) rfl (by kernel_rfl) ?_
        intro K hK
        go_wp2
        refine hK.out _ _ ⟨⟨w6, B6⟩, rfl⟩ ?_
        clear hK K
        refine pk_oneW (fuel := 1) (i := 10) (by kernel_rfl) rfl (by kernel_rfl) ?_
        intro K hK
        go_wp2_with fail
        refine (HC2.out _ _ _ (Below.on B4 B6) hr6).mono ?_
        rintro e w7 ⟨rfl, hb7⟩
        have B7 : Below w4.heap.size w4 w7 := Below.on B6 hb7
        clear hb7
        go_wp2
        refine hK.out _ _ ⟨⟨w7, B7⟩, rfl⟩ ?_
        clear hK K
        refine pk_takes [11] 12 0 ⟨⟨w7, B7⟩, rfl⟩ (by kernel_rfl) (fun _ _ _ _ _ h => (by cases h.1)) ?_
        (repeat (refine wpTakes_l rfl (by first | (intro x h; cases h; done) | (intro x h; cases h; exact ⟨_, rfl⟩)) ?_; go_big_quiet_step (fail); refine wpQuiet_nil ?_)); refine takes_nil ?_
        refine any_done (by kernel_rfl) ?_
        simp only [List.drop_succ_cons, List.drop_zero]
        clear q0 q1 q2 q3 q4 q5 p0 p1 p2 p3 p4
        go_wp2
        refine ⟨⟨ua, uc⟩, ?_⟩
        kernel_rfl
      · skip
        intro K hK
        go_wp2
        refine hK.out _ _ ⟨⟨w5, B5⟩, rfl⟩ ?_
        clear hK K
        refine pk_oneW (fuel := 2) (i := 7) (by kernel_rfl) rfl (by kernel_rfl) ?_
        intro K hK
        go_wp2_with fail
        refine (HU.out _ (Below.on B4 B5)).mono ?_
        rintro e w6 ⟨ua, uc, rfl, ho6, hb6⟩
        have B6 : Below w4.heap.size w4 w6 := Below.on B5 hb6
        have hr6 := ho6.reads
        clear ho6 hb6
        go_wp2
        refine hK.out _ _ ⟨⟨w6, B6⟩, rfl⟩ ?_
        clear hK K
        refine pk_oneW (fuel := 1) (i := 10) (by kernel_rfl) rfl (by kernel_rfl) ?_
        intro K hK
        go_wp2_with fail
        refine (HC2.out _ _ _ (Below.on B4 B6) hr6).mono ?_
        rintro e w7 ⟨rfl, hb7⟩
        have B7 : Below w4.heap.size w4 w7 := Below.on B6 hb7
        clear hb7
        go_wp2
        refine hK.out _ _ ⟨⟨w7, B7⟩, rfl⟩ ?_
        clear hK K
        refine pk_takes [11] 12 0 ⟨⟨w7, B7⟩, rfl⟩ (by kernel_rfl) (fun _ _ _ _ _ h => (by cases h.1)) ?_
        (repeat (refine wpTakes_l rfl (by first | (intro x h; cases h; done) | (intro x h; cases h; exact ⟨_, rfl⟩)) ?_; go_big_quiet_step (fail); refine wpQuiet_nil ?_)); refine takes_nil ?_
        refine any_done (by kernel_rfl) ?_
        simp only [List.drop_succ_cons, List.drop_zero]
        clear q0 q1 q2 q3 q4 q5 p0 p1 p2 p3 p4
        go_wp2
        refine ⟨⟨ua, uc⟩, ?_⟩
        kernel_rfl
    rintro ⟨ua, uc⟩ w7 B7
    simp only [putAll, Act.put, List.setIfInBounds_toArray, List.set_cons_succ, List.set_cons_zero]
    clear q0 q1 q2 q3 q4 q5 p0 p1 p2 p3 p4 hdr HC1 HC2 HU
    have Z7 := Z4.on B7
    have X7 := X4.on B7
    have Y7 := Y4.on B7
    have B8 := Below.on B4 B7
    cases A2 with
    | true =>
      have HF : Hid (clearB ⟨nm, cr, fr, up, cu, ts⟩ ⟨rn, rf, ru, re, st⟩ (k : Int) = false) := HCB2.out
      clear HCB2 HCS2
      have HR0 : Hid (R = noneR) := by show R = _; rw [← HRR.out]; exact if_neg (by rw [HF.out]; decide)
      have y0 := Y7.c0
      have y1 := Y7.c1
      have y2 := Y7.c2
      have y3 := Y7.c3
      have y4 := Y7.c4
      have yf := Y7.fz
      go_wp2
      refine bodyPost_ret (ret_run2 rfl rfl rfl (Y7.set ⟨#[]⟩ 0 0 0 (.slice none 0 0))) rfl ⟨.slice none 0 0, ?_, ?_, below_putR5 B8 (by omega) ⟨#[]⟩ 0 0 0 (.slice none 0 0)⟩
      · rw [HR0.out, HF.out]; rfl
      · rw [HR0.out]; exact ownsR_nil _ _ _
    | false =>
      have HF : Hid (clearB ⟨nm, cr, fr, up, cu, ts⟩ ⟨rn, rf, ru, re, st⟩ (k : Int) = true) := HCB2.out
      have HR0 : Hid (R = ⟨rn, rf, ru, re + 1, blockL ts (clearL st L)⟩) := by show R = _; rw [← HRR.out]; unfold cleR; rw [HF.out, if_pos rfl]; show Rr.mk rn rf ru (re + 1) (clearS ⟨nm, cr, fr, up, cu, ts⟩ ⟨rn, rf, ru, re, st⟩ (k : Int)) = _; rw [HCS2.out]
      have hlg7 : lg < w7.heap.size := Nat.lt_of_lt_of_le hlb.1 B7.size
      have HR7 : Hid (Reads w7 (.slice (some ⟨lg, 0, none⟩) ll lc) L) := HRD4.out w7 B7
      clear HCB2 HCS2 HRR Z4 X4 Y4 B4 B7 HRD4 HO4
      have x0 := X7.c0
      have x1 := X7.c1
      have x2 := X7.c2
      have x3 := X7.c3
      have x4 := X7.c4
      go_wp2_with fail
      refine (HC.out _ B8).mono ?_
      rintro e w8 ⟨v8, rfl, ho8, hb8⟩
      have Z8 := Z7.on hb8
      have X8 := X7.on hb8
      have Y8 := Y7.on hb8
      have B9 := Below.on B8 hb8
      obtain ⟨xk, hxk⟩ : ∃ x, st[k]? = some x := ⟨_, List.getElem?_eq_getElem (by rw [HRN.out]; exact hk)⟩
      obtain ⟨g, vc, ev, hg1, hg2, hvc⟩ := own_some ho8 hxk
      have hgl : w.heap.size + 1 + 1 < g := Nat.lt_of_lt_of_le Y7.lt hg1
      have hgg : g ≠ lg := by omega
      have HR8 : Hid (Reads w8 (.slice (some ⟨lg, 0, none⟩) ll lc) L) := HR7.out.below hb8
      have HO8 : Hid (ownsR w8 w.heap.size 85 v8 st) := ho8.mono B8.size
      clear x0 x1 x2 x3 x4 Z7 X7 Y7 B8 hb8 HC ho8 hg1 hxk HR7
      subst ev
      rw [HRN.out] at HO8 hvc
      rw [HRN.out]
      obtain ⟨n0, n1, n2⟩ := hlb.2
      have m0 : w.heap.size + 1 ≠ w.heap.size := by omega
      have m2 : w.heap.size + 1 ≠ w.heap.size + 1 + 1 := by omega
      have ml : w.heap.size + 1 ≠ lg := fun e => n1 e.symm
      have CS : Hid (ClS w nm cr fr up cu (.slice ao rl cap) rn rf ru (re + 1) g rl vc lg ll lc L ((((((w8.setCell ⟨w.heap.size + 1, 0, none⟩ (.string rn)).setCell ⟨w.heap.size + 1, 1, none⟩ (.int .i64 rf)).setCell ⟨w.heap.size + 1, 2, none⟩ (.int .i64 ru)).setCell ⟨w.heap.size + 1, 3, none⟩ (.int .i64 re)).setCell ⟨w.heap.size + 1, 4, none⟩ (.slice (some ⟨g, 0, none⟩) rl vc)).setCell ⟨w.heap.size + 1, 3, none⟩ (.int .i64 (re + 1))) st) := by
        show ClS _ _ _ _ _ _ _ _ _ _ _ _ _ _ _ _ _ _ _ _
        have O9 := own_putR5 (b := w.heap.size + 1) HO8.out (not_rowR5 X8 HO8.out) rn rf ru re (.slice (some ⟨g, 0, none⟩) rl vc)
        exact ⟨(below_putR5 (g := w.heap.size + 1) B9 (Nat.le_succ _) rn rf ru re (.slice (some ⟨g, 0, none⟩) rl vc)).setCell (p := ⟨w.heap.size + 1, 3, none⟩) (Nat.le_succ _) _, (((((Z8.far (a := ⟨w.heap.size + 1, 0, none⟩) m0 _).far (a := ⟨w.heap.size + 1, 1, none⟩) m0 _).far (a := ⟨w.heap.size + 1, 2, none⟩) m0 _).far (a := ⟨w.heap.size + 1, 3, none⟩) m0 _).far (a := ⟨w.heap.size + 1, 4, none⟩) m0 _).far (a := ⟨w.heap.size + 1, 3, none⟩) m0 _, (X8.set rn rf ru re (.slice (some ⟨g, 0, none⟩) rl vc)).s3 (re + 1), (Y8.farPut (g' := w.heap.size + 1) m2).far (a := ⟨w.heap.size + 1, 3, none⟩) m2 _, reads_farI (reads_farI (reads_farI (reads_farI (reads_farI (reads_farI HR8.out ml _) ml _) ml _) ml _) ml _) ml _, grown_put (w' := w8) O9 _ (not_rowR5 (X8.set rn rf ru re (.slice (some ⟨g, 0, none⟩) rl vc)) O9), hgl, hgg⟩
      have hep := HEP.out
      have HBR : Hid (∀ W, Below w.heap.size w W → Reads W (.slice (some ⟨g, 0, none⟩) rl vc) (clearL st L) → Calls Tryz.prog 64 #[.agg #[.string nm, .string cr, .int .i64 fr, .int .i64 up, .bool cu, .slice ao rl cap], .agg #[.string rn, .int .i64 rf, .int .i64 ru, .int .i64 (re + 1), .slice (some ⟨g, 0, none⟩) rl vc]] W fun e w' => ∃ (va : Option Addr) (vd : Nat), e = .returned (.agg #[.string rn, .int .i64 rf, .int .i64 ru, .int .i64 (re + 1), .slice va rl vd]) ∧ ownsR w' W.heap.size 85 (.slice va rl vd) (blockL ts (clearL st L)) ∧ Below W.heap.size W w') := fun W hb hrd => by
        have hlen : (clearL st L).length = rl := by rw [clearL_len]; exact HRN.out
        have hbl : Hid (blkR ⟨nm, cr, fr, up, cu, ts⟩ ⟨rn, rf, ru, re + 1, clearL st L⟩ = ⟨rn, rf, ru, re + 1, blockL ts (clearL st L)⟩) := by
          show Rr.mk rn rf ru (re + 1) (blockR ⟨nm, cr, fr, up, cu, ts⟩ _) = _
          unfold blockR
          rw [if_pos ⟨HDG.out, by show (clearL st L).length = ts.length; rw [hlen]; exact HN.out.symm⟩]
        refine (implBlockRest_any ao rl cap nm cr fr up cu ts (some ⟨g, 0, none⟩) rl vc rn rf ru (re + 1) (clearL st L) W (HDI.out W hb) (HGL.out W hb) hrd hl hz _ hbl).mono fun e w' ⟨v, he, ho, hb2⟩ => ?_
        obtain ⟨va, vd, ev⟩ := ho.slice
        have h2 : (blockL ts (clearL st L)).length = rl := by rw [blockL_len, hlen]
        rw [show (Rr.st ⟨rn, rf, ru, re + 1, blockL ts (clearL st L)⟩).length = rl from h2] at ev
        subst ev
        exact ⟨va, vd, he, ho, hb2⟩
      have x0 := X8.c0
      have x1 := X8.c1
      have x2 := X8.c2
      have x3 := X8.c3
      have x4 := X8.c4
      have xf := X8.fz
      clear Z8 Y8 B9 HO8 HR8 HDG HRUN HQ HEP HRG3 HRD n0 n1 n2 m0 m2 ml
      go_wp2_with fail
      clear x0 x1 x2 x3 x4 xf X8
      go_loopw [59] (fun iv wr => ∃ j : Nat, j ≤ ll ∧ iv = .int .i64 j ∧ Hid (ClS w nm cr fr up cu (.slice ao rl cap) rn rf ru (re + 1) g rl vc lg ll lc L wr (clearL st (L.take j)))) (fun iv _ => ll - (intOf iv).toNat)
      case atStart => exact ⟨0, Nat.zero_le _, rfl, CS.out⟩
      case round =>
        clear CS
        obtain ⟨j, hj, rfl, CW⟩ := hrel
        by_cases hlt : j < ll
        · obtain ⟨a, ha⟩ : ∃ a, L[j]? = some a := ⟨_, List.getElem?_eq_getElem (by rw [HLL.out]; exact hlt)⟩
          obtain ⟨m, ea, hm⟩ := HLP.out a (List.mem_of_getElem? ha)
          subst ea
          obtain ⟨b9, o9, e9, hb9, r0⟩ := int_at CW.out.row ha
          injection e9 with e9
          injection e9 with e9 e10 _
          subst e9 e10
          rw [Nat.zero_add] at r0
          have hcl : (clearL st (L.take j)).length = rl := by rw [clearL_len]; exact HRN.out
          obtain ⟨y, hy⟩ : ∃ y, (clearL st (L.take j))[m]? = some y := ⟨_, List.getElem?_eq_getElem (by rw [hcl]; exact hm)⟩
          obtain ⟨hg7, ⟨d0, d1, d2, d3⟩, df0, df1, df2, df3⟩ := sa_own CW.out.own hy
          have CN : Hid (ClS w nm cr fr up cu (.slice ao rl cap) rn rf ru (re + 1) g rl vc lg ll lc L ((((wr.setCell ⟨g, m * 4, none⟩ (.int .i64 0)).setCell ⟨g, m * 4 + 1, none⟩ (.int .i64 0)).setCell ⟨g, m * 4 + 2, none⟩ (.int .i64 0)).setCell ⟨g, m * 4 + 3, none⟩ (.int .i64 0)) (clearL st (L.take (j + 1)))) := by
            have h := CW.out.put hy ⟨0, 0, 0, 0⟩
            have e : clearL st (L.take (j + 1)) = (clearL st (L.take j)).set m ⟨0, 0, 0, 0⟩ := by
              rw [List.take_add_one, ha]
              unfold clearL
              rw [Option.toList_some, List.foldl_append]
              rfl
            show ClS _ _ _ _ _ _ _ _ _ _ _ _ _ _ _ _ _ _ _ _
            rw [e]
            exact h
          have k4 := CW.out.run.c4
          obtain ⟨y0, y1, y2, y3⟩ := y
          dsimp only at d0 d1 d2 d3
          clear hy hcl ha CW
          go_wp2
          go_roundw
          case rel => exact ⟨j + 1, by omega, by go_num, CN⟩
          case measure => simp [intOf]; omega
        · have ejl : j = ll := by omega
          have CE : Hid (ClS w nm cr fr up cu (.slice ao rl cap) rn rf ru (re + 1) g rl vc lg ll lc L wr (clearL st L)) := by
            have h := CW.out
            rw [List.take_of_length_le (by rw [HLL.out, ejl]; exact Nat.le_refl _)] at h
            exact h
          clear CW
          have c0 := CE.out.dag.c0
          have c1 := CE.out.dag.c1
          have c2 := CE.out.dag.c2
          have c3 := CE.out.dag.c3
          have c4 := CE.out.dag.c4
          have c5 := CE.out.dag.c5
          have x0 := CE.out.run.c0
          have x1 := CE.out.run.c1
          have x2 := CE.out.run.c2
          have x3 := CE.out.run.c3
          have x4 := CE.out.run.c4
          go_wp2_with fail
          refine (HBR.out _ CE.out.bel CE.out.own.reads).mono ?_
          rintro e w9 ⟨va9, vd9, rfl, ho9, hb9⟩
          have Y9 := CE.out.res.on hb9
          have B9 := Below.on CE.out.bel hb9
          have HO9 : Hid (ownsR w9 w.heap.size 85 (.slice va9 rl vd9) (blockL ts (clearL st L))) := ho9.mono CE.out.bel.size
          clear c0 c1 c2 c3 c4 c5 x0 x1 x2 x3 x4 CE hb9 ho9 HBR
          have y0 := Y9.c0
          have y1 := Y9.c1
          have y2 := Y9.c2
          have y3 := Y9.c3
          have y4 := Y9.c4
          have yf := Y9.fz
          go_wp2
          refine bodyPost_ret (ret_run2 rfl rfl rfl (Y9.set rn rf ru (re + 1) (.slice va9 rl vd9))) rfl ⟨.slice va9 rl vd9, ?_, ?_, below_putR5 B9 (by omega) rn rf ru (re + 1) _⟩
          · rw [HR0.out, HF.out]; rfl
          · rw [HR0.out]; exact own_putR5 HO9.out (not_rowR5 Y9 HO9.out) rn rf ru (re + 1) _
end Go.Proofs.YtjmclcjhimcehaaGreatDoor
