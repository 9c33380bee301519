/-
  Unframe of the program: the walk.
-/
import Derived.Test.YtdhkececckhbfaaDoorUi
namespace Go.Proofs.YtdhkececckhbfaaDoor
open Go.RowKit Go.Shelf
attribute [local go_sem] Oper.semAt_some

set_option maxHeartbeats 1000000 in
theorem framesOf_in (n : Nat) (s : ByteArray) (w : World) :
    CallsIn Fence.wide n Tryd.prog 26 #[.string s] w fun e w' => e = .returned (.func (.func 34) #[] #[.pointer (some ⟨w.heap.size, 0, none⟩)]) ∧ w' = w.alloc (.cells #[.string s] 9) := by
  refine callsIn_of_wp Tryd.func26 rfl trivial ?_ rfl
  simp only [Tryd.ntmps26, List.size_toArray, List.length_cons, List.length_nil, Nat.reduceAdd, Nat.reduceSub, Array.replicate_succ, Array.replicate_zero, List.push_toArray, List.append_toArray, List.nil_append, List.cons_append]
  gi_wp2
  go_ret
  exact ⟨rfl, rfl⟩

theorem frames_stops (n : Nat) (hn : 1 ≤ n) (Bn : Nat) (s : ByteArray) (hs : s.size ≤ 20000) (w0 w : World) (ht : TableIs w0) (hBn : Bn < w.heap.size) (hc : w.cell? ⟨Bn, 0, none⟩ = some (.string s)) (hb : Below w0.heap.size w0 w) :
    SeqStopsK Fence.wide n Tryd.prog 34 #[.pointer (some ⟨Bn, 0, none⟩)] encF (KpF w0.heap.size Bn) (fun ys => ys = frs s 0) (fun pre => pre <+: frs s 0) 20001 w := fun l J Jx W hW hJ _ hY h0 =>
  frames1_in n hn l Bn s hs w0 ht J Jx (fun pre A B hj hg => hJ pre A B none hj hg (fun r e => by cases e)) hY W ((hW.cell (p := ⟨Bn, 0, none⟩) hBn).trans hc) (hb.trans (hW.mono hb.size)) h0

theorem kpF_t {n₀ Bn : Nat} {A B C : World} (h : KpF n₀ Bn A B) (k : KpF n₀ Bn B C) : KpF n₀ Bn A C := ⟨h.1.trans k.1, k.2.trans h.2⟩
theorem kpF_b {n₀ Bn : Nat} {w : World} (hn : n₀ ≤ w.heap.size) (hB : Bn < w.heap.size) (W : World) (l : Nat) (o o' : Obj) (hl : w.heap.size ≤ l) (h : W.heap[l]? = some o) (h1 : o.isCells = false) (h2 : o.isWalk = false) : KpF n₀ Bn W (W.putObj l o') :=
  ⟨belowK_b hn W l o o' hl h h1 h2, (belowK_b (n₀ := Bn + 1) (w := w) hB W l o o' hl h h1 h2).cell (p := ⟨Bn, 0, none⟩) (Nat.lt_succ_self _)⟩

/-- The post of a region that does not leave by itself. -/
def calmQ (Q : Exit → Act → World → Prop) : Exit → Act → World → Prop
  | .normal, a, w => Q .normal a w
  | _, _, _ => False
theorem wpIn_calm {F : Fence} {n : Nat} {P : Program} {c : Code} {Q : Exit → Act → World → Prop} {a : Act} {w : World} (h : c.wpIn F n P (calmQ Q) a w) : c.wpIn F n P Q a w :=
  Go.wpIn_mono h (fun e a w q => by cases e <;> first | exact q | exact q.elim)

/-- What Unframe holds between two rounds. -/
def UI (s : ByteArray) (w : World) (pre : List (ByteArray × Nat)) (W : World) : Prop :=
  ((∃ v, Boxed W (w.heap.size + 1) 27 v ∧ W.ownsRow w.heap.size 9 1 v (recs pre).length ((recs pre).map Value.string) ∧ v.ownBlock ≠ some (w.heap.size + 1 + 1 + 1)) ∧ Boxed W (w.heap.size + 1 + 1) 3 (.int .i64 (behindL pre 0)) ∧ Boxed W (w.heap.size + 1 + 1 + 1) 9 (.string s)) ∧ Below w.heap.size w W
theorem UI_own (s : ByteArray) (w : World) (B : Nat) (hB : w.heap.size ≤ B) : OwnFrom B (UI s w) :=
  OwnFrom.and (OwnFrom.and (Own.from (holdsRow_own w.heap.size (w.heap.size + 1) 27 9 1 (fun pre => (recs pre).length) (fun pre => (recs pre).map Value.string) (fun _ v => v.ownBlock ≠ some (w.heap.size + 1 + 1 + 1))) _)
    (OwnFrom.and (Own.from (boxed_own (w.heap.size + 1 + 1) 3 (fun pre => .int .i64 (behindL pre 0))) _) (Own.from (boxed_own (w.heap.size + 1 + 1 + 1) 9 (fun _ => .string s)) _))) (ownFrom_below (Nat.le_refl _) hB)

set_option maxRecDepth 100000 in
set_option maxHeartbeats 2000000 in
theorem unframe_ok (s : ByteArray) (w : World) (hs : s.size ≤ 20000) (ht : TableIs w) : Calls Tryd.prog 10 #[.string s] w (UnPost s w) := by
  refine (callsIn_wide (n := 3)).1 ?_
  obtain ⟨i0, hi, hz0, hz1, hz2⟩ := info_parts info9
  refine callsIn_of_wp_marks Tryd.func10 rfl trivial ?_ rfl
  simp only [Tryd.ntmps10, List.size_toArray, List.length_cons, List.length_nil, Nat.reduceAdd, Nat.reduceSub, Array.replicate_succ, Array.replicate_zero, List.push_toArray, List.append_toArray, List.nil_append, List.cons_append]
  gi_wp2_with (refine ⟨trivial, ?_⟩; gi_at_call 26; refine (framesOf_in 2 s _).mono ?_; rintro e w' ⟨rfl, rfl⟩)
  have HT : Hid (TableIs w) := ht
  clear ht
  obtain ⟨W0, hW0⟩ : ∃ W0, (((w.alloc (.cells #[] 9)).alloc (.cells #[.slice (some ⟨w.heap.size, 0, none⟩) 0 0] 27)).alloc (.cells #[.int .i64 0] 3)).alloc (.cells #[.string s] 9) = W0 := ⟨_, rfl⟩
  have hsz0 : W0.heap.size = w.heap.size + 1 + 1 + 1 + 1 := by rw [← hW0]; simp
  have bO : Boxed W0 (w.heap.size + 1) 27 (.slice (some ⟨w.heap.size, 0, none⟩) 0 0) := by
    have := ((Boxed.new (w.alloc (.cells #[] 9)) 27 (.slice (some ⟨w.heap.size, 0, none⟩) 0 0)).alloc (.cells #[.int .i64 0] 3)).alloc (.cells #[.string s] 9)
    rw [hW0] at this; simpa using this
  have bB : Boxed W0 (w.heap.size + 1 + 1) 3 (.int .i64 0) := by
    have := (Boxed.new ((w.alloc (.cells #[] 9)).alloc (.cells #[.slice (some ⟨w.heap.size, 0, none⟩) 0 0] 27)) 3 (.int .i64 0)).alloc (.cells #[.string s] 9)
    rw [hW0] at this; simpa using this
  have bN : Boxed W0 (w.heap.size + 1 + 1 + 1) 9 (.string s) := by
    have := Boxed.new (((w.alloc (.cells #[] 9)).alloc (.cells #[.slice (some ⟨w.heap.size, 0, none⟩) 0 0] 27)).alloc (.cells #[.int .i64 0] 3)) 9 (.string s)
    rw [hW0] at this; simpa using this
  have hr0 : W0.ownsRow w.heap.size 9 1 (.slice (some ⟨w.heap.size, 0, none⟩) 0 0) 0 [] := by
    have := (((ownsS_made w w.heap.size 0 9 #[] (Nat.le_refl _) (by decide) rfl).alloc (.cells #[.slice (some ⟨w.heap.size, 0, none⟩) 0 0] 27)).alloc (.cells #[.int .i64 0] 3)).alloc (.cells #[.string s] 9)
    rw [hW0] at this; exact this
  have hB0 : Below w.heap.size w W0 := by
    rw [← hW0]; exact ((((Below.refl _ w).alloc (Nat.le_refl _) _).alloc (by simp) _).alloc (by simp; omega) _).alloc (by simp; omega) _
  rw [hW0]
  refine wpIn_rangeFunc_ownG rfl (by omega) (gf := 34) (lb := #[.pointer (some ⟨w.heap.size + 1 + 1 + 1, 0, none⟩)]) rfl trivial (enters_of Tryd.func34 (by kernel_rfl) rfl)
    (frames_stops 2 (by omega) (w.heap.size + 1 + 1 + 1) s hs w W0 HT.out (by omega) bN.cell hB0) kpF_t (kpF_b (by omega) (by omega)) (Below.refl _ _) (fun _ => rfl)
    (UI s w) (fun _ _ _ => False) (UI_own s w _ (by omega)) (fun _ _ _ _ _ hs _ _ => hs)
    ⟨⟨⟨_, bO, hr0, by simp [Value.ownBlock]; omega⟩, bB, bN⟩, hB0⟩
    (fun x => { tmps := #[.string s, undef, .slice none 0 0, .int .i64 0, .pointer (some ⟨w.heap.size + 1, 0, none⟩), .pointer (some ⟨w.heap.size + 1 + 1, 0, none⟩), .string x.1, .int .i64 x.2, .string s, .int .i64 s.size, .bool (decide (20000 < (s.size : Int))), undef, .slice (some ⟨w.heap.size, 0, none⟩) 0 0, .string s, .func (.func 34) #[] #[.pointer (some ⟨w.heap.size + 1 + 1 + 1, 0, none⟩)], .string x.1, .int .i64 x.2, undef, undef, undef, undef, undef, undef, undef], defers := [] }) ?assign ?body ?done ?stop
  case assign =>
    intro l x W K hK
    simp only [encF]
    gi_wp2
    exact hK
  case body =>
    rintro l pre x W ⟨⟨⟨v, hv, hrow, hnb⟩, hbh, hbn⟩, hB⟩ hlt
    have hc := hv.cell
    have hpl : (recs pre).length = pre.length := recs_len pre
    have hsz := hB.size
    have HPL : Hid ((recs pre).length = pre.length) := hpl
    have hp2 : (recs pre).length < 20001 := by omega
    clear hpl
    gi_wp2_with (gi_at_builtin; refine wpListIn_append_own_at _ rfl _ _ 27 rfl w.heap.size 9 i0 (.string ByteArray.empty) 1 16 Tryd.underlying27 hi hz0 hz1 hz2 rfl (by decide) _ _ _ rfl (hrow.alloc _) ⟨W.heap.size, 0, none⟩ 1 1 [.string x.1] rfl rfl (cell_one_new _ _ _) (by simp [Value.oneCell']) (by unfold maxLen; omega) (by omega) (by simp; omega) ?_; intro v' w1 hown' hgrow _ hat; obtain ⟨g', cap', rfl⟩ := ownsRow_succ hown'; obtain ⟨hv1, hv2, hr2, hk2, hb2⟩ := hv.appended (by decide) hrow hB.size (by omega) hown' hgrow; have hc1 := hv1.cell; have hf1 := hv1.frozen; have hbh1 := (hbh.alloc _).kept hgrow (hbh.not_row (by decide) hrow); have hbn1 := (hbn.alloc _).kept hgrow (fun e => hnb e.symm); have hbh2 := hbh1.other (B' := w.heap.size + 1) (by omega) (.slice (some ⟨g', 0, none⟩) ((recs pre).length + 1) cap'); have hbn2 := hbn1.other (B' := w.heap.size + 1) (by omega) (.slice (some ⟨g', 0, none⟩) ((recs pre).length + 1) cap'); have hc2 := hbh2.cell; have hf2 := hbh2.frozen)
    have hbn3 := hbn2.other (B' := w.heap.size + 1 + 1) (by omega) (.int .i64 x.2)
    have hr3 := hr2.kept (grownBy_setCell' _ (w.heap.size + 1 + 1) (.int .i64 x.2)) (.inr (hbh2.not_row (by decide) hr2).symm)
    refine ⟨(hk2.trans (KeepsOthers.setCell _ _ _)).from _, ⟨hb2.setCell (p := ⟨w.heap.size + 1 + 1, 0, none⟩) (by simp; omega) _, hbn3.cell.trans hbn.cell.symm⟩, ⟨⟨⟨_, hv2.other (by omega) _, ?_, ?_⟩, ?_, hbn3⟩, hB.trans (hb2.setCell (p := ⟨w.heap.size + 1 + 1, 0, none⟩) (by simp; omega) _)⟩⟩
    · rw [recs_snoc]
      simpa using hr3
    · rcases hat with h | h
      · rw [h]; exact hnb
      · rw [h]
        have := hbn.lt
        simp
        omega
    · rw [behindL_snoc]; exact hbh2.set _
  case done =>
    rintro D ys W hD rfl ⟨⟨⟨v, hv, hrow, hnb⟩, hbh, hbn⟩, hB⟩ hK
    have hc := hv.cell
    have hc2 := hbh.cell
    gi_wp2
    refine wpIn_calm ?_
    gi_quiet (fail)
    have hK' : (W.drewN nq).heap[D]? = some (.deferred (some [])) := hK
    have hb' : Below w.heap.size w (W.drewN nq) := below_drewN hB nq
    have hr' : (W.drewN nq).ownsRow w.heap.size 9 1 v (recs (frs s 0)).length ((recs (frs s 0)).map Value.string) := hrow
    simp only [calmQ]
    gi_wp2
    refine ⟨by simp, .inl ⟨_, _, rfl, run_takeDeferred hK', ?_⟩⟩
    exact ⟨_, results_tmp2 rfl _ _ _, v, rfl, ownsRow_putObj hr' _ hK' rfl, hb'.trans (belowK_b (w := w) (Nat.le_refl _) _ D _ _ (by omega) hK' rfl rfl)⟩
  case stop =>
    rintro D c pre W _ _ h _
    exact h.elim

end Go.Proofs.YtdhkececckhbfaaDoor
