/-
  Unframe of the program: the walk.
-/
import Derived.Test.YtijmaplejpnggaaDoorUi
namespace Go.Proofs.YtijmaplejpnggaaDoor
open Go.RowKit Go.Shelf
attribute [local go_sem] Oper.semAt_some

/-- What Unframe answers, of a file that may be too long. -/
def UnPostQ (s : ByteArray) (w : World) (e : Ending) (w' : World) : Prop :=
  ∃ v, e = .returned (.tuple #[v, .int .i64 (behindF (frq s) 0)]) ∧ ownsS w' w.heap.size 9 v (recs (frq s)) ∧ Below w.heap.size w w'

/-- What Unframe holds between two rounds. -/
def UI (s : ByteArray) (w : World) (pre : List (ByteArray × Nat)) (W : World) : Prop :=
  ((∃ v, Boxed W (w.heap.size + 1) 27 v ∧ W.ownsRow w.heap.size 9 1 v (recs pre).length ((recs pre).map Value.string) ∧ v.ownBlock ≠ some (w.heap.size + 1 + 1 + 1)) ∧ Boxed W (w.heap.size + 1 + 1) 3 (.int .i64 (behindF pre 0)) ∧ Boxed W (w.heap.size + 1 + 1 + 1) 9 (.string s)) ∧ Below w.heap.size w W
theorem UI_own (s : ByteArray) (w : World) (B : Nat) (hB : w.heap.size ≤ B) : OwnFrom B (UI s w) :=
  OwnFrom.and (OwnFrom.and (Own.from (holdsRow_own w.heap.size (w.heap.size + 1) 27 9 1 (fun pre => (recs pre).length) (fun pre => (recs pre).map Value.string) (fun _ v => v.ownBlock ≠ some (w.heap.size + 1 + 1 + 1))) _)
    (OwnFrom.and (Own.from (boxed_own (w.heap.size + 1 + 1) 3 (fun pre => .int .i64 (behindF pre 0))) _) (Own.from (boxed_own (w.heap.size + 1 + 1 + 1) 9 (fun _ => .string s)) _))) (ownFrom_below (Nat.le_refl _) hB)

set_option maxRecDepth 100000 in
set_option maxHeartbeats 2000000 in
theorem unframe_q (s : ByteArray) (w : World) (hs : s.size ≤ 1048576) (ht : TableIs w) : Calls Tryd.prog 12 #[.string s] w (UnPostQ s w) := by
  refine (callsIn_wide (n := 3)).1 ?_
  obtain ⟨i0, hi, hz0, hz1, hz2⟩ := info_parts info9
  refine callsIn_of_wp_marks Tryd.func12 rfl trivial ?_ rfl
  simp only [Tryd.ntmps12, List.size_toArray, List.length_cons, List.length_nil, Nat.reduceAdd, Nat.reduceSub, Array.replicate_succ, Array.replicate_zero, List.push_toArray, List.append_toArray, List.nil_append, List.cons_append]
  gi_wp2_with (refine ⟨trivial, ?_⟩; gi_at_call 36; refine (framesOf_in 2 s _).mono ?_; rintro e w' ⟨rfl, rfl⟩)
  have HT : Hid (TableIs w) := ht
  clear ht
  obtain ⟨W0, hW0⟩ : ∃ W0, (((w.alloc (.cells #[] 9)).alloc (.cells #[.slice (some ⟨w.heap.size, 0, none⟩) 0 0] 27)).alloc (.cells #[.int .i64 0] 3)).alloc (.cells #[.string s] 9) = W0 := ⟨_, rfl⟩
  have hsz0 : W0.heap.size = w.heap.size + 1 + 1 + 1 + 1 := by rw [← hW0]; simp
  have bO : Boxed W0 (w.heap.size + 1) 27 (.slice (some ⟨w.heap.size, 0, none⟩) 0 0) := by
    have := ((Boxed.new (w.alloc (.cells #[] 9)) 27 (.slice (some ⟨w.heap.size, 0, none⟩) 0 0)).alloc (.cells #[.int .i64 0] 3)).alloc (.cells #[.string s] 9)
    rw [hW0] at this; simpa using this
  have bB : Boxed W0 (w.heap.size + 1 + 1) 3 (.int .i64 0) := by
    have := (Boxed.new ((w.alloc (.cells #[] 9)).alloc (.cells #[.slice (some ⟨w.heap.size, 0, none⟩) 0 0] 27)) 3 (.int .i64 0)).alloc (.cells #[.string s] 9)
    rw [hW0] at this; simpa using this
  have bN : Boxed W0 (w.heap.size + 1 + 1 + 1) 9 (.string s) := by
    have := Boxed.new (((w.alloc (.cells #[] 9)).alloc (.cells #[.slice (some ⟨w.heap.size, 0, none⟩) 0 0] 27)).alloc (.cells #[.int .i64 0] 3)) 9 (.string s)
    rw [hW0] at this; simpa using this
  have hr0 : W0.ownsRow w.heap.size 9 1 (.slice (some ⟨w.heap.size, 0, none⟩) 0 0) 0 [] := by
    have := (((ownsS_made w w.heap.size 0 9 #[] (Nat.le_refl _) (by decide) rfl).alloc (.cells #[.slice (some ⟨w.heap.size, 0, none⟩) 0 0] 27)).alloc (.cells #[.int .i64 0] 3)).alloc (.cells #[.string s] 9)
    rw [hW0] at this; exact this
  have hB0 : Below w.heap.size w W0 := by
    rw [← hW0]; exact ((((Below.refl _ w).alloc (Nat.le_refl _) _).alloc (by simp) _).alloc (by simp; omega) _).alloc (by simp; omega) _
  rw [hW0]
  refine wpIn_rangeFunc_ownG rfl (by omega) (gf := 54) (lb := #[.pointer (some ⟨w.heap.size + 1 + 1 + 1, 0, none⟩)]) rfl trivial (enters_of Tryd.func54 (by kernel_rfl) rfl)
    (frames_stops 2 (by omega) (w.heap.size + 1 + 1 + 1) s hs w W0 HT.out (by omega) bN.cell hB0) kpF_t (kpF_b (by omega) (by omega)) (Below.refl _ _) (fun _ => rfl)
    (fun pre W => UI s w (valsF pre) W) (fun _ _ _ => False) (fun pre W W2 row h => UI_own s w _ (by omega) (valsF pre) W W2 row h) (fun _ _ _ _ _ hs _ _ => hs)
    ⟨⟨⟨_, bO, hr0, by simp [Value.ownBlock]; omega⟩, bB, bN⟩, hB0⟩
    (fun x => { tmps := #[.string s, undef, .slice none 0 0, .int .i64 0, .pointer (some ⟨w.heap.size + 1, 0, none⟩), .pointer (some ⟨w.heap.size + 1 + 1, 0, none⟩), .string x.1.1, .int .i64 x.1.2, .slice (some ⟨w.heap.size, 0, none⟩) 0 0, .string s, .func (.func 54) #[] #[.pointer (some ⟨w.heap.size + 1 + 1 + 1, 0, none⟩)], .string x.1.1, .int .i64 x.1.2, undef, undef, undef, undef, undef, undef, undef], defers := [] }) ?assign ?body ?done ?stop
  case assign =>
    intro l x W K hK
    simp only [encF]
    gi_wp2
    exact hK
  case body =>
    rintro l pre0 x W ⟨⟨⟨v, hv, hrow, hnb⟩, hbh, hbn⟩, hB⟩ hlt
    rw [← valsF_len] at hlt
    have HV : Hid (valsF (pre0 ++ [x]) = valsF pre0 ++ [x.1]) := valsF_snoc pre0 x
    obtain ⟨pre, HPR⟩ : ∃ pre, Hid (valsF pre0 = pre) := ⟨_, rfl⟩
    rw [HPR.out] at hrow hbh hlt HV
    have hc := hv.cell
    have hpl : (recs pre).length = pre.length := recs_len pre
    have hsz := hB.size
    have HPL : Hid ((recs pre).length = pre.length) := hpl
    have hp2 : (recs pre).length < 20001 := by omega
    clear hpl
    gi_wp2_with (gi_at_builtin; refine wpListIn_append_own_at _ rfl _ _ 27 rfl w.heap.size 9 i0 (.string ByteArray.empty) 1 16 Tryd.underlying27 hi hz0 hz1 hz2 rfl (by decide) _ _ _ rfl (hrow.alloc _) ⟨W.heap.size, 0, none⟩ 1 1 [.string x.1.1] rfl rfl (cell_one_new _ _ _) (by simp [Value.oneCell']) (by unfold maxLen; omega) (by omega) (by simp; omega) ?_; intro v' w1 hown' hgrow _ hat; obtain ⟨g', cap', rfl⟩ := ownsRow_succ hown'; obtain ⟨hv1, hv2, hr2, hk2, hb2⟩ := hv.appended (by decide) hrow hB.size (by omega) hown' hgrow; have hc1 := hv1.cell; have hf1 := hv1.frozen; have hbh1 := (hbh.alloc _).kept hgrow (hbh.not_row (by decide) hrow); have hbn1 := (hbn.alloc _).kept hgrow (fun e => hnb e.symm); have hbh2 := hbh1.other (B' := w.heap.size + 1) (by omega) (.slice (some ⟨g', 0, none⟩) ((recs pre).length + 1) cap'); have hbn2 := hbn1.other (B' := w.heap.size + 1) (by omega) (.slice (some ⟨g', 0, none⟩) ((recs pre).length + 1) cap'); have hc2 := hbh2.cell; have hf2 := hbh2.frozen)
    have hbn3 := hbn2.other (B' := w.heap.size + 1 + 1) (by omega) (.int .i64 x.1.2)
    have hr3 := hr2.kept (grownBy_setCell' _ (w.heap.size + 1 + 1) (.int .i64 x.1.2)) (.inr (hbh2.not_row (by decide) hr2).symm)
    refine ⟨(hk2.trans (KeepsOthers.setCell _ _ _)).from _, ⟨hb2.setCell (p := ⟨w.heap.size + 1 + 1, 0, none⟩) (by simp; omega) _, hbn3.cell.trans hbn.cell.symm⟩, ⟨⟨⟨_, hv2.other (by omega) _, ?_, ?_⟩, ?_, hbn3⟩, hB.trans (hb2.setCell (p := ⟨w.heap.size + 1 + 1, 0, none⟩) (by simp; omega) _)⟩⟩
    · rw [HV.out, recs_snoc]
      simpa using hr3
    · rcases hat with h | h
      · rw [h]; exact hnb
      · rw [h]
        have := hbn.lt
        simp
        omega
    · rw [HV.out, behindF_snoc]; exact hbh2.set _
  case done =>
    rintro D ys W hD hys ⟨⟨⟨v, hv, hrow, hnb⟩, hbh, hbn⟩, hB⟩ hK
    rw [hys] at hrow hbh
    clear hys
    have hc := hv.cell
    have hc2 := hbh.cell
    gi_wp2
    refine wpIn_calm ?_
    gi_quiet (fail)
    have hK' : (W.drewN nq).heap[D]? = some (.deferred (some [])) := hK
    have hb' : Below w.heap.size w (W.drewN nq) := below_drewN hB nq
    have hr' : (W.drewN nq).ownsRow w.heap.size 9 1 v (recs (frq s)).length ((recs (frq s)).map Value.string) := hrow
    simp only [calmQ]
    gi_wp2
    refine ⟨by simp, .inl ⟨_, _, rfl, run_takeDeferred hK', ?_⟩⟩
    exact ⟨_, results_tmp2 rfl _ _ _, v, rfl, ownsRow_putObj hr' _ hK' rfl, hb'.trans (belowK_b (w := w) (Nat.le_refl _) _ D _ _ (by omega) hK' rfl rfl)⟩
  case stop =>
    rintro D c pre W _ _ h _
    exact h.elim

theorem unframe_ok (s : ByteArray) (w : World) (hs : s.size ≤ 20000) (ht : TableIs w) : Calls Tryd.prog 12 #[.string s] w (UnPost s w) := by
  have := unframe_q s w (by omega) ht
  unfold UnPostQ at this
  rw [frq_in hs] at this
  exact this

end Go.Proofs.YtijmaplejpnggaaDoor
