/-
  An entry put into a log, as the program does it: the walk. A region that draws its order: its first operations only read (their callees turn nothing that lay there before), its last ones can come up in one order alone: one walk serves every order. Over any program.
-/
import Derived.Test.YtgpojfkdcdgloaaGreatDoorG7
import Derived.Test.YtgpojfkdcdgloaaGreatDoorWd
namespace Go.Proofs.YtgpojfkdcdgloaaGreatDoor
open Go Go.RowKit

set_option maxRecDepth 10000 in
set_option maxHeartbeats 4000000 in
theorem logPut_try (s t i tm kd : Int) (d : ByteArray) (ao : Option Addr) (n c : Nat) (l : List En) (w : World) (hr : Reads w (.slice ao n c) l) (hc : n ≤ c) (hn : n ≤ 1048576) (hz : SizedE l) (hd : d.size ≤ 1048576) :
    Calls Tryz.prog 96 #[.agg #[.int .i64 s, .int .i64 t, .slice ao n c], .int .i64 i, .agg #[.int .i64 tm, .int .i64 kd, .string d]] w fun e w' => ∃ v, e = .returned (.tuple #[.agg #[.int .i64 (putS s t l i ⟨tm, kd, d⟩), .int .i64 (putT s t l i ⟨tm, kd, d⟩), v], .bool (putB s t l i ⟨tm, kd, d⟩)]) ∧ ownsR w' w.heap.size 110 v (putE s t l i ⟨tm, kd, d⟩) ∧ Below w.heap.size w w' := by
  have HR : Hid (Reads w (.slice ao n c) l) := hr
  have HN : Hid (n = l.length) := hr.len
  have HZ : Hid (SizedE l) := hz
  have HD : Hid (d.size ≤ 1048576) := hd
  clear hr hz hd
  obtain ⟨f, HF⟩ : ∃ f : En, Hid (f = ⟨tm, kd, d⟩) := ⟨_, rfl⟩
  rw [← HF.out]
  obtain ⟨q, HQ⟩ : ∃ q, Hid (okL s t l = q) := ⟨_, rfl⟩
  obtain ⟨b, HB⟩ : ∃ b, Hid (putB s t l i f = b) := ⟨_, rfl⟩
  rw [HB.out]
  go_enter Tryz.func96, Tryz.ntmps96
  go_wp2_with fail
  have L0 := p3_new w s t tm kd d (.slice ao n c)
  obtain ⟨W, hW⟩ : ∃ W, ((w.alloc (Obj.cells #[.int .i64 s, .int .i64 t, .slice ao n c] 28)).alloc (Obj.cells #[.int .i64 tm, .int .i64 kd, .string d] 110)).alloc (Obj.cells #[.int .i64 0, .int .i64 0, .slice none 0 0] 28) = W := ⟨_, rfl⟩
  rw [hW] at L0 ⊢
  clear hW
  obtain ⟨li, HLI⟩ : ∃ x, Hid (lastI s l = x) := ⟨_, rfl⟩
  refine (logLast_any (HR.out.below L0.bel) (by rw [← HN.out]; omega)).mono ?_
  rintro e w1 ⟨rfl, hb1⟩
  rw [HLI.out]
  have L1 := L0.up hb1
  clear hb1 L0
  have a0 := L1.a0
  have a1 := L1.a1
  have a2 := L1.a2
  go_wp2_with fail
  refine (logOk_any (HR.out.below L1.bel) (by rw [← HN.out]; omega) HZ.out).mono ?_
  rintro e w2 ⟨rfl, hb2⟩
  rw [HQ.out]
  have L2 := L1.up hb2
  clear hb2 L1 a0 a1 a2
  cases q with
  | false =>
    have HF2 : Hid (putB s t l i f = false) := by show putB s t l i f = false; unfold putB; rw [HQ.out]; rfl
    have hb0 : b = false := HB.out.symm.trans HF2.out
    subst hb0
    have r0 := L2.r0
    have r1 := L2.r1
    have r2 := L2.r2
    have f0 := L2.f0
    have f1 := L2.f1
    have f2 := L2.f2
    go_wp2
    refine bodyPost_ret (ret_log2 (a := .int .i64 0) (b := .int .i64 0) (c := .slice none 0 0) (x := .bool false) rfl rfl rfl (by simp [go_sem, r0]) (by simp [go_sem, r1]) (by simp [go_sem, r2])) rfl ⟨.slice none 0 0, by unfold putS putT; rw [HF2.out]; rfl, ?_, ?_⟩
    · unfold putE; rw [HF2.out]
      exact ownsR_nil _ _ _
    · refine Below.setCell (Below.setCell (Below.setCell L2.bel ?_ _) ?_ _) ?_ _ <;> simp <;> omega
  | true =>
    obtain ⟨h0, h1, h2, h3, h4, h5, -⟩ := okL_all HQ.out
    have hli : li = s + n := by rw [← HLI.out, lastI_in h0 h1 h4, HN.out]
    rw [← HN.out] at h4 h5
    subst hli
    by_cases hi0 : i ≤ s
    · have HF2 : Hid (putB s t l i f = false) := by
        show putB s t l i f = false; unfold putB inP; rw [decide_eq_false (p := s + 1 ≤ i) (by omega)]; simp
      have hb0 : b = false := HB.out.symm.trans HF2.out
      subst hb0
      have a0 := L2.a0
      have r0 := L2.r0
      have r1 := L2.r1
      have r2 := L2.r2
      have f0 := L2.f0
      have f1 := L2.f1
      have f2 := L2.f2
      go_wp2
      refine bodyPost_ret (ret_log2 (a := .int .i64 0) (b := .int .i64 0) (c := .slice none 0 0) (x := .bool false) rfl rfl rfl (by simp [go_sem, r0]) (by simp [go_sem, r1]) (by simp [go_sem, r2])) rfl ⟨.slice none 0 0, by unfold putS putT; rw [HF2.out]; rfl, ?_, ?_⟩
      · unfold putE; rw [HF2.out]
        exact ownsR_nil _ _ _
      · refine Below.setCell (Below.setCell (Below.setCell L2.bel ?_ _) ?_ _) ?_ _ <;> simp <;> omega
    by_cases hi1 : s + n + 1 < i
    · have HF2 : Hid (putB s t l i f = false) := by
        show putB s t l i f = false; unfold putB inP; rw [← HN.out, decide_eq_false (p := i ≤ s + n + 1) (by omega)]; simp
      have hb0 : b = false := HB.out.symm.trans HF2.out
      subst hb0
      have a0 := L2.a0
      have r0 := L2.r0
      have r1 := L2.r1
      have r2 := L2.r2
      have f0 := L2.f0
      have f1 := L2.f1
      have f2 := L2.f2
      go_wp2
      refine bodyPost_ret (ret_log2 (a := .int .i64 0) (b := .int .i64 0) (c := .slice none 0 0) (x := .bool false) rfl rfl rfl (by simp [go_sem, r0]) (by simp [go_sem, r1]) (by simp [go_sem, r2])) rfl ⟨.slice none 0 0, by unfold putS putT; rw [HF2.out]; rfl, ?_, ?_⟩
      · unfold putE; rw [HF2.out]
        exact ownsR_nil _ _ _
      · refine Below.setCell (Below.setCell (Below.setCell L2.bel ?_ _) ?_ _) ?_ _ <;> simp <;> omega
    obtain ⟨k, hk⟩ : ∃ k : Nat, i = s + k + 1 := ⟨(i - s - 1).toNat, by omega⟩
    have hkn : k ≤ n := by omega
    have HP : Hid (putsL s l i f = l.take k ++ [f]) := by show _ = _; unfold putsL; rw [show (i - s - 1).toNat = k by omega]
    obtain ⟨D, HDD⟩ : ∃ D, Hid (D = l.take k) := ⟨_, rfl⟩
    have hDl : D.length = k := by rw [HDD.out]; simp; have := HN.out; omega
    have HIN : Hid (inP s l.length i = true) := by show _ = true; unfold inP; rw [← HN.out]; simp; omega
    have HZD : Hid (SizedE D) := fun g hg => HZ.out g (List.mem_of_mem_take (by rw [← HDD.out]; exact hg))
    subst hk
    have e1 : s + (k : Int) + 1 - s = (k : Int) + 1 := by omega
    have a0 := L2.a0
    have a1 := L2.a1
    have a2 := L2.a2
    go_wp2
    obtain ⟨WP, hWP⟩ : ∃ WP, w2.alloc (Obj.cells #[.int .i64 s, .int .i64 t, .slice none 0 0] 28) = WP := ⟨_, rfl⟩
    have hWs : WP.heap.size = w2.heap.size + 1 := by rw [← hWP]; simp
    have hbW : Below w2.heap.size w2 WP := by rw [← hWP]; exact ba (Below.refl _ _) _
    have x0 : WP.cell? ⟨w2.heap.size, 0, none⟩ = some (.int .i64 s) := by rw [← hWP]; simp [go_sem]
    have x1 : WP.cell? ⟨w2.heap.size, 1, none⟩ = some (.int .i64 t) := by rw [← hWP]; simp [go_sem]
    have x2 : WP.cell? ⟨w2.heap.size, 2, none⟩ = some (.slice none 0 0) := by rw [← hWP]; simp [go_sem]
    have y2 : WP.frozen? ⟨w2.heap.size, 2, none⟩ = false := by rw [← hWP]; simp [go_sem]
    rw [hWP]
    clear hWP a0 a1 a2
    have hs3 := L2.size
    have L3 := L2.up hbW
    have A2 := Below.cellOf (B := w2.heap.size) (W := WP) (p := ⟨w.heap.size, 2, none⟩) (v := .slice ao n c) (by simp; omega) L3.a2
    have E0 := Below.cellOf (B := w2.heap.size) (W := WP) (p := ⟨w.heap.size + 1, 0, none⟩) (v := .int .i64 tm) (by simp; omega) L3.e0
    have E1 := Below.cellOf (B := w2.heap.size) (W := WP) (p := ⟨w.heap.size + 1, 1, none⟩) (v := .int .i64 kd) (by simp; omega) L3.e1
    have E2 := Below.cellOf (B := w2.heap.size) (W := WP) (p := ⟨w.heap.size + 1, 2, none⟩) (v := .string d) (by simp; omega) L3.e2
    have HRD : Hid (∀ x, Below w2.heap.size WP x → Reads x (.slice ao k k) D) := fun x hx => by
      rw [HDD.out]; exact (HR.out.below (L3.below hx (by omega)).bel).take k hkn k
    have hk9 : k ≤ 1048576 := by omega
    have hD1 : D.length + [f].length ≤ 1048577 := by simp; omega
    have i1 : (0 : Int) ≤ (k : Int) := by omega
    have i2 : (k : Int) ≤ (c : Int) := by omega
    have HEF : Hid (∀ x : World, Reads (x.alloc (.cells #[.int .i64 tm, .int .i64 kd, .string d] 110)) (.slice (some ⟨x.heap.size, 0, none⟩) 1 1) [f]) := fun x => by rw [HF.out]; exact reads_built x ⟨tm, kd, d⟩
    go_region_held3 (fun w' => Below w2.heap.size WP w') ((first | exact (Below.refl _ _).drew | exact hSa | exact hSb | exact Below.alloc hSb (by have := hSb.size; omega) _ | exact hS5 | exact Below.setCell hS5 (by simp) _)) ((first | (go_at_call 101; refine (moved_try ao k k D _ (HRD.out _ (by assumption)) hk9 HZD.out).mono ?_; rintro e wa ⟨va, rfl, hoa, hba⟩; obtain ⟨a1, n1, c1, rfl⟩ := hoa.slice3; have hSa := keep_on (B := w2.heap.size) (W := WP) hba (by assumption) (by omega); have q0 : wa.cell? ⟨w2.heap.size, 0, none⟩ = some (.int .i64 s) := cell_on (B := w2.heap.size) (W := WP) hba (by assumption) (by simp [hWs]) (by first | assumption | exact x0); have q1 : wa.cell? ⟨w2.heap.size, 1, none⟩ = some (.int .i64 t) := cell_on (B := w2.heap.size) (W := WP) hba (by assumption) (by simp [hWs]) (by first | assumption | exact x1); have q2 : wa.cell? ⟨w2.heap.size, 2, none⟩ = some (.slice none 0 0) := cell_on (B := w2.heap.size) (W := WP) hba (by assumption) (by simp [hWs]) (by first | assumption | exact x2); have z2 : wa.frozen? ⟨w2.heap.size, 2, none⟩ = false := frozen_on (B := w2.heap.size) (W := WP) hba (by assumption) (by simp [hWs]) (by first | assumption | exact y2)) | (go_at_call 118; refine (cloned_any _ _ _ _ HD.out).mono ?_; rintro e wb ⟨rfl, hbb⟩; have hSb := keep_on (B := w2.heap.size) (W := WP) hbb hSa (by omega); have hob := hoa.all hbb; have u0 : wb.cell? ⟨w2.heap.size, 0, none⟩ = some (.int .i64 s) := cell_on (B := w2.heap.size) (W := WP) hbb hSa (by simp [hWs]) q0; have u1 : wb.cell? ⟨w2.heap.size, 1, none⟩ = some (.int .i64 t) := cell_on (B := w2.heap.size) (W := WP) hbb hSa (by simp [hWs]) q1; have u2 : wb.cell? ⟨w2.heap.size, 2, none⟩ = some (.slice none 0 0) := cell_on (B := w2.heap.size) (W := WP) hbb hSa (by simp [hWs]) q2; have v2 : wb.frozen? ⟨w2.heap.size, 2, none⟩ = false := frozen_on (B := w2.heap.size) (W := WP) hbb hSa (by simp [hWs]) z2) | (refine step_append_recs rfl (.tmp 48) (.tmp 51) 26 rfl WP.heap.size 110 _ 32 underEn infoEn rfl _ (.slice (some ⟨wb.heap.size, 0, none⟩) 1 1) D [f] (by rfl) (by rfl) (hob.alloc _) (HEF.out wb) (en_one _) hD1 (by decide) (by have := hSb.size; simp; omega) ?_; intro v5 w5 ho5 hg5; obtain ⟨a5, n5, c5, rfl⟩ := ho5.slice3; have hS5 : Below w2.heap.size WP w5 := Below.grown (Below.alloc hSb (by have := hSb.size; omega) _) hg5 (by have := hSb.size; simp; omega) (fun k hk => by have := (hob.lt k hk).1; simp at this; omega); have t0 := cell_other (cell_up (ba (Below.refl _ _) _) u0) hg5 (cell_apart x0 hob); have t1 := cell_other (cell_up (ba (Below.refl _ _) _) u1) hg5 (cell_apart x1 hob); have t2 := cell_other (cell_up (ba (Below.refl _ _) _) u2) hg5 (cell_apart x2 hob); have o2 := frozen_other (cell_up (ba (Below.refl _ _) _) u2) (frozen_up (ba (Below.refl _ _) _) u2 v2) hg5 (cell_apart x2 hob))))
    have HS6 : Hid (Below w2.heap.size WP (w5.setCell ⟨w2.heap.size, 2, none⟩ (.slice a5 n5 c5))) := Below.setCell hS5 (by simp) _
    have HO6 : Hid (ownsR (w5.setCell ⟨w2.heap.size, 2, none⟩ (.slice a5 n5 c5)) WP.heap.size 110 (.slice a5 n5 c5) (D ++ [f])) := ho5.setBelow (by simp; omega) _
    have p0 : (w5.setCell ⟨w2.heap.size, 2, none⟩ (.slice a5 n5 c5)).cell? ⟨w2.heap.size, 0, none⟩ = some (.int .i64 s) := by simp [go_sem, t0]
    have p1 : (w5.setCell ⟨w2.heap.size, 2, none⟩ (.slice a5 n5 c5)).cell? ⟨w2.heap.size, 1, none⟩ = some (.int .i64 t) := by simp [go_sem, t1]
    have p2 : (w5.setCell ⟨w2.heap.size, 2, none⟩ (.slice a5 n5 c5)).cell? ⟨w2.heap.size, 2, none⟩ = some (.slice a5 n5 c5) := World.cell?_setCell_same' _ _ _ (by rw [t2]; rfl)
    obtain ⟨w6, h6⟩ : ∃ w6, w5.setCell ⟨w2.heap.size, 2, none⟩ (.slice a5 n5 c5) = w6 := ⟨_, rfl⟩
    rw [h6] at HS6 HO6 p0 p1 p2 ⊢
    have L6 : P3 w w6 s t tm kd d (.slice ao n c) := L3.below HS6.out (by omega)
    have HBt : Hid (okL s t (D ++ [f]) = b) := by
      show _ = b
      rw [← HB.out]; unfold putB; rw [HQ.out, HIN.out, HP.out, HDD.out]; rfl
    have hlen6 : (D ++ [f]).length ≤ 1048577 := by simp; omega
    have HZ6 : Hid (SizedE (D ++ [f])) := fun g hg => by
      rcases List.mem_append.1 hg with h | h
      · exact HZD.out g h
      · rw [List.mem_singleton.1 h, HF.out]; exact HD.out
    have HSZ : Hid (w2.heap.size + 1 ≤ w6.heap.size) := by show _ ≤ _; have := HS6.out.size; omega
    clear h6 t0 t1 t2 o2 ho5 hg5 hS5 hob hSb hSa hoa hbb hba A2 E2 HRD q0 q1 q2 z2 v2 HEF
    go_wp2_with fail
    refine (logOk_any (ownsR.reads HO6.out) hlen6 HZ6.out).mono ?_
    rintro e w7 ⟨rfl, hb7⟩
    rw [HBt.out]
    have L7 := L6.up hb7
    have u0 := cell_up hb7 p0
    have u1 := cell_up hb7 p1
    have u2 := cell_up hb7 p2
    have HO7 : Hid (ownsR w7 WP.heap.size 110 (.slice a5 n5 c5) (D ++ [f])) := HO6.out.all hb7
    clear hb7 L6 p0 p1 p2
    cases b with
    | false =>
      have r0 := L7.r0
      have r1 := L7.r1
      have r2 := L7.r2
      have f0 := L7.f0
      have f1 := L7.f1
      have f2 := L7.f2
      go_wp2
      refine bodyPost_ret (ret_log2 (a := .int .i64 0) (b := .int .i64 0) (c := .slice none 0 0) (x := .bool false) rfl rfl rfl (by simp [go_sem, r0]) (by simp [go_sem, r1]) (by simp [go_sem, r2])) rfl ⟨.slice none 0 0, by unfold putS putT; rw [HB.out]; rfl, ?_, ?_⟩
      · unfold putE; rw [HB.out]
        exact ownsR_nil _ _ _
      · refine Below.setCell (Below.setCell (Below.setCell L7.bel ?_ _) ?_ _) ?_ _ <;> simp <;> omega
    | true =>
      have hs7 := L7.size
      have r0 := L7.r0
      have r1 := L7.r1
      have r2 := L7.r2
      have f0 := L7.f0
      have f1 := L7.f1
      have f2 := L7.f2
      go_wp2
      refine bodyPost_ret (ret_log2 (a := .int .i64 s) (b := .int .i64 t) (c := .slice a5 n5 c5) (x := .bool true) rfl rfl rfl (by simp [go_sem, r0]) (by simp [go_sem, r1]) (by simp [go_sem, r2])) rfl ⟨.slice a5 n5 c5, by unfold putS putT; rw [HB.out]; rfl, ?_, ?_⟩
      · unfold putE; rw [HB.out, if_pos rfl, HP.out, ← HDD.out]
        refine ownsR.mono (ownsR.setBelow (ownsR.setBelow (ownsR.setBelow HO7.out ?_ _) ?_ _) ?_ _) ?_ <;> (try simp) <;> omega
      · refine Below.setCell (Below.setCell (Below.setCell L7.bel ?_ _) ?_ _) ?_ _ <;> simp <;> omega
end Go.Proofs.YtgpojfkdcdgloaaGreatDoor

namespace Go.Proofs.YtgpojfkdcdgloaaGreatDoor
open Go Go.RowKit

section
variable {P : Program} {ops : Array Oper} {md : Region.Mode} {C : World → Prop}

/-- Whatever order is picked, as long as 'fuel' operations come up; then all that are listed are L, and R. -/
def wpAnyT (P : Program) (md : Region.Mode) (ops : Array Oper) (C : World → Prop) (L : Array Bool) (R : Act → Prop) : Nat → Array Bool → Act → Prop
  | 0, listed, a => listed = L ∧ R a
  | fuel + 1, listed, a => Region.ready md ops listed ≠ [] ∧ ∀ i ∈ Region.ready md ops listed, qOp P ops C i (wpAnyT P md ops C L R fuel (listed.setIfInBounds i true)) a

theorem wpAnyT_first {R : Act → Prop} {L : Array Bool} {m i : Nat} {oi : Oper} {v : Value} (hi : ops[i]? = some oi) (hsel : ∀ (j : Nat) (o : Oper) cs b, ops[j]? = some o → o.op ≠ .select cs b)
    (hL : ∀ j ∈ Region.ready md ops L, j = m) (hwait : ∀ om, ops[m]? = some om → ∃ e ∈ om.after, Region.binds md e = true ∧ e.on = i) :
    ∀ (fuel : Nat) (listed : Array Bool) (a : Act),
      (∀ j oj, ops[j]? = some oj → j ≠ i → listed.getD j true = false → (∀ e ∈ oj.after, Region.binds md e = true → e.on ≠ i) → oi.apart ops oj = true) →
      i ∈ Region.ready md ops listed → YieldsIn P ops C oi v a →
      wpAnyT P md ops C L R fuel (listed.setIfInBounds i true) (a.put oi.dst v) → wpAnyT P md ops C L R (fuel + 1) listed a := by
  intro fuel
  induction fuel with
  | zero =>
    intro listed a _ hr hy H
    refine ⟨fun h => (by rw [h] at hr; cases hr), fun j hj => ?_⟩
    by_cases hji : j = i
    · subst hji; exact hy.qOp hi H
    · have h1 := ready_mono hj hji
      rw [H.1] at h1
      have hjm := hL j h1
      subst hjm
      obtain ⟨hjun, oj, hoj, hall⟩ := mem_ready.1 hj
      obtain ⟨e, he, hb, heq⟩ := hwait oj hoj
      have h2 := hall e he hb
      have h0 := (mem_ready.1 hr).1
      rw [heq] at h2
      rcases Nat.lt_or_ge i listed.size with h' | h'
      · simp [h'] at h0 h2; rw [h0] at h2; cases h2
      · simp [Array.getElem?_eq_none h'] at h2
  | succ fuel ih =>
    intro listed a hfree hr hy H
    refine ⟨fun h => (by rw [h] at hr; cases hr), fun j hj => ?_⟩
    by_cases hji : j = i
    · subst hji; exact hy.qOp hi H
    · have h1 := H.2 j (ready_mono hj hji)
      obtain ⟨hjun, oj, hoj, hall⟩ := mem_ready.1 hj
      have hnot : ∀ e ∈ oj.after, Region.binds md e = true → e.on ≠ i := fun e he hb heq => by
        have h1 := hall e he hb
        have h0 := (mem_ready.1 hr).1
        rw [heq] at h1
        rcases Nat.lt_or_ge i listed.size with h' | h'
        · simp [h'] at h0 h1; rw [h0] at h1; cases h1
        · simp [Array.getElem?_eq_none h'] at h1
      have h2 := qOp_put hoj (hfree j oj hoj hji hjun hnot) (fun cs b => hsel i oi cs b hi) (fun cs b => hsel j oj cs b hoj) hy h1
      have hfree' : ∀ k ok, ops[k]? = some ok → k ≠ i → (listed.setIfInBounds j true).getD k true = false →
          (∀ e ∈ ok.after, Region.binds md e = true → e.on ≠ i) → oi.apart ops ok = true := fun k ok hk hki hun hno => by
        refine hfree k ok hk hki ?_ hno
        by_cases hjk : j = k
        · subst hjk; exact hjun
        · rw [getD_set_ne true hjk] at hun; exact hun
      refine qOp_mono (fun a' h3 => ih (listed.setIfInBounds j true) a' hfree' (ready_mono hr (Ne.symm hji)) h3.1 ?_) h2
      rw [Array.setIfInBounds_comm _ _ hji]
      exact h3.2

/-- The first operations in the order of the text: each may come up, and is free; behind them the listing is L. -/
def lexTo (md : Region.Mode) (ops : Array Oper) (L : Array Bool) : Nat → Nat → Array Bool → Bool
  | 0, _, listed => decide (listed = L)
  | fuel + 1, k, listed => (Region.ready md ops listed).contains k && Region.free md ops listed k && lexTo md ops L fuel (k + 1) (listed.setIfInBounds k true)
/-- Operation m waits for each of the first ones. -/
def waitsAll (md : Region.Mode) (ops : Array Oper) (m : Nat) : Bool :=
  (List.range m).all fun i => match ops[m]? with
    | none => true
    | some om => om.after.any fun e => Region.binds md e && e.on == i

theorem wpAnyT_lex {R : Act → Prop} {L : Array Bool} {m : Nat} (hs : Region.noSelect ops = true) (hL : ∀ j ∈ Region.ready md ops L, j = m) (hw : waitsAll md ops m = true) : ∀ (l : List Oper) (k : Nat) (listed : Array Bool) (a : Act), k + l.length = m → (∀ j, j < l.length → l[j]? = ops[k + j]?) →
    lexTo md ops L l.length k listed = true → wpQuiet P ops C R l a → wpAnyT P md ops C L R l.length listed a
  | [], _, _, _, _, _, hB, h => ⟨by simpa [lexTo] using hB, h⟩
  | o :: l, k, listed, a, hk, hl, hB, h => by
    have h0 : ops[k]? = some o := by simpa using (hl 0 (by simp)).symm
    simp only [List.length_cons, lexTo, Bool.and_eq_true] at hB
    obtain ⟨⟨hr, hf⟩, hB'⟩ := hB
    have hst : qOp P ops C k (wpQuiet P ops C R l) a := by unfold qOp; simp only [h0]; exact h
    obtain ⟨v, hy, hK⟩ := yieldsIn_of_qOp h0 hst
    refine wpAnyT_first h0 (Region.noSelect_spec hs) hL (fun om hom => ?_) l.length listed a (Region.free_spec h0 hf) (by simpa using hr) hy
      (wpAnyT_lex hs hL hw l (k + 1) _ _ (by simp at hk; omega) (fun j hj => by have := hl (j + 1) (by simpa using hj); simpa [Nat.add_assoc, Nat.add_comm 1 j] using this) hB' hK)
    unfold waitsAll at hw
    rw [List.all_eq_true] at hw
    have := hw k (List.mem_range.2 (by simp at hk; omega))
    rw [hom] at this
    simp only [Array.any_eq_true', Bool.and_eq_true, beq_iff_eq] at this
    obtain ⟨e, he, hb, heq⟩ := this
    exact ⟨e, he, hb, heq⟩

theorem wpAny_of_T {R : Act → Prop} {L : Array Bool} {Q' : Exit → Act → World → Prop} {f : Nat} (hR : ∀ a w, C w → R a → wpAny P md ops Q' f L a w) : ∀ (fuel : Nat) (listed : Array Bool) (a : Act) (w : World), C w →
    wpAnyT P md ops C L R fuel listed a → wpAny P md ops Q' (f + fuel) listed a w
  | 0, _, _, _, hw, h => by obtain ⟨rfl, h⟩ := h; exact hR _ _ hw h
  | fuel + 1, _, _, _, hw, h => ⟨fun h0 => absurd h0 h.1, fun i hi => wpOp_of_qOp hw (fun a' w' hw' => wpAny_of_T hR fuel _ a' w' hw') (h.2 i hi)⟩

/-- The last operations can come up in one order alone. -/
def forcedB (md : Region.Mode) (ops : Array Oper) : Nat → Nat → Array Bool → Bool
  | 0, _, listed => decide (Region.ready md ops listed = [])
  | fuel + 1, k, listed => decide (Region.ready md ops listed = [k]) && forcedB md ops fuel (k + 1) (listed.setIfInBounds k true)

theorem wpAny_forced {Q : Exit → Act → World → Prop} : ∀ (l : List Oper) (k : Nat) (listed : Array Bool) (a : Act) (w : World), (∀ j, j < l.length → l[j]? = ops[k + j]?) →
    forcedB md ops l.length k listed = true → wpList P ops Q l a w → wpAny P md ops Q l.length listed a w
  | [], _, _, _, _, _, hB, h => ⟨by simpa [forcedB] using hB, h⟩
  | o :: l, k, listed, a, w, hl, hB, h => by
    have h0 : ops[k]? = some o := by simpa using (hl 0 (by simp)).symm
    simp only [List.length_cons, forcedB, Bool.and_eq_true, decide_eq_true_eq] at hB
    refine wpAny_all hB.1 (by simp) fun i hi => ?_
    simp only [List.mem_singleton] at hi
    subst hi
    have h1 : wpOp P ops Q i (wpList P ops Q l) a w := by unfold wpOp; simp only [h0]; exact h
    exact wpOp_mono (fun a' w' h' => wpAny_forced l (i + 1) _ a' w' (fun j hj => by have := hl (j + 1) (by simpa using hj); simpa [Nat.add_assoc, Nat.add_comm 1 j] using this) hB.2 h') h1

/-- The kernel's look at a region that is parted behind its first m operations. -/
def tailB (md : Region.Mode) (ops : Array Oper) (m : Nat) : Bool :=
  let L := (Array.range ops.size).map fun i => decide (i < m)
  Region.noSelect ops && (Region.ready md ops L).all (· == m) && waitsAll md ops m && lexTo md ops L m 0 (Array.replicate ops.size false) && forcedB md ops (ops.size - m) m L

theorem wp_region_tail {id : Nat} {Q : Exit → Act → World → Prop} {a : Act} {w : World} {l : List Oper} (m : Nat) (hm : P.follows .mixedOrders = true) (hml : m ≤ l.length) (hB : tailB .any l.toArray m = true)
    (h : wpQuiet P l.toArray (fun w' => ∃ x : Wd w, w' = x.at') (fun a' => ∀ w', (∃ x : Wd w, w' = x.at') → wpList P l.toArray Q (l.drop m) a' w') (l.take m) a) : (Code.region id l.toArray true).wp P Q a w := by
  simp only [tailB, Bool.and_eq_true] at hB
  obtain ⟨⟨⟨⟨h1, h2⟩, h3⟩, h4⟩, h5⟩ := hB
  refine wp_region_any hm ?_
  have hlen : (l.take m).length = m := by simp; omega
  have hdrop : (l.drop m).length = l.length - m := by simp
  have hT := wpAnyT_lex (P := P) (C := fun w' => ∃ x : Wd w, w' = x.at') (md := .any) h1 (fun j hj => by
    rw [List.all_eq_true] at h2
    simpa using h2 j hj) h3 (l.take m) 0 (Array.replicate l.toArray.size false) a (by omega) (fun j hj => by
      rw [List.getElem?_take]
      have : j < m := by omega
      simp [this]) (by rw [hlen]; exact h4) h
  have := wpAny_of_T (Q' := Q) (f := (l.drop m).length) (fun a' w' hw' hR => wpAny_forced (md := .any) (l.drop m) m _ a' w' (fun j hj => by simp) (by rw [hdrop]; simpa using h5) (hR w' hw')) (l.take m).length _ a { w with drawn := w.drawn + 1 } ⟨⟨_, (Below.refl _ w).drew⟩, rfl⟩ hT
  have e : (l.drop m).length + (l.take m).length = l.toArray.size := by simp; omega
  rw [e] at this
  exact this
end
end Go.Proofs.YtgpojfkdcdgloaaGreatDoor
