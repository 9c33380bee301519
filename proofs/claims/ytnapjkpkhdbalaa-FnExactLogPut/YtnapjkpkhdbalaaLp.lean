/-
  An entry put into a log, as the program does it: the walk.
-/
import Derived.Test.YtnapjkpkhdbalaaPa
namespace Go.Proofs.Ytnapjkpkhdbalaa
open Go Go.RowKit

set_option maxRecDepth 10000 in
set_option maxHeartbeats 4000000 in
theorem logPut_try (s t i tm kd : Int) (d : ByteArray) (ao : Option Addr) (n c : Nat) (l : List En) (w : World) (hr : Reads w (.slice ao n c) l) (hc : n ≤ c) (hn : n ≤ 1048576) (hz : SizedE l) (hd : d.size ≤ 1048576) :
    Calls Try.prog 21 #[.agg #[.int .i64 s, .int .i64 t, .slice ao n c], .int .i64 i, .agg #[.int .i64 tm, .int .i64 kd, .string d]] w fun e w' => ∃ v, e = .returned (.tuple #[.agg #[.int .i64 (putS s t l i ⟨tm, kd, d⟩), .int .i64 (putT s t l i ⟨tm, kd, d⟩), v], .bool (putB s t l i ⟨tm, kd, d⟩)]) ∧ ownsR w' w.heap.size 42 v (putE s t l i ⟨tm, kd, d⟩) ∧ Below w.heap.size w w' := by
  have HR : Hid (Reads w (.slice ao n c) l) := hr
  have HN : Hid (n = l.length) := hr.len
  have HZ : Hid (SizedE l) := hz
  have HD : Hid (d.size ≤ 1048576) := hd
  clear hr hz hd
  obtain ⟨f, HF⟩ : ∃ f : En, Hid (f = ⟨tm, kd, d⟩) := ⟨_, rfl⟩
  rw [← HF.out]
  obtain ⟨q, HQ⟩ : ∃ q, Hid (okL s t l = q) := ⟨_, rfl⟩
  obtain ⟨b, HB⟩ : ∃ b, Hid (putB s t l i f = b) := ⟨_, rfl⟩
  rw [HB.out]
  go_enter Try.func21, Try.ntmps21
  go_wp2_with fail
  have L0 := p3_new w s t tm kd d (.slice ao n c)
  obtain ⟨W, hW⟩ : ∃ W, ((w.alloc (Obj.cells #[.int .i64 s, .int .i64 t, .slice ao n c] 29)).alloc (Obj.cells #[.int .i64 tm, .int .i64 kd, .string d] 42)).alloc (Obj.cells #[.int .i64 0, .int .i64 0, .slice none 0 0] 29) = W := ⟨_, rfl⟩
  rw [hW] at L0 ⊢
  clear hW
  obtain ⟨li, HLI⟩ : ∃ x, Hid (lastI s l = x) := ⟨_, rfl⟩
  refine (logLast_any (HR.out.below L0.bel) (by rw [← HN.out]; omega)).mono ?_
  rintro e w1 ⟨rfl, hb1⟩
  rw [HLI.out]
  have L1 := L0.up hb1
  clear hb1 L0
  have a0 := L1.a0
  have a1 := L1.a1
  have a2 := L1.a2
  go_wp2_with fail
  refine (logOk_any (HR.out.below L1.bel) (by rw [← HN.out]; omega) HZ.out).mono ?_
  rintro e w2 ⟨rfl, hb2⟩
  rw [HQ.out]
  have L2 := L1.up hb2
  clear hb2 L1 a0 a1 a2
  cases q with
  | false =>
    have HF2 : Hid (putB s t l i f = false) := by show putB s t l i f = false; unfold putB; rw [HQ.out]; rfl
    have hb0 : b = false := HB.out.symm.trans HF2.out
    subst hb0
    have r0 := L2.r0
    have r1 := L2.r1
    have r2 := L2.r2
    have f0 := L2.f0
    have f1 := L2.f1
    have f2 := L2.f2
    go_wp2
    refine bodyPost_ret (ret_log2 (a := .int .i64 0) (b := .int .i64 0) (c := .slice none 0 0) (x := .bool false) rfl rfl rfl (by simp [go_sem, r0]) (by simp [go_sem, r1]) (by simp [go_sem, r2])) rfl ⟨.slice none 0 0, by unfold putS putT; rw [HF2.out]; rfl, ?_, ?_⟩
    · unfold putE; rw [HF2.out]
      exact ownsR_nil _ _ _
    · refine Below.setCell (Below.setCell (Below.setCell L2.bel ?_ _) ?_ _) ?_ _ <;> simp <;> omega
  | true =>
    obtain ⟨h0, h1, h2, h3, h4, h5, -⟩ := okL_all HQ.out
    have hli : li = s + n := by rw [← HLI.out, lastI_in h0 h1 h4, HN.out]
    rw [← HN.out] at h4 h5
    subst hli
    by_cases hi0 : i ≤ s
    · have HF2 : Hid (putB s t l i f = false) := by
        show putB s t l i f = false; unfold putB inP; rw [decide_eq_false (p := s + 1 ≤ i) (by omega)]; simp
      have hb0 : b = false := HB.out.symm.trans HF2.out
      subst hb0
      have a0 := L2.a0
      have r0 := L2.r0
      have r1 := L2.r1
      have r2 := L2.r2
      have f0 := L2.f0
      have f1 := L2.f1
      have f2 := L2.f2
      go_wp2
      refine bodyPost_ret (ret_log2 (a := .int .i64 0) (b := .int .i64 0) (c := .slice none 0 0) (x := .bool false) rfl rfl rfl (by simp [go_sem, r0]) (by simp [go_sem, r1]) (by simp [go_sem, r2])) rfl ⟨.slice none 0 0, by unfold putS putT; rw [HF2.out]; rfl, ?_, ?_⟩
      · unfold putE; rw [HF2.out]
        exact ownsR_nil _ _ _
      · refine Below.setCell (Below.setCell (Below.setCell L2.bel ?_ _) ?_ _) ?_ _ <;> simp <;> omega
    by_cases hi1 : s + n + 1 < i
    · have HF2 : Hid (putB s t l i f = false) := by
        show putB s t l i f = false; unfold putB inP; rw [← HN.out, decide_eq_false (p := i ≤ s + n + 1) (by omega)]; simp
      have hb0 : b = false := HB.out.symm.trans HF2.out
      subst hb0
      have a0 := L2.a0
      have r0 := L2.r0
      have r1 := L2.r1
      have r2 := L2.r2
      have f0 := L2.f0
      have f1 := L2.f1
      have f2 := L2.f2
      go_wp2
      refine bodyPost_ret (ret_log2 (a := .int .i64 0) (b := .int .i64 0) (c := .slice none 0 0) (x := .bool false) rfl rfl rfl (by simp [go_sem, r0]) (by simp [go_sem, r1]) (by simp [go_sem, r2])) rfl ⟨.slice none 0 0, by unfold putS putT; rw [HF2.out]; rfl, ?_, ?_⟩
      · unfold putE; rw [HF2.out]
        exact ownsR_nil _ _ _
      · refine Below.setCell (Below.setCell (Below.setCell L2.bel ?_ _) ?_ _) ?_ _ <;> simp <;> omega
    obtain ⟨k, hk⟩ : ∃ k : Nat, i = s + k + 1 := ⟨(i - s - 1).toNat, by omega⟩
    have hkn : k ≤ n := by omega
    have HP : Hid (putsL s l i f = l.take k ++ [f]) := by show _ = _; unfold putsL; rw [show (i - s - 1).toNat = k by omega]
    obtain ⟨D, HDD⟩ : ∃ D, Hid (D = l.take k) := ⟨_, rfl⟩
    have hDl : D.length = k := by rw [HDD.out]; simp; have := HN.out; omega
    have HIN : Hid (inP s l.length i = true) := by show _ = true; unfold inP; rw [← HN.out]; simp; omega
    have HZD : Hid (SizedE D) := fun g hg => HZ.out g (List.mem_of_mem_take (by rw [← HDD.out]; exact hg))
    subst hk
    have e1 : s + (k : Int) + 1 - s = (k : Int) + 1 := by omega
    have a0 := L2.a0
    have a1 := L2.a1
    have a2 := L2.a2
    go_wp2
    obtain ⟨WP, hWP⟩ : ∃ WP, w2.alloc (Obj.cells #[.int .i64 s, .int .i64 t, .slice none 0 0] 29) = WP := ⟨_, rfl⟩
    have hWs : WP.heap.size = w2.heap.size + 1 := by rw [← hWP]; simp
    have hbW : Below w2.heap.size w2 WP := by rw [← hWP]; exact ba (Below.refl _ _) _
    have x0 : WP.cell? ⟨w2.heap.size, 0, none⟩ = some (.int .i64 s) := by rw [← hWP]; simp [go_sem]
    have x1 : WP.cell? ⟨w2.heap.size, 1, none⟩ = some (.int .i64 t) := by rw [← hWP]; simp [go_sem]
    have x2 : WP.cell? ⟨w2.heap.size, 2, none⟩ = some (.slice none 0 0) := by rw [← hWP]; simp [go_sem]
    have y2 : WP.frozen? ⟨w2.heap.size, 2, none⟩ = false := by rw [← hWP]; simp [go_sem]
    rw [hWP]
    clear hWP a0 a1 a2
    have hs3 := L2.size
    have L3 := L2.up hbW
    have A2 := Below.cellOf (B := w2.heap.size) (W := WP) (p := ⟨w.heap.size, 2, none⟩) (v := .slice ao n c) (by simp; omega) L3.a2
    have E0 := Below.cellOf (B := w2.heap.size) (W := WP) (p := ⟨w.heap.size + 1, 0, none⟩) (v := .int .i64 tm) (by simp; omega) L3.e0
    have E1 := Below.cellOf (B := w2.heap.size) (W := WP) (p := ⟨w.heap.size + 1, 1, none⟩) (v := .int .i64 kd) (by simp; omega) L3.e1
    have E2 := Below.cellOf (B := w2.heap.size) (W := WP) (p := ⟨w.heap.size + 1, 2, none⟩) (v := .string d) (by simp; omega) L3.e2
    have HRD : Hid (∀ x, Below w2.heap.size WP x → Reads x (.slice ao k k) D) := fun x hx => by
      rw [HDD.out]; exact (HR.out.below (L3.below hx (by omega)).bel).take k hkn k
    have hk9 : k ≤ 1048576 := by omega
    have hD1 : D.length + [f].length ≤ 1048577 := by simp; omega
    have i1 : (0 : Int) ≤ (k : Int) := by omega
    have i2 : (k : Int) ≤ (c : Int) := by omega
    have HEF : Hid (∀ x : World, Reads (x.alloc (.cells #[.int .i64 tm, .int .i64 kd, .string d] 42)) (.slice (some ⟨x.heap.size, 0, none⟩) 1 1) [f]) := fun x => by rw [HF.out]; exact reads_built x ⟨tm, kd, d⟩
    go_region_held3 (fun w' => Below w2.heap.size WP w') ((first | exact (Below.refl _ _).drew | exact hSa | exact hSb | exact Below.alloc hSb (by have := hSb.size; omega) _ | exact hS5 | exact Below.setCell hS5 (by simp) _)) ((first | (go_at_call 36; refine (moved_try ao k k D _ (HRD.out _ (by assumption)) hk9 HZD.out).mono ?_; rintro e wa ⟨va, rfl, hoa, hba⟩; obtain ⟨a1, n1, c1, rfl⟩ := hoa.slice3; have hSa := keep_on (B := w2.heap.size) (W := WP) hba (by assumption) (by omega); have q0 : wa.cell? ⟨w2.heap.size, 0, none⟩ = some (.int .i64 s) := cell_on (B := w2.heap.size) (W := WP) hba (by assumption) (by simp [hWs]) (by first | assumption | exact x0); have q1 : wa.cell? ⟨w2.heap.size, 1, none⟩ = some (.int .i64 t) := cell_on (B := w2.heap.size) (W := WP) hba (by assumption) (by simp [hWs]) (by first | assumption | exact x1); have q2 : wa.cell? ⟨w2.heap.size, 2, none⟩ = some (.slice none 0 0) := cell_on (B := w2.heap.size) (W := WP) hba (by assumption) (by simp [hWs]) (by first | assumption | exact x2); have z2 : wa.frozen? ⟨w2.heap.size, 2, none⟩ = false := frozen_on (B := w2.heap.size) (W := WP) hba (by assumption) (by simp [hWs]) (by first | assumption | exact y2)) | (go_at_call 37; refine (cloned_any _ _ _ _ HD.out).mono ?_; rintro e wb ⟨rfl, hbb⟩; have hSb := keep_on (B := w2.heap.size) (W := WP) hbb hSa (by omega); have hob := hoa.all hbb; have u0 : wb.cell? ⟨w2.heap.size, 0, none⟩ = some (.int .i64 s) := cell_on (B := w2.heap.size) (W := WP) hbb hSa (by simp [hWs]) q0; have u1 : wb.cell? ⟨w2.heap.size, 1, none⟩ = some (.int .i64 t) := cell_on (B := w2.heap.size) (W := WP) hbb hSa (by simp [hWs]) q1; have u2 : wb.cell? ⟨w2.heap.size, 2, none⟩ = some (.slice none 0 0) := cell_on (B := w2.heap.size) (W := WP) hbb hSa (by simp [hWs]) q2; have v2 : wb.frozen? ⟨w2.heap.size, 2, none⟩ = false := frozen_on (B := w2.heap.size) (W := WP) hbb hSa (by simp [hWs]) z2) | (refine step_append_recs rfl (.tmp 48) (.tmp 51) 27 rfl WP.heap.size 42 _ 32 underEn infoEn rfl _ (.slice (some ⟨wb.heap.size, 0, none⟩) 1 1) D [f] (by rfl) (by rfl) (hob.alloc _) (HEF.out wb) (en_one _) hD1 (by decide) (by have := hSb.size; simp; omega) ?_; intro v5 w5 ho5 hg5; obtain ⟨a5, n5, c5, rfl⟩ := ho5.slice3; have hS5 : Below w2.heap.size WP w5 := Below.grown (Below.alloc hSb (by have := hSb.size; omega) _) hg5 (by have := hSb.size; simp; omega) (fun k hk => by have := (hob.lt k hk).1; simp at this; omega); have t0 := cell_other (cell_up (ba (Below.refl _ _) _) u0) hg5 (cell_apart x0 hob); have t1 := cell_other (cell_up (ba (Below.refl _ _) _) u1) hg5 (cell_apart x1 hob); have t2 := cell_other (cell_up (ba (Below.refl _ _) _) u2) hg5 (cell_apart x2 hob); have o2 := frozen_other (cell_up (ba (Below.refl _ _) _) u2) (frozen_up (ba (Below.refl _ _) _) u2 v2) hg5 (cell_apart x2 hob))))
    have HS6 : Hid (Below w2.heap.size WP (w5.setCell ⟨w2.heap.size, 2, none⟩ (.slice a5 n5 c5))) := Below.setCell hS5 (by simp) _
    have HO6 : Hid (ownsR (w5.setCell ⟨w2.heap.size, 2, none⟩ (.slice a5 n5 c5)) WP.heap.size 42 (.slice a5 n5 c5) (D ++ [f])) := ho5.setBelow (by simp; omega) _
    have p0 : (w5.setCell ⟨w2.heap.size, 2, none⟩ (.slice a5 n5 c5)).cell? ⟨w2.heap.size, 0, none⟩ = some (.int .i64 s) := by simp [go_sem, t0]
    have p1 : (w5.setCell ⟨w2.heap.size, 2, none⟩ (.slice a5 n5 c5)).cell? ⟨w2.heap.size, 1, none⟩ = some (.int .i64 t) := by simp [go_sem, t1]
    have p2 : (w5.setCell ⟨w2.heap.size, 2, none⟩ (.slice a5 n5 c5)).cell? ⟨w2.heap.size, 2, none⟩ = some (.slice a5 n5 c5) := World.cell?_setCell_same' _ _ _ (by rw [t2]; rfl)
    obtain ⟨w6, h6⟩ : ∃ w6, w5.setCell ⟨w2.heap.size, 2, none⟩ (.slice a5 n5 c5) = w6 := ⟨_, rfl⟩
    rw [h6] at HS6 HO6 p0 p1 p2 ⊢
    have L6 : P3 w w6 s t tm kd d (.slice ao n c) := L3.below HS6.out (by omega)
    have HBt : Hid (okL s t (D ++ [f]) = b) := by
      show _ = b
      rw [← HB.out]; unfold putB; rw [HQ.out, HIN.out, HP.out, HDD.out]; rfl
    have hlen6 : (D ++ [f]).length ≤ 1048577 := by simp; omega
    have HZ6 : Hid (SizedE (D ++ [f])) := fun g hg => by
      rcases List.mem_append.1 hg with h | h
      · exact HZD.out g h
      · rw [List.mem_singleton.1 h, HF.out]; exact HD.out
    have HSZ : Hid (w2.heap.size + 1 ≤ w6.heap.size) := by show _ ≤ _; have := HS6.out.size; omega
    clear h6 t0 t1 t2 o2 ho5 hg5 hS5 hob hSb hSa hoa hbb hba A2 E2 HRD q0 q1 q2 z2 v2 HEF
    go_wp2_with fail
    refine (logOk_any (ownsR.reads HO6.out) hlen6 HZ6.out).mono ?_
    rintro e w7 ⟨rfl, hb7⟩
    rw [HBt.out]
    have L7 := L6.up hb7
    have u0 := cell_up hb7 p0
    have u1 := cell_up hb7 p1
    have u2 := cell_up hb7 p2
    have HO7 : Hid (ownsR w7 WP.heap.size 42 (.slice a5 n5 c5) (D ++ [f])) := HO6.out.all hb7
    clear hb7 L6 p0 p1 p2
    cases b with
    | false =>
      have r0 := L7.r0
      have r1 := L7.r1
      have r2 := L7.r2
      have f0 := L7.f0
      have f1 := L7.f1
      have f2 := L7.f2
      go_wp2
      refine bodyPost_ret (ret_log2 (a := .int .i64 0) (b := .int .i64 0) (c := .slice none 0 0) (x := .bool false) rfl rfl rfl (by simp [go_sem, r0]) (by simp [go_sem, r1]) (by simp [go_sem, r2])) rfl ⟨.slice none 0 0, by unfold putS putT; rw [HB.out]; rfl, ?_, ?_⟩
      · unfold putE; rw [HB.out]
        exact ownsR_nil _ _ _
      · refine Below.setCell (Below.setCell (Below.setCell L7.bel ?_ _) ?_ _) ?_ _ <;> simp <;> omega
    | true =>
      have hs7 := L7.size
      have r0 := L7.r0
      have r1 := L7.r1
      have r2 := L7.r2
      have f0 := L7.f0
      have f1 := L7.f1
      have f2 := L7.f2
      go_wp2
      refine bodyPost_ret (ret_log2 (a := .int .i64 s) (b := .int .i64 t) (c := .slice a5 n5 c5) (x := .bool true) rfl rfl rfl (by simp [go_sem, r0]) (by simp [go_sem, r1]) (by simp [go_sem, r2])) rfl ⟨.slice a5 n5 c5, by unfold putS putT; rw [HB.out]; rfl, ?_, ?_⟩
      · unfold putE; rw [HB.out, if_pos rfl, HP.out, ← HDD.out]
        refine ownsR.mono (ownsR.setBelow (ownsR.setBelow (ownsR.setBelow HO7.out ?_ _) ?_ _) ?_ _) ?_ <;> (try simp) <;> omega
      · refine Below.setCell (Below.setCell (Below.setCell L7.bel ?_ _) ?_ _) ?_ _ <;> simp <;> omega
end Go.Proofs.Ytnapjkpkhdbalaa
