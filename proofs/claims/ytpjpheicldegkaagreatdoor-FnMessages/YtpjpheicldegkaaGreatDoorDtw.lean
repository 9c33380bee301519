/- Dtw -/
import Derived.Test.YtpjpheicldegkaaGreatDoorGM14
namespace Go.Proofs.YtpjpheicldegkaaGreatDoor
open Go Go.RowKit

set_option maxRecDepth 10000 in
set_option maxHeartbeats 8000000 in
theorem dagText_try (tv : Value) (nm cr : ByteArray) (fr up : Int) (cu : Bool) (ts : List Ta) (w : World) (hd : DagAt w tv ⟨nm, cr, fr, up, cu, ts⟩) :
    Calls Tryz.prog 116 #[.agg #[.string nm, .string cr, .int .i64 fr, .int .i64 up, .bool cu, tv]] w fun e w' => e = .returned (.tuple #[.string (dagX ⟨nm, cr, fr, up, cu, ts⟩), .bool (dagB ⟨nm, cr, fr, up, cu, ts⟩)]) ∧ Below w.heap.size w w' := by
  have HOK : Hid (∀ W, Below w.heap.size w W → Calls Tryz.prog 114 #[.agg #[.string nm, .string cr, .int .i64 fr, .int .i64 up, .bool cu, tv]] W fun e w' => e = .returned (.bool (dagB ⟨nm, cr, fr, up, cu, ts⟩)) ∧ Below W.heap.size W w') := fun W hb => dagOk_try tv nm cr fr up cu ts W (hd.below hb)
  obtain ⟨ao, cap, htv⟩ := hd.tasks.slice
  subst htv
  have HT : Hid (Tasks w (.slice ao ts.length cap) ts) := hd.tasks
  have HSM : Hid (∀ t ∈ ts, t.after.length ≤ 1048576 ∧ t.name.size ≤ 9223372036854775807) := hd.small
  have hcr : cr.size ≤ 1048576 := hd.cron
  clear hd
  cases hq : dagB ⟨nm, cr, fr, up, cu, ts⟩ with
  | false =>
    have HX : Hid (dagX ⟨nm, cr, fr, up, cu, ts⟩ = ⟨#[]⟩) := by show dagX _ = _; unfold dagX; rw [hq]; rfl
    rw [hq] at HOK
    rw [HX.out]
    clear hq HX HT HSM
    show Calls Tryz.prog 116 #[.agg #[.string nm, .string cr, .int .i64 fr, .int .i64 up, .bool cu, .slice ao ts.length cap]] w _
    generalize (ts.length) = n at *
    go_enter Tryz.func116, Tryz.ntmps116
    go_wp2_with (go_at_call 114; refine (HOK.out _ (ba (Below.refl _ _) _)).mono ?_; rintro x w1 ⟨rfl, hb1⟩)
    go_ret2
    exact ⟨rfl, qma hb1⟩
  | true =>
    have HX : Hid (dagX ⟨nm, cr, fr, up, cu, ts⟩ = dagS ⟨nm, cr, fr, up, cu, ts⟩) := by show dagX _ = _; unfold dagX; rw [hq]; rfl
    obtain ⟨g1, g2, g3, g4, g5, g6, g7⟩ := dag_fine hq
    simp only at g1 g2 g3 g4 g5 g6 g7
    have HG : Hid (∀ t ∈ ts, FineT t) := g7
    clear g7
    rw [hq] at HOK
    rw [HX.out]
    clear hq HX
    obtain ⟨F, HF⟩ : ∃ F, Hid (bstr (decI fr.toNat) = F) := ⟨_, rfl⟩
    obtain ⟨U, HU⟩ : ∃ U, Hid (bstr (decI up.toNat) = U) := ⟨_, rfl⟩
    have hF : F.size ≤ 10 := by rw [← HF.out]; exact dec_size (by omega)
    have hU : U.size ≤ 10 := by rw [← HU.out]; exact dec_size (by omega)
    have C1 : Hid (∀ w, Calls Tryz.prog 105 #[.int .i64 fr] w fun e w' => e = .returned (.string F) ∧ Below w.heap.size w w') := by intro w; rw [← HF.out]; exact qhc fr w g2 (by omega)
    have C2 : Hid (∀ w, Calls Tryz.prog 105 #[.int .i64 up] w fun e w' => e = .returned (.string U) ∧ Below w.heap.size w w') := by intro w; rw [← HU.out]; exact qhc up w g4 (by omega)
    have HS : Hid (dagS ⟨nm, cr, fr, up, cu, ts⟩ = dagP ⟨nm, cr, fr, up, cu, ts⟩ ts ((⟨#[100, 97, 103, 32]⟩ ++ nm ++ ⟨#[10, 99, 114, 111, 110, 32]⟩ ++ cr ++ ⟨#[10, 102, 114, 111, 109, 32]⟩ ++ F ++ ⟨#[10, 116, 111, 32]⟩ ++ U ++ ⟨#[10]⟩) ++ (if cu then ⟨#[99, 97, 116, 99, 104, 117, 112, 10]⟩ else ⟨#[108, 97, 116, 101, 115, 116, 10]⟩))) := by
      show dagP _ _ (headS _) = _
      unfold headS
      simp only [HF.out, HU.out]
    obtain ⟨X, HXX⟩ : ∃ X, Hid (dagS ⟨nm, cr, fr, up, cu, ts⟩ = X) := ⟨_, rfl⟩
    rw [HXX.out] at HS ⊢
    clear HXX
    obtain ⟨DD, HDD⟩ : ∃ DD : Dg, Hid (⟨nm, cr, fr, up, cu, ts⟩ = DD) := ⟨_, rfl⟩
    rw [HDD.out] at HS
    clear HDD
    show Calls Tryz.prog 116 #[.agg #[.string nm, .string cr, .int .i64 fr, .int .i64 up, .bool cu, .slice ao ts.length cap]] w _
    obtain ⟨n, HN⟩ : ∃ n, Hid (ts.length = n) := ⟨_, rfl⟩
    rw [HN.out] at HT g6 ⊢
    rw [HN.out] at HOK
    have z0 : (⟨#[100, 97, 103, 32]⟩ ++ nm).size = 4 + nm.size := by simp only [ByteArray.size_append]; rfl
    have z1 : (⟨#[100, 97, 103, 32]⟩ ++ nm ++ ⟨#[10, 99, 114, 111, 110, 32]⟩).size = 4 + nm.size + 6 := by simp only [ByteArray.size_append]; rfl
    have z2 : (⟨#[100, 97, 103, 32]⟩ ++ nm ++ ⟨#[10, 99, 114, 111, 110, 32]⟩ ++ cr).size = 4 + nm.size + 6 + cr.size := by simp only [ByteArray.size_append]; rfl
    have z3 : (⟨#[100, 97, 103, 32]⟩ ++ nm ++ ⟨#[10, 99, 114, 111, 110, 32]⟩ ++ cr ++ ⟨#[10, 102, 114, 111, 109, 32]⟩).size = 4 + nm.size + 6 + cr.size + 6 := by simp only [ByteArray.size_append]; rfl
    have z4 : (⟨#[100, 97, 103, 32]⟩ ++ nm ++ ⟨#[10, 99, 114, 111, 110, 32]⟩ ++ cr ++ ⟨#[10, 102, 114, 111, 109, 32]⟩ ++ F).size = 4 + nm.size + 6 + cr.size + 6 + F.size := by simp only [ByteArray.size_append]; rfl
    have z5 : (⟨#[100, 97, 103, 32]⟩ ++ nm ++ ⟨#[10, 99, 114, 111, 110, 32]⟩ ++ cr ++ ⟨#[10, 102, 114, 111, 109, 32]⟩ ++ F ++ ⟨#[10, 116, 111, 32]⟩).size = 4 + nm.size + 6 + cr.size + 6 + F.size + 4 := by simp only [ByteArray.size_append]; rfl
    have z6 : (⟨#[100, 97, 103, 32]⟩ ++ nm ++ ⟨#[10, 99, 114, 111, 110, 32]⟩ ++ cr ++ ⟨#[10, 102, 114, 111, 109, 32]⟩ ++ F ++ ⟨#[10, 116, 111, 32]⟩ ++ U).size = 4 + nm.size + 6 + cr.size + 6 + F.size + 4 + U.size := by simp only [ByteArray.size_append]; rfl
    have z7 : (⟨#[100, 97, 103, 32]⟩ ++ nm ++ ⟨#[10, 99, 114, 111, 110, 32]⟩ ++ cr ++ ⟨#[10, 102, 114, 111, 109, 32]⟩ ++ F ++ ⟨#[10, 116, 111, 32]⟩ ++ U ++ ⟨#[10]⟩).size = 4 + nm.size + 6 + cr.size + 6 + F.size + 4 + U.size + 1 := by simp only [ByteArray.size_append]; rfl
    go_enter Tryz.func116, Tryz.ntmps116
    go_wp2_with fail
    refine (HOK.out _ (ba (Below.refl _ _) _)).mono ?_
    rintro e w1 ⟨rfl, hb1⟩
    have B1 := qma hb1
    have x0 : w1.cell? ⟨w.heap.size, 0, none⟩ = some (.string nm) := (hb1.cell (by simp)).trans (by simp [go_sem])
    have x1 : w1.cell? ⟨w.heap.size, 1, none⟩ = some (.string cr) := (hb1.cell (by simp)).trans (by simp [go_sem])
    have x2 : w1.cell? ⟨w.heap.size, 2, none⟩ = some (.int .i64 fr) := (hb1.cell (by simp)).trans (by simp [go_sem])
    have x3 : w1.cell? ⟨w.heap.size, 3, none⟩ = some (.int .i64 up) := (hb1.cell (by simp)).trans (by simp [go_sem])
    have x4 : w1.cell? ⟨w.heap.size, 4, none⟩ = some (.bool cu) := (hb1.cell (by simp)).trans (by simp [go_sem])
    have x5 : w1.cell? ⟨w.heap.size, 5, none⟩ = some (.slice ao n cap) := (hb1.cell (by simp)).trans (by simp [go_sem])
    clear hb1 HOK
    have q0 := Wd.cell x0
    have q1 := Wd.cell x1
    have q2 := Wd.cell x2
    have q3 := Wd.cell x3
    go_wp2_with fail
    refine qba (by kernel_rfl) (by kernel_rfl) ?_
    repeat (go_big_quiet_step (first | (go_at_call 105; refine qwa (v := .string F) ?_; with_reducible exact C1.out _) | (go_at_call 105; refine qwa (v := .string U) ?_; with_reducible exact C2.out _)))
    refine wpQuiet_nil ?_
    rintro _ ⟨x, rfl⟩
    obtain ⟨h, HH⟩ : ∃ h, Hid (⟨#[100, 97, 103, 32]⟩ ++ nm ++ ⟨#[10, 99, 114, 111, 110, 32]⟩ ++ cr ++ ⟨#[10, 102, 114, 111, 109, 32]⟩ ++ F ++ ⟨#[10, 116, 111, 32]⟩ ++ U ++ ⟨#[10]⟩ = h) := ⟨_, rfl⟩
    have hh : h.size ≤ 1200000 := by rw [← HH.out, z7]; omega
    rw [HH.out] at HS ⊢
    have p4 := Wd.cell x4 x
    have p5 := Wd.cell x5 x
    have BX := Below.on B1 x.ok
    have hg : w.heap.size < x.at'.heap.size := World.block_lt_of_cell? _ _ p5
    clear q0 q1 q2 q3 x0 x1 x2 x3 x4 x5 C1 C2 HF HU HH z0 z1 z2 z3 z4 z5 z6 z7
    generalize x.at' = w2 at *
    clear x B1
    obtain ⟨y0, HS2, hy0⟩ : ∃ y0, Hid (X = dagP DD ts y0) ∧ y0 = h ++ (if cu then ⟨#[99, 97, 116, 99, 104, 117, 112, 10]⟩ else ⟨#[108, 97, 116, 101, 115, 116, 10]⟩) := ⟨_, HS, rfl⟩
    clear HS
    have hz0 : y0.size ≤ 1300000 := by
      rw [hy0, ByteArray.size_append]
      cases cu
      · show h.size + 7 ≤ _; omega
      · show h.size + 8 ≤ _; omega
    cases cu <;>
    · simp only [if_true, if_false, Bool.false_eq_true] at hy0
      go_wp2
      rw [← hy0]
      clear hy0 hh p4
      go_loopw [4, 5] (fun sv kv wr => ∃ (k : Nat) (y : ByteArray), k ≤ n ∧ kv = .int .i64 k ∧ sv = .string y ∧ y.size ≤ 1300000 + k * 9500000 ∧ Hid (X = dagP DD (ts.drop k) y) ∧ Below w2.heap.size w2 wr) (fun _ kv _ => n - (intOf kv).toNat)
      case atStart => exact ⟨0, y0, Nat.zero_le _, rfl, rfl, by omega, (by rw [List.drop_zero]; exact HS2), Below.refl _ _⟩
      case round =>
        obtain ⟨k, y, hk, rfl, rfl, hy, HE, hbel⟩ := hrel
        have z5 := (hbel.cell hg).trans p5
        have BR := Below.on BX hbel
        by_cases hkn : k < n
        · obtain ⟨t, ht⟩ : ∃ t, ts[k]? = some t := ⟨_, List.getElem?_eq_getElem (by rw [HN.out]; exact hkn)⟩
          have HE2 : Hid (X = dagP DD (ts.drop (k + 1)) (lineS y t)) := HE.out.trans (dagP_at ht)
          have hft := HG.out t (List.mem_of_getElem? ht)
          have hsm := (HSM.out t (List.mem_of_getElem? ht)).1
          obtain ⟨gb, ob, av, hao, hgb, c0, c1, c2, c3, c4, HA0⟩ := (HT.out.below BR).at ht
          obtain ⟨fo, fc, rfl, -⟩ := id HA0
          have HA : Hid (Reads wr (.slice fo t.after.length fc) t.after) := HA0
          clear HA0 ht
          obtain ⟨tn, tp, rt, pa, af⟩ := t
          simp only at *
          have hn8 : tn.size ≤ 8 := hft.name
          have hp4 : tp.size ≤ 4 := hft.pool
          have hr0 : 0 ≤ rt := hft.r0
          have hr1 : rt ≤ 3 := hft.r1
          have HAS : Hid (∀ s ∈ af, s.size ≤ 8) := hft.after
          clear hft
          obtain ⟨D, HDC⟩ : ∃ D, Hid (bstr (decI rt.toNat) = D) := ⟨_, rfl⟩
          have hD : D.size ≤ 10 := by rw [← HDC.out]; exact dec_size (by omega)
          have C3 : Hid (∀ w, Calls Tryz.prog 105 #[.int .i64 rt] w fun e w' => e = .returned (.string D) ∧ Below w.heap.size w w') := by intro w; rw [← HDC.out]; exact qhc rt w hr0 (by omega)
          have HLN : Hid (lineS y ⟨tn, tp, rt, pa, af⟩ = (if 0 < af.length then (y ++ ⟨#[116, 97, 115, 107, 32]⟩ ++ tn ++ ⟨#[32]⟩ ++ tp ++ ⟨#[32]⟩ ++ D) ++ (if pa then ⟨#[32, 112, 97, 115, 116]⟩ else ⟨#[32, 102, 114, 101, 101]⟩) ++ ⟨#[32]⟩ ++ joinS af else (y ++ ⟨#[116, 97, 115, 107, 32]⟩ ++ tn ++ ⟨#[32]⟩ ++ tp ++ ⟨#[32]⟩ ++ D) ++ (if pa then ⟨#[32, 112, 97, 115, 116]⟩ else ⟨#[32, 102, 114, 101, 101]⟩)) ++ ⟨#[10]⟩) := by
            show lineS _ _ = _
            unfold lineS baseL
            simp only [HDC.out]
          have HJS : Hid ((joinS af).size ≤ 9437184) := by
            have := joinP_size HAS.out af.length (Nat.le_refl _)
            show (joinP af af.length).size ≤ _
            omega
          have HJ : Hid (∀ W, Below wr.heap.size wr W → Calls Tryz.prog 128 #[.slice fo af.length fc] W fun e w' => e = .returned (.string (joinS af)) ∧ w' = W) := fun W hb => l12Join_any (HA.out.below hb) hsm HAS.out
          obtain ⟨J, HJJ⟩ : ∃ J, Hid (joinS af = J) := ⟨_, rfl⟩
          rw [HJJ.out] at HJ HJS HLN
          have hJ := HJS.out
          clear HJJ HJS HDC HAS HA
          obtain ⟨m, HMM⟩ : ∃ m, Hid (af.length = m) := ⟨_, rfl⟩
          rw [HMM.out] at hsm c4 HJ HLN
          subst hao
          have v0 : (y ++ ⟨#[116, 97, 115, 107, 32]⟩).size = y.size + 5 := by simp only [ByteArray.size_append]; rfl
          have v1 : (y ++ ⟨#[116, 97, 115, 107, 32]⟩ ++ tn).size = y.size + 5 + tn.size := by simp only [ByteArray.size_append]; rfl
          have v2 : (y ++ ⟨#[116, 97, 115, 107, 32]⟩ ++ tn ++ ⟨#[32]⟩).size = y.size + 5 + tn.size + 1 := by simp only [ByteArray.size_append]; rfl
          have v3 : (y ++ ⟨#[116, 97, 115, 107, 32]⟩ ++ tn ++ ⟨#[32]⟩ ++ tp).size = y.size + 5 + tn.size + 1 + tp.size := by simp only [ByteArray.size_append]; rfl
          have v4 : (y ++ ⟨#[116, 97, 115, 107, 32]⟩ ++ tn ++ ⟨#[32]⟩ ++ tp ++ ⟨#[32]⟩).size = y.size + 5 + tn.size + 1 + tp.size + 1 := by simp only [ByteArray.size_append]; rfl
          have v5 : (y ++ ⟨#[116, 97, 115, 107, 32]⟩ ++ tn ++ ⟨#[32]⟩ ++ tp ++ ⟨#[32]⟩ ++ D).size = y.size + 5 + tn.size + 1 + tp.size + 1 + D.size := by simp only [ByteArray.size_append]; rfl
          go_wp2_with fail
          obtain ⟨W, hW⟩ : ∃ W, wr.alloc (.cells #[.string tn, .string tp, .int .i64 rt, .bool pa, .slice fo m fc] 192) = W := ⟨_, rfl⟩
          have hbW : Below wr.heap.size wr W := by rw [← hW]; exact ba (Below.refl _ _) _
          have b0 : W.cell? ⟨wr.heap.size, 0, none⟩ = some (.string tn) := by rw [← hW]; simp [go_sem]
          have b1 : W.cell? ⟨wr.heap.size, 1, none⟩ = some (.string tp) := by rw [← hW]; simp [go_sem]
          have b2 : W.cell? ⟨wr.heap.size, 2, none⟩ = some (.int .i64 rt) := by rw [← hW]; simp [go_sem]
          have b3 : W.cell? ⟨wr.heap.size, 3, none⟩ = some (.bool pa) := by rw [← hW]; simp [go_sem]
          have b4 : W.cell? ⟨wr.heap.size, 4, none⟩ = some (.slice fo m fc) := by rw [← hW]; simp [go_sem]
          rw [hW]
          clear hW c0 c1 c2 c3 c4 z5
          have q0 := Wd.cell b0
          have q1 := Wd.cell b1
          have q2 := Wd.cell b2
          refine qba (by kernel_rfl) (by kernel_rfl) ?_
          repeat (go_big_quiet_step ((go_at_call 105; refine qwa (v := .string D) ?_; with_reducible exact C3.out _)))
          refine wpQuiet_nil ?_
          rintro _ ⟨x, rfl⟩
          obtain ⟨l, HL⟩ : ∃ l, Hid (y ++ ⟨#[116, 97, 115, 107, 32]⟩ ++ tn ++ ⟨#[32]⟩ ++ tp ++ ⟨#[32]⟩ ++ D = l) := ⟨_, rfl⟩
          have hl : l.size ≤ y.size + 29 := by rw [← HL.out, v5]; omega
          rw [HL.out] at HLN ⊢
          have r3 := Wd.cell b3 x
          have r4 := Wd.cell b4 x
          have hbX := Below.on hbW x.ok
          clear q0 q1 q2 b0 b1 b2 b3 b4 hbW HL v0 v1 v2 v3 v4 v5 C3
          generalize x.at' = w3 at *
          clear x
          have HJ2 := HJ.out w3 hbX
          cases pa with
          | false =>
            simp only [if_false, Bool.false_eq_true] at HLN
            have z6 : (l ++ ⟨#[32, 102, 114, 101, 101]⟩).size = l.size + 5 := by rw [ByteArray.size_append]; rfl
            by_cases hm0 : 0 < m
            · have HY : Hid (lineS y ⟨tn, tp, rt, false, af⟩ = l ++ ⟨#[32, 102, 114, 101, 101]⟩ ++ ⟨#[32]⟩ ++ J ++ ⟨#[10]⟩) := HLN.out.trans (by rw [if_pos hm0])
              have z7 : (l ++ ⟨#[32, 102, 114, 101, 101]⟩ ++ ⟨#[32]⟩).size = l.size + 6 := by rw [ByteArray.size_append, z6]; rfl
              have z8 : (l ++ ⟨#[32, 102, 114, 101, 101]⟩ ++ ⟨#[32]⟩ ++ J).size = l.size + 6 + J.size := by rw [ByteArray.size_append, z7]
              have z9 : (l ++ ⟨#[32, 102, 114, 101, 101]⟩ ++ ⟨#[32]⟩ ++ J ++ ⟨#[10]⟩).size = l.size + 6 + J.size + 1 := by rw [ByteArray.size_append, z8]; rfl
              rw [HY.out] at HE2
              go_wp2_with (go_at_call 128; refine HJ2.mono ?_; rintro e w4 ⟨rfl, hw⟩; have hw2 := hw.symm; subst hw2)
              go_roundw
              case rel => exact ⟨k + 1, _, by omega, by go_num, rfl, by rw [z9]; omega, HE2, Below.on hbel hbX⟩
              case measure => simp [intOf]; omega
            · have HY : Hid (lineS y ⟨tn, tp, rt, false, af⟩ = l ++ ⟨#[32, 102, 114, 101, 101]⟩ ++ ⟨#[10]⟩) := HLN.out.trans (by rw [if_neg hm0])
              have z9 : (l ++ ⟨#[32, 102, 114, 101, 101]⟩ ++ ⟨#[10]⟩).size = l.size + 5 + 1 := by rw [ByteArray.size_append, z6]; rfl
              rw [HY.out] at HE2
              go_wp2
              go_roundw
              case rel => exact ⟨k + 1, _, by omega, by go_num, rfl, by rw [z9]; omega, HE2, Below.on hbel hbX⟩
              case measure => simp [intOf]; omega
          | true =>
            simp only [if_true] at HLN
            have z6 : (l ++ ⟨#[32, 112, 97, 115, 116]⟩).size = l.size + 5 := by rw [ByteArray.size_append]; rfl
            by_cases hm0 : 0 < m
            · have HY : Hid (lineS y ⟨tn, tp, rt, true, af⟩ = l ++ ⟨#[32, 112, 97, 115, 116]⟩ ++ ⟨#[32]⟩ ++ J ++ ⟨#[10]⟩) := HLN.out.trans (by rw [if_pos hm0])
              have z7 : (l ++ ⟨#[32, 112, 97, 115, 116]⟩ ++ ⟨#[32]⟩).size = l.size + 6 := by rw [ByteArray.size_append, z6]; rfl
              have z8 : (l ++ ⟨#[32, 112, 97, 115, 116]⟩ ++ ⟨#[32]⟩ ++ J).size = l.size + 6 + J.size := by rw [ByteArray.size_append, z7]
              have z9 : (l ++ ⟨#[32, 112, 97, 115, 116]⟩ ++ ⟨#[32]⟩ ++ J ++ ⟨#[10]⟩).size = l.size + 6 + J.size + 1 := by rw [ByteArray.size_append, z8]; rfl
              rw [HY.out] at HE2
              go_wp2_with (go_at_call 128; refine HJ2.mono ?_; rintro e w4 ⟨rfl, hw⟩; have hw2 := hw.symm; subst hw2)
              go_roundw
              case rel => exact ⟨k + 1, _, by omega, by go_num, rfl, by rw [z9]; omega, HE2, Below.on hbel hbX⟩
              case measure => simp [intOf]; omega
            · have HY : Hid (lineS y ⟨tn, tp, rt, true, af⟩ = l ++ ⟨#[32, 112, 97, 115, 116]⟩ ++ ⟨#[10]⟩) := HLN.out.trans (by rw [if_neg hm0])
              have z9 : (l ++ ⟨#[32, 112, 97, 115, 116]⟩ ++ ⟨#[10]⟩).size = l.size + 5 + 1 := by rw [ByteArray.size_append, z6]; rfl
              rw [HY.out] at HE2
              go_wp2
              go_roundw
              case rel => exact ⟨k + 1, _, by omega, by go_num, rfl, by rw [z9]; omega, HE2, Below.on hbel hbX⟩
              case measure => simp [intOf]; omega
        · have HFN : Hid (X = y) := by
            have e := HE.out
            rw [List.drop_of_length_le (by rw [HN.out]; omega)] at e
            exact e
          go_wp2
          go_ret2
          exact ⟨by rw [HFN.out]; rfl, BR⟩
end Go.Proofs.YtpjpheicldegkaaGreatDoor
