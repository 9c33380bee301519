/-
  The law on what two logs share: the walk.
-/
import Derived.Test.YtnapjkpkhdbalaaSh3
namespace Go.Proofs.Ytnapjkpkhdbalaa
open Go Go.RowKit

set_option maxRecDepth 10000 in
set_option maxHeartbeats 4000000 in
theorem law_Shared (s t : Int) (ao : Option Addr) (n cap : Nat) (l : List En) (s2 t2 : Int) (bo : Option Addr) (nb capb : Nat) (l2 : List En) (w : World) (hr : Reads w (.slice ao n cap) l) (hs : SmallEn l) (hn : n ≤ 9223372036854775807) (hr2 : Reads w (.slice bo nb capb) l2) (hs2 : SmallEn l2) (hnb : nb ≤ 9223372036854775807) :
    Calls Try.prog 8 #[.agg #[.int .i64 s, .int .i64 t, .slice ao n cap], .agg #[.int .i64 s2, .int .i64 t2, .slice bo nb capb]] w fun e w' => e = .returned (.bool true) ∧ Below w.heap.size w w' := by
  have HR : Hid (Reads w (.slice ao n cap) l) := hr
  have HN : Hid (n = l.length) := hr.len
  have HS : Hid (SmallEn l) := hs
  have HR2 : Hid (Reads w (.slice bo nb capb) l2) := hr2
  have HN2 : Hid (nb = l2.length) := hr2.len
  have HS2 : Hid (SmallEn l2) := hs2
  clear hr hs hr2 hs2
  go_enter Try.func8, Try.ntmps8
  go_wp2_with fail
  refine (szLog_any s t _ l _ _ ((HR.out.alloc _).alloc _) HS.out (by decide) (by decide) (by rw [← HN.out]; exact hn)).mono ?_
  rintro e wz ⟨r, rfl, hr, hbz⟩
  have BZ : Below w.heap.size w wz := (ba (ba (Below.refl _ _) _) _).trans (hbz.mono (by simp; omega))
  have k0 : wz.cell? ⟨w.heap.size, 0, none⟩ = some (.int .i64 s) := (hbz.cell (by simp; omega)).trans (by simp [go_sem])
  have k1 : wz.cell? ⟨w.heap.size, 1, none⟩ = some (.int .i64 t) := (hbz.cell (by simp; omega)).trans (by simp [go_sem])
  have k2 : wz.cell? ⟨w.heap.size, 2, none⟩ = some (.slice ao n cap) := (hbz.cell (by simp; omega)).trans (by simp [go_sem])
  have m0 : wz.cell? ⟨w.heap.size + 1, 0, none⟩ = some (.int .i64 s2) := (hbz.cell (by simp)).trans (by simp [go_sem])
  have m1 : wz.cell? ⟨w.heap.size + 1, 1, none⟩ = some (.int .i64 t2) := (hbz.cell (by simp)).trans (by simp [go_sem])
  have m2 : wz.cell? ⟨w.heap.size + 1, 2, none⟩ = some (.slice bo nb capb) := (hbz.cell (by simp)).trans (by simp [go_sem])
  clear hbz
  rcases hr with rfl | ⟨hr0, hr1⟩
  · go_wp2
    go_ret
    exact ⟨rfl, BZ⟩
  · have hr9 : r ≤ 1048576 := by omega
    have HL : Hid (l.length ≤ 1048576) := by show l.length ≤ 1048576; omega
    have HZ : Hid (SizedE l) := fun f hf => by have := sizeEn_mem hf; omega
    clear hr1
    go_wp2_with fail
    refine (szLog_any s2 t2 _ l2 r _ (HR2.out.below BZ) HS2.out hr9 hr0 (by rw [← HN2.out]; exact hnb)).mono ?_
    rintro e w0 ⟨r2, rfl, hr2, hb0⟩
    rcases hr2 with rfl | ⟨hr20, hr21⟩
    · go_wp2
      go_ret
      exact ⟨rfl, Below.on BZ hb0⟩
    · have HL2 : Hid (l2.length ≤ 1048576) := by show l2.length ≤ 1048576; omega
      have HZ2 : Hid (SizedE l2) := fun f hf => by have := sizeEn_mem hf; omega
      obtain ⟨ans, HA⟩ : ∃ a, Hid (sharedL s t l s2 t2 l2 = a) := ⟨_, rfl⟩
      have CS : Hid (∀ (W : World) (B B2 : Nat) (v v2 : Value), ownsR W B 42 v l → ownsR W B2 42 v2 l2 → Calls Try.prog 26 #[.agg #[.int .i64 s, .int .i64 t, v], .agg #[.int .i64 s2, .int .i64 t2, v2]] W fun e w' => e = .returned (.int .i64 ans) ∧ Below W.heap.size W w') := fun W B B2 v v2 ho ho2 => by
        obtain ⟨a, c, rfl, hc⟩ := ho.cap
        obtain ⟨a2, c2, rfl, hc2⟩ := ho2.cap
        rw [← HA.out]; exact specShared_try s t a _ c l s2 t2 a2 _ c2 l2 W ho.reads HL.out HZ.out ho2.reads HL2.out HZ2.out
      have CI : Hid (∀ (W : World) (B B2 : Nat) (v v2 : Value), ownsR W B 42 v l → ownsR W B2 42 v2 l2 → Calls Try.prog 27 #[.agg #[.int .i64 s, .int .i64 t, v], .agg #[.int .i64 s2, .int .i64 t2, v2]] W fun e w' => e = .returned (.int .i64 ans) ∧ Below W.heap.size W w') := fun W B B2 v v2 ho ho2 => by
        obtain ⟨a, c, rfl, hc⟩ := ho.cap
        obtain ⟨a2, c2, rfl, hc2⟩ := ho2.cap
        rw [← HA.out]; exact shared_try s t a _ c l s2 t2 a2 _ c2 l2 W ho.reads hc HL.out HZ.out ho2.reads hc2 HL2.out HZ2.out
      have c_a0_0 := cell_up hb0 k0
      have c_a1_0 := cell_up hb0 k1
      have c_a2_0 := cell_up hb0 k2
      have c_b0_0 := cell_up hb0 m0
      have c_b1_0 := cell_up hb0 m1
      have c_b2_0 := cell_up hb0 m2
      have B0 : Below w.heap.size w w0 := Below.on BZ hb0
      clear hb0 k0 k1 k2 m0 m1 m2 hr21 hr0 hr9 BZ
      have K_a0 := Below.cellOf (B := w0.heap.size) (W := w0) (p := ⟨w.heap.size, 0, none⟩) (v := .int .i64 s) (World.block_lt_of_cell? _ _ c_a0_0) c_a0_0
      have K_a1 := Below.cellOf (B := w0.heap.size) (W := w0) (p := ⟨w.heap.size, 1, none⟩) (v := .int .i64 t) (World.block_lt_of_cell? _ _ c_a1_0) c_a1_0
      have K_a2 := Below.cellOf (B := w0.heap.size) (W := w0) (p := ⟨w.heap.size, 2, none⟩) (v := .slice ao n cap) (World.block_lt_of_cell? _ _ c_a2_0) c_a2_0
      have K_b0 := Below.cellOf (B := w0.heap.size) (W := w0) (p := ⟨w.heap.size + 1, 0, none⟩) (v := .int .i64 s2) (World.block_lt_of_cell? _ _ c_b0_0) c_b0_0
      have K_b1 := Below.cellOf (B := w0.heap.size) (W := w0) (p := ⟨w.heap.size + 1, 1, none⟩) (v := .int .i64 t2) (World.block_lt_of_cell? _ _ c_b1_0) c_b1_0
      have K_b2 := Below.cellOf (B := w0.heap.size) (W := w0) (p := ⟨w.heap.size + 1, 2, none⟩) (v := .slice bo nb capb) (World.block_lt_of_cell? _ _ c_b2_0) c_b2_0
      go_wp2_with fail
      go_region_held3 (fun w' => Below w0.heap.size w0 w') ((first | exact (Below.refl _ _).drew | exact hS3 | exact hS2 | exact hS1)) ((first | (have hq := ho1; go_at_call 11; refine (toLog_any s2 t2 _ l2 _ (HR2.out.below (Below.on B0 (by assumption))) HL2.out).mono ?_; rintro e w2 ⟨v2, rfl, ho2, hb2⟩; obtain ⟨a2, n2, d2, rfl⟩ := ho2.slice3; have hS2 := keep_on (B := w0.heap.size) (W := w0) hb2 (by assumption) (Nat.le_refl _)) | (go_at_call 11; refine (toLog_any s t _ l _ (HR.out.below (Below.on B0 (by assumption))) HL.out).mono ?_; rintro e w1 ⟨v1, rfl, ho1, hb1⟩; obtain ⟨a1, n1, d1, rfl⟩ := ho1.slice3; have hS1 := keep_on (B := w0.heap.size) (W := w0) hb1 (by assumption) (Nat.le_refl _)) | (go_at_call 26; refine (CS.out _ _ _ _ _ (ho1.all hb2) ho2).mono ?_; rintro e w3 ⟨rfl, hb3⟩; have hS3 := keep_on (B := w0.heap.size) (W := w0) hb3 (by assumption) (Nat.le_refl _))))
      try clear hq
      clear ho1 ho2 hb1 hb2 hb3 hS1 hS2 K_a0 K_a1 K_a2 K_b0 K_b1 K_b2
      have c_a0_3 := cell_up hS3 c_a0_0
      have c_a1_3 := cell_up hS3 c_a1_0
      have c_a2_3 := cell_up hS3 c_a2_0
      have c_b0_3 := cell_up hS3 c_b0_0
      have c_b1_3 := cell_up hS3 c_b1_0
      have c_b2_3 := cell_up hS3 c_b2_0
      have B3 : Below w.heap.size w w3 := B0.trans (hS3.mono B0.size)
      clear c_a0_0 c_a1_0 c_a2_0 c_b0_0 c_b1_0 c_b2_0 B0 hS3
      go_wp2_with fail
      refine (toLog_any s t _ l _ (HR.out.below B3) HL.out).mono ?_
      rintro e w4 ⟨v4, rfl, ho4, hb4⟩
      obtain ⟨a4, n4, d4, rfl⟩ := ho4.slice3
      have ac_a_x := cell_apart c_a0_3 ho4
      have ac_b_x := cell_apart c_b0_3 ho4
      have c_a0_4 := cell_up hb4 c_a0_3
      have c_a1_4 := cell_up hb4 c_a1_3
      have c_a2_4 := cell_up hb4 c_a2_3
      have c_b0_4 := cell_up hb4 c_b0_3
      have c_b1_4 := cell_up hb4 c_b1_3
      have c_b2_4 := cell_up hb4 c_b2_3
      have B4 : Below w.heap.size w w4 := B3.trans (hb4.mono B3.size)
      have O_x_4 : Hid (ownsR w4 w.heap.size 42 (.slice a4 n4 d4) (l)) := ho4.mono B3.size
      clear c_a0_3 c_a1_3 c_a2_3 c_b0_3 c_b1_3 c_b2_3 B3 hb4 ho4
      have sz_a : w.heap.size < w4.heap.size := World.block_lt_of_cell? _ _ c_a0_4
      have sz_b : w.heap.size + 1 < w4.heap.size := World.block_lt_of_cell? _ _ c_b0_4
      go_wp2_with fail
      refine (toLog_any s2 t2 _ l2 _ ((HR2.out.below B4).alloc _) HL2.out).mono ?_
      rintro e w5 ⟨v5, rfl, ho5, hb5⟩
      obtain ⟨a5, n5, d5, rfl⟩ := ho5.slice3
      have ap_x_y := apart_new (O_x_4.out.alloc _) ho5
      have ap_y_x := apart_old (O_x_4.out.alloc _) ho5
      have ac_a_y := cell_apart (cell_up (ba (Below.refl _ w4) _) c_a0_4) ho5
      have ac_b_y := cell_apart (cell_up (ba (Below.refl _ w4) _) c_b0_4) ho5
      have ac_x_y := cell_apart (p := ⟨w4.heap.size, 0, none⟩) (u := .int .i64 s) (w := (w4.alloc (Obj.cells #[.int .i64 s, .int .i64 t, .slice a4 n4 d4] 29))) (by simp [go_sem]) ho5
      obtain ⟨c_x0_5, c_x1_5, c_x2_5⟩ := cells3_new hb5
      have ac_x_x := cell_apart_new O_x_4.out
      have hb5 := below_new hb5
      have c_a0_5 := cell_up hb5 c_a0_4
      have c_a1_5 := cell_up hb5 c_a1_4
      have c_a2_5 := cell_up hb5 c_a2_4
      have c_b0_5 := cell_up hb5 c_b0_4
      have c_b1_5 := cell_up hb5 c_b1_4
      have c_b2_5 := cell_up hb5 c_b2_4
      have O_x_5 : Hid (ownsR w5 w.heap.size 42 (.slice a4 n4 d4) (l)) := O_x_4.out.all hb5
      have B5 : Below w.heap.size w w5 := B4.trans (hb5.mono B4.size)
      have O_y_5 : Hid (ownsR w5 w.heap.size 42 (.slice a5 n5 d5) (l2)) := ho5.mono (by have := B4.size; simp; omega)
      clear c_a0_4 c_a1_4 c_a2_4 c_b0_4 c_b1_4 c_b2_4 sz_a sz_b O_x_4 B4 hb5 ho5
      have sz_a : w.heap.size < w5.heap.size := World.block_lt_of_cell? _ _ c_a0_5
      have sz_b : w.heap.size + 1 < w5.heap.size := World.block_lt_of_cell? _ _ c_b0_5
      have sz_x : w4.heap.size < w5.heap.size := World.block_lt_of_cell? _ _ c_x0_5
      go_wp2_with fail
      refine (CI.out _ _ _ _ _ (O_x_5.out.alloc _) (O_y_5.out.alloc _)).mono ?_
      rintro e w6 ⟨rfl, hb6⟩
      obtain ⟨c_y0_6, c_y1_6, c_y2_6⟩ := cells3_new hb6
      have ac_y_x := cell_apart_new O_x_5.out
      have ac_y_y := cell_apart_new O_y_5.out
      have hb6 := below_new hb6
      have c_a0_6 := cell_up hb6 c_a0_5
      have c_a1_6 := cell_up hb6 c_a1_5
      have c_a2_6 := cell_up hb6 c_a2_5
      have c_b0_6 := cell_up hb6 c_b0_5
      have c_b1_6 := cell_up hb6 c_b1_5
      have c_b2_6 := cell_up hb6 c_b2_5
      have c_x0_6 := cell_up hb6 c_x0_5
      have c_x1_6 := cell_up hb6 c_x1_5
      have c_x2_6 := cell_up hb6 c_x2_5
      have O_x_6 : Hid (ownsR w6 w.heap.size 42 (.slice a4 n4 d4) (l)) := O_x_5.out.all hb6
      have O_y_6 : Hid (ownsR w6 w.heap.size 42 (.slice a5 n5 d5) (l2)) := O_y_5.out.all hb6
      have B6 : Below w.heap.size w w6 := B5.trans (hb6.mono B5.size)
      clear c_a0_5 c_a1_5 c_a2_5 c_b0_5 c_b1_5 c_b2_5 c_x0_5 c_x1_5 c_x2_5 sz_a sz_b sz_x O_x_5 O_y_5 B5 hb6
      have K_x0 := Below.cellOf (B := w6.heap.size) (W := w6) (p := ⟨w4.heap.size, 0, none⟩) (v := .int .i64 s) (World.block_lt_of_cell? _ _ c_x0_6) c_x0_6
      have K_x1 := Below.cellOf (B := w6.heap.size) (W := w6) (p := ⟨w4.heap.size, 1, none⟩) (v := .int .i64 t) (World.block_lt_of_cell? _ _ c_x1_6) c_x1_6
      have K_x2 := Below.cellOf (B := w6.heap.size) (W := w6) (p := ⟨w4.heap.size, 2, none⟩) (v := .slice a4 n4 d4) (World.block_lt_of_cell? _ _ c_x2_6) c_x2_6
      have K_a0 := Below.cellOf (B := w6.heap.size) (W := w6) (p := ⟨w.heap.size, 0, none⟩) (v := .int .i64 s) (World.block_lt_of_cell? _ _ c_a0_6) c_a0_6
      have K_a1 := Below.cellOf (B := w6.heap.size) (W := w6) (p := ⟨w.heap.size, 1, none⟩) (v := .int .i64 t) (World.block_lt_of_cell? _ _ c_a1_6) c_a1_6
      have K_a2 := Below.cellOf (B := w6.heap.size) (W := w6) (p := ⟨w.heap.size, 2, none⟩) (v := .slice ao n cap) (World.block_lt_of_cell? _ _ c_a2_6) c_a2_6
      go_wp2_with fail
      go_region_held3 (fun w' => Below w6.heap.size w6 w') ((first | exact (Below.refl _ _).drew | exact hS7 | exact hS8)) ((first | (go_at_call 11; refine (toLog_any s t _ l _ (HR.out.below (Below.on B6 (by assumption))) HL.out).mono ?_; rintro e w7 ⟨v7, rfl, ho7, hb7⟩; obtain ⟨a7, n7, d7, rfl⟩ := ho7.slice3; have hS7 := keep_on (B := w6.heap.size) (W := w6) hb7 (by assumption) (Nat.le_refl _)) | (go_at_call 13; refine (eqLog_any s t _ _ l _ ((ownsR.reads O_x_6.out).below hS7) ho7.reads (Nat.le_trans HL.out (by decide))).mono ?_; rintro e w8 ⟨rfl, hb8⟩; have hS8 := keep_on (B := w6.heap.size) (W := w6) hb8 hS7 (Nat.le_refl _))))
      clear ho7 hb7 hb8 hS7 K_x0 K_x1 K_x2 K_a0 K_a1 K_a2
      have c_a0_8 := cell_up hS8 c_a0_6
      have c_a1_8 := cell_up hS8 c_a1_6
      have c_a2_8 := cell_up hS8 c_a2_6
      have c_b0_8 := cell_up hS8 c_b0_6
      have c_b1_8 := cell_up hS8 c_b1_6
      have c_b2_8 := cell_up hS8 c_b2_6
      have c_x0_8 := cell_up hS8 c_x0_6
      have c_x1_8 := cell_up hS8 c_x1_6
      have c_x2_8 := cell_up hS8 c_x2_6
      have c_y0_8 := cell_up hS8 c_y0_6
      have c_y1_8 := cell_up hS8 c_y1_6
      have c_y2_8 := cell_up hS8 c_y2_6
      have O_x_8 : Hid (ownsR w8 w.heap.size 42 (.slice a4 n4 d4) (l)) := O_x_6.out.all hS8
      have O_y_8 : Hid (ownsR w8 w.heap.size 42 (.slice a5 n5 d5) (l2)) := O_y_6.out.all hS8
      have B8 : Below w.heap.size w w8 := B6.trans (hS8.mono B6.size)
      clear c_a0_6 c_a1_6 c_a2_6 c_b0_6 c_b1_6 c_b2_6 c_x0_6 c_x1_6 c_x2_6 c_y0_6 c_y1_6 c_y2_6 O_x_6 O_y_6 B6 hS8
      have K_y0 := Below.cellOf (B := w8.heap.size) (W := w8) (p := ⟨w5.heap.size, 0, none⟩) (v := .int .i64 s2) (World.block_lt_of_cell? _ _ c_y0_8) c_y0_8
      have K_y1 := Below.cellOf (B := w8.heap.size) (W := w8) (p := ⟨w5.heap.size, 1, none⟩) (v := .int .i64 t2) (World.block_lt_of_cell? _ _ c_y1_8) c_y1_8
      have K_y2 := Below.cellOf (B := w8.heap.size) (W := w8) (p := ⟨w5.heap.size, 2, none⟩) (v := .slice a5 n5 d5) (World.block_lt_of_cell? _ _ c_y2_8) c_y2_8
      have K_b0 := Below.cellOf (B := w8.heap.size) (W := w8) (p := ⟨w.heap.size + 1, 0, none⟩) (v := .int .i64 s2) (World.block_lt_of_cell? _ _ c_b0_8) c_b0_8
      have K_b1 := Below.cellOf (B := w8.heap.size) (W := w8) (p := ⟨w.heap.size + 1, 1, none⟩) (v := .int .i64 t2) (World.block_lt_of_cell? _ _ c_b1_8) c_b1_8
      have K_b2 := Below.cellOf (B := w8.heap.size) (W := w8) (p := ⟨w.heap.size + 1, 2, none⟩) (v := .slice bo nb capb) (World.block_lt_of_cell? _ _ c_b2_8) c_b2_8
      go_wp2_with fail
      go_region_held3 (fun w' => Below w8.heap.size w8 w') ((first | exact (Below.refl _ _).drew | exact hS9 | exact hS10)) ((first | (go_at_call 11; refine (toLog_any s2 t2 _ l2 _ (HR2.out.below (Below.on B8 (by assumption))) HL2.out).mono ?_; rintro e w9 ⟨v9, rfl, ho9, hb9⟩; obtain ⟨a9, n9, d9, rfl⟩ := ho9.slice3; have hS9 := keep_on (B := w8.heap.size) (W := w8) hb9 (by assumption) (Nat.le_refl _)) | (go_at_call 13; refine (eqLog_any s2 t2 _ _ l2 _ ((ownsR.reads O_y_8.out).below hS9) ho9.reads (Nat.le_trans HL2.out (by decide))).mono ?_; rintro e w10 ⟨rfl, hb10⟩; have hS10 := keep_on (B := w8.heap.size) (W := w8) hb10 hS9 (Nat.le_refl _))))
      clear ho9 hb9 hb10 hS9 K_y0 K_y1 K_y2 K_b0 K_b1 K_b2
      have c_a0_10 := cell_up hS10 c_a0_8
      have c_a1_10 := cell_up hS10 c_a1_8
      have c_a2_10 := cell_up hS10 c_a2_8
      have c_b0_10 := cell_up hS10 c_b0_8
      have c_b1_10 := cell_up hS10 c_b1_8
      have c_b2_10 := cell_up hS10 c_b2_8
      have c_x0_10 := cell_up hS10 c_x0_8
      have c_x1_10 := cell_up hS10 c_x1_8
      have c_x2_10 := cell_up hS10 c_x2_8
      have c_y0_10 := cell_up hS10 c_y0_8
      have c_y1_10 := cell_up hS10 c_y1_8
      have c_y2_10 := cell_up hS10 c_y2_8
      have O_x_10 : Hid (ownsR w10 w.heap.size 42 (.slice a4 n4 d4) (l)) := O_x_8.out.all hS10
      have O_y_10 : Hid (ownsR w10 w.heap.size 42 (.slice a5 n5 d5) (l2)) := O_y_8.out.all hS10
      have B10 : Below w.heap.size w w10 := B8.trans (hS10.mono B8.size)
      clear c_a0_8 c_a1_8 c_a2_8 c_b0_8 c_b1_8 c_b2_8 c_x0_8 c_x1_8 c_x2_8 c_y0_8 c_y1_8 c_y2_8 O_x_8 O_y_8 B8 hS10
      go_wp2
      go_ret
      exact ⟨rfl, B10⟩
end Go.Proofs.Ytnapjkpkhdbalaa
