/-
  The law on an entry that is put into a log: the walk.
-/
import Derived.Test.YtnapjkpkhdbalaaNb
import Derived.Test.YtnapjkpkhdbalaaLp
import Derived.Test.YtnapjkpkhdbalaaSp
namespace Go.Proofs.Ytnapjkpkhdbalaa
open Go Go.RowKit

set_option maxRecDepth 10000 in
set_option maxHeartbeats 4000000 in
theorem law_LogPut (s t i tm kd : Int) (d : ByteArray) (ao : Option Addr) (n cap : Nat) (l : List En) (w : World) (hr : Reads w (.slice ao n cap) l) (hs : SmallEn l) (hn : n ≤ 9223372036854775807) (hd : d.size ≤ 9223372036854775807) :
    Calls Try.prog 6 #[.agg #[.int .i64 s, .int .i64 t, .slice ao n cap], .int .i64 i, .agg #[.int .i64 tm, .int .i64 kd, .string d]] w fun e w' => e = .returned (.bool true) ∧ Below w.heap.size w w' := by
  have HR : Hid (Reads w (.slice ao n cap) l) := hr
  have HN : Hid (n = l.length) := hr.len
  have HS : Hid (SmallEn l) := hs
  clear hr hs
  go_enter Try.func6, Try.ntmps6
  go_wp2_with fail
  refine (szLog_any s t _ l _ _ ((HR.out.alloc _).alloc _) HS.out (by decide) (by decide) (by rw [← HN.out]; exact hn)).mono ?_
  rintro e wz ⟨r, rfl, hr, hbz⟩
  have BZ : Below w.heap.size w wz := (ba (ba (Below.refl _ _) _) _).trans (hbz.mono (by simp; omega))
  have k0 : wz.cell? ⟨w.heap.size, 0, none⟩ = some (.int .i64 s) := (hbz.cell (by simp; omega)).trans (by simp [go_sem])
  have k1 : wz.cell? ⟨w.heap.size, 1, none⟩ = some (.int .i64 t) := (hbz.cell (by simp; omega)).trans (by simp [go_sem])
  have k2 : wz.cell? ⟨w.heap.size, 2, none⟩ = some (.slice ao n cap) := (hbz.cell (by simp; omega)).trans (by simp [go_sem])
  have m0 : wz.cell? ⟨w.heap.size + 1, 0, none⟩ = some (.int .i64 tm) := (hbz.cell (by simp)).trans (by simp [go_sem])
  have m1 : wz.cell? ⟨w.heap.size + 1, 1, none⟩ = some (.int .i64 kd) := (hbz.cell (by simp)).trans (by simp [go_sem])
  have m2 : wz.cell? ⟨w.heap.size + 1, 2, none⟩ = some (.string d) := (hbz.cell (by simp)).trans (by simp [go_sem])
  clear hbz
  rcases hr with rfl | ⟨hr0, hr1⟩
  · go_wp2
    go_ret
    exact ⟨rfl, BZ⟩
  · have hr9 : r ≤ 1048576 := by omega
    have HL : Hid (l.length ≤ 1048576) := by show l.length ≤ 1048576; omega
    have HZ : Hid (SizedE l) := fun f hf => by have := sizeEn_mem hf; omega
    clear hr1
    go_wp2_with fail
    refine (szEntry_any tm kd d r _ hd hr9 hr0).mono ?_
    rintro e w0 ⟨r2, rfl, hr2, hb0⟩
    rcases hr2 with rfl | ⟨hr20, hr21⟩
    · go_wp2
      go_ret
      exact ⟨rfl, Below.on BZ hb0⟩
    · have hdd : d.size ≤ 1048576 := by omega
      obtain ⟨L, HLL⟩ : ∃ L, Hid (putE s t l i ⟨tm, kd, d⟩ = L) := ⟨_, rfl⟩
      obtain ⟨ps, HPS⟩ : ∃ L, Hid (putS s t l i ⟨tm, kd, d⟩ = L) := ⟨_, rfl⟩
      obtain ⟨pt, HPT⟩ : ∃ L, Hid (putT s t l i ⟨tm, kd, d⟩ = L) := ⟨_, rfl⟩
      obtain ⟨z, HPB⟩ : ∃ L, Hid (putB s t l i ⟨tm, kd, d⟩ = L) := ⟨_, rfl⟩
      have HO : Hid (L.length ≤ 1048577) := by show L.length ≤ 1048577; rw [← HLL.out]; exact Nat.le_trans (putE_length s t l i _) (Nat.succ_le_succ HL.out)
      have CS : Hid (∀ (W : World) (B : Nat) (v : Value), ownsR W B 42 v l → Calls Try.prog 19 #[.agg #[.int .i64 s, .int .i64 t, v], .int .i64 i, .agg #[.int .i64 tm, .int .i64 kd, .string d]] W fun e w' => ∃ v', e = .returned (.tuple #[.agg #[.int .i64 ps, .int .i64 pt, v'], .bool z]) ∧ ownsR w' W.heap.size 42 v' L ∧ Below W.heap.size W w') := fun W B v ho => by
        obtain ⟨a, c, rfl, hc⟩ := ho.cap
        rw [← HLL.out, ← HPS.out, ← HPT.out, ← HPB.out]; exact specLogPut_try s t i tm kd d a _ c l W ho.reads hc HL.out HZ.out hdd
      have CI : Hid (∀ (W : World) (B : Nat) (v : Value), ownsR W B 42 v l → Calls Try.prog 21 #[.agg #[.int .i64 s, .int .i64 t, v], .int .i64 i, .agg #[.int .i64 tm, .int .i64 kd, .string d]] W fun e w' => ∃ v', e = .returned (.tuple #[.agg #[.int .i64 ps, .int .i64 pt, v'], .bool z]) ∧ ownsR w' W.heap.size 42 v' L ∧ Below W.heap.size W w') := fun W B v ho => by
        obtain ⟨a, c, rfl, hc⟩ := ho.cap
        rw [← HLL.out, ← HPS.out, ← HPT.out, ← HPB.out]; exact logPut_try s t i tm kd d a _ c l W ho.reads hc HL.out HZ.out hdd
      have c_a0_0 := cell_up hb0 k0
      have c_a1_0 := cell_up hb0 k1
      have c_a2_0 := cell_up hb0 k2
      have c_b0_0 := cell_up hb0 m0
      have c_b1_0 := cell_up hb0 m1
      have c_b2_0 := cell_up hb0 m2
      have B0 : Below w.heap.size w w0 := Below.on BZ hb0
      clear hb0 k0 k1 k2 m0 m1 m2 hr21 hr0 hr9 BZ
      go_wp2_with fail
      have K_a0 := Below.cellOf (B := w0.heap.size) (W := w0) (p := ⟨w.heap.size, 0, none⟩) (v := .int .i64 s) (World.block_lt_of_cell? _ _ c_a0_0) c_a0_0
      have K_a1 := Below.cellOf (B := w0.heap.size) (W := w0) (p := ⟨w.heap.size, 1, none⟩) (v := .int .i64 t) (World.block_lt_of_cell? _ _ c_a1_0) c_a1_0
      have K_a2 := Below.cellOf (B := w0.heap.size) (W := w0) (p := ⟨w.heap.size, 2, none⟩) (v := .slice ao n cap) (World.block_lt_of_cell? _ _ c_a2_0) c_a2_0
      have K_b0 := Below.cellOf (B := w0.heap.size) (W := w0) (p := ⟨w.heap.size + 1, 0, none⟩) (v := .int .i64 tm) (World.block_lt_of_cell? _ _ c_b0_0) c_b0_0
      have K_b1 := Below.cellOf (B := w0.heap.size) (W := w0) (p := ⟨w.heap.size + 1, 1, none⟩) (v := .int .i64 kd) (World.block_lt_of_cell? _ _ c_b1_0) c_b1_0
      have K_b2 := Below.cellOf (B := w0.heap.size) (W := w0) (p := ⟨w.heap.size + 1, 2, none⟩) (v := .string d) (World.block_lt_of_cell? _ _ c_b2_0) c_b2_0
      refine wp_puts (α := Nat × (Option Addr × Nat × Nat) × Option Addr × Nat × Nat) (fun x => [(29, .agg #[.int .i64 s, .int .i64 t, .slice ao n cap]), (31, .int .i64 i), (32, .agg #[.int .i64 tm, .int .i64 kd, .string d]), (30, .agg #[.int .i64 s, .int .i64 t, .slice x.2.1.1 x.2.1.2.1 x.2.1.2.2]), (33, .agg #[.int .i64 tm, .int .i64 kd, .string d]), (34, .tuple #[.agg #[.int .i64 ps, .int .i64 pt, .slice x.2.2.1 x.2.2.2.1 x.2.2.2.2], .bool z]), (28, .tuple #[.agg #[.int .i64 ps, .int .i64 pt, .slice x.2.2.1 x.2.2.2.1 x.2.2.2.2], .bool z]), (35, .agg #[.int .i64 ps, .int .i64 pt, .slice x.2.2.1 x.2.2.2.1 x.2.2.2.2]), (36, .bool z), (8, .pointer (some ⟨x.1, 0, none⟩)), (9, .bool z)]) (fun x w' => NewBox w0 w' x.1 ps pt (.slice x.2.2.1 x.2.2.2.1 x.2.2.2.2) L) ?_ ?_
      · go_region_held3 (fun w' => Below w0.heap.size w0 w') ((first | exact (Below.refl _ _).drew | exact hS3 | exact hS2 | exact hS1 | exact Below.alloc (by assumption) (Below.size (by assumption)) _ | (refine Below.setCell (Below.setCell (Below.setCell hS3 ?_ _) ?_ _) ?_ _ <;> first | exact Nat.le_refl _ | exact hS2.size | exact hS1.size))) ((first | (go_at_call 11; refine (toLog_any s t _ l _ (HR.out.below (Below.on B0 (by assumption))) HL.out).mono ?_; rintro e w1' ⟨v1', rfl, ho1, hb1⟩; have hS1 := keep_on (B := w0.heap.size) (W := w0) hb1 (by assumption) (Nat.le_refl _); obtain ⟨a1', n1', d1', rfl⟩ := ho1.slice3; (first | (have hX1 := heap_new hb1) | (have hX1 := heap_newd hb1) | skip)) | (go_at_call 20; refine (toEntry_any tm kd d _).mono ?_; rintro e w2' ⟨rfl, hb2⟩; have hS2 := keep_on (B := w0.heap.size) (W := w0) hb2 (by assumption) (Nat.le_refl _); (first | (have hX2 := heap_new hb2) | (have hX2 := heap_newd hb2) | (have hX2 := heap_on hb2 hX1) | skip)) | (go_at_call 19; refine (CS.out _ _ _ (by first | exact ho1.all hb2 | exact ho1.all (below_new hb2) | exact (ho1.all hb2).alloc _)).mono ?_; rintro e w3' ⟨v3', rfl, ho3, hb3⟩; have hS3 := keep_on (B := w0.heap.size) (W := w0) hb3 (by assumption) (Nat.le_refl _); obtain ⟨a3', n3', d3', rfl⟩ := ho3.slice3; replace ho3 : ownsR w3' w0.heap.size 42 (.slice a3' n3' d3') L := ho3.mono (by first | exact hS2.size | (have := hS2.size; simp; omega)); (first | (have hX3 := heap_new hb3) | (have hX3 := heap_newd hb3) | (have hX3 := heap_on hb3 hX2) | skip); (try (have hXc := cur_cells hX3; obtain ⟨x0, x1, x2, xf⟩ := hXc; have y0 := xf 0; have y1 := xf 1; have y2 := xf 2; clear xf)))))
        all_goals first | refine ⟨rfl, ⟨_, (a1', n1', d1'), a3', n3', d3'⟩, ?_, newBox_b hS3 ho3⟩ | refine ⟨rfl, ⟨_, (a1', n1', d1'), a3', n3', d3'⟩, ?_, newBox_a hS3 hX3 (Nat.le_refl _) ho3⟩ | refine ⟨rfl, ⟨_, (a1', n1', d1'), a3', n3', d3'⟩, ?_, newBox_a hS3 hX3 (hS2.size) ho3⟩ | refine ⟨rfl, ⟨_, (a1', n1', d1'), a3', n3', d3'⟩, ?_, newBox_a hS3 hX3 (hS1.size) ho3⟩
        all_goals kernel_rfl
      clear K_a0 K_a1 K_a2 K_b0 K_b1 K_b2
      rintro ⟨X1, ⟨a11, n11, d11⟩, a1, n1, d1⟩ w1 hN1
      simp only [putAll]
      dsimp only at hN1
      have ac_a_w := cell_apart c_a0_0 hN1.own
      have ac_b_w := cell_apart c_b0_0 hN1.own
      have ac_w_w := not_row29 hN1.box hN1.own
      obtain ⟨c_w0_1, c_w1_1, c_w2_1, -⟩ := cur_cells hN1.box
      have O_w_1 : Hid (ownsR w1 w.heap.size 42 (.slice a1 n1 d1) (L)) := hN1.own.mono B0.size
      have hb1 := hN1.below
      have c_a0_1 := cell_up hb1 c_a0_0
      have c_a1_1 := cell_up hb1 c_a1_0
      have c_a2_1 := cell_up hb1 c_a2_0
      have c_b0_1 := cell_up hb1 c_b0_0
      have c_b1_1 := cell_up hb1 c_b1_0
      have c_b2_1 := cell_up hb1 c_b2_0
      have B1 : Below w.heap.size w w1 := B0.trans (hb1.mono B0.size)
      clear c_a0_0 c_a1_0 c_a2_0 c_b0_0 c_b1_0 c_b2_0 B0 hb1 hN1
      go_wp2_with fail
      refine (toLog_any s t _ l _ (HR.out.below B1) HL.out).mono ?_
      rintro e w2 ⟨v2, rfl, ho2, hb2⟩
      obtain ⟨a2, n2, d2, rfl⟩ := ho2.slice3
      have ap_w_x := apart_new O_w_1.out ho2
      have ap_x_w := apart_old O_w_1.out ho2
      have ac_a_x := cell_apart c_a0_1 ho2
      have ac_b_x := cell_apart c_b0_1 ho2
      have ac_w_x := cell_apart c_w0_1 ho2
      have c_a0_2 := cell_up hb2 c_a0_1
      have c_a1_2 := cell_up hb2 c_a1_1
      have c_a2_2 := cell_up hb2 c_a2_1
      have c_b0_2 := cell_up hb2 c_b0_1
      have c_b1_2 := cell_up hb2 c_b1_1
      have c_b2_2 := cell_up hb2 c_b2_1
      have c_w0_2 := cell_up hb2 c_w0_1
      have c_w1_2 := cell_up hb2 c_w1_1
      have c_w2_2 := cell_up hb2 c_w2_1
      have O_w_2 : Hid (ownsR w2 w.heap.size 42 (.slice a1 n1 d1) (L)) := O_w_1.out.all hb2
      have B2 : Below w.heap.size w w2 := B1.trans (hb2.mono B1.size)
      have O_x_2 : Hid (ownsR w2 w.heap.size 42 (.slice a2 n2 d2) (l)) := ho2.mono B1.size
      clear c_a0_1 c_a1_1 c_a2_1 c_b0_1 c_b1_1 c_b2_1 c_w0_1 c_w1_1 c_w2_1 O_w_1 B1 hb2 ho2
      have sz_a : w.heap.size < w2.heap.size := World.block_lt_of_cell? _ _ c_a0_2
      have sz_b : w.heap.size + 1 < w2.heap.size := World.block_lt_of_cell? _ _ c_b0_2
      have sz_w : X1 < w2.heap.size := World.block_lt_of_cell? _ _ c_w0_2
      go_wp2_with fail
      obtain ⟨w3, hw3⟩ : ∃ x, (w2.alloc (Obj.cells #[.int .i64 s, .int .i64 t, .slice a2 n2 d2] 29)) = x := ⟨_, rfl⟩
      rw [hw3]
      have hb3 : Below (w2.alloc (Obj.cells #[.int .i64 s, .int .i64 t, .slice a2 n2 d2] 29)).heap.size (w2.alloc (Obj.cells #[.int .i64 s, .int .i64 t, .slice a2 n2 d2] 29)) w3 := hw3 ▸ Below.refl _ _
      obtain ⟨c_x0_3, c_x1_3, c_x2_3⟩ := cells3_new hb3
      have ac_x_w := cell_apart_new O_w_2.out
      have ac_x_x := cell_apart_new O_x_2.out
      have hb3 := below_new hb3
      have c_a0_3 := cell_up hb3 c_a0_2
      have c_a1_3 := cell_up hb3 c_a1_2
      have c_a2_3 := cell_up hb3 c_a2_2
      have c_b0_3 := cell_up hb3 c_b0_2
      have c_b1_3 := cell_up hb3 c_b1_2
      have c_b2_3 := cell_up hb3 c_b2_2
      have c_w0_3 := cell_up hb3 c_w0_2
      have c_w1_3 := cell_up hb3 c_w1_2
      have c_w2_3 := cell_up hb3 c_w2_2
      have O_w_3 : Hid (ownsR w3 w.heap.size 42 (.slice a1 n1 d1) (L)) := O_w_2.out.all hb3
      have O_x_3 : Hid (ownsR w3 w.heap.size 42 (.slice a2 n2 d2) (l)) := O_x_2.out.all hb3
      have B3 : Below w.heap.size w w3 := B2.trans (hb3.mono B2.size)
      clear c_a0_2 c_a1_2 c_a2_2 c_b0_2 c_b1_2 c_b2_2 c_w0_2 c_w1_2 c_w2_2 sz_a sz_b sz_w O_w_2 O_x_2 B2 hb3 hw3
      go_wp2_with fail
      have K_a0 := Below.cellOf (B := w3.heap.size) (W := w3) (p := ⟨w.heap.size, 0, none⟩) (v := .int .i64 s) (World.block_lt_of_cell? _ _ c_a0_3) c_a0_3
      have K_a1 := Below.cellOf (B := w3.heap.size) (W := w3) (p := ⟨w.heap.size, 1, none⟩) (v := .int .i64 t) (World.block_lt_of_cell? _ _ c_a1_3) c_a1_3
      have K_a2 := Below.cellOf (B := w3.heap.size) (W := w3) (p := ⟨w.heap.size, 2, none⟩) (v := .slice ao n cap) (World.block_lt_of_cell? _ _ c_a2_3) c_a2_3
      have K_b0 := Below.cellOf (B := w3.heap.size) (W := w3) (p := ⟨w.heap.size + 1, 0, none⟩) (v := .int .i64 tm) (World.block_lt_of_cell? _ _ c_b0_3) c_b0_3
      have K_b1 := Below.cellOf (B := w3.heap.size) (W := w3) (p := ⟨w.heap.size + 1, 1, none⟩) (v := .int .i64 kd) (World.block_lt_of_cell? _ _ c_b1_3) c_b1_3
      have K_b2 := Below.cellOf (B := w3.heap.size) (W := w3) (p := ⟨w.heap.size + 1, 2, none⟩) (v := .string d) (World.block_lt_of_cell? _ _ c_b2_3) c_b2_3
      have K_x0 := Below.cellOf (B := w3.heap.size) (W := w3) (p := ⟨w2.heap.size, 0, none⟩) (v := .int .i64 s) (World.block_lt_of_cell? _ _ c_x0_3) c_x0_3
      have K_x1 := Below.cellOf (B := w3.heap.size) (W := w3) (p := ⟨w2.heap.size, 1, none⟩) (v := .int .i64 t) (World.block_lt_of_cell? _ _ c_x1_3) c_x1_3
      have K_x2 := Below.cellOf (B := w3.heap.size) (W := w3) (p := ⟨w2.heap.size, 2, none⟩) (v := .slice a2 n2 d2) (World.block_lt_of_cell? _ _ c_x2_3) c_x2_3
      refine wp_puts (α := Nat × (Option Addr × Nat × Nat) × Option Addr × Nat × Nat) (fun x => [(40, .agg #[.int .i64 s, .int .i64 t, .slice a2 n2 d2]), (41, .int .i64 i), (42, .agg #[.int .i64 tm, .int .i64 kd, .string d]), (43, .agg #[.int .i64 tm, .int .i64 kd, .string d]), (44, .tuple #[.agg #[.int .i64 ps, .int .i64 pt, .slice x.2.2.1 x.2.2.2.1 x.2.2.2.2], .bool z]), (39, .tuple #[.agg #[.int .i64 ps, .int .i64 pt, .slice x.2.2.1 x.2.2.2.1 x.2.2.2.2], .bool z]), (45, .agg #[.int .i64 ps, .int .i64 pt, .slice x.2.2.1 x.2.2.2.1 x.2.2.2.2]), (46, .bool z), (11, .pointer (some ⟨x.1, 0, none⟩)), (12, .bool z)]) (fun x w' => NewBox w3 w' x.1 ps pt (.slice x.2.2.1 x.2.2.2.1 x.2.2.2.2) L) ?_ ?_
      · go_region_held3 (fun w' => Below w3.heap.size w3 w') ((first | exact (Below.refl _ _).drew | exact hS3 | exact hS2 | exact Below.alloc (by assumption) (Below.size (by assumption)) _ | (refine Below.setCell (Below.setCell (Below.setCell hS3 ?_ _) ?_ _) ?_ _ <;> first | exact Nat.le_refl _ | exact hS2.size))) ((first | (go_at_call 20; refine (toEntry_any tm kd d _).mono ?_; rintro e w2' ⟨rfl, hb2⟩; have hS2 := keep_on (B := w3.heap.size) (W := w3) hb2 (by assumption) (Nat.le_refl _); (first | (have hX2 := heap_new hb2) | (have hX2 := heap_newd hb2) | skip)) | (go_at_call 21; refine (CI.out _ _ _ (by first | exact O_x_3.out.all hS2 | exact (O_x_3.out.all hS2).alloc _)).mono ?_; rintro e w3' ⟨v3', rfl, ho3, hb3⟩; have hS3 := keep_on (B := w3.heap.size) (W := w3) hb3 (by assumption) (Nat.le_refl _); obtain ⟨a3', n3', d3', rfl⟩ := ho3.slice3; replace ho3 : ownsR w3' w3.heap.size 42 (.slice a3' n3' d3') L := ho3.mono (by first | exact hS2.size | (have := hS2.size; simp; omega)); (first | (have hX3 := heap_new hb3) | (have hX3 := heap_newd hb3) | (have hX3 := heap_on hb3 hX2) | skip); (try (have hXc := cur_cells hX3; obtain ⟨x0, x1, x2, xf⟩ := hXc; have y0 := xf 0; have y1 := xf 1; have y2 := xf 2; clear xf)))))
        all_goals first | refine ⟨rfl, ⟨_, (none, 0, 0), a3', n3', d3'⟩, ?_, newBox_b hS3 ho3⟩ | refine ⟨rfl, ⟨_, (none, 0, 0), a3', n3', d3'⟩, ?_, newBox_a hS3 hX3 (Nat.le_refl _) ho3⟩ | refine ⟨rfl, ⟨_, (none, 0, 0), a3', n3', d3'⟩, ?_, newBox_a hS3 hX3 (hS2.size) ho3⟩
        all_goals kernel_rfl
      clear K_a0 K_a1 K_a2 K_b0 K_b1 K_b2 K_x0 K_x1 K_x2
      rintro ⟨X4, ⟨a14, n14, d14⟩, a4, n4, d4⟩ w4 hN4
      simp only [putAll]
      dsimp only at hN4
      have ap_w_g := apart_new O_w_3.out hN4.own
      have ap_g_w := apart_old O_w_3.out hN4.own
      have ac_g_w : some X4 ≠ Value.ownBlock (.slice a1 n1 d1) := fun e => by have := (O_w_3.out.lt _ e.symm).2; have := hN4.old; omega
      have ap_x_g := apart_new O_x_3.out hN4.own
      have ap_g_x := apart_old O_x_3.out hN4.own
      have ac_g_x : some X4 ≠ Value.ownBlock (.slice a2 n2 d2) := fun e => by have := (O_x_3.out.lt _ e.symm).2; have := hN4.old; omega
      have ac_a_g := cell_apart c_a0_3 hN4.own
      have ac_b_g := cell_apart c_b0_3 hN4.own
      have ac_w_g := cell_apart c_w0_3 hN4.own
      have ac_x_g := cell_apart c_x0_3 hN4.own
      have ac_g_g := not_row29 hN4.box hN4.own
      obtain ⟨c_g0_4, c_g1_4, c_g2_4, -⟩ := cur_cells hN4.box
      have O_g_4 : Hid (ownsR w4 w.heap.size 42 (.slice a4 n4 d4) (L)) := hN4.own.mono B3.size
      have hb4 := hN4.below
      have c_a0_4 := cell_up hb4 c_a0_3
      have c_a1_4 := cell_up hb4 c_a1_3
      have c_a2_4 := cell_up hb4 c_a2_3
      have c_b0_4 := cell_up hb4 c_b0_3
      have c_b1_4 := cell_up hb4 c_b1_3
      have c_b2_4 := cell_up hb4 c_b2_3
      have c_w0_4 := cell_up hb4 c_w0_3
      have c_w1_4 := cell_up hb4 c_w1_3
      have c_w2_4 := cell_up hb4 c_w2_3
      have c_x0_4 := cell_up hb4 c_x0_3
      have c_x1_4 := cell_up hb4 c_x1_3
      have c_x2_4 := cell_up hb4 c_x2_3
      have O_w_4 : Hid (ownsR w4 w.heap.size 42 (.slice a1 n1 d1) (L)) := O_w_3.out.all hb4
      have O_x_4 : Hid (ownsR w4 w.heap.size 42 (.slice a2 n2 d2) (l)) := O_x_3.out.all hb4
      have B4 : Below w.heap.size w w4 := B3.trans (hb4.mono B3.size)
      clear c_a0_3 c_a1_3 c_a2_3 c_b0_3 c_b1_3 c_b2_3 c_w0_3 c_w1_3 c_w2_3 c_x0_3 c_x1_3 c_x2_3 O_w_3 O_x_3 B3 hb4 hN4
      go_wp2_with fail
      refine (eqLog_any ps pt _ _ L _ (ownsR.reads O_g_4.out) (ownsR.reads O_w_4.out) HO.out).mono ?_
      rintro e w5 ⟨rfl, hb5⟩
      have c_a0_5 := cell_up hb5 c_a0_4
      have c_a1_5 := cell_up hb5 c_a1_4
      have c_a2_5 := cell_up hb5 c_a2_4
      have c_b0_5 := cell_up hb5 c_b0_4
      have c_b1_5 := cell_up hb5 c_b1_4
      have c_b2_5 := cell_up hb5 c_b2_4
      have c_w0_5 := cell_up hb5 c_w0_4
      have c_w1_5 := cell_up hb5 c_w1_4
      have c_w2_5 := cell_up hb5 c_w2_4
      have c_x0_5 := cell_up hb5 c_x0_4
      have c_x1_5 := cell_up hb5 c_x1_4
      have c_x2_5 := cell_up hb5 c_x2_4
      have c_g0_5 := cell_up hb5 c_g0_4
      have c_g1_5 := cell_up hb5 c_g1_4
      have c_g2_5 := cell_up hb5 c_g2_4
      have O_w_5 : Hid (ownsR w5 w.heap.size 42 (.slice a1 n1 d1) (L)) := O_w_4.out.all hb5
      have O_x_5 : Hid (ownsR w5 w.heap.size 42 (.slice a2 n2 d2) (l)) := O_x_4.out.all hb5
      have O_g_5 : Hid (ownsR w5 w.heap.size 42 (.slice a4 n4 d4) (L)) := O_g_4.out.all hb5
      have B5 : Below w.heap.size w w5 := B4.trans (hb5.mono B4.size)
      clear c_a0_4 c_a1_4 c_a2_4 c_b0_4 c_b1_4 c_b2_4 c_w0_4 c_w1_4 c_w2_4 c_x0_4 c_x1_4 c_x2_4 c_g0_4 c_g1_4 c_g2_4 O_w_4 O_x_4 O_g_4 B4 hb5
      have K_x0 := Below.cellOf (B := w5.heap.size) (W := w5) (p := ⟨w2.heap.size, 0, none⟩) (v := .int .i64 s) (World.block_lt_of_cell? _ _ c_x0_5) c_x0_5
      have K_x1 := Below.cellOf (B := w5.heap.size) (W := w5) (p := ⟨w2.heap.size, 1, none⟩) (v := .int .i64 t) (World.block_lt_of_cell? _ _ c_x1_5) c_x1_5
      have K_x2 := Below.cellOf (B := w5.heap.size) (W := w5) (p := ⟨w2.heap.size, 2, none⟩) (v := .slice a2 n2 d2) (World.block_lt_of_cell? _ _ c_x2_5) c_x2_5
      have K_a0 := Below.cellOf (B := w5.heap.size) (W := w5) (p := ⟨w.heap.size, 0, none⟩) (v := .int .i64 s) (World.block_lt_of_cell? _ _ c_a0_5) c_a0_5
      have K_a1 := Below.cellOf (B := w5.heap.size) (W := w5) (p := ⟨w.heap.size, 1, none⟩) (v := .int .i64 t) (World.block_lt_of_cell? _ _ c_a1_5) c_a1_5
      have K_a2 := Below.cellOf (B := w5.heap.size) (W := w5) (p := ⟨w.heap.size, 2, none⟩) (v := .slice ao n cap) (World.block_lt_of_cell? _ _ c_a2_5) c_a2_5
      go_wp2_with fail
      go_region_held3 (fun w' => Below w5.heap.size w5 w') ((first | exact (Below.refl _ _).drew | exact hS6 | exact hS7)) ((first | (go_at_call 11; refine (toLog_any s t _ l _ (HR.out.below (Below.on B5 (by assumption))) HL.out).mono ?_; rintro e w6 ⟨v6, rfl, ho6, hb6⟩; obtain ⟨a6, n6, d6, rfl⟩ := ho6.slice3; have hS6 := keep_on (B := w5.heap.size) (W := w5) hb6 (by assumption) (Nat.le_refl _)) | (go_at_call 13; refine (eqLog_any s t _ _ l _ ((ownsR.reads O_x_5.out).below hS6) ho6.reads (Nat.le_trans HL.out (by decide))).mono ?_; rintro e w7 ⟨rfl, hb7⟩; have hS7 := keep_on (B := w5.heap.size) (W := w5) hb7 hS6 (Nat.le_refl _))))
      clear ho6 hb6 hb7 hS6 K_x0 K_x1 K_x2 K_a0 K_a1 K_a2
      have c_a0_7 := cell_up hS7 c_a0_5
      have c_a1_7 := cell_up hS7 c_a1_5
      have c_a2_7 := cell_up hS7 c_a2_5
      have c_b0_7 := cell_up hS7 c_b0_5
      have c_b1_7 := cell_up hS7 c_b1_5
      have c_b2_7 := cell_up hS7 c_b2_5
      have c_w0_7 := cell_up hS7 c_w0_5
      have c_w1_7 := cell_up hS7 c_w1_5
      have c_w2_7 := cell_up hS7 c_w2_5
      have c_x0_7 := cell_up hS7 c_x0_5
      have c_x1_7 := cell_up hS7 c_x1_5
      have c_x2_7 := cell_up hS7 c_x2_5
      have c_g0_7 := cell_up hS7 c_g0_5
      have c_g1_7 := cell_up hS7 c_g1_5
      have c_g2_7 := cell_up hS7 c_g2_5
      have O_w_7 : Hid (ownsR w7 w.heap.size 42 (.slice a1 n1 d1) (L)) := O_w_5.out.all hS7
      have O_x_7 : Hid (ownsR w7 w.heap.size 42 (.slice a2 n2 d2) (l)) := O_x_5.out.all hS7
      have O_g_7 : Hid (ownsR w7 w.heap.size 42 (.slice a4 n4 d4) (L)) := O_g_5.out.all hS7
      have B7 : Below w.heap.size w w7 := B5.trans (hS7.mono B5.size)
      clear c_a0_5 c_a1_5 c_a2_5 c_b0_5 c_b1_5 c_b2_5 c_w0_5 c_w1_5 c_w2_5 c_x0_5 c_x1_5 c_x2_5 c_g0_5 c_g1_5 c_g2_5 O_w_5 O_x_5 O_g_5 B5 hS7
      go_wp2_with fail
      refine (markLog_any (s := s) (t := t) (x := 1) O_x_7.out (Nat.le_trans HL.out (by decide)) (by decide) (by decide)).mono ?_
      rintro e w8 ⟨rfl, hm8, hg8⟩
      have c_a0_8 := cell_other c_a0_7 hg8 ac_a_x
      have c_a1_8 := cell_other c_a1_7 hg8 ac_a_x
      have c_a2_8 := cell_other c_a2_7 hg8 ac_a_x
      have c_b0_8 := cell_other c_b0_7 hg8 ac_b_x
      have c_b1_8 := cell_other c_b1_7 hg8 ac_b_x
      have c_b2_8 := cell_other c_b2_7 hg8 ac_b_x
      have c_w0_8 := cell_other c_w0_7 hg8 ac_w_x
      have c_w1_8 := cell_other c_w1_7 hg8 ac_w_x
      have c_w2_8 := cell_other c_w2_7 hg8 ac_w_x
      have c_x0_8 := cell_other c_x0_7 hg8 ac_x_x
      have c_x1_8 := cell_other c_x1_7 hg8 ac_x_x
      have c_x2_8 := cell_other c_x2_7 hg8 ac_x_x
      have c_g0_8 := cell_other c_g0_7 hg8 ac_g_x
      have c_g1_8 := cell_other c_g1_7 hg8 ac_g_x
      have c_g2_8 := cell_other c_g2_7 hg8 ac_g_x
      have O_w_8 : Hid (ownsR w8 w.heap.size 42 (.slice a1 n1 d1) (L)) := O_w_7.out.other hg8 ap_w_x
      have O_g_8 : Hid (ownsR w8 w.heap.size 42 (.slice a4 n4 d4) (L)) := O_g_7.out.other hg8 ap_g_x
      have B8 : Below w.heap.size w w8 := below_marked B7 O_x_7.out hg8
      have O_x_8 : Hid (ownsR w8 w.heap.size 42 (.slice a2 n2 d2) (marksEn 1 l.length)) := hm8
      clear c_a0_7 c_a1_7 c_a2_7 c_b0_7 c_b1_7 c_b2_7 c_w0_7 c_w1_7 c_w2_7 c_x0_7 c_x1_7 c_x2_7 c_g0_7 c_g1_7 c_g2_7 O_w_7 O_g_7 B7 hm8 O_x_7 hg8
      go_wp2_with fail
      refine (eqLog_any ps pt _ _ L _ (ownsR.reads O_g_8.out) (ownsR.reads O_w_8.out) HO.out).mono ?_
      rintro e w9 ⟨rfl, hb9⟩
      have c_a0_9 := cell_up hb9 c_a0_8
      have c_a1_9 := cell_up hb9 c_a1_8
      have c_a2_9 := cell_up hb9 c_a2_8
      have c_b0_9 := cell_up hb9 c_b0_8
      have c_b1_9 := cell_up hb9 c_b1_8
      have c_b2_9 := cell_up hb9 c_b2_8
      have c_w0_9 := cell_up hb9 c_w0_8
      have c_w1_9 := cell_up hb9 c_w1_8
      have c_w2_9 := cell_up hb9 c_w2_8
      have c_x0_9 := cell_up hb9 c_x0_8
      have c_x1_9 := cell_up hb9 c_x1_8
      have c_x2_9 := cell_up hb9 c_x2_8
      have c_g0_9 := cell_up hb9 c_g0_8
      have c_g1_9 := cell_up hb9 c_g1_8
      have c_g2_9 := cell_up hb9 c_g2_8
      have O_w_9 : Hid (ownsR w9 w.heap.size 42 (.slice a1 n1 d1) (L)) := O_w_8.out.all hb9
      have O_g_9 : Hid (ownsR w9 w.heap.size 42 (.slice a4 n4 d4) (L)) := O_g_8.out.all hb9
      have B9 : Below w.heap.size w w9 := B8.trans (hb9.mono B8.size)
      clear c_a0_8 c_a1_8 c_a2_8 c_b0_8 c_b1_8 c_b2_8 c_w0_8 c_w1_8 c_w2_8 c_x0_8 c_x1_8 c_x2_8 c_g0_8 c_g1_8 c_g2_8 O_w_8 O_g_8 B8 hb9
      go_wp2_with fail
      refine (markLog_any (s := ps) (t := pt) (x := 1) O_g_9.out HO.out (by decide) (by decide)).mono ?_
      rintro e w10 ⟨rfl, hm10, hg10⟩
      have c_a0_10 := cell_other c_a0_9 hg10 ac_a_g
      have c_a1_10 := cell_other c_a1_9 hg10 ac_a_g
      have c_a2_10 := cell_other c_a2_9 hg10 ac_a_g
      have c_b0_10 := cell_other c_b0_9 hg10 ac_b_g
      have c_b1_10 := cell_other c_b1_9 hg10 ac_b_g
      have c_b2_10 := cell_other c_b2_9 hg10 ac_b_g
      have c_w0_10 := cell_other c_w0_9 hg10 ac_w_g
      have c_w1_10 := cell_other c_w1_9 hg10 ac_w_g
      have c_w2_10 := cell_other c_w2_9 hg10 ac_w_g
      have c_x0_10 := cell_other c_x0_9 hg10 ac_x_g
      have c_x1_10 := cell_other c_x1_9 hg10 ac_x_g
      have c_x2_10 := cell_other c_x2_9 hg10 ac_x_g
      have c_g0_10 := cell_other c_g0_9 hg10 ac_g_g
      have c_g1_10 := cell_other c_g1_9 hg10 ac_g_g
      have c_g2_10 := cell_other c_g2_9 hg10 ac_g_g
      have O_w_10 : Hid (ownsR w10 w.heap.size 42 (.slice a1 n1 d1) (L)) := O_w_9.out.other hg10 ap_w_g
      have B10 : Below w.heap.size w w10 := below_marked B9 O_g_9.out hg10
      have O_g_10 : Hid (ownsR w10 w.heap.size 42 (.slice a4 n4 d4) (marksEn 1 L.length)) := hm10
      clear c_a0_9 c_a1_9 c_a2_9 c_b0_9 c_b1_9 c_b2_9 c_w0_9 c_w1_9 c_w2_9 c_x0_9 c_x1_9 c_x2_9 c_g0_9 c_g1_9 c_g2_9 O_w_9 B9 hm10 O_g_9 hg10
      go_wp2_with fail
      refine (heldLog_any (s := ps) (t := pt) (x := 1) (ownsR.reads O_g_10.out) HO.out (by decide) (by decide)).mono ?_
      rintro e w11 ⟨rfl, hb11⟩
      have c_a0_11 := cell_up hb11 c_a0_10
      have c_a1_11 := cell_up hb11 c_a1_10
      have c_a2_11 := cell_up hb11 c_a2_10
      have c_b0_11 := cell_up hb11 c_b0_10
      have c_b1_11 := cell_up hb11 c_b1_10
      have c_b2_11 := cell_up hb11 c_b2_10
      have c_w0_11 := cell_up hb11 c_w0_10
      have c_w1_11 := cell_up hb11 c_w1_10
      have c_w2_11 := cell_up hb11 c_w2_10
      have c_x0_11 := cell_up hb11 c_x0_10
      have c_x1_11 := cell_up hb11 c_x1_10
      have c_x2_11 := cell_up hb11 c_x2_10
      have c_g0_11 := cell_up hb11 c_g0_10
      have c_g1_11 := cell_up hb11 c_g1_10
      have c_g2_11 := cell_up hb11 c_g2_10
      have O_w_11 : Hid (ownsR w11 w.heap.size 42 (.slice a1 n1 d1) (L)) := O_w_10.out.all hb11
      have O_g_11 : Hid (ownsR w11 w.heap.size 42 (.slice a4 n4 d4) (marksEn 1 L.length)) := O_g_10.out.all hb11
      have B11 : Below w.heap.size w w11 := B10.trans (hb11.mono B10.size)
      clear c_a0_10 c_a1_10 c_a2_10 c_b0_10 c_b1_10 c_b2_10 c_w0_10 c_w1_10 c_w2_10 c_x0_10 c_x1_10 c_x2_10 c_g0_10 c_g1_10 c_g2_10 O_w_10 O_g_10 B10 hb11
      go_wp2_with fail
      have K_a0 := Below.cellOf (B := w11.heap.size) (W := w11) (p := ⟨w.heap.size, 0, none⟩) (v := .int .i64 s) (World.block_lt_of_cell? _ _ c_a0_11) c_a0_11
      have K_a1 := Below.cellOf (B := w11.heap.size) (W := w11) (p := ⟨w.heap.size, 1, none⟩) (v := .int .i64 t) (World.block_lt_of_cell? _ _ c_a1_11) c_a1_11
      have K_a2 := Below.cellOf (B := w11.heap.size) (W := w11) (p := ⟨w.heap.size, 2, none⟩) (v := .slice ao n cap) (World.block_lt_of_cell? _ _ c_a2_11) c_a2_11
      have K_b0 := Below.cellOf (B := w11.heap.size) (W := w11) (p := ⟨w.heap.size + 1, 0, none⟩) (v := .int .i64 tm) (World.block_lt_of_cell? _ _ c_b0_11) c_b0_11
      have K_b1 := Below.cellOf (B := w11.heap.size) (W := w11) (p := ⟨w.heap.size + 1, 1, none⟩) (v := .int .i64 kd) (World.block_lt_of_cell? _ _ c_b1_11) c_b1_11
      have K_b2 := Below.cellOf (B := w11.heap.size) (W := w11) (p := ⟨w.heap.size + 1, 2, none⟩) (v := .string d) (World.block_lt_of_cell? _ _ c_b2_11) c_b2_11
      refine wp_puts (α := Nat × (Option Addr × Nat × Nat) × Option Addr × Nat × Nat) (fun x => [(89, .agg #[.int .i64 s, .int .i64 t, .slice ao n cap]), (91, .int .i64 i), (92, .agg #[.int .i64 tm, .int .i64 kd, .string d]), (90, .agg #[.int .i64 s, .int .i64 t, .slice x.2.1.1 x.2.1.2.1 x.2.1.2.2]), (93, .agg #[.int .i64 tm, .int .i64 kd, .string d]), (94, .tuple #[.agg #[.int .i64 ps, .int .i64 pt, .slice x.2.2.1 x.2.2.2.1 x.2.2.2.2], .bool z]), (88, .tuple #[.agg #[.int .i64 ps, .int .i64 pt, .slice x.2.2.1 x.2.2.2.1 x.2.2.2.2], .bool z]), (95, .agg #[.int .i64 ps, .int .i64 pt, .slice x.2.2.1 x.2.2.2.1 x.2.2.2.2]), (96, .bool z), (16, .pointer (some ⟨x.1, 0, none⟩)), (17, .bool z)]) (fun x w' => NewBox w11 w' x.1 ps pt (.slice x.2.2.1 x.2.2.2.1 x.2.2.2.2) L) ?_ ?_
      · go_region_held3 (fun w' => Below w11.heap.size w11 w') ((first | exact (Below.refl _ _).drew | exact hS3 | exact hS2 | exact hS1 | exact Below.alloc (by assumption) (Below.size (by assumption)) _ | (refine Below.setCell (Below.setCell (Below.setCell hS3 ?_ _) ?_ _) ?_ _ <;> first | exact Nat.le_refl _ | exact hS2.size | exact hS1.size))) ((first | (go_at_call 11; refine (toLog_any s t _ l _ (HR.out.below (Below.on B11 (by assumption))) HL.out).mono ?_; rintro e w1' ⟨v1', rfl, ho1, hb1⟩; have hS1 := keep_on (B := w11.heap.size) (W := w11) hb1 (by assumption) (Nat.le_refl _); obtain ⟨a1', n1', d1', rfl⟩ := ho1.slice3; (first | (have hX1 := heap_new hb1) | (have hX1 := heap_newd hb1) | skip)) | (go_at_call 20; refine (toEntry_any tm kd d _).mono ?_; rintro e w2' ⟨rfl, hb2⟩; have hS2 := keep_on (B := w11.heap.size) (W := w11) hb2 (by assumption) (Nat.le_refl _); (first | (have hX2 := heap_new hb2) | (have hX2 := heap_newd hb2) | (have hX2 := heap_on hb2 hX1) | skip)) | (go_at_call 21; refine (CI.out _ _ _ (by first | exact ho1.all hb2 | exact ho1.all (below_new hb2) | exact (ho1.all hb2).alloc _)).mono ?_; rintro e w3' ⟨v3', rfl, ho3, hb3⟩; have hS3 := keep_on (B := w11.heap.size) (W := w11) hb3 (by assumption) (Nat.le_refl _); obtain ⟨a3', n3', d3', rfl⟩ := ho3.slice3; replace ho3 : ownsR w3' w11.heap.size 42 (.slice a3' n3' d3') L := ho3.mono (by first | exact hS2.size | (have := hS2.size; simp; omega)); (first | (have hX3 := heap_new hb3) | (have hX3 := heap_newd hb3) | (have hX3 := heap_on hb3 hX2) | skip); (try (have hXc := cur_cells hX3; obtain ⟨x0, x1, x2, xf⟩ := hXc; have y0 := xf 0; have y1 := xf 1; have y2 := xf 2; clear xf)))))
        all_goals first | refine ⟨rfl, ⟨_, (a1', n1', d1'), a3', n3', d3'⟩, ?_, newBox_b hS3 ho3⟩ | refine ⟨rfl, ⟨_, (a1', n1', d1'), a3', n3', d3'⟩, ?_, newBox_a hS3 hX3 (Nat.le_refl _) ho3⟩ | refine ⟨rfl, ⟨_, (a1', n1', d1'), a3', n3', d3'⟩, ?_, newBox_a hS3 hX3 (hS2.size) ho3⟩ | refine ⟨rfl, ⟨_, (a1', n1', d1'), a3', n3', d3'⟩, ?_, newBox_a hS3 hX3 (hS1.size) ho3⟩
        all_goals kernel_rfl
      clear K_a0 K_a1 K_a2 K_b0 K_b1 K_b2
      rintro ⟨X12, ⟨a112, n112, d112⟩, a12, n12, d12⟩ w12 hN12
      simp only [putAll]
      dsimp only at hN12
      have ap_w_h := apart_new O_w_11.out hN12.own
      have ap_h_w := apart_old O_w_11.out hN12.own
      have ac_h_w : some X12 ≠ Value.ownBlock (.slice a1 n1 d1) := fun e => by have := (O_w_11.out.lt _ e.symm).2; have := hN12.old; omega
      have ap_g_h := apart_new O_g_11.out hN12.own
      have ap_h_g := apart_old O_g_11.out hN12.own
      have ac_h_g : some X12 ≠ Value.ownBlock (.slice a4 n4 d4) := fun e => by have := (O_g_11.out.lt _ e.symm).2; have := hN12.old; omega
      have ac_a_h := cell_apart c_a0_11 hN12.own
      have ac_b_h := cell_apart c_b0_11 hN12.own
      have ac_w_h := cell_apart c_w0_11 hN12.own
      have ac_x_h := cell_apart c_x0_11 hN12.own
      have ac_g_h := cell_apart c_g0_11 hN12.own
      have ac_h_h := not_row29 hN12.box hN12.own
      obtain ⟨c_h0_12, c_h1_12, c_h2_12, -⟩ := cur_cells hN12.box
      have O_h_12 : Hid (ownsR w12 w.heap.size 42 (.slice a12 n12 d12) (L)) := hN12.own.mono B11.size
      have hb12 := hN12.below
      have c_a0_12 := cell_up hb12 c_a0_11
      have c_a1_12 := cell_up hb12 c_a1_11
      have c_a2_12 := cell_up hb12 c_a2_11
      have c_b0_12 := cell_up hb12 c_b0_11
      have c_b1_12 := cell_up hb12 c_b1_11
      have c_b2_12 := cell_up hb12 c_b2_11
      have c_w0_12 := cell_up hb12 c_w0_11
      have c_w1_12 := cell_up hb12 c_w1_11
      have c_w2_12 := cell_up hb12 c_w2_11
      have c_x0_12 := cell_up hb12 c_x0_11
      have c_x1_12 := cell_up hb12 c_x1_11
      have c_x2_12 := cell_up hb12 c_x2_11
      have c_g0_12 := cell_up hb12 c_g0_11
      have c_g1_12 := cell_up hb12 c_g1_11
      have c_g2_12 := cell_up hb12 c_g2_11
      have O_w_12 : Hid (ownsR w12 w.heap.size 42 (.slice a1 n1 d1) (L)) := O_w_11.out.all hb12
      have O_g_12 : Hid (ownsR w12 w.heap.size 42 (.slice a4 n4 d4) (marksEn 1 L.length)) := O_g_11.out.all hb12
      have B12 : Below w.heap.size w w12 := B11.trans (hb12.mono B11.size)
      clear c_a0_11 c_a1_11 c_a2_11 c_b0_11 c_b1_11 c_b2_11 c_w0_11 c_w1_11 c_w2_11 c_x0_11 c_x1_11 c_x2_11 c_g0_11 c_g1_11 c_g2_11 O_w_11 O_g_11 B11 hb12 hN12
      go_wp2_with fail
      refine (eqLog_any ps pt _ _ L _ (ownsR.reads O_h_12.out) (ownsR.reads O_w_12.out) HO.out).mono ?_
      rintro e w13 ⟨rfl, hb13⟩
      have c_a0_13 := cell_up hb13 c_a0_12
      have c_a1_13 := cell_up hb13 c_a1_12
      have c_a2_13 := cell_up hb13 c_a2_12
      have c_b0_13 := cell_up hb13 c_b0_12
      have c_b1_13 := cell_up hb13 c_b1_12
      have c_b2_13 := cell_up hb13 c_b2_12
      have c_w0_13 := cell_up hb13 c_w0_12
      have c_w1_13 := cell_up hb13 c_w1_12
      have c_w2_13 := cell_up hb13 c_w2_12
      have c_x0_13 := cell_up hb13 c_x0_12
      have c_x1_13 := cell_up hb13 c_x1_12
      have c_x2_13 := cell_up hb13 c_x2_12
      have c_g0_13 := cell_up hb13 c_g0_12
      have c_g1_13 := cell_up hb13 c_g1_12
      have c_g2_13 := cell_up hb13 c_g2_12
      have c_h0_13 := cell_up hb13 c_h0_12
      have c_h1_13 := cell_up hb13 c_h1_12
      have c_h2_13 := cell_up hb13 c_h2_12
      have O_w_13 : Hid (ownsR w13 w.heap.size 42 (.slice a1 n1 d1) (L)) := O_w_12.out.all hb13
      have O_g_13 : Hid (ownsR w13 w.heap.size 42 (.slice a4 n4 d4) (marksEn 1 L.length)) := O_g_12.out.all hb13
      have O_h_13 : Hid (ownsR w13 w.heap.size 42 (.slice a12 n12 d12) (L)) := O_h_12.out.all hb13
      have B13 : Below w.heap.size w w13 := B12.trans (hb13.mono B12.size)
      clear c_a0_12 c_a1_12 c_a2_12 c_b0_12 c_b1_12 c_b2_12 c_w0_12 c_w1_12 c_w2_12 c_x0_12 c_x1_12 c_x2_12 c_g0_12 c_g1_12 c_g2_12 c_h0_12 c_h1_12 c_h2_12 O_w_12 O_g_12 O_h_12 B12 hb13
      go_wp2_with fail
      refine (heldLog_any (s := ps) (t := pt) (x := 1) (ownsR.reads O_g_13.out) HO.out (by decide) (by decide)).mono ?_
      rintro e w14 ⟨rfl, hb14⟩
      have c_a0_14 := cell_up hb14 c_a0_13
      have c_a1_14 := cell_up hb14 c_a1_13
      have c_a2_14 := cell_up hb14 c_a2_13
      have c_b0_14 := cell_up hb14 c_b0_13
      have c_b1_14 := cell_up hb14 c_b1_13
      have c_b2_14 := cell_up hb14 c_b2_13
      have c_w0_14 := cell_up hb14 c_w0_13
      have c_w1_14 := cell_up hb14 c_w1_13
      have c_w2_14 := cell_up hb14 c_w2_13
      have c_x0_14 := cell_up hb14 c_x0_13
      have c_x1_14 := cell_up hb14 c_x1_13
      have c_x2_14 := cell_up hb14 c_x2_13
      have c_g0_14 := cell_up hb14 c_g0_13
      have c_g1_14 := cell_up hb14 c_g1_13
      have c_g2_14 := cell_up hb14 c_g2_13
      have c_h0_14 := cell_up hb14 c_h0_13
      have c_h1_14 := cell_up hb14 c_h1_13
      have c_h2_14 := cell_up hb14 c_h2_13
      have O_w_14 : Hid (ownsR w14 w.heap.size 42 (.slice a1 n1 d1) (L)) := O_w_13.out.all hb14
      have O_g_14 : Hid (ownsR w14 w.heap.size 42 (.slice a4 n4 d4) (marksEn 1 L.length)) := O_g_13.out.all hb14
      have O_h_14 : Hid (ownsR w14 w.heap.size 42 (.slice a12 n12 d12) (L)) := O_h_13.out.all hb14
      have B14 : Below w.heap.size w w14 := B13.trans (hb14.mono B13.size)
      clear c_a0_13 c_a1_13 c_a2_13 c_b0_13 c_b1_13 c_b2_13 c_w0_13 c_w1_13 c_w2_13 c_x0_13 c_x1_13 c_x2_13 c_g0_13 c_g1_13 c_g2_13 c_h0_13 c_h1_13 c_h2_13 O_w_13 O_g_13 O_h_13 B13 hb14
      go_wp2
      go_ret
      exact ⟨rfl, B14⟩
end Go.Proofs.Ytnapjkpkhdbalaa
