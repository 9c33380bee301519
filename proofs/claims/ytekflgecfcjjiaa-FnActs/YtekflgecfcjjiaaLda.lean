/-
  The law on an act: the walk.
-/
import Derived.Test.YtekflgecfcjjiaaAh
import Derived.Test.YtekflgecfcjjiaaLld
import Derived.Test.YtekflgecfcjjiaaPt
import Derived.Deep.RegionHeld3
namespace Go.Proofs.Ytekflgecfcjjiaa
open Go Go.RowKit

theorem frozen_new {w w' : World} {v : Value} {t : TypeId} (hb : Below (w.alloc (.cells #[v] t)).heap.size (w.alloc (.cells #[v] t)) w') : w'.frozen? ⟨w.heap.size, 0, none⟩ = false := (hb.frozen (by simp)).trans (by simp [go_sem])
theorem frozen_up {w w' : World} {p : Addr} {v : Value} {b : Bool} (hb : Below w.heap.size w w') (h : w.cell? p = some v) (hf : w.frozen? p = b) : w'.frozen? p = b := (hb.frozen (World.block_lt_of_cell? w p h)).trans hf

theorem actO_length (l : List Fl) (a : Ac) : ((actL l a).getD []).length ≤ 30 := by
  cases h : actL l a with
  | none => simp
  | some o => exact (diskR_iff.1 (actL_diskR h)).1

set_option maxRecDepth 10000 in
set_option maxHeartbeats 4000000 in
theorem law_DoAct (ao : Option Addr) (n cap : Nat) (l : List Fl) (kind : Int) (nm tx to : ByteArray) (w : World) (hr : Reads w (.slice ao n cap) l) (hs : Small l) (hn : n ≤ 9223372036854775807) (h1 : nm.size ≤ 9223372036854775807) (h2 : tx.size ≤ 9223372036854775807) (h3 : to.size ≤ 9223372036854775807) :
    Calls Try.prog 7 #[.agg #[.slice ao n cap], .agg #[.int .i64 kind, .string nm, .string tx, .string to]] w fun e w' => e = .returned (.bool true) ∧ Below w.heap.size w w' := by
  have HR : Hid (Reads w (.slice ao n cap) l) := hr
  have HN : Hid (n = l.length) := hr.len
  have HS : Hid (Small l) := hs
  clear hr hs
  go_enter Try.func7, Try.ntmps7
  go_wp2_with fail
  refine (szDisk_any _ l _ _ ((HR.out.alloc _).alloc _) HS.out (by decide) (by decide) (by rw [← HN.out]; exact hn)).mono ?_
  rintro e wz ⟨r, rfl, hr, hbz⟩
  have BZ : Below w.heap.size w wz := (ba (ba (Below.refl _ _) _) _).trans (hbz.mono (by simp; omega))
  rcases hr with rfl | ⟨hr0, hr1⟩
  · go_wp2
    go_ret
    exact ⟨rfl, BZ⟩
  · have hr9 : r ≤ 1048576 := by omega
    have HL : Hid (l.length ≤ 1048576) := by show l.length ≤ 1048576; omega
    have HZ : Hid (Sized l) := fun f hf => by have := sizeL_mem hf; omega
    have ca : wz.cell? ⟨w.heap.size, 0, none⟩ = some (.slice ao n cap) := (hbz.cell (by simp; omega)).trans (by simp [go_sem])
    have k0 : wz.cell? ⟨w.heap.size + 1, 0, none⟩ = some (.int .i64 kind) := (hbz.cell (by simp)).trans (by simp [go_sem])
    have k1 : wz.cell? ⟨w.heap.size + 1, 1, none⟩ = some (.string nm) := (hbz.cell (by simp)).trans (by simp [go_sem])
    have k2 : wz.cell? ⟨w.heap.size + 1, 2, none⟩ = some (.string tx) := (hbz.cell (by simp)).trans (by simp [go_sem])
    have k3 : wz.cell? ⟨w.heap.size + 1, 3, none⟩ = some (.string to) := (hbz.cell (by simp)).trans (by simp [go_sem])
    clear hbz hr1
    go_wp2_with fail
    refine (szAct_any kind nm tx to r _ h1 h2 h3 hr9 hr0).mono ?_
    rintro e w0 ⟨r2, rfl, hr2, hb0⟩
    rcases hr2 with rfl | ⟨hr20, hr21⟩
    · go_wp2
      go_ret
      exact ⟨rfl, BZ.trans (hb0.mono BZ.size)⟩
    · have t1 : nm.size ≤ 1048576 := by omega
      have t2 : tx.size ≤ 1048576 := by omega
      have t3 : to.size ≤ 1048576 := by omega
      have CS : Hid (∀ (w : World) (v : Value), Reads w v l → Calls Try.prog 34 #[.agg #[v], .agg #[.int .i64 kind, .string nm, .string tx, .string to]] w fun e w' => ∃ v', e = .returned (.tuple #[.agg #[v'], .bool (actL l ⟨kind, nm, tx, to⟩).isSome]) ∧ ownsR w' w.heap.size 36 v' ((actL l ⟨kind, nm, tx, to⟩).getD []) ∧ Below w.heap.size w w') := fun w v h => by
        obtain ⟨ao, c, rfl, _⟩ := id h
        exact specAct_any ao _ c l kind nm tx to w h t2
      have CI : Hid (∀ (w : World) (v : Value), Reads w v l → Calls Try.prog 24 #[.agg #[v], .agg #[.int .i64 kind, .string nm, .string tx, .string to]] w fun e w' => ∃ v', e = .returned (.tuple #[.agg #[v'], .bool (actL l ⟨kind, nm, tx, to⟩).isSome]) ∧ ownsR w' w.heap.size 36 v' ((actL l ⟨kind, nm, tx, to⟩).getD []) ∧ Below w.heap.size w w') := fun w v h => by
        obtain ⟨ao, c, rfl, _⟩ := id h
        exact doAct_try ao _ c l kind nm tx to w h HL.out HZ.out t1 t2 t3
      have HO : Hid (((actL l ⟨kind, nm, tx, to⟩).getD []).length ≤ 1048576) := Nat.le_trans (actO_length _ _) (by decide)
      have c_a_0 := cell_up hb0 ca
      have c_b0_0 := cell_up hb0 k0
      have c_b1_0 := cell_up hb0 k1
      have c_b2_0 := cell_up hb0 k2
      have c_b3_0 := cell_up hb0 k3
      have B0 : Below w.heap.size w w0 := BZ.trans (hb0.mono BZ.size)
      clear hb0 ca k0 k1 k2 k3 hr21 hr0 hr9 BZ
      generalize (actL l ⟨kind, nm, tx, to⟩).getD [] = L at *
      generalize (actL l ⟨kind, nm, tx, to⟩).isSome = z at *
      go_wp2_with fail
      have e_1_0 := Below.cellOf (B := w0.heap.size) (World.block_lt_of_cell? _ _ c_a_0) c_a_0
      have e_1_1 := Below.cellOf (B := w0.heap.size) (World.block_lt_of_cell? _ _ c_b0_0) c_b0_0
      have e_1_2 := Below.cellOf (B := w0.heap.size) (World.block_lt_of_cell? _ _ c_b1_0) c_b1_0
      have e_1_3 := Below.cellOf (B := w0.heap.size) (World.block_lt_of_cell? _ _ c_b2_0) c_b2_0
      have e_1_4 := Below.cellOf (B := w0.heap.size) (World.block_lt_of_cell? _ _ c_b3_0) c_b3_0
      refine wp_puts (α := Nat × (Option Addr × Nat) × Option Addr × Nat) (fun x => [(27, .agg #[.slice ao n cap]), (29, .agg #[.int .i64 kind, .string nm, .string tx, .string to]), (28, .agg #[.slice x.2.1.1 l.length x.2.1.2]), (30, .agg #[.int .i64 kind, .string nm, .string tx, .string to]), (31, .tuple #[.agg #[.slice x.2.2.1 L.length x.2.2.2], .bool z]), (26, .tuple #[.agg #[.slice x.2.2.1 L.length x.2.2.2], .bool z]), (32, .agg #[.slice x.2.2.1 L.length x.2.2.2]), (33, .bool z), (6, .pointer (some ⟨x.1, 0, none⟩)), (7, .bool z)]) (fun x w' => NewRow w0 w' 36 x.1 (.slice x.2.2.1 L.length x.2.2.2) L) ?_ ?_
      · go_region_held3 (fun w' => Below w0.heap.size w0 w') ((first | exact (Below.refl _ _).drew | exact (keep_on hb3 (by assumption) (Nat.le_refl _)) | exact (keep_on hb2 (by assumption) (Nat.le_refl _)) | exact (keep_on hb1 (by assumption) (Nat.le_refl _)) | exact (Below.alloc (by assumption) (Below.size (by assumption)) _) | exact (Below.alloc hS3 hS3.size _) | exact (Below.setCell hS3 (by first | exact Nat.le_refl _ | exact hS1.size | exact hS2.size) _))) (first | (go_at_call 30; refine (toDisk_any _ l _ (HR.out.below (B0.trans (Below.mono (B := w0.heap.size) (by assumption) B0.size))) HL.out).mono ?_; rintro e w1' ⟨v1', rfl, ho1, hb1⟩; have hS1 := keep_on (B := w0.heap.size) (W := w0) hb1 (by assumption) (Nat.le_refl _); obtain ⟨a1', d1', rfl⟩ := ho1.slice; first | (have hcx : w1'.cell? ⟨w0.heap.size, 0, none⟩ = some (.slice none 0 0) := cell_new (w := w0.drew) hb1; have hfx : w1'.frozen? ⟨w0.heap.size, 0, none⟩ = false := frozen_new (w := w0.drew) hb1) | (have hcx := cell_new hb1; have hfx := frozen_new hb1) | skip) | (go_at_call 35; refine (toAct_any kind nm tx to _).mono ?_; rintro e w2' ⟨rfl, hb2⟩; have hS2 := keep_on (B := w0.heap.size) (W := w0) hb2 (by assumption) (Nat.le_refl _); first | (have hcx : w2'.cell? ⟨w0.heap.size, 0, none⟩ = some (.slice none 0 0) := cell_new (w := w0.drew) hb2; have hfx : w2'.frozen? ⟨w0.heap.size, 0, none⟩ = false := frozen_new (w := w0.drew) hb2) | (have hcx := cell_new hb2; have hfx := frozen_new hb2) | (have hcx2 := cell_up hb2 hcx; have hfx2 := frozen_up hb2 hcx hfx) | skip) | (go_at_call 34; refine (CS.out _ _ (Reads.below (ownsR.reads ho1) (by first | exact Below.refl _ _ | exact ba (Below.refl _ _) _ | exact hb2 | exact below_new hb2 | exact ba hb2 _))).mono ?_; rintro e w3' ⟨v3', rfl, ho3, hb3⟩; have hS3 := keep_on (B := w0.heap.size) (W := w0) hb3 (by assumption) (Nat.le_refl _); obtain ⟨a3', d3', rfl⟩ := ho3.slice; first | (have hcx := cell_new hb3; have hfx := frozen_new hb3) | (have hcx3 := cell_up hb3 hcx2; have hfx3 := frozen_up hb3 hcx2 hfx2) | (have hcx3 := cell_up hb3 hcx; have hfx3 := frozen_up hb3 hcx hfx) | skip))
        all_goals first | refine ⟨rfl, ⟨_, (a1', d1'), a3', d3'⟩, ?_, newRow_b hS2 ho3 hb3⟩ | refine ⟨rfl, ⟨_, (a1', d1'), a3', d3'⟩, ?_, newRow_m hS2 ho3 hb3⟩ | refine ⟨rfl, ⟨_, (a1', d1'), a3', d3'⟩, ?_, newRow_a hS2 hS1.size hcx ho3 hb3⟩ | refine ⟨rfl, ⟨_, (a1', d1'), a3', d3'⟩, ?_, newRow_a hS2 (Nat.le_refl _) hcx2 ho3 hb3⟩ | refine ⟨rfl, ⟨_, (a1', d1'), a3', d3'⟩, ?_, newRow_a hS2 (Nat.le_refl _) hcx ho3 hb3⟩
        all_goals kernel_rfl
      clear e_1_0 e_1_1 e_1_2 e_1_3 e_1_4
      rintro ⟨X1, ⟨a11, d11⟩, a1, d1⟩ w1 hN1
      simp only [putAll]
      have ac_a_w := cell_apart c_a_0 hN1.own
      have ac_b0_w := cell_apart c_b0_0 hN1.own
      have ac_b1_w := cell_apart c_b1_0 hN1.own
      have ac_b2_w := cell_apart c_b2_0 hN1.own
      have ac_b3_w := cell_apart c_b3_0 hN1.own
      have ac_cw_w := hN1.apart
      have c_cw_1 := hN1.cellAt
      have O_w_1 : Hid (ownsR w1 w.heap.size 36 (.slice a1 L.length d1) (L)) := hN1.own.mono B0.size
      have hb1 := hN1.below
      have c_a_1 := cell_up hb1 c_a_0
      have c_b0_1 := cell_up hb1 c_b0_0
      have c_b1_1 := cell_up hb1 c_b1_0
      have c_b2_1 := cell_up hb1 c_b2_0
      have c_b3_1 := cell_up hb1 c_b3_0
      have B1 : Below w.heap.size w w1 := B0.trans (hb1.mono B0.size)
      clear c_a_0 c_b0_0 c_b1_0 c_b2_0 c_b3_0 B0 hb1 hN1
      go_wp2_with fail
      refine (toDisk_any _ l _ (HR.out.below B1) HL.out).mono ?_
      rintro e w2 ⟨v2, rfl, ho2, hb2⟩
      obtain ⟨a2, d2, rfl⟩ := ho2.slice
      have ap_w_x := apart_new O_w_1.out ho2
      have ap_x_w := apart_old O_w_1.out ho2
      have ac_a_x := cell_apart c_a_1 ho2
      have ac_b0_x := cell_apart c_b0_1 ho2
      have ac_b1_x := cell_apart c_b1_1 ho2
      have ac_b2_x := cell_apart c_b2_1 ho2
      have ac_b3_x := cell_apart c_b3_1 ho2
      have ac_cw_x := cell_apart c_cw_1 ho2
      have c_a_2 := cell_up hb2 c_a_1
      have c_b0_2 := cell_up hb2 c_b0_1
      have c_b1_2 := cell_up hb2 c_b1_1
      have c_b2_2 := cell_up hb2 c_b2_1
      have c_b3_2 := cell_up hb2 c_b3_1
      have c_cw_2 := cell_up hb2 c_cw_1
      have O_w_2 : Hid (ownsR w2 w.heap.size 36 (.slice a1 L.length d1) (L)) := O_w_1.out.all hb2
      have B2 : Below w.heap.size w w2 := B1.trans (hb2.mono B1.size)
      have O_x_2 : Hid (ownsR w2 w.heap.size 36 (.slice a2 (l.length) d2) (l)) := ho2.mono (B1.size)
      clear c_a_1 c_b0_1 c_b1_1 c_b2_1 c_b3_1 c_cw_1 O_w_1 B1 hb2 ho2
      have sz_a : w.heap.size < w2.heap.size := World.block_lt_of_cell? _ _ c_a_2
      have sz_b0 : w.heap.size + 1 < w2.heap.size := World.block_lt_of_cell? _ _ c_b0_2
      have sz_b1 : w.heap.size + 1 < w2.heap.size := World.block_lt_of_cell? _ _ c_b1_2
      have sz_b2 : w.heap.size + 1 < w2.heap.size := World.block_lt_of_cell? _ _ c_b2_2
      have sz_b3 : w.heap.size + 1 < w2.heap.size := World.block_lt_of_cell? _ _ c_b3_2
      have sz_cw : X1 < w2.heap.size := World.block_lt_of_cell? _ _ c_cw_2
      go_wp2_with fail
      obtain ⟨w3, hw3⟩ : ∃ x, w2.alloc (Obj.cells #[.slice a2 (l.length) d2] 26) = x := ⟨_, rfl⟩
      rw [hw3]
      have hb3 : Below (w2.alloc (Obj.cells #[.slice a2 (l.length) d2] 26)).heap.size (w2.alloc (Obj.cells #[.slice a2 (l.length) d2] 26)) w3 := hw3 ▸ Below.refl _ _
      have c_cx_3 := cell_new hb3
      have ac_cx_w := cell_apart_new O_w_2.out
      have ac_cx_x := cell_apart_new O_x_2.out
      have hb3 := below_new hb3
      have c_a_3 := cell_up hb3 c_a_2
      have c_b0_3 := cell_up hb3 c_b0_2
      have c_b1_3 := cell_up hb3 c_b1_2
      have c_b2_3 := cell_up hb3 c_b2_2
      have c_b3_3 := cell_up hb3 c_b3_2
      have c_cw_3 := cell_up hb3 c_cw_2
      have O_w_3 : Hid (ownsR w3 w.heap.size 36 (.slice a1 L.length d1) (L)) := O_w_2.out.all hb3
      have O_x_3 : Hid (ownsR w3 w.heap.size 36 (.slice a2 (l.length) d2) (l)) := O_x_2.out.all hb3
      have B3 : Below w.heap.size w w3 := B2.trans (hb3.mono B2.size)
      clear c_a_2 c_b0_2 c_b1_2 c_b2_2 c_b3_2 c_cw_2 sz_a sz_b0 sz_b1 sz_b2 sz_b3 sz_cw O_w_2 O_x_2 B2 hb3 hw3
      go_wp2_with fail
      have e_4_0 := Below.cellOf (B := w3.heap.size) (World.block_lt_of_cell? _ _ c_a_3) c_a_3
      have e_4_1 := Below.cellOf (B := w3.heap.size) (World.block_lt_of_cell? _ _ c_b0_3) c_b0_3
      have e_4_2 := Below.cellOf (B := w3.heap.size) (World.block_lt_of_cell? _ _ c_b1_3) c_b1_3
      have e_4_3 := Below.cellOf (B := w3.heap.size) (World.block_lt_of_cell? _ _ c_b2_3) c_b2_3
      have e_4_4 := Below.cellOf (B := w3.heap.size) (World.block_lt_of_cell? _ _ c_b3_3) c_b3_3
      have e_4_5 := Below.cellOf (B := w3.heap.size) (World.block_lt_of_cell? _ _ c_cw_3) c_cw_3
      have e_4_6 := Below.cellOf (B := w3.heap.size) (World.block_lt_of_cell? _ _ c_cx_3) c_cx_3
      refine wp_puts (α := Nat × (Option Addr × Nat) × Option Addr × Nat) (fun x => [(37, .agg #[.slice a2 (l.length) d2]), (38, .agg #[.int .i64 kind, .string nm, .string tx, .string to]), (39, .agg #[.int .i64 kind, .string nm, .string tx, .string to]), (40, .tuple #[.agg #[.slice x.2.2.1 L.length x.2.2.2], .bool z]), (36, .tuple #[.agg #[.slice x.2.2.1 L.length x.2.2.2], .bool z]), (41, .agg #[.slice x.2.2.1 L.length x.2.2.2]), (42, .bool z), (9, .pointer (some ⟨x.1, 0, none⟩)), (10, .bool z)]) (fun x w' => NewRow w3 w' 36 x.1 (.slice x.2.2.1 L.length x.2.2.2) L) ?_ ?_
      · go_region_held3 (fun w' => Below w3.heap.size w3 w') ((first | exact (Below.refl _ _).drew | exact (keep_on hb3 (by assumption) (Nat.le_refl _)) | exact (keep_on hb2 (by assumption) (Nat.le_refl _)) | exact (Below.alloc (by assumption) (Below.size (by assumption)) _) | exact (Below.alloc hS3 hS3.size _) | exact (Below.setCell hS3 (by first | exact Nat.le_refl _ | exact hS2.size | exact hS2.size) _))) (first | (go_at_call 35; refine (toAct_any kind nm tx to _).mono ?_; rintro e w2' ⟨rfl, hb2⟩; have hS2 := keep_on (B := w3.heap.size) (W := w3) hb2 (by assumption) (Nat.le_refl _); first | (have hcx : w2'.cell? ⟨w3.heap.size, 0, none⟩ = some (.slice none 0 0) := cell_new (w := w3.drew) hb2; have hfx : w2'.frozen? ⟨w3.heap.size, 0, none⟩ = false := frozen_new (w := w3.drew) hb2) | (have hcx := cell_new hb2; have hfx := frozen_new hb2) | (have hcx2 := cell_up hb2 hcx; have hfx2 := frozen_up hb2 hcx hfx) | skip) | (go_at_call 24; refine (CI.out _ _ (Reads.below (ownsR.reads O_x_3.out) (by first | exact hS2 | exact Below.alloc hS2 hS2.size _))).mono ?_; rintro e w3' ⟨v3', rfl, ho3, hb3⟩; have hS3 := keep_on (B := w3.heap.size) (W := w3) hb3 (by assumption) (Nat.le_refl _); obtain ⟨a3', d3', rfl⟩ := ho3.slice; first | (have hcx := cell_new hb3; have hfx := frozen_new hb3) | (have hcx3 := cell_up hb3 hcx2; have hfx3 := frozen_up hb3 hcx2 hfx2) | (have hcx3 := cell_up hb3 hcx; have hfx3 := frozen_up hb3 hcx hfx) | skip))
        all_goals first | refine ⟨rfl, ⟨_, (none, 0), a3', d3'⟩, ?_, newRow_b hS2 ho3 hb3⟩ | refine ⟨rfl, ⟨_, (none, 0), a3', d3'⟩, ?_, newRow_m hS2 ho3 hb3⟩ | refine ⟨rfl, ⟨_, (none, 0), a3', d3'⟩, ?_, newRow_a hS2 hS2.size hcx ho3 hb3⟩ | refine ⟨rfl, ⟨_, (none, 0), a3', d3'⟩, ?_, newRow_a hS2 (Nat.le_refl _) hcx2 ho3 hb3⟩ | refine ⟨rfl, ⟨_, (none, 0), a3', d3'⟩, ?_, newRow_a hS2 (Nat.le_refl _) hcx ho3 hb3⟩
        all_goals kernel_rfl
      clear e_4_0 e_4_1 e_4_2 e_4_3 e_4_4 e_4_5 e_4_6
      rintro ⟨X4, ⟨a14, d14⟩, a4, d4⟩ w4 hN4
      simp only [putAll]
      have ap_w_g := apart_new O_w_3.out hN4.own
      have ap_g_w := apart_old O_w_3.out hN4.own
      have ac_cg_w : some X4 ≠ Value.ownBlock (.slice a1 L.length d1) := fun e => by have := (O_w_3.out.lt _ e.symm).2; have := hN4.old; omega
      have ap_x_g := apart_new O_x_3.out hN4.own
      have ap_g_x := apart_old O_x_3.out hN4.own
      have ac_cg_x : some X4 ≠ Value.ownBlock (.slice a2 (l.length) d2) := fun e => by have := (O_x_3.out.lt _ e.symm).2; have := hN4.old; omega
      have ac_a_g := cell_apart c_a_3 hN4.own
      have ac_b0_g := cell_apart c_b0_3 hN4.own
      have ac_b1_g := cell_apart c_b1_3 hN4.own
      have ac_b2_g := cell_apart c_b2_3 hN4.own
      have ac_b3_g := cell_apart c_b3_3 hN4.own
      have ac_cw_g := cell_apart c_cw_3 hN4.own
      have ac_cx_g := cell_apart c_cx_3 hN4.own
      have ac_cg_g := hN4.apart
      have c_cg_4 := hN4.cellAt
      have O_g_4 : Hid (ownsR w4 w.heap.size 36 (.slice a4 L.length d4) (L)) := hN4.own.mono B3.size
      have hb4 := hN4.below
      have c_a_4 := cell_up hb4 c_a_3
      have c_b0_4 := cell_up hb4 c_b0_3
      have c_b1_4 := cell_up hb4 c_b1_3
      have c_b2_4 := cell_up hb4 c_b2_3
      have c_b3_4 := cell_up hb4 c_b3_3
      have c_cw_4 := cell_up hb4 c_cw_3
      have c_cx_4 := cell_up hb4 c_cx_3
      have O_w_4 : Hid (ownsR w4 w.heap.size 36 (.slice a1 L.length d1) (L)) := O_w_3.out.all hb4
      have O_x_4 : Hid (ownsR w4 w.heap.size 36 (.slice a2 (l.length) d2) (l)) := O_x_3.out.all hb4
      have B4 : Below w.heap.size w w4 := B3.trans (hb4.mono B3.size)
      clear c_a_3 c_b0_3 c_b1_3 c_b2_3 c_b3_3 c_cw_3 c_cx_3 O_w_3 O_x_3 B3 hb4 hN4
      go_wp2_with fail
      refine (eqDisk_any _ _ L _ (ownsR.reads O_g_4.out) (ownsR.reads O_w_4.out) (Nat.le_trans HO.out (by decide))).mono ?_
      rintro e w5 ⟨rfl, hb5⟩
      have c_a_5 := cell_up hb5 c_a_4
      have c_b0_5 := cell_up hb5 c_b0_4
      have c_b1_5 := cell_up hb5 c_b1_4
      have c_b2_5 := cell_up hb5 c_b2_4
      have c_b3_5 := cell_up hb5 c_b3_4
      have c_cw_5 := cell_up hb5 c_cw_4
      have c_cx_5 := cell_up hb5 c_cx_4
      have c_cg_5 := cell_up hb5 c_cg_4
      have O_w_5 : Hid (ownsR w5 w.heap.size 36 (.slice a1 L.length d1) (L)) := O_w_4.out.all hb5
      have O_x_5 : Hid (ownsR w5 w.heap.size 36 (.slice a2 (l.length) d2) (l)) := O_x_4.out.all hb5
      have O_g_5 : Hid (ownsR w5 w.heap.size 36 (.slice a4 L.length d4) (L)) := O_g_4.out.all hb5
      have B5 : Below w.heap.size w w5 := B4.trans (hb5.mono B4.size)
      clear c_a_4 c_b0_4 c_b1_4 c_b2_4 c_b3_4 c_cw_4 c_cx_4 c_cg_4 O_w_4 O_x_4 O_g_4 B4 hb5
      go_wp2
      go_region_held3 (fun w' => w'.cell? ⟨w.heap.size, 0, none⟩ = some (.slice ao n cap) ∧ w'.cell? ⟨w2.heap.size, 0, none⟩ = some (.slice a2 (l.length) d2)) ((first | exact ⟨c_a_5, c_cx_5⟩ | exact ⟨cell_up (w := w5.drew) hb6 c_a_5, cell_up (w := w5.drew) hb6 c_cx_5⟩ | exact ⟨cell_up hb7 cc1, cell_up hb7 cc2⟩)) ((first | (go_at_call 30; refine (toDisk_any _ l _ (HR.out.below B5).drew HL.out).mono ?_; rintro e w6 ⟨v6, rfl, ho6, hb6⟩; obtain ⟨a6, d6, rfl⟩ := ho6.slice; have cc1 := cell_up (w := w5.drew) hb6 c_a_5; have cc2 := cell_up (w := w5.drew) hb6 c_cx_5) | (go_at_call 31; refine (eqDisk_any _ _ l _ ((ownsR.reads O_x_5.out).drew.below hb6) ho6.reads (Nat.le_trans HL.out (by decide))).mono ?_; rintro e w7 ⟨rfl, hb7⟩)))
      have hb7 : Below w5.heap.size w5 w7 := ((Below.refl _ w5).drew.trans hb6).trans (hb7.mono hb6.size)
      clear ho6 hb6 cc1 cc2
      have c_a_7 := cell_up hb7 c_a_5
      have c_b0_7 := cell_up hb7 c_b0_5
      have c_b1_7 := cell_up hb7 c_b1_5
      have c_b2_7 := cell_up hb7 c_b2_5
      have c_b3_7 := cell_up hb7 c_b3_5
      have c_cw_7 := cell_up hb7 c_cw_5
      have c_cx_7 := cell_up hb7 c_cx_5
      have c_cg_7 := cell_up hb7 c_cg_5
      have O_w_7 : Hid (ownsR w7 w.heap.size 36 (.slice a1 L.length d1) (L)) := O_w_5.out.all hb7
      have O_x_7 : Hid (ownsR w7 w.heap.size 36 (.slice a2 (l.length) d2) (l)) := O_x_5.out.all hb7
      have O_g_7 : Hid (ownsR w7 w.heap.size 36 (.slice a4 L.length d4) (L)) := O_g_5.out.all hb7
      have B7 : Below w.heap.size w w7 := B5.trans (hb7.mono B5.size)
      clear c_a_5 c_b0_5 c_b1_5 c_b2_5 c_b3_5 c_cw_5 c_cx_5 c_cg_5 O_w_5 O_x_5 O_g_5 B5 hb7
      go_wp2_with fail
      refine (markDisk_any (x := 1) O_x_7.out (Nat.le_trans HL.out (by decide)) (by decide) (by decide)).mono ?_
      rintro e w8 ⟨rfl, hm8, hg8⟩
      have c_a_8 := cell_other c_a_7 hg8 ac_a_x
      have c_b0_8 := cell_other c_b0_7 hg8 ac_b0_x
      have c_b1_8 := cell_other c_b1_7 hg8 ac_b1_x
      have c_b2_8 := cell_other c_b2_7 hg8 ac_b2_x
      have c_b3_8 := cell_other c_b3_7 hg8 ac_b3_x
      have c_cw_8 := cell_other c_cw_7 hg8 ac_cw_x
      have c_cx_8 := cell_other c_cx_7 hg8 ac_cx_x
      have c_cg_8 := cell_other c_cg_7 hg8 ac_cg_x
      have O_w_8 : Hid (ownsR w8 w.heap.size 36 (.slice a1 L.length d1) (L)) := O_w_7.out.other hg8 ap_w_x
      have O_g_8 : Hid (ownsR w8 w.heap.size 36 (.slice a4 L.length d4) (L)) := O_g_7.out.other hg8 ap_g_x
      have B8 : Below w.heap.size w w8 := below_marked B7 O_x_7.out hg8
      have O_x_8 : Hid (ownsR w8 w.heap.size 36 (.slice a2 (l.length) d2) (marksF 1 l.length)) := hm8
      clear c_a_7 c_b0_7 c_b1_7 c_b2_7 c_b3_7 c_cw_7 c_cx_7 c_cg_7 O_w_7 O_g_7 B7 hm8 O_x_7 hg8
      go_wp2_with fail
      refine (eqDisk_any _ _ L _ (ownsR.reads O_g_8.out) (ownsR.reads O_w_8.out) (Nat.le_trans HO.out (by decide))).mono ?_
      rintro e w9 ⟨rfl, hb9⟩
      have c_a_9 := cell_up hb9 c_a_8
      have c_b0_9 := cell_up hb9 c_b0_8
      have c_b1_9 := cell_up hb9 c_b1_8
      have c_b2_9 := cell_up hb9 c_b2_8
      have c_b3_9 := cell_up hb9 c_b3_8
      have c_cw_9 := cell_up hb9 c_cw_8
      have c_cx_9 := cell_up hb9 c_cx_8
      have c_cg_9 := cell_up hb9 c_cg_8
      have O_w_9 : Hid (ownsR w9 w.heap.size 36 (.slice a1 L.length d1) (L)) := O_w_8.out.all hb9
      have O_x_9 : Hid (ownsR w9 w.heap.size 36 (.slice a2 (l.length) d2) (marksF 1 l.length)) := O_x_8.out.all hb9
      have O_g_9 : Hid (ownsR w9 w.heap.size 36 (.slice a4 L.length d4) (L)) := O_g_8.out.all hb9
      have B9 : Below w.heap.size w w9 := B8.trans (hb9.mono B8.size)
      clear c_a_8 c_b0_8 c_b1_8 c_b2_8 c_b3_8 c_cw_8 c_cx_8 c_cg_8 O_w_8 O_x_8 O_g_8 B8 hb9
      go_wp2_with fail
      refine (markDisk_any (x := 1) O_g_9.out (Nat.le_trans HO.out (by decide)) (by decide) (by decide)).mono ?_
      rintro e w10 ⟨rfl, hm10, hg10⟩
      have c_a_10 := cell_other c_a_9 hg10 ac_a_g
      have c_b0_10 := cell_other c_b0_9 hg10 ac_b0_g
      have c_b1_10 := cell_other c_b1_9 hg10 ac_b1_g
      have c_b2_10 := cell_other c_b2_9 hg10 ac_b2_g
      have c_b3_10 := cell_other c_b3_9 hg10 ac_b3_g
      have c_cw_10 := cell_other c_cw_9 hg10 ac_cw_g
      have c_cx_10 := cell_other c_cx_9 hg10 ac_cx_g
      have c_cg_10 := cell_other c_cg_9 hg10 ac_cg_g
      have O_w_10 : Hid (ownsR w10 w.heap.size 36 (.slice a1 L.length d1) (L)) := O_w_9.out.other hg10 ap_w_g
      have O_x_10 : Hid (ownsR w10 w.heap.size 36 (.slice a2 (l.length) d2) (marksF 1 l.length)) := O_x_9.out.other hg10 ap_x_g
      have B10 : Below w.heap.size w w10 := below_marked B9 O_g_9.out hg10
      have O_g_10 : Hid (ownsR w10 w.heap.size 36 (.slice a4 L.length d4) (marksF 1 L.length)) := hm10
      clear c_a_9 c_b0_9 c_b1_9 c_b2_9 c_b3_9 c_cw_9 c_cx_9 c_cg_9 O_w_9 O_x_9 B9 hm10 O_g_9 hg10
      go_wp2_with fail
      refine (heldDisk_any (x := 1) (ownsR.reads O_g_10.out) (Nat.le_trans HO.out (by decide)) (by decide) (by decide)).mono ?_
      rintro e w11 ⟨rfl, hb11⟩
      have c_a_11 := cell_up hb11 c_a_10
      have c_b0_11 := cell_up hb11 c_b0_10
      have c_b1_11 := cell_up hb11 c_b1_10
      have c_b2_11 := cell_up hb11 c_b2_10
      have c_b3_11 := cell_up hb11 c_b3_10
      have c_cw_11 := cell_up hb11 c_cw_10
      have c_cx_11 := cell_up hb11 c_cx_10
      have c_cg_11 := cell_up hb11 c_cg_10
      have O_w_11 : Hid (ownsR w11 w.heap.size 36 (.slice a1 L.length d1) (L)) := O_w_10.out.all hb11
      have O_x_11 : Hid (ownsR w11 w.heap.size 36 (.slice a2 (l.length) d2) (marksF 1 l.length)) := O_x_10.out.all hb11
      have O_g_11 : Hid (ownsR w11 w.heap.size 36 (.slice a4 L.length d4) (marksF 1 L.length)) := O_g_10.out.all hb11
      have B11 : Below w.heap.size w w11 := B10.trans (hb11.mono B10.size)
      clear c_a_10 c_b0_10 c_b1_10 c_b2_10 c_b3_10 c_cw_10 c_cx_10 c_cg_10 O_w_10 O_x_10 O_g_10 B10 hb11
      go_wp2_with fail
      have e_12_0 := Below.cellOf (B := w11.heap.size) (World.block_lt_of_cell? _ _ c_a_11) c_a_11
      have e_12_1 := Below.cellOf (B := w11.heap.size) (World.block_lt_of_cell? _ _ c_b0_11) c_b0_11
      have e_12_2 := Below.cellOf (B := w11.heap.size) (World.block_lt_of_cell? _ _ c_b1_11) c_b1_11
      have e_12_3 := Below.cellOf (B := w11.heap.size) (World.block_lt_of_cell? _ _ c_b2_11) c_b2_11
      have e_12_4 := Below.cellOf (B := w11.heap.size) (World.block_lt_of_cell? _ _ c_b3_11) c_b3_11
      have e_12_5 := Below.cellOf (B := w11.heap.size) (World.block_lt_of_cell? _ _ c_cw_11) c_cw_11
      have e_12_6 := Below.cellOf (B := w11.heap.size) (World.block_lt_of_cell? _ _ c_cx_11) c_cx_11
      have e_12_7 := Below.cellOf (B := w11.heap.size) (World.block_lt_of_cell? _ _ c_cg_11) c_cg_11
      refine wp_puts (α := Nat × (Option Addr × Nat) × Option Addr × Nat) (fun x => [(85, .agg #[.slice ao n cap]), (87, .agg #[.int .i64 kind, .string nm, .string tx, .string to]), (86, .agg #[.slice x.2.1.1 l.length x.2.1.2]), (88, .agg #[.int .i64 kind, .string nm, .string tx, .string to]), (89, .tuple #[.agg #[.slice x.2.2.1 L.length x.2.2.2], .bool z]), (84, .tuple #[.agg #[.slice x.2.2.1 L.length x.2.2.2], .bool z]), (90, .agg #[.slice x.2.2.1 L.length x.2.2.2]), (91, .bool z), (14, .pointer (some ⟨x.1, 0, none⟩)), (15, .bool z)]) (fun x w' => NewRow w11 w' 36 x.1 (.slice x.2.2.1 L.length x.2.2.2) L) ?_ ?_
      · go_region_held3 (fun w' => Below w11.heap.size w11 w') ((first | exact (Below.refl _ _).drew | exact (keep_on hb3 (by assumption) (Nat.le_refl _)) | exact (keep_on hb2 (by assumption) (Nat.le_refl _)) | exact (keep_on hb1 (by assumption) (Nat.le_refl _)) | exact (Below.alloc (by assumption) (Below.size (by assumption)) _) | exact (Below.alloc hS3 hS3.size _) | exact (Below.setCell hS3 (by first | exact Nat.le_refl _ | exact hS1.size | exact hS2.size) _))) (first | (go_at_call 30; refine (toDisk_any _ l _ (HR.out.below (B11.trans (Below.mono (B := w11.heap.size) (by assumption) B11.size))) HL.out).mono ?_; rintro e w1' ⟨v1', rfl, ho1, hb1⟩; have hS1 := keep_on (B := w11.heap.size) (W := w11) hb1 (by assumption) (Nat.le_refl _); obtain ⟨a1', d1', rfl⟩ := ho1.slice; first | (have hcx : w1'.cell? ⟨w11.heap.size, 0, none⟩ = some (.slice none 0 0) := cell_new (w := w11.drew) hb1; have hfx : w1'.frozen? ⟨w11.heap.size, 0, none⟩ = false := frozen_new (w := w11.drew) hb1) | (have hcx := cell_new hb1; have hfx := frozen_new hb1) | skip) | (go_at_call 35; refine (toAct_any kind nm tx to _).mono ?_; rintro e w2' ⟨rfl, hb2⟩; have hS2 := keep_on (B := w11.heap.size) (W := w11) hb2 (by assumption) (Nat.le_refl _); first | (have hcx : w2'.cell? ⟨w11.heap.size, 0, none⟩ = some (.slice none 0 0) := cell_new (w := w11.drew) hb2; have hfx : w2'.frozen? ⟨w11.heap.size, 0, none⟩ = false := frozen_new (w := w11.drew) hb2) | (have hcx := cell_new hb2; have hfx := frozen_new hb2) | (have hcx2 := cell_up hb2 hcx; have hfx2 := frozen_up hb2 hcx hfx) | skip) | (go_at_call 24; refine (CI.out _ _ (Reads.below (ownsR.reads ho1) (by first | exact Below.refl _ _ | exact ba (Below.refl _ _) _ | exact hb2 | exact below_new hb2 | exact ba hb2 _))).mono ?_; rintro e w3' ⟨v3', rfl, ho3, hb3⟩; have hS3 := keep_on (B := w11.heap.size) (W := w11) hb3 (by assumption) (Nat.le_refl _); obtain ⟨a3', d3', rfl⟩ := ho3.slice; first | (have hcx := cell_new hb3; have hfx := frozen_new hb3) | (have hcx3 := cell_up hb3 hcx2; have hfx3 := frozen_up hb3 hcx2 hfx2) | (have hcx3 := cell_up hb3 hcx; have hfx3 := frozen_up hb3 hcx hfx) | skip))
        all_goals first | refine ⟨rfl, ⟨_, (a1', d1'), a3', d3'⟩, ?_, newRow_b hS2 ho3 hb3⟩ | refine ⟨rfl, ⟨_, (a1', d1'), a3', d3'⟩, ?_, newRow_m hS2 ho3 hb3⟩ | refine ⟨rfl, ⟨_, (a1', d1'), a3', d3'⟩, ?_, newRow_a hS2 hS1.size hcx ho3 hb3⟩ | refine ⟨rfl, ⟨_, (a1', d1'), a3', d3'⟩, ?_, newRow_a hS2 (Nat.le_refl _) hcx2 ho3 hb3⟩ | refine ⟨rfl, ⟨_, (a1', d1'), a3', d3'⟩, ?_, newRow_a hS2 (Nat.le_refl _) hcx ho3 hb3⟩
        all_goals kernel_rfl
      clear e_12_0 e_12_1 e_12_2 e_12_3 e_12_4 e_12_5 e_12_6 e_12_7
      rintro ⟨X12, ⟨a112, d112⟩, a12, d12⟩ w12 hN12
      simp only [putAll]
      have ap_w_h := apart_new O_w_11.out hN12.own
      have ap_h_w := apart_old O_w_11.out hN12.own
      have ac_ch_w : some X12 ≠ Value.ownBlock (.slice a1 L.length d1) := fun e => by have := (O_w_11.out.lt _ e.symm).2; have := hN12.old; omega
      have ap_x_h := apart_new O_x_11.out hN12.own
      have ap_h_x := apart_old O_x_11.out hN12.own
      have ac_ch_x : some X12 ≠ Value.ownBlock (.slice a2 (l.length) d2) := fun e => by have := (O_x_11.out.lt _ e.symm).2; have := hN12.old; omega
      have ap_g_h := apart_new O_g_11.out hN12.own
      have ap_h_g := apart_old O_g_11.out hN12.own
      have ac_ch_g : some X12 ≠ Value.ownBlock (.slice a4 L.length d4) := fun e => by have := (O_g_11.out.lt _ e.symm).2; have := hN12.old; omega
      have ac_a_h := cell_apart c_a_11 hN12.own
      have ac_b0_h := cell_apart c_b0_11 hN12.own
      have ac_b1_h := cell_apart c_b1_11 hN12.own
      have ac_b2_h := cell_apart c_b2_11 hN12.own
      have ac_b3_h := cell_apart c_b3_11 hN12.own
      have ac_cw_h := cell_apart c_cw_11 hN12.own
      have ac_cx_h := cell_apart c_cx_11 hN12.own
      have ac_cg_h := cell_apart c_cg_11 hN12.own
      have ac_ch_h := hN12.apart
      have c_ch_12 := hN12.cellAt
      have O_h_12 : Hid (ownsR w12 w.heap.size 36 (.slice a12 L.length d12) (L)) := hN12.own.mono B11.size
      have hb12 := hN12.below
      have c_a_12 := cell_up hb12 c_a_11
      have c_b0_12 := cell_up hb12 c_b0_11
      have c_b1_12 := cell_up hb12 c_b1_11
      have c_b2_12 := cell_up hb12 c_b2_11
      have c_b3_12 := cell_up hb12 c_b3_11
      have c_cw_12 := cell_up hb12 c_cw_11
      have c_cx_12 := cell_up hb12 c_cx_11
      have c_cg_12 := cell_up hb12 c_cg_11
      have O_w_12 : Hid (ownsR w12 w.heap.size 36 (.slice a1 L.length d1) (L)) := O_w_11.out.all hb12
      have O_x_12 : Hid (ownsR w12 w.heap.size 36 (.slice a2 (l.length) d2) (marksF 1 l.length)) := O_x_11.out.all hb12
      have O_g_12 : Hid (ownsR w12 w.heap.size 36 (.slice a4 L.length d4) (marksF 1 L.length)) := O_g_11.out.all hb12
      have B12 : Below w.heap.size w w12 := B11.trans (hb12.mono B11.size)
      clear c_a_11 c_b0_11 c_b1_11 c_b2_11 c_b3_11 c_cw_11 c_cx_11 c_cg_11 O_w_11 O_x_11 O_g_11 B11 hb12 hN12
      go_wp2_with fail
      refine (eqDisk_any _ _ L _ (ownsR.reads O_h_12.out) (ownsR.reads O_w_12.out) (Nat.le_trans HO.out (by decide))).mono ?_
      rintro e w13 ⟨rfl, hb13⟩
      have c_a_13 := cell_up hb13 c_a_12
      have c_b0_13 := cell_up hb13 c_b0_12
      have c_b1_13 := cell_up hb13 c_b1_12
      have c_b2_13 := cell_up hb13 c_b2_12
      have c_b3_13 := cell_up hb13 c_b3_12
      have c_cw_13 := cell_up hb13 c_cw_12
      have c_cx_13 := cell_up hb13 c_cx_12
      have c_cg_13 := cell_up hb13 c_cg_12
      have c_ch_13 := cell_up hb13 c_ch_12
      have O_w_13 : Hid (ownsR w13 w.heap.size 36 (.slice a1 L.length d1) (L)) := O_w_12.out.all hb13
      have O_x_13 : Hid (ownsR w13 w.heap.size 36 (.slice a2 (l.length) d2) (marksF 1 l.length)) := O_x_12.out.all hb13
      have O_g_13 : Hid (ownsR w13 w.heap.size 36 (.slice a4 L.length d4) (marksF 1 L.length)) := O_g_12.out.all hb13
      have O_h_13 : Hid (ownsR w13 w.heap.size 36 (.slice a12 L.length d12) (L)) := O_h_12.out.all hb13
      have B13 : Below w.heap.size w w13 := B12.trans (hb13.mono B12.size)
      clear c_a_12 c_b0_12 c_b1_12 c_b2_12 c_b3_12 c_cw_12 c_cx_12 c_cg_12 c_ch_12 O_w_12 O_x_12 O_g_12 O_h_12 B12 hb13
      go_wp2_with fail
      refine (heldDisk_any (x := 1) (ownsR.reads O_g_13.out) (Nat.le_trans HO.out (by decide)) (by decide) (by decide)).mono ?_
      rintro e w14 ⟨rfl, hb14⟩
      have c_a_14 := cell_up hb14 c_a_13
      have c_b0_14 := cell_up hb14 c_b0_13
      have c_b1_14 := cell_up hb14 c_b1_13
      have c_b2_14 := cell_up hb14 c_b2_13
      have c_b3_14 := cell_up hb14 c_b3_13
      have c_cw_14 := cell_up hb14 c_cw_13
      have c_cx_14 := cell_up hb14 c_cx_13
      have c_cg_14 := cell_up hb14 c_cg_13
      have c_ch_14 := cell_up hb14 c_ch_13
      have O_w_14 : Hid (ownsR w14 w.heap.size 36 (.slice a1 L.length d1) (L)) := O_w_13.out.all hb14
      have O_x_14 : Hid (ownsR w14 w.heap.size 36 (.slice a2 (l.length) d2) (marksF 1 l.length)) := O_x_13.out.all hb14
      have O_g_14 : Hid (ownsR w14 w.heap.size 36 (.slice a4 L.length d4) (marksF 1 L.length)) := O_g_13.out.all hb14
      have O_h_14 : Hid (ownsR w14 w.heap.size 36 (.slice a12 L.length d12) (L)) := O_h_13.out.all hb14
      have B14 : Below w.heap.size w w14 := B13.trans (hb14.mono B13.size)
      clear c_a_13 c_b0_13 c_b1_13 c_b2_13 c_b3_13 c_cw_13 c_cx_13 c_cg_13 c_ch_13 O_w_13 O_x_13 O_g_13 O_h_13 B13 hb14
      go_wp2
      go_ret
      exact ⟨rfl, B14⟩
end Go.Proofs.Ytekflgecfcjjiaa
