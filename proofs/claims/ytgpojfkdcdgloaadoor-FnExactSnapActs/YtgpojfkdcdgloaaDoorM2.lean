/-
  The law's helpers on acts, by what they read; a box of one cell. The law on the acts that lay a snapshot down: the walk.
-/
import Derived.Test.YtgpojfkdcdgloaaDoorM5
import Derived.Test.YtgpojfkdcdgloaaDoorMf
import Derived.Test.YtgpojfkdcdgloaaDoorM1
import Derived.Test.YtgpojfkdcdgloaaDoorM0
namespace Go.Proofs.YtgpojfkdcdgloaaDoor
open Go Go.RowKit

theorem eqActS_val {w : World} {va vb : Value} {l : List Ac} (ha : Reads w va l) (hb : Reads w vb l) (hn : l.length ≤ 1048577) :
    Calls Tryd.prog 24 #[va, vb] w fun e w' => e = .returned (.bool true) ∧ Below w.heap.size w w' := by
  obtain ⟨ao, c, rfl, _⟩ := id ha
  obtain ⟨bo, d, rfl, _⟩ := id hb
  exact eqActS_any ao bo _ c d l w ha hb hn
theorem heldActS_val {w : World} {v : Value} {x : Int} {n : Nat} (hr : Reads w v (marksAc x n)) (hn : n ≤ 1048577) (hx0 : 0 < x) (hx : x ≤ 100000000) :
    Calls Tryd.prog 28 #[v, .int .i64 x] w fun e w' => e = .returned (.int .i64 (x + 4 * (n : Int))) ∧ Below w.heap.size w w' := by
  obtain ⟨ao, c, rfl, _⟩ := id hr
  rw [marksAc_length] at hr ⊢
  exact heldActS_any ao n c x w hr hn hx0 hx
theorem cells1_new {w w' : World} {a : Value} {t : TypeId} (hb : Below (w.alloc (.cells #[a] t)).heap.size (w.alloc (.cells #[a] t)) w') : w'.cell? ⟨w.heap.size, 0, none⟩ = some a :=
  (hb.cell (by simp)).trans (by simp [go_sem])
end Go.Proofs.YtgpojfkdcdgloaaDoor

namespace Go.Proofs.YtgpojfkdcdgloaaDoor
open Go Go.RowKit

theorem saL_length (l : List Fl) (i t : Int) (cl : List Int) (b : ByteArray) : (saL l i t cl b).length ≤ 1048577 := by
  cases h : saB l i t cl b with
  | false => rw [saL_no h]; exact Nat.zero_le _
  | true =>
    have h2 := h
    unfold saB at h2
    rw [Bool.and_eq_true] at h2
    have h3 := diskR_len h2.2
    rw [saL_yes h]
    unfold actsS
    have a1 := newDrop_length l
    have a2 := chunksT_length (textS i t cl b)
    have a3 := textS_le (i := i) (t := t) (cl := cl) (b := b)
    have a4 := dropsS_length i l
    rw [List.length_append, List.length_append, List.length_append]
    have a5 : (twoA (sname i)).length = 2 := rfl
    omega
set_option maxRecDepth 10000 in
set_option maxHeartbeats 4000000 in
theorem law_SnapActs (ao : Option Addr) (n cap : Nat) (l : List Fl) (i t : Int) (bo : Option Addr) (k d : Nat) (cl : List Int) (b : ByteArray) (w : World) (hr : Reads w (.slice ao n cap) l) (hs : Small l) (hn : n ≤ 9223372036854775807) (hr2 : Reads w (.slice bo k d) cl) (hk : k ≤ 9223372036854775807) (hb : b.size ≤ 9223372036854775807) (hp : PowIs w) (ht : TableIs w) :
    Calls Tryd.prog 6 #[.agg #[.slice ao n cap], .agg #[.int .i64 i, .int .i64 t, .slice bo k d, .string b]] w fun e w' => e = .returned (.bool true) ∧ Below w.heap.size w w' := by
  have HR : Hid (Reads w (.slice ao n cap) l) := hr
  have HN : Hid (n = l.length) := hr.len
  have HR2 : Hid (Reads w (.slice bo k d) cl) := hr2
  have HN2 : Hid (k = cl.length) := hr2.len
  have HS : Hid (Small l) := hs
  have HP : Hid (PowIs w) := hp
  have HT : Hid (TableIs w) := ht
  clear hr hs hr2 hp ht
  obtain ⟨q, HQ⟩ : ∃ q, Hid (saB l i t cl b = q) := ⟨_, rfl⟩
  obtain ⟨L, HX⟩ : ∃ q, Hid (saL l i t cl b = q) := ⟨_, rfl⟩
  have HO : Hid (L.length ≤ 1048577) := by show _ ≤ _; rw [← HX.out]; exact saL_length l i t cl b
  go_enter Tryd.func6, Tryd.ntmps6
  go_wp2_with fail
  refine (szDisk_any _ l _ _ ((HR.out.alloc _).alloc _) HS.out (by decide) (by decide) (by rw [← HN.out]; exact hn)).mono ?_
  rintro e wz ⟨r, rfl, hr, hbz⟩
  have BZ : Below w.heap.size w wz := (ba (ba (Below.refl _ _) _) _).trans (hbz.mono (by simp; omega))
  have k0 := one_cellD (blk_upD (heap_old (heap_last w (.cells #[.slice ao n cap] 40)) (.cells #[.int .i64 i, .int .i64 t, .slice bo k d, .string b] 26)) hbz)
  obtain ⟨m0, m1, m2, m3⟩ := sb_cells (blk_upD (heap_next w (.cells #[.slice ao n cap] 40) (.cells #[.int .i64 i, .int .i64 t, .slice bo k d, .string b] 26)) hbz)
  clear hbz
  rcases hr with rfl | ⟨hr0, hr1⟩
  · go_wp2
    go_ret
    exact ⟨rfl, BZ⟩
  · have hr9 : r ≤ 1048576 := by omega
    have HL : Hid (l.length ≤ 1048576) := by show l.length ≤ 1048576; omega
    clear hr1
    go_wp2_with fail
    refine (szSnap_any i t _ cl b r _ (HR2.out.below BZ) hb hr9 hr0 (by rw [← HN2.out]; exact hk)).mono ?_
    rintro e w0 ⟨r2, rfl, hr2, hb0⟩
    rcases hr2 with rfl | ⟨hr20, hr21⟩
    · go_wp2
      go_ret
      exact ⟨rfl, Below.on BZ hb0⟩
    · have HL2 : Hid (cl.length ≤ 1048576) := by show cl.length ≤ 1048576; omega
      have HZ : Hid (b.size ≤ 1048576) := by show b.size ≤ 1048576; omega
      have CS : Hid (∀ (W : World) (B B2 : Nat) (x y : Value), ownsR W B 84 x l → ownsR W B2 3 y cl → Calls Tryd.prog 21 #[.agg #[x], .agg #[.int .i64 i, .int .i64 t, y, .string b]] W fun e w' => ∃ v, e = .returned (.tuple #[v, .bool q]) ∧ ownsR w' W.heap.size 75 v L ∧ Below W.heap.size W w') := fun W B B2 x y h1 h2 => by
        rw [← HQ.out, ← HX.out]; exact specSnapActs_any h1.reads h2.reads (Nat.le_trans HL2.out (by decide)) HZ.out
      have CI : Hid (∀ (W : World) (B B2 : Nat) (x y : Value), ownsR W B 84 x l → ownsR W B2 3 y cl → PowIs W → TableIs W → Calls Tryd.prog 23 #[.agg #[x], .agg #[.int .i64 i, .int .i64 t, y, .string b]] W fun e w' => ∃ v, e = .returned (.tuple #[v, .bool q]) ∧ ownsR w' W.heap.size 75 v L ∧ Below W.heap.size W w') := fun W B B2 x y h1 h2 h3 h4 => by
        rw [← HQ.out, ← HX.out]; exact snapActs_any h1.reads h2.reads (Nat.le_trans HL2.out (by decide)) HZ.out h3 h4
      have c_a0_0 := cell_up hb0 k0
      have c_b0_0 := cell_up hb0 m0
      have c_b1_0 := cell_up hb0 m1
      have c_b2_0 := cell_up hb0 m2
      have c_b3_0 := cell_up hb0 m3
      have B0 : Below w.heap.size w w0 := Below.on BZ hb0
      clear hb0 k0 m0 m1 m2 m3 hr21 hr0 hr9 BZ
      have K_a0 := Below.cellOf (B := w0.heap.size) (W := w0) (p := ⟨w.heap.size, 0, none⟩) (v := .slice ao n cap) (World.block_lt_of_cell? _ _ c_a0_0) c_a0_0
      have K_b0 := Below.cellOf (B := w0.heap.size) (W := w0) (p := ⟨w.heap.size + 1, 0, none⟩) (v := .int .i64 i) (World.block_lt_of_cell? _ _ c_b0_0) c_b0_0
      have K_b1 := Below.cellOf (B := w0.heap.size) (W := w0) (p := ⟨w.heap.size + 1, 1, none⟩) (v := .int .i64 t) (World.block_lt_of_cell? _ _ c_b1_0) c_b1_0
      have K_b2 := Below.cellOf (B := w0.heap.size) (W := w0) (p := ⟨w.heap.size + 1, 2, none⟩) (v := .slice bo k d) (World.block_lt_of_cell? _ _ c_b2_0) c_b2_0
      have K_b3 := Below.cellOf (B := w0.heap.size) (W := w0) (p := ⟨w.heap.size + 1, 3, none⟩) (v := .string b) (World.block_lt_of_cell? _ _ c_b3_0) c_b3_0
      go_wp2_with fail
      go_region_held3 (fun w' => Below w0.heap.size w0 w') ((first | exact (Below.refl _ _).drew | exact hS3 | exact hS2 | exact hS1)) ((first | (go_at_call 22; refine (toDisk_any _ l _ (HR.out.below (Below.on B0 (by assumption))) HL.out).mono ?_; rintro e w1 ⟨v1, rfl, ho1, hb1⟩; obtain ⟨a1, n1, d1, rfl⟩ := ho1.slice3; have hS1 := keep_on (B := w0.heap.size) (W := w0) hb1 (by assumption) (Nat.le_refl _)) | (go_at_call 13; refine (toSnap_any i t _ cl b _ (HR2.out.below (Below.on B0 (by assumption))) HL2.out).mono ?_; rintro e w2 ⟨v2, rfl, ho2, hb2⟩; obtain ⟨a2, n2, d2, rfl⟩ := ho2.slice3; have hS2 := keep_on (B := w0.heap.size) (W := w0) hb2 (by assumption) (Nat.le_refl _)) | (go_at_call 21; refine (CS.out _ _ _ _ _ (ho1.all hb2) ho2).mono ?_; rintro e w3 ⟨v3, rfl, ho3, hb3⟩; obtain ⟨a3, n3, d3, rfl⟩ := ho3.slice3; have hS3 := keep_on (B := w0.heap.size) (W := w0) hb3 (by assumption) (Nat.le_refl _))))
      replace ho3 := ho3.mono hS2.size
      clear ho1 ho2 hb1 hb2 hb3 hS1 hS2 K_a0 K_b0 K_b1 K_b2 K_b3
      have ac_a_w := cell_apart c_a0_0 ho3
      have ac_b_w := cell_apart c_b0_0 ho3
      have c_a0_3 := cell_up hS3 c_a0_0
      have c_b0_3 := cell_up hS3 c_b0_0
      have c_b1_3 := cell_up hS3 c_b1_0
      have c_b2_3 := cell_up hS3 c_b2_0
      have c_b3_3 := cell_up hS3 c_b3_0
      have B3 : Below w.heap.size w w3 := B0.trans (hS3.mono B0.size)
      have O_w_3 : Hid (ownsR w3 w.heap.size 75 (.slice a3 n3 d3) (L)) := ho3.mono B0.size
      clear c_a0_0 c_b0_0 c_b1_0 c_b2_0 c_b3_0 B0 hS3 ho3
      go_wp2_with fail
      refine (toDisk_any _ l _ (HR.out.below B3) HL.out).mono ?_
      rintro e w4 ⟨v4, rfl, ho4, hb4⟩
      obtain ⟨a4, n4, d4, rfl⟩ := ho4.slice3
      have ap_w_x := apart_new O_w_3.out ho4
      have ap_x_w := apart_old O_w_3.out ho4
      have ac_a_x := cell_apart c_a0_3 ho4
      have ac_b_x := cell_apart c_b0_3 ho4
      have c_a0_4 := cell_up hb4 c_a0_3
      have c_b0_4 := cell_up hb4 c_b0_3
      have c_b1_4 := cell_up hb4 c_b1_3
      have c_b2_4 := cell_up hb4 c_b2_3
      have c_b3_4 := cell_up hb4 c_b3_3
      have O_w_4 : Hid (ownsR w4 w.heap.size 75 (.slice a3 n3 d3) (L)) := O_w_3.out.all hb4
      have B4 : Below w.heap.size w w4 := B3.trans (hb4.mono B3.size)
      have O_x_4 : Hid (ownsR w4 w.heap.size 84 (.slice a4 n4 d4) (l)) := ho4.mono B3.size
      clear c_a0_3 c_b0_3 c_b1_3 c_b2_3 c_b3_3 O_w_3 B3 hb4 ho4
      have sz_a : w.heap.size < w4.heap.size := World.block_lt_of_cell? _ _ c_a0_4
      have sz_b : w.heap.size + 1 < w4.heap.size := World.block_lt_of_cell? _ _ c_b0_4
      go_wp2_with fail
      refine (toSnap_any i t _ cl b _ ((HR2.out.below B4).alloc _) HL2.out).mono ?_
      rintro e w5 ⟨v5, rfl, ho5, hb5⟩
      obtain ⟨a5, n5, d5, rfl⟩ := ho5.slice3
      have ap_w_y := apart_new (O_w_4.out.alloc _) ho5
      have ap_y_w := apart_old (O_w_4.out.alloc _) ho5
      have ap_x_y := apart_new (O_x_4.out.alloc _) ho5
      have ap_y_x := apart_old (O_x_4.out.alloc _) ho5
      have ac_a_y := cell_apart (cell_up (ba (Below.refl _ w4) _) c_a0_4) ho5
      have ac_b_y := cell_apart (cell_up (ba (Below.refl _ w4) _) c_b0_4) ho5
      have ac_x_y := cell_apart (p := ⟨w4.heap.size, 0, none⟩) (u := .slice a4 n4 d4) (w := (w4.alloc (Obj.cells #[.slice a4 n4 d4] 47))) (by simp [go_sem]) ho5
      have c_x0_5 := cells1_new hb5
      have ac_x_w := cell_apart_new O_w_4.out
      have ac_x_x := cell_apart_new O_x_4.out
      have hb5 := below_new hb5
      have c_a0_5 := cell_up hb5 c_a0_4
      have c_b0_5 := cell_up hb5 c_b0_4
      have c_b1_5 := cell_up hb5 c_b1_4
      have c_b2_5 := cell_up hb5 c_b2_4
      have c_b3_5 := cell_up hb5 c_b3_4
      have O_w_5 : Hid (ownsR w5 w.heap.size 75 (.slice a3 n3 d3) (L)) := O_w_4.out.all hb5
      have O_x_5 : Hid (ownsR w5 w.heap.size 84 (.slice a4 n4 d4) (l)) := O_x_4.out.all hb5
      have B5 : Below w.heap.size w w5 := B4.trans (hb5.mono B4.size)
      have O_y_5 : Hid (ownsR w5 w.heap.size 3 (.slice a5 n5 d5) (cl)) := ho5.mono (by have := B4.size; simp; omega)
      clear c_a0_4 c_b0_4 c_b1_4 c_b2_4 c_b3_4 sz_a sz_b O_w_4 O_x_4 B4 hb5 ho5
      have sz_a : w.heap.size < w5.heap.size := World.block_lt_of_cell? _ _ c_a0_5
      have sz_b : w.heap.size + 1 < w5.heap.size := World.block_lt_of_cell? _ _ c_b0_5
      have sz_x : w4.heap.size < w5.heap.size := World.block_lt_of_cell? _ _ c_x0_5
      go_wp2_with fail
      refine (CI.out _ _ _ _ _ (O_x_5.out.alloc _) (O_y_5.out.alloc _) ((HP.out.below B5).below (ba (Below.refl _ _) _)) ((HT.out.below B5).below (ba (Below.refl _ _) _))).mono ?_
      rintro e w6 ⟨v6, rfl, ho6, hb6⟩
      obtain ⟨a6, n6, d6, rfl⟩ := ho6.slice3
      have ap_w_g := apart_new (O_w_5.out.alloc _) ho6
      have ap_g_w := apart_old (O_w_5.out.alloc _) ho6
      have ap_x_g := apart_new (O_x_5.out.alloc _) ho6
      have ap_g_x := apart_old (O_x_5.out.alloc _) ho6
      have ap_y_g := apart_new (O_y_5.out.alloc _) ho6
      have ap_g_y := apart_old (O_y_5.out.alloc _) ho6
      have ac_a_g := cell_apart (cell_up (ba (Below.refl _ w5) _) c_a0_5) ho6
      have ac_b_g := cell_apart (cell_up (ba (Below.refl _ w5) _) c_b0_5) ho6
      have ac_x_g := cell_apart (cell_up (ba (Below.refl _ w5) _) c_x0_5) ho6
      have ac_y_g := cell_apart (p := ⟨w5.heap.size, 0, none⟩) (u := .int .i64 i) (w := (w5.alloc (Obj.cells #[.int .i64 i, .int .i64 t, .slice a5 n5 d5, .string b] 30))) (by simp [go_sem]) ho6
      obtain ⟨c_y0_6, c_y1_6, c_y2_6, c_y3_6⟩ := cells4_new hb6
      have ac_y_w := cell_apart_new O_w_5.out
      have ac_y_x := cell_apart_new O_x_5.out
      have ac_y_y := cell_apart_new O_y_5.out
      have hb6 := below_new hb6
      have c_a0_6 := cell_up hb6 c_a0_5
      have c_b0_6 := cell_up hb6 c_b0_5
      have c_b1_6 := cell_up hb6 c_b1_5
      have c_b2_6 := cell_up hb6 c_b2_5
      have c_b3_6 := cell_up hb6 c_b3_5
      have c_x0_6 := cell_up hb6 c_x0_5
      have O_w_6 : Hid (ownsR w6 w.heap.size 75 (.slice a3 n3 d3) (L)) := O_w_5.out.all hb6
      have O_x_6 : Hid (ownsR w6 w.heap.size 84 (.slice a4 n4 d4) (l)) := O_x_5.out.all hb6
      have O_y_6 : Hid (ownsR w6 w.heap.size 3 (.slice a5 n5 d5) (cl)) := O_y_5.out.all hb6
      have B6 : Below w.heap.size w w6 := B5.trans (hb6.mono B5.size)
      have O_g_6 : Hid (ownsR w6 w.heap.size 75 (.slice a6 n6 d6) (L)) := ho6.mono (by have := B5.size; simp; omega)
      clear c_a0_5 c_b0_5 c_b1_5 c_b2_5 c_b3_5 c_x0_5 sz_a sz_b sz_x O_w_5 O_x_5 O_y_5 B5 hb6 ho6
      go_wp2_with fail
      refine (eqActS_val (ownsR.reads O_g_6.out) (ownsR.reads O_w_6.out) HO.out).mono ?_
      rintro e w7 ⟨rfl, hb7⟩
      have c_a0_7 := cell_up hb7 c_a0_6
      have c_b0_7 := cell_up hb7 c_b0_6
      have c_b1_7 := cell_up hb7 c_b1_6
      have c_b2_7 := cell_up hb7 c_b2_6
      have c_b3_7 := cell_up hb7 c_b3_6
      have c_x0_7 := cell_up hb7 c_x0_6
      have c_y0_7 := cell_up hb7 c_y0_6
      have c_y1_7 := cell_up hb7 c_y1_6
      have c_y2_7 := cell_up hb7 c_y2_6
      have c_y3_7 := cell_up hb7 c_y3_6
      have O_w_7 : Hid (ownsR w7 w.heap.size 75 (.slice a3 n3 d3) (L)) := O_w_6.out.all hb7
      have O_x_7 : Hid (ownsR w7 w.heap.size 84 (.slice a4 n4 d4) (l)) := O_x_6.out.all hb7
      have O_y_7 : Hid (ownsR w7 w.heap.size 3 (.slice a5 n5 d5) (cl)) := O_y_6.out.all hb7
      have O_g_7 : Hid (ownsR w7 w.heap.size 75 (.slice a6 n6 d6) (L)) := O_g_6.out.all hb7
      have B7 : Below w.heap.size w w7 := B6.trans (hb7.mono B6.size)
      clear c_a0_6 c_b0_6 c_b1_6 c_b2_6 c_b3_6 c_x0_6 c_y0_6 c_y1_6 c_y2_6 c_y3_6 O_w_6 O_x_6 O_y_6 O_g_6 B6 hb7
      have K_x0 := Below.cellOf (B := w7.heap.size) (W := w7) (p := ⟨w4.heap.size, 0, none⟩) (v := .slice a4 n4 d4) (World.block_lt_of_cell? _ _ c_x0_7) c_x0_7
      have K_a0 := Below.cellOf (B := w7.heap.size) (W := w7) (p := ⟨w.heap.size, 0, none⟩) (v := .slice ao n cap) (World.block_lt_of_cell? _ _ c_a0_7) c_a0_7
      go_wp2_with fail
      go_region_held3 (fun w' => Below w7.heap.size w7 w') ((first | exact (Below.refl _ _).drew | exact hS8 | exact hS9)) ((first | (go_at_call 22; refine (toDisk_any _ l _ (HR.out.below (Below.on B7 (by assumption))) HL.out).mono ?_; rintro e w8 ⟨v8, rfl, ho8, hb8⟩; obtain ⟨a8, n8, d8, rfl⟩ := ho8.slice3; have hS8 := keep_on (B := w7.heap.size) (W := w7) hb8 (by assumption) (Nat.le_refl _)) | (go_at_call 25; refine (eqDisk_any _ _ l _ ((ownsR.reads O_x_7.out).below hS8) ho8.reads (Nat.le_trans HL.out (by decide))).mono ?_; rintro e w9 ⟨rfl, hb9⟩; have hS9 := keep_on (B := w7.heap.size) (W := w7) hb9 hS8 (Nat.le_refl _))))
      clear ho8 hb8 hb9 hS8 K_x0 K_a0
      have c_a0_9 := cell_up hS9 c_a0_7
      have c_b0_9 := cell_up hS9 c_b0_7
      have c_b1_9 := cell_up hS9 c_b1_7
      have c_b2_9 := cell_up hS9 c_b2_7
      have c_b3_9 := cell_up hS9 c_b3_7
      have c_x0_9 := cell_up hS9 c_x0_7
      have c_y0_9 := cell_up hS9 c_y0_7
      have c_y1_9 := cell_up hS9 c_y1_7
      have c_y2_9 := cell_up hS9 c_y2_7
      have c_y3_9 := cell_up hS9 c_y3_7
      have O_w_9 : Hid (ownsR w9 w.heap.size 75 (.slice a3 n3 d3) (L)) := O_w_7.out.all hS9
      have O_x_9 : Hid (ownsR w9 w.heap.size 84 (.slice a4 n4 d4) (l)) := O_x_7.out.all hS9
      have O_y_9 : Hid (ownsR w9 w.heap.size 3 (.slice a5 n5 d5) (cl)) := O_y_7.out.all hS9
      have O_g_9 : Hid (ownsR w9 w.heap.size 75 (.slice a6 n6 d6) (L)) := O_g_7.out.all hS9
      have B9 : Below w.heap.size w w9 := B7.trans (hS9.mono B7.size)
      clear c_a0_7 c_b0_7 c_b1_7 c_b2_7 c_b3_7 c_x0_7 c_y0_7 c_y1_7 c_y2_7 c_y3_7 O_w_7 O_x_7 O_y_7 O_g_7 B7 hS9
      have K_y0 := Below.cellOf (B := w9.heap.size) (W := w9) (p := ⟨w5.heap.size, 0, none⟩) (v := .int .i64 i) (World.block_lt_of_cell? _ _ c_y0_9) c_y0_9
      have K_y1 := Below.cellOf (B := w9.heap.size) (W := w9) (p := ⟨w5.heap.size, 1, none⟩) (v := .int .i64 t) (World.block_lt_of_cell? _ _ c_y1_9) c_y1_9
      have K_y2 := Below.cellOf (B := w9.heap.size) (W := w9) (p := ⟨w5.heap.size, 2, none⟩) (v := .slice a5 n5 d5) (World.block_lt_of_cell? _ _ c_y2_9) c_y2_9
      have K_y3 := Below.cellOf (B := w9.heap.size) (W := w9) (p := ⟨w5.heap.size, 3, none⟩) (v := .string b) (World.block_lt_of_cell? _ _ c_y3_9) c_y3_9
      have K_b0 := Below.cellOf (B := w9.heap.size) (W := w9) (p := ⟨w.heap.size + 1, 0, none⟩) (v := .int .i64 i) (World.block_lt_of_cell? _ _ c_b0_9) c_b0_9
      have K_b1 := Below.cellOf (B := w9.heap.size) (W := w9) (p := ⟨w.heap.size + 1, 1, none⟩) (v := .int .i64 t) (World.block_lt_of_cell? _ _ c_b1_9) c_b1_9
      have K_b2 := Below.cellOf (B := w9.heap.size) (W := w9) (p := ⟨w.heap.size + 1, 2, none⟩) (v := .slice bo k d) (World.block_lt_of_cell? _ _ c_b2_9) c_b2_9
      have K_b3 := Below.cellOf (B := w9.heap.size) (W := w9) (p := ⟨w.heap.size + 1, 3, none⟩) (v := .string b) (World.block_lt_of_cell? _ _ c_b3_9) c_b3_9
      go_wp2_with fail
      go_region_held3 (fun w' => Below w9.heap.size w9 w') ((first | exact (Below.refl _ _).drew | exact hS10 | exact hS11)) ((first | (go_at_call 13; refine (toSnap_any i t _ cl b _ (HR2.out.below (Below.on B9 (by assumption))) HL2.out).mono ?_; rintro e w10 ⟨v10, rfl, ho10, hb10⟩; obtain ⟨a10, n10, d10, rfl⟩ := ho10.slice3; have hS10 := keep_on (B := w9.heap.size) (W := w9) hb10 (by assumption) (Nat.le_refl _)) | (go_at_call 15; refine (eqSnap_any i t _ _ cl b _ ((ownsR.reads O_y_9.out).below hS10) ho10.reads (Nat.le_trans HL2.out (by decide))).mono ?_; rintro e w11 ⟨rfl, hb11⟩; have hS11 := keep_on (B := w9.heap.size) (W := w9) hb11 hS10 (Nat.le_refl _))))
      clear ho10 hb10 hb11 hS10 K_y0 K_y1 K_y2 K_y3 K_b0 K_b1 K_b2 K_b3
      have c_a0_11 := cell_up hS11 c_a0_9
      have c_b0_11 := cell_up hS11 c_b0_9
      have c_b1_11 := cell_up hS11 c_b1_9
      have c_b2_11 := cell_up hS11 c_b2_9
      have c_b3_11 := cell_up hS11 c_b3_9
      have c_x0_11 := cell_up hS11 c_x0_9
      have c_y0_11 := cell_up hS11 c_y0_9
      have c_y1_11 := cell_up hS11 c_y1_9
      have c_y2_11 := cell_up hS11 c_y2_9
      have c_y3_11 := cell_up hS11 c_y3_9
      have O_w_11 : Hid (ownsR w11 w.heap.size 75 (.slice a3 n3 d3) (L)) := O_w_9.out.all hS11
      have O_x_11 : Hid (ownsR w11 w.heap.size 84 (.slice a4 n4 d4) (l)) := O_x_9.out.all hS11
      have O_y_11 : Hid (ownsR w11 w.heap.size 3 (.slice a5 n5 d5) (cl)) := O_y_9.out.all hS11
      have O_g_11 : Hid (ownsR w11 w.heap.size 75 (.slice a6 n6 d6) (L)) := O_g_9.out.all hS11
      have B11 : Below w.heap.size w w11 := B9.trans (hS11.mono B9.size)
      clear c_a0_9 c_b0_9 c_b1_9 c_b2_9 c_b3_9 c_x0_9 c_y0_9 c_y1_9 c_y2_9 c_y3_9 O_w_9 O_x_9 O_y_9 O_g_9 B9 hS11
      go_wp2_with fail
      refine (markDisk_any (x := 1) O_x_11.out (Nat.le_trans HL.out (by decide)) (by decide) (by decide)).mono ?_
      rintro e w12 ⟨rfl, hm12, hg12⟩
      have c_a0_12 := cell_other c_a0_11 hg12 ac_a_x
      have c_b0_12 := cell_other c_b0_11 hg12 ac_b_x
      have c_b1_12 := cell_other c_b1_11 hg12 ac_b_x
      have c_b2_12 := cell_other c_b2_11 hg12 ac_b_x
      have c_b3_12 := cell_other c_b3_11 hg12 ac_b_x
      have c_x0_12 := cell_other c_x0_11 hg12 ac_x_x
      have c_y0_12 := cell_other c_y0_11 hg12 ac_y_x
      have c_y1_12 := cell_other c_y1_11 hg12 ac_y_x
      have c_y2_12 := cell_other c_y2_11 hg12 ac_y_x
      have c_y3_12 := cell_other c_y3_11 hg12 ac_y_x
      have O_w_12 : Hid (ownsR w12 w.heap.size 75 (.slice a3 n3 d3) (L)) := O_w_11.out.other hg12 ap_w_x
      have O_y_12 : Hid (ownsR w12 w.heap.size 3 (.slice a5 n5 d5) (cl)) := O_y_11.out.other hg12 ap_y_x
      have O_g_12 : Hid (ownsR w12 w.heap.size 75 (.slice a6 n6 d6) (L)) := O_g_11.out.other hg12 ap_g_x
      have B12 : Below w.heap.size w w12 := below_marked B11 O_x_11.out hg12
      have O_x_12 : Hid (ownsR w12 w.heap.size 84 (.slice a4 n4 d4) (marksF 1 l.length)) := hm12
      clear c_a0_11 c_b0_11 c_b1_11 c_b2_11 c_b3_11 c_x0_11 c_y0_11 c_y1_11 c_y2_11 c_y3_11 O_w_11 O_y_11 O_g_11 B11 hm12 O_x_11 hg12
      go_wp2_with fail
      refine (markSnap_any (i := i) (t := t) (b := b) (x := 1 + 3 * (l.length : Int)) O_y_12.out (Nat.le_trans HL2.out (by decide)) (by omega) (by have := HL.out; omega)).mono ?_
      rintro e w13 ⟨rfl, hg13⟩
      have c_a0_13 := cell_other c_a0_12 hg13 ac_a_y
      have c_b0_13 := cell_other c_b0_12 hg13 ac_b_y
      have c_b1_13 := cell_other c_b1_12 hg13 ac_b_y
      have c_b2_13 := cell_other c_b2_12 hg13 ac_b_y
      have c_b3_13 := cell_other c_b3_12 hg13 ac_b_y
      have c_x0_13 := cell_other c_x0_12 hg13 ac_x_y
      have c_y0_13 := cell_other c_y0_12 hg13 ac_y_y
      have c_y1_13 := cell_other c_y1_12 hg13 ac_y_y
      have c_y2_13 := cell_other c_y2_12 hg13 ac_y_y
      have c_y3_13 := cell_other c_y3_12 hg13 ac_y_y
      have O_w_13 : Hid (ownsR w13 w.heap.size 75 (.slice a3 n3 d3) (L)) := O_w_12.out.other hg13 ap_w_y
      have O_x_13 : Hid (ownsR w13 w.heap.size 84 (.slice a4 n4 d4) (marksF 1 l.length)) := O_x_12.out.other hg13 ap_x_y
      have O_g_13 : Hid (ownsR w13 w.heap.size 75 (.slice a6 n6 d6) (L)) := O_g_12.out.other hg13 ap_g_y
      have B13 : Below w.heap.size w w13 := below_marked B12 O_y_12.out hg13
      clear c_a0_12 c_b0_12 c_b1_12 c_b2_12 c_b3_12 c_x0_12 c_y0_12 c_y1_12 c_y2_12 c_y3_12 O_w_12 O_x_12 O_g_12 B12 O_y_12 hg13
      go_wp2_with fail
      refine (eqActS_val (ownsR.reads O_g_13.out) (ownsR.reads O_w_13.out) HO.out).mono ?_
      rintro e w14 ⟨rfl, hb14⟩
      have c_a0_14 := cell_up hb14 c_a0_13
      have c_b0_14 := cell_up hb14 c_b0_13
      have c_b1_14 := cell_up hb14 c_b1_13
      have c_b2_14 := cell_up hb14 c_b2_13
      have c_b3_14 := cell_up hb14 c_b3_13
      have c_x0_14 := cell_up hb14 c_x0_13
      have c_y0_14 := cell_up hb14 c_y0_13
      have c_y1_14 := cell_up hb14 c_y1_13
      have c_y2_14 := cell_up hb14 c_y2_13
      have c_y3_14 := cell_up hb14 c_y3_13
      have O_w_14 : Hid (ownsR w14 w.heap.size 75 (.slice a3 n3 d3) (L)) := O_w_13.out.all hb14
      have O_g_14 : Hid (ownsR w14 w.heap.size 75 (.slice a6 n6 d6) (L)) := O_g_13.out.all hb14
      have B14 : Below w.heap.size w w14 := B13.trans (hb14.mono B13.size)
      clear c_a0_13 c_b0_13 c_b1_13 c_b2_13 c_b3_13 c_x0_13 c_y0_13 c_y1_13 c_y2_13 c_y3_13 O_w_13 O_g_13 B13 hb14
      go_wp2_with fail
      refine (markActS_any (x := 1) O_g_14.out HO.out (by decide) (by decide)).mono ?_
      rintro e w15 ⟨rfl, hm15, hg15⟩
      have c_a0_15 := cell_other c_a0_14 hg15 ac_a_g
      have c_b0_15 := cell_other c_b0_14 hg15 ac_b_g
      have c_b1_15 := cell_other c_b1_14 hg15 ac_b_g
      have c_b2_15 := cell_other c_b2_14 hg15 ac_b_g
      have c_b3_15 := cell_other c_b3_14 hg15 ac_b_g
      have c_x0_15 := cell_other c_x0_14 hg15 ac_x_g
      have c_y0_15 := cell_other c_y0_14 hg15 ac_y_g
      have c_y1_15 := cell_other c_y1_14 hg15 ac_y_g
      have c_y2_15 := cell_other c_y2_14 hg15 ac_y_g
      have c_y3_15 := cell_other c_y3_14 hg15 ac_y_g
      have O_w_15 : Hid (ownsR w15 w.heap.size 75 (.slice a3 n3 d3) (L)) := O_w_14.out.other hg15 ap_w_g
      have B15 : Below w.heap.size w w15 := below_marked B14 O_g_14.out hg15
      have O_g_15 : Hid (ownsR w15 w.heap.size 75 (.slice a6 n6 d6) (marksAc 1 L.length)) := hm15
      clear c_a0_14 c_b0_14 c_b1_14 c_b2_14 c_b3_14 c_x0_14 c_y0_14 c_y1_14 c_y2_14 c_y3_14 O_w_14 B14 hm15 O_g_14 hg15
      go_wp2_with fail
      refine (heldActS_val (x := 1) (ownsR.reads O_g_15.out) HO.out (by decide) (by decide)).mono ?_
      rintro e w16 ⟨rfl, hb16⟩
      have c_a0_16 := cell_up hb16 c_a0_15
      have c_b0_16 := cell_up hb16 c_b0_15
      have c_b1_16 := cell_up hb16 c_b1_15
      have c_b2_16 := cell_up hb16 c_b2_15
      have c_b3_16 := cell_up hb16 c_b3_15
      have c_x0_16 := cell_up hb16 c_x0_15
      have c_y0_16 := cell_up hb16 c_y0_15
      have c_y1_16 := cell_up hb16 c_y1_15
      have c_y2_16 := cell_up hb16 c_y2_15
      have c_y3_16 := cell_up hb16 c_y3_15
      have O_w_16 : Hid (ownsR w16 w.heap.size 75 (.slice a3 n3 d3) (L)) := O_w_15.out.all hb16
      have O_g_16 : Hid (ownsR w16 w.heap.size 75 (.slice a6 n6 d6) (marksAc 1 L.length)) := O_g_15.out.all hb16
      have B16 : Below w.heap.size w w16 := B15.trans (hb16.mono B15.size)
      clear c_a0_15 c_b0_15 c_b1_15 c_b2_15 c_b3_15 c_x0_15 c_y0_15 c_y1_15 c_y2_15 c_y3_15 O_w_15 O_g_15 B15 hb16
      have K_a0 := Below.cellOf (B := w16.heap.size) (W := w16) (p := ⟨w.heap.size, 0, none⟩) (v := .slice ao n cap) (World.block_lt_of_cell? _ _ c_a0_16) c_a0_16
      have K_b0 := Below.cellOf (B := w16.heap.size) (W := w16) (p := ⟨w.heap.size + 1, 0, none⟩) (v := .int .i64 i) (World.block_lt_of_cell? _ _ c_b0_16) c_b0_16
      have K_b1 := Below.cellOf (B := w16.heap.size) (W := w16) (p := ⟨w.heap.size + 1, 1, none⟩) (v := .int .i64 t) (World.block_lt_of_cell? _ _ c_b1_16) c_b1_16
      have K_b2 := Below.cellOf (B := w16.heap.size) (W := w16) (p := ⟨w.heap.size + 1, 2, none⟩) (v := .slice bo k d) (World.block_lt_of_cell? _ _ c_b2_16) c_b2_16
      have K_b3 := Below.cellOf (B := w16.heap.size) (W := w16) (p := ⟨w.heap.size + 1, 3, none⟩) (v := .string b) (World.block_lt_of_cell? _ _ c_b3_16) c_b3_16
      go_wp2_with fail
      go_region_held3 (fun w' => Below w16.heap.size w16 w') ((first | exact (Below.refl _ _).drew | exact hS19 | exact hS18 | exact hS17)) ((first | (go_at_call 22; refine (toDisk_any _ l _ (HR.out.below (Below.on B16 (by assumption))) HL.out).mono ?_; rintro e w17 ⟨v17, rfl, ho17, hb17⟩; obtain ⟨a17, n17, d17, rfl⟩ := ho17.slice3; have hS17 := keep_on (B := w16.heap.size) (W := w16) hb17 (by assumption) (Nat.le_refl _)) | (go_at_call 13; refine (toSnap_any i t _ cl b _ (HR2.out.below (Below.on B16 (by assumption))) HL2.out).mono ?_; rintro e w18 ⟨v18, rfl, ho18, hb18⟩; obtain ⟨a18, n18, d18, rfl⟩ := ho18.slice3; have hS18 := keep_on (B := w16.heap.size) (W := w16) hb18 (by assumption) (Nat.le_refl _)) | (go_at_call 23; refine (CI.out _ _ _ _ _ (ho17.all hb18) ho18 (HP.out.below (Below.on B16 hS18)) (HT.out.below (Below.on B16 hS18))).mono ?_; rintro e w19 ⟨v19, rfl, ho19, hb19⟩; obtain ⟨a19, n19, d19, rfl⟩ := ho19.slice3; have hS19 := keep_on (B := w16.heap.size) (W := w16) hb19 (by assumption) (Nat.le_refl _))))
      replace ho19 := ho19.mono hS18.size
      clear ho17 ho18 hb17 hb18 hb19 hS17 hS18 K_a0 K_b0 K_b1 K_b2 K_b3
      have ap_w_h := apart_new O_w_16.out ho19
      have ap_h_w := apart_old O_w_16.out ho19
      have ap_g_h := apart_new O_g_16.out ho19
      have ap_h_g := apart_old O_g_16.out ho19
      have ac_a_h := cell_apart c_a0_16 ho19
      have ac_b_h := cell_apart c_b0_16 ho19
      have ac_x_h := cell_apart c_x0_16 ho19
      have ac_y_h := cell_apart c_y0_16 ho19
      have c_a0_19 := cell_up hS19 c_a0_16
      have c_b0_19 := cell_up hS19 c_b0_16
      have c_b1_19 := cell_up hS19 c_b1_16
      have c_b2_19 := cell_up hS19 c_b2_16
      have c_b3_19 := cell_up hS19 c_b3_16
      have c_x0_19 := cell_up hS19 c_x0_16
      have c_y0_19 := cell_up hS19 c_y0_16
      have c_y1_19 := cell_up hS19 c_y1_16
      have c_y2_19 := cell_up hS19 c_y2_16
      have c_y3_19 := cell_up hS19 c_y3_16
      have O_w_19 : Hid (ownsR w19 w.heap.size 75 (.slice a3 n3 d3) (L)) := O_w_16.out.all hS19
      have O_g_19 : Hid (ownsR w19 w.heap.size 75 (.slice a6 n6 d6) (marksAc 1 L.length)) := O_g_16.out.all hS19
      have B19 : Below w.heap.size w w19 := B16.trans (hS19.mono B16.size)
      have O_h_19 : Hid (ownsR w19 w.heap.size 75 (.slice a19 n19 d19) (L)) := ho19.mono B16.size
      clear c_a0_16 c_b0_16 c_b1_16 c_b2_16 c_b3_16 c_x0_16 c_y0_16 c_y1_16 c_y2_16 c_y3_16 O_w_16 O_g_16 B16 hS19 ho19
      go_wp2_with fail
      refine (eqActS_val (ownsR.reads O_h_19.out) (ownsR.reads O_w_19.out) HO.out).mono ?_
      rintro e w20 ⟨rfl, hb20⟩
      have c_a0_20 := cell_up hb20 c_a0_19
      have c_b0_20 := cell_up hb20 c_b0_19
      have c_b1_20 := cell_up hb20 c_b1_19
      have c_b2_20 := cell_up hb20 c_b2_19
      have c_b3_20 := cell_up hb20 c_b3_19
      have c_x0_20 := cell_up hb20 c_x0_19
      have c_y0_20 := cell_up hb20 c_y0_19
      have c_y1_20 := cell_up hb20 c_y1_19
      have c_y2_20 := cell_up hb20 c_y2_19
      have c_y3_20 := cell_up hb20 c_y3_19
      have O_w_20 : Hid (ownsR w20 w.heap.size 75 (.slice a3 n3 d3) (L)) := O_w_19.out.all hb20
      have O_g_20 : Hid (ownsR w20 w.heap.size 75 (.slice a6 n6 d6) (marksAc 1 L.length)) := O_g_19.out.all hb20
      have O_h_20 : Hid (ownsR w20 w.heap.size 75 (.slice a19 n19 d19) (L)) := O_h_19.out.all hb20
      have B20 : Below w.heap.size w w20 := B19.trans (hb20.mono B19.size)
      clear c_a0_19 c_b0_19 c_b1_19 c_b2_19 c_b3_19 c_x0_19 c_y0_19 c_y1_19 c_y2_19 c_y3_19 O_w_19 O_g_19 O_h_19 B19 hb20
      go_wp2_with fail
      refine (heldActS_val (x := 1) (ownsR.reads O_g_20.out) HO.out (by decide) (by decide)).mono ?_
      rintro e w21 ⟨rfl, hb21⟩
      have c_a0_21 := cell_up hb21 c_a0_20
      have c_b0_21 := cell_up hb21 c_b0_20
      have c_b1_21 := cell_up hb21 c_b1_20
      have c_b2_21 := cell_up hb21 c_b2_20
      have c_b3_21 := cell_up hb21 c_b3_20
      have c_x0_21 := cell_up hb21 c_x0_20
      have c_y0_21 := cell_up hb21 c_y0_20
      have c_y1_21 := cell_up hb21 c_y1_20
      have c_y2_21 := cell_up hb21 c_y2_20
      have c_y3_21 := cell_up hb21 c_y3_20
      have O_w_21 : Hid (ownsR w21 w.heap.size 75 (.slice a3 n3 d3) (L)) := O_w_20.out.all hb21
      have O_g_21 : Hid (ownsR w21 w.heap.size 75 (.slice a6 n6 d6) (marksAc 1 L.length)) := O_g_20.out.all hb21
      have O_h_21 : Hid (ownsR w21 w.heap.size 75 (.slice a19 n19 d19) (L)) := O_h_20.out.all hb21
      have B21 : Below w.heap.size w w21 := B20.trans (hb21.mono B20.size)
      clear c_a0_20 c_b0_20 c_b1_20 c_b2_20 c_b3_20 c_x0_20 c_y0_20 c_y1_20 c_y2_20 c_y3_20 O_w_20 O_g_20 O_h_20 B20 hb21
      go_wp2
      go_ret
      exact ⟨rfl, B21⟩
end Go.Proofs.YtgpojfkdcdgloaaDoor
