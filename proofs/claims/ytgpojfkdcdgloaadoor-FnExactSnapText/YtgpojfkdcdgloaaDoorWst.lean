/-
  The law on the text of a snapshot: the walk.
-/
import Derived.Test.YtgpojfkdcdgloaaDoorSw
namespace Go.Proofs.YtgpojfkdcdgloaaDoor
open Go Go.RowKit

set_option maxRecDepth 10000 in
set_option maxHeartbeats 4000000 in
theorem law_SnapText (i t : Int) (ao : Option Addr) (k cap : Nat) (l : List Int) (b : ByteArray) (w : World) (hr : Reads w (.slice ao k cap) l) (hn : k ≤ 9223372036854775807) (hb : b.size ≤ 9223372036854775807) (ht : TableIs w) :
    Calls Tryd.prog 4 #[.agg #[.int .i64 i, .int .i64 t, .slice ao k cap, .string b]] w fun e w' => e = .returned (.bool true) ∧ Below w.heap.size w w' := by
  have HR : Hid (Reads w (.slice ao k cap) l) := hr
  have HN : Hid (k = l.length) := hr.len
  have HT : Hid (TableIs w) := ht
  clear hr ht
  obtain ⟨q, HQ⟩ : ∃ q, Hid (okS i t l b = q) := ⟨_, rfl⟩
  obtain ⟨tx, HX⟩ : ∃ q, Hid (textS i t l b = q) := ⟨_, rfl⟩
  go_enter Tryd.func4, Tryd.ntmps4
  go_wp2_with fail
  refine (szSnap_any i t _ l b _ _ (HR.out.alloc _) hb (by decide) (by decide) (by rw [← HN.out]; exact hn)).mono ?_
  rintro e w0 ⟨r, rfl, hr, hb0⟩
  obtain ⟨c_a0_0, c_a1_0, c_a2_0, c_a3_0⟩ := cells4_new hb0
  have B0 := below_new hb0
  clear hb0
  rcases hr with rfl | ⟨hr0, hr1⟩
  · go_wp2
    go_ret
    exact ⟨rfl, B0⟩
  · have HL : Hid (l.length ≤ 1048576) := by show l.length ≤ 1048576; omega
    have HZ : Hid (b.size ≤ 1048576) := by show b.size ≤ 1048576; omega
    clear hr1
    have CS : Hid (∀ (W : World) (B : Nat) (x : Value), ownsR W B 3 x l → Calls Tryd.prog 12 #[.agg #[.int .i64 i, .int .i64 t, x, .string b]] W fun e w' => e = .returned (.tuple #[.string tx, .bool q]) ∧ Below W.heap.size W w') := fun W B x ho => by
      rw [← HQ.out, ← HX.out]; exact specSnapText_any ho.reads (Nat.le_trans HL.out (by decide)) HZ.out
    have CI : Hid (∀ (W : World) (B : Nat) (x : Value), ownsR W B 3 x l → TableIs W → Calls Tryd.prog 14 #[.agg #[.int .i64 i, .int .i64 t, x, .string b]] W fun e w' => e = .returned (.tuple #[.string tx, .bool q]) ∧ Below W.heap.size W w') := fun W B x ho h2 => by
      rw [← HQ.out, ← HX.out]; exact snapText_any ho.reads (Nat.le_trans HL.out (by decide)) HZ.out h2
    go_wp2_with fail
    refine (toSnap_any i t _ l b _ (HR.out.below B0) HL.out).mono ?_
    rintro e w1 ⟨v1, rfl, ho1, hb1⟩
    obtain ⟨a1, n1, d1, rfl⟩ := ho1.slice3
    have ac_a_d := cell_apart c_a0_0 ho1
    have c_a0_1 := cell_up hb1 c_a0_0
    have c_a1_1 := cell_up hb1 c_a1_0
    have c_a2_1 := cell_up hb1 c_a2_0
    have c_a3_1 := cell_up hb1 c_a3_0
    have B1 : Below w.heap.size w w1 := B0.trans (hb1.mono B0.size)
    have O_d_1 : Hid (ownsR w1 w.heap.size 3 (.slice a1 n1 d1) (l)) := ho1.mono B0.size
    clear c_a0_0 c_a1_0 c_a2_0 c_a3_0 B0 hb1 ho1
    go_wp2_with fail
    refine (CS.out _ _ _ O_d_1.out).mono ?_
    rintro e w2 ⟨rfl, hb2⟩
    have c_a0_2 := cell_up hb2 c_a0_1
    have c_a1_2 := cell_up hb2 c_a1_1
    have c_a2_2 := cell_up hb2 c_a2_1
    have c_a3_2 := cell_up hb2 c_a3_1
    have O_d_2 : Hid (ownsR w2 w.heap.size 3 (.slice a1 n1 d1) (l)) := O_d_1.out.all hb2
    have B2 : Below w.heap.size w w2 := B1.trans (hb2.mono B1.size)
    clear c_a0_1 c_a1_1 c_a2_1 c_a3_1 O_d_1 B1 hb2
    go_wp2_with fail
    refine (toSnap_any i t _ l b _ (HR.out.below B2) HL.out).mono ?_
    rintro e w3 ⟨v3, rfl, ho3, hb3⟩
    obtain ⟨a3, n3, d3, rfl⟩ := ho3.slice3
    have ac_a_x := cell_apart c_a0_2 ho3
    have c_a0_3 := cell_up hb3 c_a0_2
    have c_a1_3 := cell_up hb3 c_a1_2
    have c_a2_3 := cell_up hb3 c_a2_2
    have c_a3_3 := cell_up hb3 c_a3_2
    have B3 : Below w.heap.size w w3 := B2.trans (hb3.mono B2.size)
    have O_x_3 : Hid (ownsR w3 w.heap.size 3 (.slice a3 n3 d3) (l)) := ho3.mono B2.size
    clear c_a0_2 c_a1_2 c_a2_2 c_a3_2 B2 hb3 ho3
    have sz_a : w.heap.size < w3.heap.size := World.block_lt_of_cell? _ _ c_a0_3
    go_wp2_with fail
    refine (CI.out _ _ _ (O_x_3.out.alloc _) ((HT.out.below B3).below (ba (Below.refl _ _) _))).mono ?_
    rintro e w4 ⟨rfl, hb4⟩
    obtain ⟨c_x0_4, c_x1_4, c_x2_4, c_x3_4⟩ := cells4_new hb4
    have ac_x_x := cell_apart_new O_x_3.out
    have hb4 := below_new hb4
    have c_a0_4 := cell_up hb4 c_a0_3
    have c_a1_4 := cell_up hb4 c_a1_3
    have c_a2_4 := cell_up hb4 c_a2_3
    have c_a3_4 := cell_up hb4 c_a3_3
    have O_x_4 : Hid (ownsR w4 w.heap.size 3 (.slice a3 n3 d3) (l)) := O_x_3.out.all hb4
    have B4 : Below w.heap.size w w4 := B3.trans (hb4.mono B3.size)
    clear c_a0_3 c_a1_3 c_a2_3 c_a3_3 sz_a O_x_3 B3 hb4
    have K_x0 := Below.cellOf (B := w4.heap.size) (W := w4) (p := ⟨w3.heap.size, 0, none⟩) (v := .int .i64 i) (World.block_lt_of_cell? _ _ c_x0_4) c_x0_4
    have K_x1 := Below.cellOf (B := w4.heap.size) (W := w4) (p := ⟨w3.heap.size, 1, none⟩) (v := .int .i64 t) (World.block_lt_of_cell? _ _ c_x1_4) c_x1_4
    have K_x2 := Below.cellOf (B := w4.heap.size) (W := w4) (p := ⟨w3.heap.size, 2, none⟩) (v := .slice a3 n3 d3) (World.block_lt_of_cell? _ _ c_x2_4) c_x2_4
    have K_x3 := Below.cellOf (B := w4.heap.size) (W := w4) (p := ⟨w3.heap.size, 3, none⟩) (v := .string b) (World.block_lt_of_cell? _ _ c_x3_4) c_x3_4
    have K_a0 := Below.cellOf (B := w4.heap.size) (W := w4) (p := ⟨w.heap.size, 0, none⟩) (v := .int .i64 i) (World.block_lt_of_cell? _ _ c_a0_4) c_a0_4
    have K_a1 := Below.cellOf (B := w4.heap.size) (W := w4) (p := ⟨w.heap.size, 1, none⟩) (v := .int .i64 t) (World.block_lt_of_cell? _ _ c_a1_4) c_a1_4
    have K_a2 := Below.cellOf (B := w4.heap.size) (W := w4) (p := ⟨w.heap.size, 2, none⟩) (v := .slice ao k cap) (World.block_lt_of_cell? _ _ c_a2_4) c_a2_4
    have K_a3 := Below.cellOf (B := w4.heap.size) (W := w4) (p := ⟨w.heap.size, 3, none⟩) (v := .string b) (World.block_lt_of_cell? _ _ c_a3_4) c_a3_4
    go_wp2_with fail
    go_region_held3 (fun w' => Below w4.heap.size w4 w') ((first | exact (Below.refl _ _).drew | exact hS5 | exact hS6)) ((first | (go_at_call 13; refine (toSnap_any i t _ l b _ (HR.out.below (Below.on B4 (by assumption))) HL.out).mono ?_; rintro e w5 ⟨v5, rfl, ho5, hb5⟩; obtain ⟨a5, n5, d5, rfl⟩ := ho5.slice3; have hS5 := keep_on (B := w4.heap.size) (W := w4) hb5 (by assumption) (Nat.le_refl _)) | (go_at_call 15; refine (eqSnap_any i t _ _ l b _ ((ownsR.reads O_x_4.out).below hS5) ho5.reads (Nat.le_trans HL.out (by decide))).mono ?_; rintro e w6 ⟨rfl, hb6⟩; have hS6 := keep_on (B := w4.heap.size) (W := w4) hb6 hS5 (Nat.le_refl _))))
    clear ho5 hb5 hb6 hS5 K_x0 K_x1 K_x2 K_x3 K_a0 K_a1 K_a2 K_a3
    have c_a0_6 := cell_up hS6 c_a0_4
    have c_a1_6 := cell_up hS6 c_a1_4
    have c_a2_6 := cell_up hS6 c_a2_4
    have c_a3_6 := cell_up hS6 c_a3_4
    have c_x0_6 := cell_up hS6 c_x0_4
    have c_x1_6 := cell_up hS6 c_x1_4
    have c_x2_6 := cell_up hS6 c_x2_4
    have c_x3_6 := cell_up hS6 c_x3_4
    have O_x_6 : Hid (ownsR w6 w.heap.size 3 (.slice a3 n3 d3) (l)) := O_x_4.out.all hS6
    have B6 : Below w.heap.size w w6 := B4.trans (hS6.mono B4.size)
    clear c_a0_4 c_a1_4 c_a2_4 c_a3_4 c_x0_4 c_x1_4 c_x2_4 c_x3_4 O_x_4 B4 hS6
    go_wp2
    go_ret
    exact ⟨rfl, B6⟩
end Go.Proofs.YtgpojfkdcdgloaaDoor
