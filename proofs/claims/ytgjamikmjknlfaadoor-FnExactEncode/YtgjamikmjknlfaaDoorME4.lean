/-
  The law on the bytes of a message: the walk. An entry that came in as an argument, opened. Numbers that came in as an argument, opened. A message that came in as an argument, opened.
-/
import Derived.Test.YtgjamikmjknlfaaDoorME3
import Derived.Test.YtgjamikmjknlfaaDoorOpen
import Derived.Test.YtgjamikmjknlfaaDoorInf
import Derived.Test.YtgjamikmjknlfaaDoorRi
import Derived.Test.YtgjamikmjknlfaaDoorRows
import Derived.Test.YtgjamikmjknlfaaDoorEns
import Derived.Deep.Strs
import Derived.ProofKit
import Derived.OpenShut
namespace Go.Proofs.YtgjamikmjknlfaaDoor
open Go Go.RowKit

theorem cells12_new {w w' : World} {x0 x1 x2 x3 x4 x5 x6 x7 x8 x9 x10 x11 : Value} {t : TypeId} (hb : Below (w.alloc (.cells #[x0, x1, x2, x3, x4, x5, x6, x7, x8, x9, x10, x11] t)).heap.size (w.alloc (.cells #[x0, x1, x2, x3, x4, x5, x6, x7, x8, x9, x10, x11] t)) w') :
    w'.cell? ⟨w.heap.size, 0, none⟩ = some x0 ∧ w'.cell? ⟨w.heap.size, 1, none⟩ = some x1 ∧ w'.cell? ⟨w.heap.size, 2, none⟩ = some x2 ∧ w'.cell? ⟨w.heap.size, 3, none⟩ = some x3 ∧ w'.cell? ⟨w.heap.size, 4, none⟩ = some x4 ∧ w'.cell? ⟨w.heap.size, 5, none⟩ = some x5 ∧ w'.cell? ⟨w.heap.size, 6, none⟩ = some x6 ∧ w'.cell? ⟨w.heap.size, 7, none⟩ = some x7 ∧ w'.cell? ⟨w.heap.size, 8, none⟩ = some x8 ∧ w'.cell? ⟨w.heap.size, 9, none⟩ = some x9 ∧ w'.cell? ⟨w.heap.size, 10, none⟩ = some x10 ∧ w'.cell? ⟨w.heap.size, 11, none⟩ = some x11 := by
  have K := (Kc12.new t w x0 x1 x2 x3 x4 x5 x6 x7 x8 x9 x10 x11).up hb
  exact ⟨K.c0, K.c1, K.c2, K.c3, K.c4, K.c5, K.c6, K.c7, K.c8, K.c9, K.c10, K.c11⟩
theorem implEncodeV_any (kd fr up tm ix lt cm : Int) (ok : Bool) (da : ByteArray) (la : Bool) (e c : Value) (es : List En) (cs : List Int) (w : World) (he : Reads w e es) (hc : Reads w c cs) (hn : es.length ≤ 1048577) (hm : cs.length ≤ 1048577) (hz : SizedE es) :
    Calls Tryd.prog 8 #[.agg #[.int .i64 kd, .int .i64 fr, .int .i64 up, .int .i64 tm, .int .i64 ix, .int .i64 lt, .int .i64 cm, .bool ok, e, c, .string da, .bool la]] w fun e' w' => e' = .returned (encV kd fr up tm ix lt cm ok da la es cs) ∧ Below w.heap.size w w' := by
  obtain ⟨ao, cap, rfl, _⟩ := id he
  obtain ⟨bo, cbp, rfl, _⟩ := id hc
  exact implEncode_any kd fr up tm ix lt cm ok da la ao bo _ cap _ cbp es cs w he hc hn hm hz
set_option maxRecDepth 10000 in
set_option maxHeartbeats 8000000 in
theorem law_Encode (kd fr up tm ix lt cm : Int) (ok : Bool) (da : ByteArray) (la : Bool) (ao bo : Option Addr) (n cap m cbp : Nat) (es : List En) (cs : List Int) (w : World) (hr : Reads w (.slice ao n cap) es) (hs : SmallEn es) (hn : n ≤ 9223372036854775807) (hc : Reads w (.slice bo m cbp) cs) (hm : m ≤ 9223372036854775807) (hd : da.size ≤ 9223372036854775807) :
    Calls Tryd.prog 3 #[.agg #[.int .i64 kd, .int .i64 fr, .int .i64 up, .int .i64 tm, .int .i64 ix, .int .i64 lt, .int .i64 cm, .bool ok, .slice ao n cap, .slice bo m cbp, .string da, .bool la]] w fun e w' => e = .returned (.bool true) ∧ Below w.heap.size w w' := by
  have HR : Hid (Reads w (.slice ao n cap) es) := hr
  have HN : Hid (n = es.length) := hr.len
  have HC : Hid (Reads w (.slice bo m cbp) cs) := hc
  have HM : Hid (m = cs.length) := hc.len
  have HS : Hid (SmallEn es) := hs
  clear hr hs hc
  go_enter Tryd.func3, Tryd.ntmps3
  go_wp2_with fail
  refine (szMessage_any kd fr up tm ix lt cm ok da la _ _ es cs _ _ (HR.out.alloc _) (HC.out.alloc _) HS.out hd (by decide) (by decide) (by rw [← HN.out]; exact hn) (by rw [← HM.out]; exact hm)).mono ?_
  rintro e w0 ⟨r, rfl, hr, hb0⟩
  obtain ⟨c_a0_0, c_a1_0, c_a2_0, c_a3_0, c_a4_0, c_a5_0, c_a6_0, c_a7_0, c_a8_0, c_a9_0, c_a10_0, c_a11_0⟩ := cells12_new hb0
  have B0 := below_new hb0
  clear hb0
  rcases hr with rfl | ⟨hr0, hr1⟩
  · go_wp2
    go_ret
    exact ⟨rfl, B0⟩
  · have HL : Hid (es.length ≤ 1048576) := by show es.length ≤ 1048576; omega
    have HLC : Hid (cs.length ≤ 1048576) := by show cs.length ≤ 1048576; omega
    have HD : Hid (da.size ≤ 1048576) := by show da.size ≤ 1048576; omega
    have HZ : Hid (SizedE es) := fun f hf => by have := sizeEn_mem hf; omega
    clear hr1 hd
    obtain ⟨T, z, HV⟩ : ∃ (T : ByteArray) (z : Bool), Hid (encV kd fr up tm ix lt cm ok da la es cs = .tuple #[.string T, .bool z]) := by
      unfold encV
      split
      · exact ⟨_, _, rfl⟩
      · exact ⟨_, _, rfl⟩
    have CS : Hid (∀ (W : World) (e c : Value), Reads W e es → Reads W c cs → Calls Tryd.prog 6 #[.agg #[.int .i64 kd, .int .i64 fr, .int .i64 up, .int .i64 tm, .int .i64 ix, .int .i64 lt, .int .i64 cm, .bool ok, e, c, .string da, .bool la]] W fun e' w' => e' = .returned (.tuple #[.string T, .bool z]) ∧ Below W.heap.size W w') := fun W e c h1 h2 => by
      rw [← HV.out]; exact specEncode_any kd fr up tm ix lt cm ok da la e c es cs W h1 h2 (Nat.le_trans HL.out (by decide)) (Nat.le_trans HLC.out (by decide)) HZ.out
    have CI : Hid (∀ (W : World) (e c : Value), Reads W e es → Reads W c cs → Calls Tryd.prog 8 #[.agg #[.int .i64 kd, .int .i64 fr, .int .i64 up, .int .i64 tm, .int .i64 ix, .int .i64 lt, .int .i64 cm, .bool ok, e, c, .string da, .bool la]] W fun e' w' => e' = .returned (.tuple #[.string T, .bool z]) ∧ Below W.heap.size W w') := fun W e c h1 h2 => by
      rw [← HV.out]; exact implEncodeV_any kd fr up tm ix lt cm ok da la e c es cs W h1 h2 (Nat.le_trans HL.out (by decide)) (Nat.le_trans HLC.out (by decide)) HZ.out
    clear HV
    go_wp2_with fail
    refine (toMessage_any kd fr up tm ix lt cm ok da la _ _ es cs _ (HR.out.below B0) (HC.out.below B0) HL.out HLC.out).mono ?_
    rintro e w1 ⟨v1, u1, rfl, ho1, hq1, hb1⟩
    obtain ⟨a1, n1, d1, rfl⟩ := ho1.slice3
    obtain ⟨aa1, nn1, dd1, rfl⟩ := hq1.slice3
    have ac_a_d := cell_apart c_a0_0 ho1
    have ac_a_dc := cell_apart c_a0_0 hq1
    have c_a0_1 := cell_up hb1 c_a0_0
    have c_a1_1 := cell_up hb1 c_a1_0
    have c_a2_1 := cell_up hb1 c_a2_0
    have c_a3_1 := cell_up hb1 c_a3_0
    have c_a4_1 := cell_up hb1 c_a4_0
    have c_a5_1 := cell_up hb1 c_a5_0
    have c_a6_1 := cell_up hb1 c_a6_0
    have c_a7_1 := cell_up hb1 c_a7_0
    have c_a8_1 := cell_up hb1 c_a8_0
    have c_a9_1 := cell_up hb1 c_a9_0
    have c_a10_1 := cell_up hb1 c_a10_0
    have c_a11_1 := cell_up hb1 c_a11_0
    have B1 : Below w.heap.size w w1 := B0.trans (hb1.mono B0.size)
    have O_d_1 : Hid (ownsR w1 w.heap.size 47 (.slice a1 n1 d1) (es)) := ho1.mono B0.size
    have O_dc_1 : Hid (ownsR w1 w.heap.size 3 (.slice aa1 nn1 dd1) (cs)) := hq1.mono B0.size
    clear c_a0_0 c_a1_0 c_a2_0 c_a3_0 c_a4_0 c_a5_0 c_a6_0 c_a7_0 c_a8_0 c_a9_0 c_a10_0 c_a11_0 B0 hb1 ho1 hq1
    go_wp2_with fail
    refine (CS.out _ _ _ (ownsR.reads O_d_1.out) (ownsR.reads O_dc_1.out)).mono ?_
    rintro e w2 ⟨rfl, hb2⟩
    have c_a0_2 := cell_up hb2 c_a0_1
    have c_a1_2 := cell_up hb2 c_a1_1
    have c_a2_2 := cell_up hb2 c_a2_1
    have c_a3_2 := cell_up hb2 c_a3_1
    have c_a4_2 := cell_up hb2 c_a4_1
    have c_a5_2 := cell_up hb2 c_a5_1
    have c_a6_2 := cell_up hb2 c_a6_1
    have c_a7_2 := cell_up hb2 c_a7_1
    have c_a8_2 := cell_up hb2 c_a8_1
    have c_a9_2 := cell_up hb2 c_a9_1
    have c_a10_2 := cell_up hb2 c_a10_1
    have c_a11_2 := cell_up hb2 c_a11_1
    have O_d_2 : Hid (ownsR w2 w.heap.size 47 (.slice a1 n1 d1) (es)) := O_d_1.out.all hb2
    have O_dc_2 : Hid (ownsR w2 w.heap.size 3 (.slice aa1 nn1 dd1) (cs)) := O_dc_1.out.all hb2
    have B2 : Below w.heap.size w w2 := B1.trans (hb2.mono B1.size)
    clear c_a0_1 c_a1_1 c_a2_1 c_a3_1 c_a4_1 c_a5_1 c_a6_1 c_a7_1 c_a8_1 c_a9_1 c_a10_1 c_a11_1 O_d_1 O_dc_1 B1 hb2
    go_wp2_with fail
    refine (toMessage_any kd fr up tm ix lt cm ok da la _ _ es cs _ (HR.out.below B2) (HC.out.below B2) HL.out HLC.out).mono ?_
    rintro e w3 ⟨v3, u3, rfl, ho3, hq3, hb3⟩
    obtain ⟨a3, n3, d3, rfl⟩ := ho3.slice3
    obtain ⟨aa3, nn3, dd3, rfl⟩ := hq3.slice3
    have ac_a_x := cell_apart c_a0_2 ho3
    have ac_a_xc := cell_apart c_a0_2 hq3
    have c_a0_3 := cell_up hb3 c_a0_2
    have c_a1_3 := cell_up hb3 c_a1_2
    have c_a2_3 := cell_up hb3 c_a2_2
    have c_a3_3 := cell_up hb3 c_a3_2
    have c_a4_3 := cell_up hb3 c_a4_2
    have c_a5_3 := cell_up hb3 c_a5_2
    have c_a6_3 := cell_up hb3 c_a6_2
    have c_a7_3 := cell_up hb3 c_a7_2
    have c_a8_3 := cell_up hb3 c_a8_2
    have c_a9_3 := cell_up hb3 c_a9_2
    have c_a10_3 := cell_up hb3 c_a10_2
    have c_a11_3 := cell_up hb3 c_a11_2
    have B3 : Below w.heap.size w w3 := B2.trans (hb3.mono B2.size)
    have O_x_3 : Hid (ownsR w3 w.heap.size 47 (.slice a3 n3 d3) (es)) := ho3.mono B2.size
    have O_xc_3 : Hid (ownsR w3 w.heap.size 3 (.slice aa3 nn3 dd3) (cs)) := hq3.mono B2.size
    clear c_a0_2 c_a1_2 c_a2_2 c_a3_2 c_a4_2 c_a5_2 c_a6_2 c_a7_2 c_a8_2 c_a9_2 c_a10_2 c_a11_2 B2 hb3 ho3 hq3
    have sz_a : w.heap.size < w3.heap.size := World.block_lt_of_cell? _ _ c_a0_3
    go_wp2_with fail
    refine (CI.out _ _ _ (ownsR.reads (O_x_3.out.alloc _)) (ownsR.reads (O_xc_3.out.alloc _))).mono ?_
    rintro e w4 ⟨rfl, hb4⟩
    obtain ⟨c_x0_4, c_x1_4, c_x2_4, c_x3_4, c_x4_4, c_x5_4, c_x6_4, c_x7_4, c_x8_4, c_x9_4, c_x10_4, c_x11_4⟩ := cells12_new hb4
    have ac_x_x := cell_apart_new O_x_3.out
    have ac_x_xc := cell_apart_new O_xc_3.out
    have hb4 := below_new hb4
    have c_a0_4 := cell_up hb4 c_a0_3
    have c_a1_4 := cell_up hb4 c_a1_3
    have c_a2_4 := cell_up hb4 c_a2_3
    have c_a3_4 := cell_up hb4 c_a3_3
    have c_a4_4 := cell_up hb4 c_a4_3
    have c_a5_4 := cell_up hb4 c_a5_3
    have c_a6_4 := cell_up hb4 c_a6_3
    have c_a7_4 := cell_up hb4 c_a7_3
    have c_a8_4 := cell_up hb4 c_a8_3
    have c_a9_4 := cell_up hb4 c_a9_3
    have c_a10_4 := cell_up hb4 c_a10_3
    have c_a11_4 := cell_up hb4 c_a11_3
    have O_x_4 : Hid (ownsR w4 w.heap.size 47 (.slice a3 n3 d3) (es)) := O_x_3.out.all hb4
    have O_xc_4 : Hid (ownsR w4 w.heap.size 3 (.slice aa3 nn3 dd3) (cs)) := O_xc_3.out.all hb4
    have B4 : Below w.heap.size w w4 := B3.trans (hb4.mono B3.size)
    clear c_a0_3 c_a1_3 c_a2_3 c_a3_3 c_a4_3 c_a5_3 c_a6_3 c_a7_3 c_a8_3 c_a9_3 c_a10_3 c_a11_3 sz_a O_x_3 O_xc_3 B3 hb4
    have K_x0 := Below.cellOf (B := w4.heap.size) (W := w4) (p := ⟨w3.heap.size, 0, none⟩) (v := .int .i64 kd) (World.block_lt_of_cell? _ _ c_x0_4) c_x0_4
    have K_x1 := Below.cellOf (B := w4.heap.size) (W := w4) (p := ⟨w3.heap.size, 1, none⟩) (v := .int .i64 fr) (World.block_lt_of_cell? _ _ c_x1_4) c_x1_4
    have K_x2 := Below.cellOf (B := w4.heap.size) (W := w4) (p := ⟨w3.heap.size, 2, none⟩) (v := .int .i64 up) (World.block_lt_of_cell? _ _ c_x2_4) c_x2_4
    have K_x3 := Below.cellOf (B := w4.heap.size) (W := w4) (p := ⟨w3.heap.size, 3, none⟩) (v := .int .i64 tm) (World.block_lt_of_cell? _ _ c_x3_4) c_x3_4
    have K_x4 := Below.cellOf (B := w4.heap.size) (W := w4) (p := ⟨w3.heap.size, 4, none⟩) (v := .int .i64 ix) (World.block_lt_of_cell? _ _ c_x4_4) c_x4_4
    have K_x5 := Below.cellOf (B := w4.heap.size) (W := w4) (p := ⟨w3.heap.size, 5, none⟩) (v := .int .i64 lt) (World.block_lt_of_cell? _ _ c_x5_4) c_x5_4
    have K_x6 := Below.cellOf (B := w4.heap.size) (W := w4) (p := ⟨w3.heap.size, 6, none⟩) (v := .int .i64 cm) (World.block_lt_of_cell? _ _ c_x6_4) c_x6_4
    have K_x7 := Below.cellOf (B := w4.heap.size) (W := w4) (p := ⟨w3.heap.size, 7, none⟩) (v := .bool ok) (World.block_lt_of_cell? _ _ c_x7_4) c_x7_4
    have K_x8 := Below.cellOf (B := w4.heap.size) (W := w4) (p := ⟨w3.heap.size, 8, none⟩) (v := .slice a3 n3 d3) (World.block_lt_of_cell? _ _ c_x8_4) c_x8_4
    have K_x9 := Below.cellOf (B := w4.heap.size) (W := w4) (p := ⟨w3.heap.size, 9, none⟩) (v := .slice aa3 nn3 dd3) (World.block_lt_of_cell? _ _ c_x9_4) c_x9_4
    have K_x10 := Below.cellOf (B := w4.heap.size) (W := w4) (p := ⟨w3.heap.size, 10, none⟩) (v := .string da) (World.block_lt_of_cell? _ _ c_x10_4) c_x10_4
    have K_x11 := Below.cellOf (B := w4.heap.size) (W := w4) (p := ⟨w3.heap.size, 11, none⟩) (v := .bool la) (World.block_lt_of_cell? _ _ c_x11_4) c_x11_4
    have K_a0 := Below.cellOf (B := w4.heap.size) (W := w4) (p := ⟨w.heap.size, 0, none⟩) (v := .int .i64 kd) (World.block_lt_of_cell? _ _ c_a0_4) c_a0_4
    have K_a1 := Below.cellOf (B := w4.heap.size) (W := w4) (p := ⟨w.heap.size, 1, none⟩) (v := .int .i64 fr) (World.block_lt_of_cell? _ _ c_a1_4) c_a1_4
    have K_a2 := Below.cellOf (B := w4.heap.size) (W := w4) (p := ⟨w.heap.size, 2, none⟩) (v := .int .i64 up) (World.block_lt_of_cell? _ _ c_a2_4) c_a2_4
    have K_a3 := Below.cellOf (B := w4.heap.size) (W := w4) (p := ⟨w.heap.size, 3, none⟩) (v := .int .i64 tm) (World.block_lt_of_cell? _ _ c_a3_4) c_a3_4
    have K_a4 := Below.cellOf (B := w4.heap.size) (W := w4) (p := ⟨w.heap.size, 4, none⟩) (v := .int .i64 ix) (World.block_lt_of_cell? _ _ c_a4_4) c_a4_4
    have K_a5 := Below.cellOf (B := w4.heap.size) (W := w4) (p := ⟨w.heap.size, 5, none⟩) (v := .int .i64 lt) (World.block_lt_of_cell? _ _ c_a5_4) c_a5_4
    have K_a6 := Below.cellOf (B := w4.heap.size) (W := w4) (p := ⟨w.heap.size, 6, none⟩) (v := .int .i64 cm) (World.block_lt_of_cell? _ _ c_a6_4) c_a6_4
    have K_a7 := Below.cellOf (B := w4.heap.size) (W := w4) (p := ⟨w.heap.size, 7, none⟩) (v := .bool ok) (World.block_lt_of_cell? _ _ c_a7_4) c_a7_4
    have K_a8 := Below.cellOf (B := w4.heap.size) (W := w4) (p := ⟨w.heap.size, 8, none⟩) (v := .slice ao n cap) (World.block_lt_of_cell? _ _ c_a8_4) c_a8_4
    have K_a9 := Below.cellOf (B := w4.heap.size) (W := w4) (p := ⟨w.heap.size, 9, none⟩) (v := .slice bo m cbp) (World.block_lt_of_cell? _ _ c_a9_4) c_a9_4
    have K_a10 := Below.cellOf (B := w4.heap.size) (W := w4) (p := ⟨w.heap.size, 10, none⟩) (v := .string da) (World.block_lt_of_cell? _ _ c_a10_4) c_a10_4
    have K_a11 := Below.cellOf (B := w4.heap.size) (W := w4) (p := ⟨w.heap.size, 11, none⟩) (v := .bool la) (World.block_lt_of_cell? _ _ c_a11_4) c_a11_4
    go_wp2_with fail
    go_region_held3 (fun w' => Below w4.heap.size w4 w') ((first | exact (Below.refl _ _).drew | exact hS5 | exact hS6)) ((first | (go_at_call 7; refine (toMessage_any kd fr up tm ix lt cm ok da la _ _ es cs _ (HR.out.below (Below.on B4 (by assumption))) (HC.out.below (Below.on B4 (by assumption))) HL.out HLC.out).mono ?_; rintro e w5 ⟨v5, u5, rfl, ho5, hq5, hb5⟩; obtain ⟨a5, n5, d5, rfl⟩ := ho5.slice3; obtain ⟨aa5, nn5, dd5, rfl⟩ := hq5.slice3; have hS5 := keep_on (B := w4.heap.size) (W := w4) hb5 (by assumption) (Nat.le_refl _)) | (go_at_call 9; refine (eqMessage_any kd fr up tm ix lt cm ok da la _ _ _ _ es cs _ ((ownsR.reads O_x_4.out).below hS5) ho5.reads ((ownsR.reads O_xc_4.out).below hS5) hq5.reads (Nat.le_trans HL.out (by decide)) (Nat.le_trans HLC.out (by decide))).mono ?_; rintro e w6 ⟨rfl, hb6⟩; have hS6 := keep_on (B := w4.heap.size) (W := w4) hb6 hS5 (Nat.le_refl _))))
    clear ho5 hq5 hb5 hb6 hS5 K_x0 K_x1 K_x2 K_x3 K_x4 K_x5 K_x6 K_x7 K_x8 K_x9 K_x10 K_x11 K_a0 K_a1 K_a2 K_a3 K_a4 K_a5 K_a6 K_a7 K_a8 K_a9 K_a10 K_a11
    have c_a0_6 := cell_up hS6 c_a0_4
    have c_a1_6 := cell_up hS6 c_a1_4
    have c_a2_6 := cell_up hS6 c_a2_4
    have c_a3_6 := cell_up hS6 c_a3_4
    have c_a4_6 := cell_up hS6 c_a4_4
    have c_a5_6 := cell_up hS6 c_a5_4
    have c_a6_6 := cell_up hS6 c_a6_4
    have c_a7_6 := cell_up hS6 c_a7_4
    have c_a8_6 := cell_up hS6 c_a8_4
    have c_a9_6 := cell_up hS6 c_a9_4
    have c_a10_6 := cell_up hS6 c_a10_4
    have c_a11_6 := cell_up hS6 c_a11_4
    have c_x0_6 := cell_up hS6 c_x0_4
    have c_x1_6 := cell_up hS6 c_x1_4
    have c_x2_6 := cell_up hS6 c_x2_4
    have c_x3_6 := cell_up hS6 c_x3_4
    have c_x4_6 := cell_up hS6 c_x4_4
    have c_x5_6 := cell_up hS6 c_x5_4
    have c_x6_6 := cell_up hS6 c_x6_4
    have c_x7_6 := cell_up hS6 c_x7_4
    have c_x8_6 := cell_up hS6 c_x8_4
    have c_x9_6 := cell_up hS6 c_x9_4
    have c_x10_6 := cell_up hS6 c_x10_4
    have c_x11_6 := cell_up hS6 c_x11_4
    have O_x_6 : Hid (ownsR w6 w.heap.size 47 (.slice a3 n3 d3) (es)) := O_x_4.out.all hS6
    have O_xc_6 : Hid (ownsR w6 w.heap.size 3 (.slice aa3 nn3 dd3) (cs)) := O_xc_4.out.all hS6
    have B6 : Below w.heap.size w w6 := B4.trans (hS6.mono B4.size)
    clear c_a0_4 c_a1_4 c_a2_4 c_a3_4 c_a4_4 c_a5_4 c_a6_4 c_a7_4 c_a8_4 c_a9_4 c_a10_4 c_a11_4 c_x0_4 c_x1_4 c_x2_4 c_x3_4 c_x4_4 c_x5_4 c_x6_4 c_x7_4 c_x8_4 c_x9_4 c_x10_4 c_x11_4 O_x_4 O_xc_4 B4 hS6
    go_wp2
    go_ret
    exact ⟨rfl, B6⟩
end Go.Proofs.YtgjamikmjknlfaaDoor

namespace Go.Proofs.YtgjamikmjknlfaaDoor
open Go Go.RowKit Go.ChangeShapes Go.WideShapes

theorem cells33 : Tryd.prog.cellsOf 82 = 3 := by kernel_rfl
theorem cells9 : Tryd.prog.cellsOf 9 = 1 := by kernel_rfl
theorem cells3 : Tryd.prog.cellsOf 3 = 1 := by kernel_rfl
theorem entry_cells {H : Type} {enc : TypeId × Value → H} {W : World} {n : Nat} {cs : List Value} {y : DataW H × List MemPlace} (h : DataW.trod enc Tryd.prog W 0 (fun _ => true) true n 82 cs = some y) :
    ∃ (t k : Int) (d : ByteArray), cs = [.int .i64 t, .int .i64 k, .string d] ∧ d.size ≤ 9223372036854775807 := by
  obtain ⟨y0, y1, y2, m, _, hl, e0, e1, e2⟩ := Deep.trod_struct3 Tryd.underlying82 h
  rw [cells33] at hl
  obtain ⟨c0, c1, c2, rfl⟩ := len3 hl
  simp only [cells9, cells3, List.drop_zero, List.drop_succ_cons, List.take_succ_cons, List.take_zero] at e0 e1 e2
  obtain ⟨k0, g0, _, _⟩ := DataW.trod_int Tryd.underlying3 e0
  obtain ⟨k1, g1, _, _⟩ := DataW.trod_int Tryd.underlying3 e1
  obtain ⟨s2, g2, _, z2⟩ := DataW.trod_string Tryd.underlying9 e2
  simp only [List.cons.injEq, and_true] at g0 g1 g2
  subst g0 g1 g2
  exact ⟨k0, k1, s2, rfl, z2⟩
theorem open_entry {H : Type} {enc : TypeId × Value → H} {W : World} {v : Value} {d : DataW H} {p : List MemPlace} (hv : ∃ cs, v = .agg cs ∧ cs.size = Tryd.prog.cellsOf 82) (h : DataW.Trod enc Tryd.prog W 0 (fun _ => true) true 82 v d p) :
    ∃ (t k : Int) (d : ByteArray), v = .agg #[.int .i64 t, .int .i64 k, .string d] ∧ d.size ≤ 9223372036854775807 := by
  obtain ⟨cs, rfl, _⟩ := hv
  obtain ⟨fuel, hf⟩ := h
  obtain ⟨t, k, d, he, hs⟩ := entry_cells hf
  refine ⟨t, k, d, ?_, hs⟩
  have e2 : cs.toList = [.int .i64 t, .int .i64 k, .string d] := he
  congr 1
  exact Array.toList_inj.1 e2
end Go.Proofs.YtgjamikmjknlfaaDoor

namespace Go.Proofs.YtgjamikmjknlfaaDoor
open Go Go.RowKit Go.ChangeShapes Go.WideShapes

theorem cells3' : Tryd.prog.cellsOf 3 = 1 := by kernel_rfl
theorem open_intS {H : Type} {enc : TypeId × Value → H} {W : World} {v : Value} {d : DataW H} {p : List MemPlace} (hv : ∃ a len cap, v = .slice a len cap) (h : DataW.Trod enc Tryd.prog W 0 (fun _ => true) true 23 v d p) :
    ∃ a len cap, ∃ l : List Int, v = .slice a len cap ∧ Reads W (.slice a len cap) l ∧ True ∧ len ≤ 9223372036854775807 := by
  obtain ⟨a, len, cap, rfl⟩ := hv
  obtain ⟨fuel, hf⟩ := h
  obtain ⟨l, hr, _, hm⟩ := open_rows (fun _ : Int => True) Tryd.underlying23 cells3' (fun n cs y h => by
    obtain ⟨k, rfl, _, _⟩ := DataW.trod_int Tryd.underlying3 h
    exact ⟨k, rfl, trivial⟩) hf
  exact ⟨a, len, cap, l, rfl, hr, trivial, hm⟩
end Go.Proofs.YtgjamikmjknlfaaDoor

namespace Go.Proofs.YtgjamikmjknlfaaDoor
open Go Go.RowKit Go.ChangeShapes Go.WideShapes

theorem mcells : Tryd.prog.cellsOf 25 = 12 := by kernel_rfl
theorem mcells9 : Tryd.prog.cellsOf 9 = 1 := by kernel_rfl
theorem mcells3 : Tryd.prog.cellsOf 3 = 1 := by kernel_rfl
theorem mcells4 : Tryd.prog.cellsOf 4 = 1 := by kernel_rfl
theorem mcellsE : Tryd.prog.cellsOf 22 = 1 := by kernel_rfl
theorem mcellsI : Tryd.prog.cellsOf 23 = 1 := by kernel_rfl
theorem len12 {α : Type} {l : List α} (h : l.length = 12) : ∃ a0 a1 a2 a3 a4 a5 a6 a7 a8 a9 a10 a11, l = [a0, a1, a2, a3, a4, a5, a6, a7, a8, a9, a10, a11] := by
  match l, h with
  | [a0, a1, a2, a3, a4, a5, a6, a7, a8, a9, a10, a11], _ => exact ⟨a0, a1, a2, a3, a4, a5, a6, a7, a8, a9, a10, a11, rfl⟩
theorem trod_struct12 {H : Type} {enc : TypeId × Value → H} {P : Program} {w : World} {base : Nat} {spare : Nat → Bool} {held : Bool} {t : TypeId} {f0 f1 f2 f3 f4 f5 f6 f7 f8 f9 f10 f11 : Field} {fuel : Nat} {cs : List Value} {x : DataW H × List MemPlace} (ht : P.underlying t = some (.struct #[f0, f1, f2, f3, f4, f5, f6, f7, f8, f9, f10, f11])) (h : DataW.trod enc P w base spare held fuel t cs = some x) :
    ∃ y0 y1 y2 y3 y4 y5 y6 y7 y8 y9 y10 y11 n, cs.length = P.cellsOf t ∧ DataW.trod enc P w base spare held n f0.type ((cs.drop f0.offset).take (P.cellsOf f0.type)) = some y0 ∧ DataW.trod enc P w base spare held n f1.type ((cs.drop f1.offset).take (P.cellsOf f1.type)) = some y1 ∧ DataW.trod enc P w base spare held n f2.type ((cs.drop f2.offset).take (P.cellsOf f2.type)) = some y2 ∧ DataW.trod enc P w base spare held n f3.type ((cs.drop f3.offset).take (P.cellsOf f3.type)) = some y3 ∧ DataW.trod enc P w base spare held n f4.type ((cs.drop f4.offset).take (P.cellsOf f4.type)) = some y4 ∧ DataW.trod enc P w base spare held n f5.type ((cs.drop f5.offset).take (P.cellsOf f5.type)) = some y5 ∧ DataW.trod enc P w base spare held n f6.type ((cs.drop f6.offset).take (P.cellsOf f6.type)) = some y6 ∧ DataW.trod enc P w base spare held n f7.type ((cs.drop f7.offset).take (P.cellsOf f7.type)) = some y7 ∧ DataW.trod enc P w base spare held n f8.type ((cs.drop f8.offset).take (P.cellsOf f8.type)) = some y8 ∧ DataW.trod enc P w base spare held n f9.type ((cs.drop f9.offset).take (P.cellsOf f9.type)) = some y9 ∧ DataW.trod enc P w base spare held n f10.type ((cs.drop f10.offset).take (P.cellsOf f10.type)) = some y10 ∧ DataW.trod enc P w base spare held n f11.type ((cs.drop f11.offset).take (P.cellsOf f11.type)) = some y11 := by
  obtain ⟨xs, n, _, rfl, hl, hlen, hf⟩ := DataW.trod_struct ht h
  match xs, hlen with
  | [y0, y1, y2, y3, y4, y5, y6, y7, y8, y9, y10, y11], _ => exact ⟨y0, y1, y2, y3, y4, y5, y6, y7, y8, y9, y10, y11, n, hl, by simpa using hf 0 f0 rfl, by simpa using hf 1 f1 rfl, by simpa using hf 2 f2 rfl, by simpa using hf 3 f3 rfl, by simpa using hf 4 f4 rfl, by simpa using hf 5 f5 rfl, by simpa using hf 6 f6 rfl, by simpa using hf 7 f7 rfl, by simpa using hf 8 f8 rfl, by simpa using hf 9 f9 rfl, by simpa using hf 10 f10 rfl, by simpa using hf 11 f11 rfl⟩
set_option maxHeartbeats 1000000 in
theorem open_message {H : Type} {enc : TypeId × Value → H} {W : World} {v : Value} {d : DataW H} {p : List MemPlace} (hv : ∃ cs, v = .agg cs ∧ cs.size = Tryd.prog.cellsOf 25) (h : DataW.Trod enc Tryd.prog W 0 (fun _ => true) true 25 v d p) :
    ∃ (kd fr up tm ix lt cm : Int) (ok : Bool) (da : ByteArray) (la : Bool) (a : Option Addr) (n c : Nat) (l : List En) (b : Option Addr) (m q : Nat) (r : List Int), v = .agg #[.int .i64 kd, .int .i64 fr, .int .i64 up, .int .i64 tm, .int .i64 ix, .int .i64 lt, .int .i64 cm, .bool ok, .slice a n c, .slice b m q, .string da, .bool la] ∧ Reads W (.slice a n c) l ∧ SmallEn l ∧ n ≤ 9223372036854775807 ∧ Reads W (.slice b m q) r ∧ m ≤ 9223372036854775807 ∧ da.size ≤ 9223372036854775807 := by
  obtain ⟨cs, rfl, _⟩ := hv
  obtain ⟨fuel, hf⟩ := h
  obtain ⟨y0, y1, y2, y3, y4, y5, y6, y7, y8, y9, y10, y11, k, hl, e0, e1, e2, e3, e4, e5, e6, e7, e8, e9, e10, e11⟩ := trod_struct12 Tryd.underlying25 hf
  rw [mcells] at hl
  obtain ⟨c0, c1, c2, c3, c4, c5, c6, c7, c8, c9, c10, c11, hcs⟩ := len12 hl
  simp only [mcells9, mcells3, mcells4, mcellsE, mcellsI, hcs, List.drop_zero, List.drop_succ_cons, List.take_succ_cons, List.take_zero] at e0 e1 e2 e3 e4 e5 e6 e7 e8 e9 e10 e11
  obtain ⟨k0, g0, _, _⟩ := DataW.trod_int Tryd.underlying3 e0
  obtain ⟨k1, g1, _, _⟩ := DataW.trod_int Tryd.underlying3 e1
  obtain ⟨k2, g2, _, _⟩ := DataW.trod_int Tryd.underlying3 e2
  obtain ⟨k3, g3, _, _⟩ := DataW.trod_int Tryd.underlying3 e3
  obtain ⟨k4, g4, _, _⟩ := DataW.trod_int Tryd.underlying3 e4
  obtain ⟨k5, g5, _, _⟩ := DataW.trod_int Tryd.underlying3 e5
  obtain ⟨k6, g6, _, _⟩ := DataW.trod_int Tryd.underlying3 e6
  obtain ⟨k7, g7, _⟩ := DataW.trod_bool Tryd.underlying4 e7
  obtain ⟨k10, g10, _, z10⟩ := DataW.trod_string Tryd.underlying9 e10
  obtain ⟨k11, g11, _⟩ := DataW.trod_bool Tryd.underlying4 e11
  simp only [List.cons.injEq, and_true] at g0 g1 g2 g3 g4 g5 g6 g7 g10 g11
  subst g0 g1 g2 g3 g4 g5 g6 g7 g10 g11
  obtain ⟨a8, n8, q8, rfl⟩ : ∃ a n c, c8 = .slice a n c := by
    rcases Deep.open_slice Tryd.underlying22 e8 with ⟨hcs, _⟩ | ⟨b, len', cap', m, n, D, Pl, hcs, _⟩
    · simp only [List.cons.injEq, and_true] at hcs
      exact ⟨_, _, _, hcs⟩
    · simp only [List.cons.injEq, and_true] at hcs
      exact ⟨_, _, _, hcs⟩
  obtain ⟨a9, n9, q9, rfl⟩ : ∃ a n c, c9 = .slice a n c := by
    rcases Deep.open_slice Tryd.underlying23 e9 with ⟨hcs, _⟩ | ⟨b, len', cap', m, n, D, Pl, hcs, _⟩
    · simp only [List.cons.injEq, and_true] at hcs
      exact ⟨_, _, _, hcs⟩
    · simp only [List.cons.injEq, and_true] at hcs
      exact ⟨_, _, _, hcs⟩
  obtain ⟨l, hr, hG, hm⟩ := open_rows (fun f : En => f.data.size ≤ 9223372036854775807) Tryd.underlying22 cells33 (fun n cs y h => by
    obtain ⟨t, k, d, rfl, hs⟩ := entry_cells h
    exact ⟨⟨t, k, d⟩, rfl, hs⟩) e8
  obtain ⟨r, hr2, _, hm2⟩ := open_rows (fun _ : Int => True) Tryd.underlying23 cells3' (fun n cs y h => by
    obtain ⟨k, rfl, _, _⟩ := DataW.trod_int Tryd.underlying3 h
    exact ⟨k, rfl, trivial⟩) e9
  refine ⟨k0, k1, k2, k3, k4, k5, k6, k7, k10, k11, a8, n8, q8, l, a9, n9, q9, r, ?_, hr, hG, hm, hr2, hm2, z10⟩
  have e : cs.toList = [.int .i64 k0, .int .i64 k1, .int .i64 k2, .int .i64 k3, .int .i64 k4, .int .i64 k5, .int .i64 k6, .bool k7, .slice a8 n8 q8, .slice a9 n9 q9, .string k10, .bool k11] := hcs
  congr 1
  exact Array.toList_inj.1 e
end Go.Proofs.YtgjamikmjknlfaaDoor
