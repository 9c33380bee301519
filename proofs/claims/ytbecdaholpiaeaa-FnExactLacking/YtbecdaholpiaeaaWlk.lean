/-
  The law on what lacks of spans: the walk.
-/
import Derived.Test.YtbecdaholpiaeaaLki
import Derived.Test.YtbecdaholpiaeaaSpm
namespace Go.Proofs.Ytbecdaholpiaeaa
open Go Go.RowKit

theorem filter_len (l : List Sp) (m : List Int) : (l.filter fun s => !decide (s.fr ∈ m)).length ≤ l.length := List.length_filter_le _ _
set_option maxRecDepth 10000 in
set_option maxHeartbeats 4000000 in
theorem law_Lacking (ao : Option Addr) (n cap : Nat) (l : List Sp) (lo : Option Addr) (ln lc : Nat) (left : List Int) (w : World) (hr : Reads w (.slice ao n cap) l) (hn : n ≤ 9223372036854775807) (hl : Reads w (.slice lo ln lc) left) (hm : ln ≤ 9223372036854775807) :
    Calls Try.prog 3 #[.slice ao n cap, .slice lo ln lc] w fun e w' => e = .returned (.bool true) ∧ Below w.heap.size w w' := by
  have HR : Hid (Reads w (.slice ao n cap) l) := hr
  have HI : Hid (Reads w (.slice lo ln lc) left) := hl
  have HN : Hid (n = l.length) := hr.len
  have HM : Hid (ln = left.length) := hl.len
  clear hr hl
  by_cases hlong : (1048576 : Int) < (ln : Int)
  · go_enter Try.func3, Try.ntmps3
    go_wp2
    go_ret
    exact ⟨rfl, Below.refl _ _⟩
  · go_enter Try.func3, Try.ntmps3
    go_wp2_with fail
    refine (szSpanS_any ao n cap 1048576 _ (by decide) (by decide) hn).mono ?_
    rintro e w0 ⟨r, rfl, hr, hw⟩
    have hw2 := hw.symm
    subst hw2
    rcases hr with rfl | ⟨hr0, hr1⟩
    · go_wp2
      go_ret
      exact ⟨rfl, Below.refl _ _⟩
    · have HL : Hid (l.length ≤ 1048576) := by show l.length ≤ 1048576; rw [← HN.out]; omega
      have HK : Hid (left.length ≤ 1048576) := by show left.length ≤ 1048576; rw [← HM.out]; omega
      have CS : Hid (∀ (w : World) (v vi : Value), Reads w v l → Reads w vi left → Calls Try.prog 5 #[v, vi] w fun e w' => ∃ v', e = .returned v' ∧ ownsR w' w.heap.size 36 v' (l.filter fun s => !decide (s.fr ∈ left)) ∧ Below w.heap.size w w') := fun w v vi h1 h2 => lacking_any v vi l left w h1 h2 HL.out (Nat.le_trans HK.out (by decide))
      have CI : Hid (∀ (w : World) (v vi : Value), Reads w v l → Reads w vi left → Calls Try.prog 8 #[v, vi] w fun e w' => ∃ v', e = .returned v' ∧ ownsR w' w.heap.size 36 v' (l.filter fun s => !decide (s.fr ∈ left)) ∧ Below w.heap.size w w') := fun w v vi h1 h2 => implLacking_any v vi l left w h1 h2 HL.out (Nat.le_trans HK.out (by decide))
      have HO : Hid ((l.filter fun s => !decide (s.fr ∈ left)).length ≤ 1048576) := Nat.le_trans (filter_len l left) HL.out
      have B0 : Below w.heap.size w w := Below.refl _ _
      clear hr1
      generalize (l.filter fun s => !decide (s.fr ∈ left)) = L at *
      go_wp2_with fail
      refine (toSpanS_any ao n cap l _ (HR.out.below B0) (by have := HL.out; rw [HN.out]; exact this)).mono ?_
      rintro e w1 ⟨v1, rfl, ho1, hb1⟩
      obtain ⟨a1, d1, rfl⟩ := ho1.slice
      have B1 : Below w.heap.size w w1 := B0.trans (hb1.mono B0.size)
      have O_d1_1 : Hid (ownsR w1 w.heap.size 36 (.slice a1 (l.length) d1) (l)) := ho1.mono (B0.size)
      clear B0 hb1 ho1
      go_wp2_with fail
      refine (toIntS_any lo ln lc left _ (HI.out.below B1) (by have := HK.out; rw [HM.out]; exact this)).mono ?_
      rintro e w2 ⟨v2, rfl, ho2, hb2⟩
      obtain ⟨a2, d2, rfl⟩ := ho2.slice
      have ap_d1_i1 := apart_new O_d1_1.out ho2
      have ap_i1_d1 := apart_old O_d1_1.out ho2
      have O_d1_2 : Hid (ownsR w2 w.heap.size 36 (.slice a1 (l.length) d1) (l)) := O_d1_1.out.all hb2
      have B2 : Below w.heap.size w w2 := B1.trans (hb2.mono B1.size)
      have O_i1_2 : Hid (ownsR w2 w.heap.size 3 (.slice a2 (left.length) d2) (left)) := ho2.mono (B1.size)
      clear O_d1_1 B1 hb2 ho2
      go_wp2_with fail
      refine (CS.out _ _ _ (ownsR.reads O_d1_2.out) (ownsR.reads O_i1_2.out)).mono ?_
      rintro e w3 ⟨v3, rfl, ho3, hb3⟩
      obtain ⟨a3, d3, rfl⟩ := ho3.slice
      have ap_d1_w := apart_new O_d1_2.out ho3
      have ap_w_d1 := apart_old O_d1_2.out ho3
      have ap_i1_w := apart_new O_i1_2.out ho3
      have ap_w_i1 := apart_old O_i1_2.out ho3
      have O_d1_3 : Hid (ownsR w3 w.heap.size 36 (.slice a1 (l.length) d1) (l)) := O_d1_2.out.all hb3
      have O_i1_3 : Hid (ownsR w3 w.heap.size 3 (.slice a2 (left.length) d2) (left)) := O_i1_2.out.all hb3
      have B3 : Below w.heap.size w w3 := B2.trans (hb3.mono B2.size)
      have O_w_3 : Hid (ownsR w3 w.heap.size 36 (.slice a3 (L.length) d3) (L)) := ho3.mono (B2.size)
      clear O_d1_2 O_i1_2 B2 hb3 ho3
      go_wp2_with fail
      refine (toSpanS_any ao n cap l _ (HR.out.below B3) (by have := HL.out; rw [HN.out]; exact this)).mono ?_
      rintro e w4 ⟨v4, rfl, ho4, hb4⟩
      obtain ⟨a4, d4, rfl⟩ := ho4.slice
      have ap_w_x := apart_new O_w_3.out ho4
      have ap_x_w := apart_old O_w_3.out ho4
      have O_w_4 : Hid (ownsR w4 w.heap.size 36 (.slice a3 (L.length) d3) (L)) := O_w_3.out.all hb4
      have B4 : Below w.heap.size w w4 := B3.trans (hb4.mono B3.size)
      have O_x_4 : Hid (ownsR w4 w.heap.size 36 (.slice a4 (l.length) d4) (l)) := ho4.mono (B3.size)
      clear O_w_3 B3 hb4 ho4
      go_wp2_with fail
      refine (toIntS_any lo ln lc left _ (HI.out.below B4) (by have := HK.out; rw [HM.out]; exact this)).mono ?_
      rintro e w5 ⟨v5, rfl, ho5, hb5⟩
      obtain ⟨a5, d5, rfl⟩ := ho5.slice
      have ap_w_i := apart_new O_w_4.out ho5
      have ap_i_w := apart_old O_w_4.out ho5
      have ap_x_i := apart_new O_x_4.out ho5
      have ap_i_x := apart_old O_x_4.out ho5
      have O_w_5 : Hid (ownsR w5 w.heap.size 36 (.slice a3 (L.length) d3) (L)) := O_w_4.out.all hb5
      have O_x_5 : Hid (ownsR w5 w.heap.size 36 (.slice a4 (l.length) d4) (l)) := O_x_4.out.all hb5
      have B5 : Below w.heap.size w w5 := B4.trans (hb5.mono B4.size)
      have O_i_5 : Hid (ownsR w5 w.heap.size 3 (.slice a5 (left.length) d5) (left)) := ho5.mono (B4.size)
      clear O_w_4 O_x_4 B4 hb5 ho5
      go_wp2_with fail
      refine (CI.out _ _ _ (ownsR.reads O_x_5.out) (ownsR.reads O_i_5.out)).mono ?_
      rintro e w6 ⟨v6, rfl, ho6, hb6⟩
      obtain ⟨a6, d6, rfl⟩ := ho6.slice
      have ap_w_g := apart_new O_w_5.out ho6
      have ap_g_w := apart_old O_w_5.out ho6
      have ap_x_g := apart_new O_x_5.out ho6
      have ap_g_x := apart_old O_x_5.out ho6
      have ap_i_g := apart_new O_i_5.out ho6
      have ap_g_i := apart_old O_i_5.out ho6
      have O_w_6 : Hid (ownsR w6 w.heap.size 36 (.slice a3 (L.length) d3) (L)) := O_w_5.out.all hb6
      have O_x_6 : Hid (ownsR w6 w.heap.size 36 (.slice a4 (l.length) d4) (l)) := O_x_5.out.all hb6
      have O_i_6 : Hid (ownsR w6 w.heap.size 3 (.slice a5 (left.length) d5) (left)) := O_i_5.out.all hb6
      have B6 : Below w.heap.size w w6 := B5.trans (hb6.mono B5.size)
      have O_g_6 : Hid (ownsR w6 w.heap.size 36 (.slice a6 (L.length) d6) (L)) := ho6.mono (B5.size)
      clear O_w_5 O_x_5 O_i_5 B5 hb6 ho6
      go_wp2_with fail
      refine (eqSpanS_any _ _ _ _ _ L _ (ownsR.reads O_g_6.out) (ownsR.reads O_w_6.out) (Nat.le_trans HO.out (by decide))).mono ?_
      rintro e w7 ⟨rfl, hb7⟩
      have O_w_7 : Hid (ownsR w7 w.heap.size 36 (.slice a3 (L.length) d3) (L)) := O_w_6.out.all hb7
      have O_x_7 : Hid (ownsR w7 w.heap.size 36 (.slice a4 (l.length) d4) (l)) := O_x_6.out.all hb7
      have O_i_7 : Hid (ownsR w7 w.heap.size 3 (.slice a5 (left.length) d5) (left)) := O_i_6.out.all hb7
      have O_g_7 : Hid (ownsR w7 w.heap.size 36 (.slice a6 (L.length) d6) (L)) := O_g_6.out.all hb7
      have B7 : Below w.heap.size w w7 := B6.trans (hb7.mono B6.size)
      clear O_w_6 O_x_6 O_i_6 O_g_6 B6 hb7
      go_wp2_with fail
      refine (toSpanS_any ao n cap l _ (HR.out.below B7) (by have := HL.out; rw [HN.out]; exact this)).mono ?_
      rintro e w8 ⟨v8, rfl, ho8, hb8⟩
      obtain ⟨a8, d8, rfl⟩ := ho8.slice
      have ap_w_d3 := apart_new O_w_7.out ho8
      have ap_d3_w := apart_old O_w_7.out ho8
      have ap_x_d3 := apart_new O_x_7.out ho8
      have ap_d3_x := apart_old O_x_7.out ho8
      have ap_i_d3 := apart_new O_i_7.out ho8
      have ap_d3_i := apart_old O_i_7.out ho8
      have ap_g_d3 := apart_new O_g_7.out ho8
      have ap_d3_g := apart_old O_g_7.out ho8
      have O_w_8 : Hid (ownsR w8 w.heap.size 36 (.slice a3 (L.length) d3) (L)) := O_w_7.out.all hb8
      have O_x_8 : Hid (ownsR w8 w.heap.size 36 (.slice a4 (l.length) d4) (l)) := O_x_7.out.all hb8
      have O_i_8 : Hid (ownsR w8 w.heap.size 3 (.slice a5 (left.length) d5) (left)) := O_i_7.out.all hb8
      have O_g_8 : Hid (ownsR w8 w.heap.size 36 (.slice a6 (L.length) d6) (L)) := O_g_7.out.all hb8
      have B8 : Below w.heap.size w w8 := B7.trans (hb8.mono B7.size)
      have O_d3_8 : Hid (ownsR w8 w.heap.size 36 (.slice a8 (l.length) d8) (l)) := ho8.mono (B7.size)
      clear O_w_7 O_x_7 O_i_7 O_g_7 B7 hb8 ho8
      go_wp2_with fail
      refine (eqSpanS_any _ _ _ _ _ l _ (ownsR.reads O_x_8.out) (ownsR.reads O_d3_8.out) (Nat.le_trans HL.out (by decide))).mono ?_
      rintro e w9 ⟨rfl, hb9⟩
      have O_w_9 : Hid (ownsR w9 w.heap.size 36 (.slice a3 (L.length) d3) (L)) := O_w_8.out.all hb9
      have O_x_9 : Hid (ownsR w9 w.heap.size 36 (.slice a4 (l.length) d4) (l)) := O_x_8.out.all hb9
      have O_i_9 : Hid (ownsR w9 w.heap.size 3 (.slice a5 (left.length) d5) (left)) := O_i_8.out.all hb9
      have O_g_9 : Hid (ownsR w9 w.heap.size 36 (.slice a6 (L.length) d6) (L)) := O_g_8.out.all hb9
      have O_d3_9 : Hid (ownsR w9 w.heap.size 36 (.slice a8 (l.length) d8) (l)) := O_d3_8.out.all hb9
      have B9 : Below w.heap.size w w9 := B8.trans (hb9.mono B8.size)
      clear O_w_8 O_x_8 O_i_8 O_g_8 O_d3_8 B8 hb9
      go_wp2_with fail
      refine (toIntS_any lo ln lc left _ (HI.out.below B9) (by have := HK.out; rw [HM.out]; exact this)).mono ?_
      rintro e w10 ⟨v10, rfl, ho10, hb10⟩
      obtain ⟨a10, d10, rfl⟩ := ho10.slice
      have ap_w_i2 := apart_new O_w_9.out ho10
      have ap_i2_w := apart_old O_w_9.out ho10
      have ap_x_i2 := apart_new O_x_9.out ho10
      have ap_i2_x := apart_old O_x_9.out ho10
      have ap_i_i2 := apart_new O_i_9.out ho10
      have ap_i2_i := apart_old O_i_9.out ho10
      have ap_g_i2 := apart_new O_g_9.out ho10
      have ap_i2_g := apart_old O_g_9.out ho10
      have O_w_10 : Hid (ownsR w10 w.heap.size 36 (.slice a3 (L.length) d3) (L)) := O_w_9.out.all hb10
      have O_x_10 : Hid (ownsR w10 w.heap.size 36 (.slice a4 (l.length) d4) (l)) := O_x_9.out.all hb10
      have O_i_10 : Hid (ownsR w10 w.heap.size 3 (.slice a5 (left.length) d5) (left)) := O_i_9.out.all hb10
      have O_g_10 : Hid (ownsR w10 w.heap.size 36 (.slice a6 (L.length) d6) (L)) := O_g_9.out.all hb10
      have B10 : Below w.heap.size w w10 := B9.trans (hb10.mono B9.size)
      have O_i2_10 : Hid (ownsR w10 w.heap.size 3 (.slice a10 (left.length) d10) (left)) := ho10.mono (B9.size)
      clear O_w_9 O_x_9 O_i_9 O_g_9 B9 hb10 ho10
      go_wp2_with fail
      refine (eqIntS_any _ _ _ _ _ left _ (ownsR.reads O_i_10.out) (ownsR.reads O_i2_10.out) (Nat.le_trans HK.out (by decide))).mono ?_
      rintro e w11 ⟨rfl, hb11⟩
      have O_w_11 : Hid (ownsR w11 w.heap.size 36 (.slice a3 (L.length) d3) (L)) := O_w_10.out.all hb11
      have O_x_11 : Hid (ownsR w11 w.heap.size 36 (.slice a4 (l.length) d4) (l)) := O_x_10.out.all hb11
      have O_i_11 : Hid (ownsR w11 w.heap.size 3 (.slice a5 (left.length) d5) (left)) := O_i_10.out.all hb11
      have O_g_11 : Hid (ownsR w11 w.heap.size 36 (.slice a6 (L.length) d6) (L)) := O_g_10.out.all hb11
      have O_i2_11 : Hid (ownsR w11 w.heap.size 3 (.slice a10 (left.length) d10) (left)) := O_i2_10.out.all hb11
      have B11 : Below w.heap.size w w11 := B10.trans (hb11.mono B10.size)
      clear O_w_10 O_x_10 O_i_10 O_g_10 O_i2_10 B10 hb11
      go_wp2_with fail
      refine (markSpanS_any (x := 1) O_x_11.out (Nat.le_trans HL.out (by decide)) (by decide) (by decide)).mono ?_
      rintro e w12 ⟨rfl, hm12, hg12⟩
      have O_w_12 : Hid (ownsR w12 w.heap.size 36 (.slice a3 (L.length) d3) (L)) := O_w_11.out.other hg12 ap_w_x
      have O_i_12 : Hid (ownsR w12 w.heap.size 3 (.slice a5 (left.length) d5) (left)) := O_i_11.out.other hg12 ap_i_x
      have O_g_12 : Hid (ownsR w12 w.heap.size 36 (.slice a6 (L.length) d6) (L)) := O_g_11.out.other hg12 ap_g_x
      have B12 : Below w.heap.size w w12 := below_marked B11 O_x_11.out hg12
      have O_x_12 : Hid (ownsR w12 w.heap.size 36 (.slice a4 (l.length) d4) (marksSp 1 l.length)) := hm12
      clear O_w_11 O_i_11 O_g_11 B11 hm12 O_x_11 hg12
      go_wp2_with fail
      refine (markIntS_any' (x := 1 + 2 * (l.length : Int)) O_i_12.out (Nat.le_trans HK.out (by decide)) (by omega) (by have := HL.out; omega)).mono ?_
      rintro e w13 ⟨rfl, hg13⟩
      have O_w_13 : Hid (ownsR w13 w.heap.size 36 (.slice a3 (L.length) d3) (L)) := O_w_12.out.other hg13 ap_w_i
      have O_x_13 : Hid (ownsR w13 w.heap.size 36 (.slice a4 (l.length) d4) (marksSp 1 l.length)) := O_x_12.out.other hg13 ap_x_i
      have O_g_13 : Hid (ownsR w13 w.heap.size 36 (.slice a6 (L.length) d6) (L)) := O_g_12.out.other hg13 ap_g_i
      have B13 : Below w.heap.size w w13 := below_marked B12 O_i_12.out hg13
      clear O_w_12 O_x_12 O_g_12 B12 O_i_12 hg13
      go_wp2_with fail
      refine (eqSpanS_any _ _ _ _ _ L _ (ownsR.reads O_g_13.out) (ownsR.reads O_w_13.out) (Nat.le_trans HO.out (by decide))).mono ?_
      rintro e w14 ⟨rfl, hb14⟩
      have O_w_14 : Hid (ownsR w14 w.heap.size 36 (.slice a3 (L.length) d3) (L)) := O_w_13.out.all hb14
      have O_x_14 : Hid (ownsR w14 w.heap.size 36 (.slice a4 (l.length) d4) (marksSp 1 l.length)) := O_x_13.out.all hb14
      have O_g_14 : Hid (ownsR w14 w.heap.size 36 (.slice a6 (L.length) d6) (L)) := O_g_13.out.all hb14
      have B14 : Below w.heap.size w w14 := B13.trans (hb14.mono B13.size)
      clear O_w_13 O_x_13 O_g_13 B13 hb14
      go_wp2_with fail
      refine (markSpanS_any (x := 1) O_g_14.out (Nat.le_trans HO.out (by decide)) (by decide) (by decide)).mono ?_
      rintro e w15 ⟨rfl, hm15, hg15⟩
      have O_w_15 : Hid (ownsR w15 w.heap.size 36 (.slice a3 (L.length) d3) (L)) := O_w_14.out.other hg15 ap_w_g
      have O_x_15 : Hid (ownsR w15 w.heap.size 36 (.slice a4 (l.length) d4) (marksSp 1 l.length)) := O_x_14.out.other hg15 ap_x_g
      have B15 : Below w.heap.size w w15 := below_marked B14 O_g_14.out hg15
      have O_g_15 : Hid (ownsR w15 w.heap.size 36 (.slice a6 (L.length) d6) (marksSp 1 L.length)) := hm15
      clear O_w_14 O_x_14 B14 hm15 O_g_14 hg15
      go_wp2_with fail
      refine (heldSpanS_any _ _ _ 1 _ (ownsR.reads O_g_15.out) (Nat.le_trans HO.out (by decide)) (by decide) (by decide)).mono ?_
      rintro e w16 ⟨rfl, hb16⟩
      have O_w_16 : Hid (ownsR w16 w.heap.size 36 (.slice a3 (L.length) d3) (L)) := O_w_15.out.all hb16
      have O_x_16 : Hid (ownsR w16 w.heap.size 36 (.slice a4 (l.length) d4) (marksSp 1 l.length)) := O_x_15.out.all hb16
      have O_g_16 : Hid (ownsR w16 w.heap.size 36 (.slice a6 (L.length) d6) (marksSp 1 L.length)) := O_g_15.out.all hb16
      have B16 : Below w.heap.size w w16 := B15.trans (hb16.mono B15.size)
      clear O_w_15 O_x_15 O_g_15 B15 hb16
      go_wp2_with fail
      refine (toSpanS_any ao n cap l _ (HR.out.below B16) (by have := HL.out; rw [HN.out]; exact this)).mono ?_
      rintro e w17 ⟨v17, rfl, ho17, hb17⟩
      obtain ⟨a17, d17, rfl⟩ := ho17.slice
      have ap_w_d2 := apart_new O_w_16.out ho17
      have ap_d2_w := apart_old O_w_16.out ho17
      have ap_x_d2 := apart_new O_x_16.out ho17
      have ap_d2_x := apart_old O_x_16.out ho17
      have ap_g_d2 := apart_new O_g_16.out ho17
      have ap_d2_g := apart_old O_g_16.out ho17
      have O_w_17 : Hid (ownsR w17 w.heap.size 36 (.slice a3 (L.length) d3) (L)) := O_w_16.out.all hb17
      have O_x_17 : Hid (ownsR w17 w.heap.size 36 (.slice a4 (l.length) d4) (marksSp 1 l.length)) := O_x_16.out.all hb17
      have O_g_17 : Hid (ownsR w17 w.heap.size 36 (.slice a6 (L.length) d6) (marksSp 1 L.length)) := O_g_16.out.all hb17
      have B17 : Below w.heap.size w w17 := B16.trans (hb17.mono B16.size)
      have O_d2_17 : Hid (ownsR w17 w.heap.size 36 (.slice a17 (l.length) d17) (l)) := ho17.mono (B16.size)
      clear O_w_16 O_x_16 O_g_16 B16 hb17 ho17
      go_wp2_with fail
      refine (toIntS_any lo ln lc left _ (HI.out.below B17) (by have := HK.out; rw [HM.out]; exact this)).mono ?_
      rintro e w18 ⟨v18, rfl, ho18, hb18⟩
      obtain ⟨a18, d18, rfl⟩ := ho18.slice
      have ap_w_i3 := apart_new O_w_17.out ho18
      have ap_i3_w := apart_old O_w_17.out ho18
      have ap_x_i3 := apart_new O_x_17.out ho18
      have ap_i3_x := apart_old O_x_17.out ho18
      have ap_g_i3 := apart_new O_g_17.out ho18
      have ap_i3_g := apart_old O_g_17.out ho18
      have ap_d2_i3 := apart_new O_d2_17.out ho18
      have ap_i3_d2 := apart_old O_d2_17.out ho18
      have O_w_18 : Hid (ownsR w18 w.heap.size 36 (.slice a3 (L.length) d3) (L)) := O_w_17.out.all hb18
      have O_x_18 : Hid (ownsR w18 w.heap.size 36 (.slice a4 (l.length) d4) (marksSp 1 l.length)) := O_x_17.out.all hb18
      have O_g_18 : Hid (ownsR w18 w.heap.size 36 (.slice a6 (L.length) d6) (marksSp 1 L.length)) := O_g_17.out.all hb18
      have O_d2_18 : Hid (ownsR w18 w.heap.size 36 (.slice a17 (l.length) d17) (l)) := O_d2_17.out.all hb18
      have B18 : Below w.heap.size w w18 := B17.trans (hb18.mono B17.size)
      have O_i3_18 : Hid (ownsR w18 w.heap.size 3 (.slice a18 (left.length) d18) (left)) := ho18.mono (B17.size)
      clear O_w_17 O_x_17 O_g_17 O_d2_17 B17 hb18 ho18
      go_wp2_with fail
      refine (CI.out _ _ _ (ownsR.reads O_d2_18.out) (ownsR.reads O_i3_18.out)).mono ?_
      rintro e w19 ⟨v19, rfl, ho19, hb19⟩
      obtain ⟨a19, d19, rfl⟩ := ho19.slice
      have ap_w_h := apart_new O_w_18.out ho19
      have ap_h_w := apart_old O_w_18.out ho19
      have ap_x_h := apart_new O_x_18.out ho19
      have ap_h_x := apart_old O_x_18.out ho19
      have ap_g_h := apart_new O_g_18.out ho19
      have ap_h_g := apart_old O_g_18.out ho19
      have ap_d2_h := apart_new O_d2_18.out ho19
      have ap_h_d2 := apart_old O_d2_18.out ho19
      have ap_i3_h := apart_new O_i3_18.out ho19
      have ap_h_i3 := apart_old O_i3_18.out ho19
      have O_w_19 : Hid (ownsR w19 w.heap.size 36 (.slice a3 (L.length) d3) (L)) := O_w_18.out.all hb19
      have O_x_19 : Hid (ownsR w19 w.heap.size 36 (.slice a4 (l.length) d4) (marksSp 1 l.length)) := O_x_18.out.all hb19
      have O_g_19 : Hid (ownsR w19 w.heap.size 36 (.slice a6 (L.length) d6) (marksSp 1 L.length)) := O_g_18.out.all hb19
      have O_d2_19 : Hid (ownsR w19 w.heap.size 36 (.slice a17 (l.length) d17) (l)) := O_d2_18.out.all hb19
      have O_i3_19 : Hid (ownsR w19 w.heap.size 3 (.slice a18 (left.length) d18) (left)) := O_i3_18.out.all hb19
      have B19 : Below w.heap.size w w19 := B18.trans (hb19.mono B18.size)
      have O_h_19 : Hid (ownsR w19 w.heap.size 36 (.slice a19 (L.length) d19) (L)) := ho19.mono (B18.size)
      clear O_w_18 O_x_18 O_g_18 O_d2_18 O_i3_18 B18 hb19 ho19
      go_wp2_with fail
      refine (eqSpanS_any _ _ _ _ _ L _ (ownsR.reads O_h_19.out) (ownsR.reads O_w_19.out) (Nat.le_trans HO.out (by decide))).mono ?_
      rintro e w20 ⟨rfl, hb20⟩
      have O_w_20 : Hid (ownsR w20 w.heap.size 36 (.slice a3 (L.length) d3) (L)) := O_w_19.out.all hb20
      have O_x_20 : Hid (ownsR w20 w.heap.size 36 (.slice a4 (l.length) d4) (marksSp 1 l.length)) := O_x_19.out.all hb20
      have O_g_20 : Hid (ownsR w20 w.heap.size 36 (.slice a6 (L.length) d6) (marksSp 1 L.length)) := O_g_19.out.all hb20
      have O_d2_20 : Hid (ownsR w20 w.heap.size 36 (.slice a17 (l.length) d17) (l)) := O_d2_19.out.all hb20
      have O_i3_20 : Hid (ownsR w20 w.heap.size 3 (.slice a18 (left.length) d18) (left)) := O_i3_19.out.all hb20
      have O_h_20 : Hid (ownsR w20 w.heap.size 36 (.slice a19 (L.length) d19) (L)) := O_h_19.out.all hb20
      have B20 : Below w.heap.size w w20 := B19.trans (hb20.mono B19.size)
      clear O_w_19 O_x_19 O_g_19 O_d2_19 O_i3_19 O_h_19 B19 hb20
      go_wp2_with fail
      refine (heldSpanS_any _ _ _ 1 _ (ownsR.reads O_g_20.out) (Nat.le_trans HO.out (by decide)) (by decide) (by decide)).mono ?_
      rintro e w21 ⟨rfl, hb21⟩
      have O_w_21 : Hid (ownsR w21 w.heap.size 36 (.slice a3 (L.length) d3) (L)) := O_w_20.out.all hb21
      have O_x_21 : Hid (ownsR w21 w.heap.size 36 (.slice a4 (l.length) d4) (marksSp 1 l.length)) := O_x_20.out.all hb21
      have O_g_21 : Hid (ownsR w21 w.heap.size 36 (.slice a6 (L.length) d6) (marksSp 1 L.length)) := O_g_20.out.all hb21
      have O_d2_21 : Hid (ownsR w21 w.heap.size 36 (.slice a17 (l.length) d17) (l)) := O_d2_20.out.all hb21
      have O_i3_21 : Hid (ownsR w21 w.heap.size 3 (.slice a18 (left.length) d18) (left)) := O_i3_20.out.all hb21
      have O_h_21 : Hid (ownsR w21 w.heap.size 36 (.slice a19 (L.length) d19) (L)) := O_h_20.out.all hb21
      have B21 : Below w.heap.size w w21 := B20.trans (hb21.mono B20.size)
      clear O_w_20 O_x_20 O_g_20 O_d2_20 O_i3_20 O_h_20 B20 hb21
      go_wp2
      go_ret
      exact ⟨rfl, B21⟩
end Go.Proofs.Ytbecdaholpiaeaa
