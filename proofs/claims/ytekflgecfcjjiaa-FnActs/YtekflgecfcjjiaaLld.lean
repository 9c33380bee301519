/-
  The law on what the power leaves of a disk: the walk.
-/
import Derived.Test.YtekflgecfcjjiaaLds
import Derived.Test.YtekflgecfcjjiaaIs
import Derived.Test.YtekflgecfcjjiaaLw
import Derived.Test.YtekflgecfcjjiaaLfa
namespace Go.Proofs.Ytekflgecfcjjiaa
open Go Go.RowKit

/-- What LoseDisk answers. -/
def loseO (l : List Fl) (left : List Int) : List Fl := if diskR l = true then loseL l left else []
theorem loseO_length (l : List Fl) (left : List Int) : (loseO l left).length ≤ l.length := by
  unfold loseO
  split
  · rw [loseL_length]; exact Nat.le_refl _
  · simp
theorem loseDisk_any {w : World} {v vi : Value} {l : List Fl} {left : List Int} (hr : Reads w v l) (hl : Reads w vi left) (hn : l.length ≤ 1048576) (hs : Sized l) :
    Calls Try.prog 16 #[.agg #[v], vi] w fun e w' => ∃ v', e = .returned (.tuple #[.agg #[v'], .bool (diskR l)]) ∧ ownsR w' w.heap.size 36 v' (loseO l left) ∧ Below w.heap.size w w' := by
  obtain ⟨ao, c, rfl, _⟩ := id hr
  obtain ⟨lo, d, rfl, _⟩ := id hl
  unfold loseO
  cases hd : diskR l with
  | false => exact (loseDisk_wrong ao _ c l _ w hr hd).mono fun e w' ⟨he, hb⟩ => ⟨_, he, by simpa using ownsR_nil _ _ _, hb⟩
  | true => exact (loseDisk_right ao lo _ c _ d l left w hr hl hd hn hs).mono fun e w' ⟨v, he, ho, hb⟩ => ⟨v, he, by simpa using ho, hb⟩
theorem specLose_any {w : World} {v vi : Value} {l : List Fl} {left : List Int} (hr : Reads w v l) (hl : Reads w vi left) (hn : l.length ≤ 1048576) (hs : Sized l) :
    Calls Try.prog 42 #[.agg #[v], vi] w fun e w' => ∃ v', e = .returned (.tuple #[.agg #[v'], .bool (diskR l)]) ∧ ownsR w' w.heap.size 36 v' (loseO l left) ∧ Below w.heap.size w w' := by
  obtain ⟨ao, c, rfl, _⟩ := id hr
  obtain ⟨lo, d, rfl, _⟩ := id hl
  unfold loseO
  cases hd : diskR l with
  | false => exact (specLose_wrong ao _ c l _ w hr hd).mono fun e w' ⟨he, hb⟩ => ⟨_, he, by simpa using ownsR_nil _ _ _, hb⟩
  | true => exact (specLose_right ao lo _ c _ d l left w hr hl hd hn hs).mono fun e w' ⟨v, he, ho, hb⟩ => ⟨v, he, by simpa using ho, hb⟩

set_option maxHeartbeats 4000000 in
theorem law_LoseDisk (ao : Option Addr) (n cap : Nat) (l : List Fl) (lo : Option Addr) (ln lc : Nat) (left : List Int) (w : World) (hr : Reads w (.slice ao n cap) l) (hs : Small l) (hn : n ≤ 9223372036854775807) (hl : Reads w (.slice lo ln lc) left) :
    Calls Try.prog 9 #[.agg #[.slice ao n cap], .slice lo ln lc] w fun e w' => e = .returned (.bool true) ∧ Below w.heap.size w w' := by
  have HR : Hid (Reads w (.slice ao n cap) l) := hr
  have HI : Hid (Reads w (.slice lo ln lc) left) := hl
  have HN : Hid (n = l.length) := hr.len
  have HM : Hid (ln = left.length) := hl.len
  have HS : Hid (Small l) := hs
  clear hr hs hl
  by_cases hlong : (1048576 : Int) < (ln : Int)
  · go_enter Try.func9, Try.ntmps9
    go_wp2
    go_ret
    exact ⟨rfl, ba (Below.refl _ _) _⟩
  · go_enter Try.func9, Try.ntmps9
    go_wp2_with fail
    refine (szDisk_any _ l _ _ (HR.out.alloc _) HS.out (by decide) (by decide) (by rw [← HN.out]; exact hn)).mono ?_
    rintro e w0 ⟨r, rfl, hr, hb0⟩
    rcases hr with rfl | ⟨hr0, hr1⟩
    · go_wp2
      go_ret
      exact ⟨rfl, (ba (Below.refl _ _) _).trans (hb0.mono (by simp))⟩
    · have HL : Hid (l.length ≤ 1048576) := by show l.length ≤ 1048576; omega
      have HK : Hid (left.length ≤ 1048576) := by show left.length ≤ 1048576; rw [← HM.out]; omega
      have HZ : Hid (Sized l) := fun f hf => by have := sizeL_mem hf; omega
      have CS : Hid (∀ (w : World) (v vi : Value), Reads w v l → Reads w vi left → Calls Try.prog 42 #[.agg #[v], vi] w fun e w' => ∃ v', e = .returned (.tuple #[.agg #[v'], .bool (diskR l)]) ∧ ownsR w' w.heap.size 36 v' (loseO l left) ∧ Below w.heap.size w w') := fun w v vi h1 h2 => specLose_any h1 h2 HL.out HZ.out
      have CI : Hid (∀ (w : World) (v vi : Value), Reads w v l → Reads w vi left → Calls Try.prog 16 #[.agg #[v], vi] w fun e w' => ∃ v', e = .returned (.tuple #[.agg #[v'], .bool (diskR l)]) ∧ ownsR w' w.heap.size 36 v' (loseO l left) ∧ Below w.heap.size w w') := fun w v vi h1 h2 => loseDisk_any h1 h2 HL.out HZ.out
      have HO : Hid ((loseO l left).length ≤ 1048576) := Nat.le_trans (loseO_length l left) HL.out
      have c_a_0 : w0.cell? ⟨w.heap.size, 0, none⟩ = some (.slice ao n cap) := (hb0.cell (by simp)).trans (by simp [go_sem])
      have B0 : Below w.heap.size w w0 := (ba (Below.refl _ _) _).trans (hb0.mono (by simp))
      clear hb0 hr1
      generalize loseO l left = L at *
      generalize diskR l = z at *
      go_wp2_with fail
      refine (toDisk_any _ l _ (HR.out.below B0) HL.out).mono ?_
      rintro e w1 ⟨v1, rfl, ho1, hb1⟩
      obtain ⟨a1, d1, rfl⟩ := ho1.slice
      have ac_a_d1 := cell_apart c_a_0 ho1
      have c_a_1 := cell_up hb1 c_a_0
      have B1 : Below w.heap.size w w1 := B0.trans (hb1.mono B0.size)
      have O_d1_1 : Hid (ownsR w1 w.heap.size 36 (.slice a1 (l.length) d1) (l)) := ho1.mono (B0.size)
      clear c_a_0 B0 hb1 ho1
      go_wp2_with fail
      refine (toIntS_any lo ln lc left _ (HI.out.below B1) (by have := HK.out; rw [HM.out]; exact this)).mono ?_
      rintro e w2 ⟨v2, rfl, ho2, hb2⟩
      obtain ⟨a2, d2, rfl⟩ := ho2.slice
      have ap_d1_i1 := apart_new O_d1_1.out ho2
      have ap_i1_d1 := apart_old O_d1_1.out ho2
      have ac_a_i1 := cell_apart c_a_1 ho2
      have c_a_2 := cell_up hb2 c_a_1
      have O_d1_2 : Hid (ownsR w2 w.heap.size 36 (.slice a1 (l.length) d1) (l)) := O_d1_1.out.all hb2
      have B2 : Below w.heap.size w w2 := B1.trans (hb2.mono B1.size)
      have O_i1_2 : Hid (ownsR w2 w.heap.size 3 (.slice a2 (left.length) d2) (left)) := ho2.mono (B1.size)
      clear c_a_1 O_d1_1 B1 hb2 ho2
      go_wp2_with fail
      refine (CS.out _ _ _ (ownsR.reads O_d1_2.out) (ownsR.reads O_i1_2.out)).mono ?_
      rintro e w3 ⟨v3, rfl, ho3, hb3⟩
      obtain ⟨a3, d3, rfl⟩ := ho3.slice
      have ap_d1_w := apart_new O_d1_2.out ho3
      have ap_w_d1 := apart_old O_d1_2.out ho3
      have ap_i1_w := apart_new O_i1_2.out ho3
      have ap_w_i1 := apart_old O_i1_2.out ho3
      have ac_a_w := cell_apart c_a_2 ho3
      have c_a_3 := cell_up hb3 c_a_2
      have O_d1_3 : Hid (ownsR w3 w.heap.size 36 (.slice a1 (l.length) d1) (l)) := O_d1_2.out.all hb3
      have O_i1_3 : Hid (ownsR w3 w.heap.size 3 (.slice a2 (left.length) d2) (left)) := O_i1_2.out.all hb3
      have B3 : Below w.heap.size w w3 := B2.trans (hb3.mono B2.size)
      have O_w_3 : Hid (ownsR w3 w.heap.size 36 (.slice a3 (L.length) d3) (L)) := ho3.mono (B2.size)
      clear c_a_2 O_d1_2 O_i1_2 B2 hb3 ho3
      have sz_a : w.heap.size < w3.heap.size := World.block_lt_of_cell? _ _ c_a_3
      go_wp2_with fail
      refine (toDisk_any _ l _ ((HR.out.below B3).alloc _) HL.out).mono ?_
      rintro e w4 ⟨v4, rfl, ho4, hb4⟩
      obtain ⟨a4, d4, rfl⟩ := ho4.slice
      have ap_w_x := apart_new (O_w_3.out.alloc _) ho4
      have ap_x_w := apart_old (O_w_3.out.alloc _) ho4
      have ac_a_x := cell_apart (cell_up (ba (Below.refl _ w3) _) c_a_3) ho4
      have ac_cw_x := cell_apart (p := ⟨w3.heap.size, 0, none⟩) (u := .slice a3 (L.length) d3) (w := w3.alloc (Obj.cells #[.slice a3 (L.length) d3] 26)) (by simp [go_sem]) ho4
      have c_cw_4 := cell_new hb4
      have ac_cw_w := cell_apart_new O_w_3.out
      have hb4 := below_new hb4
      have c_a_4 := cell_up hb4 c_a_3
      have O_w_4 : Hid (ownsR w4 w.heap.size 36 (.slice a3 (L.length) d3) (L)) := O_w_3.out.all hb4
      have B4 : Below w.heap.size w w4 := B3.trans (hb4.mono B3.size)
      have O_x_4 : Hid (ownsR w4 w.heap.size 36 (.slice a4 (l.length) d4) (l)) := ho4.mono (by have := B3.size; simp; omega)
      clear c_a_3 sz_a O_w_3 B3 hb4 ho4
      have sz_a : w.heap.size < w4.heap.size := World.block_lt_of_cell? _ _ c_a_4
      have sz_cw : w3.heap.size < w4.heap.size := World.block_lt_of_cell? _ _ c_cw_4
      go_wp2_with fail
      refine (toIntS_any lo ln lc left _ ((HI.out.below B4).alloc _) (by have := HK.out; rw [HM.out]; exact this)).mono ?_
      rintro e w5 ⟨v5, rfl, ho5, hb5⟩
      obtain ⟨a5, d5, rfl⟩ := ho5.slice
      have ap_w_i := apart_new (O_w_4.out.alloc _) ho5
      have ap_i_w := apart_old (O_w_4.out.alloc _) ho5
      have ap_x_i := apart_new (O_x_4.out.alloc _) ho5
      have ap_i_x := apart_old (O_x_4.out.alloc _) ho5
      have ac_a_i := cell_apart (cell_up (ba (Below.refl _ w4) _) c_a_4) ho5
      have ac_cw_i := cell_apart (cell_up (ba (Below.refl _ w4) _) c_cw_4) ho5
      have ac_cx_i := cell_apart (p := ⟨w4.heap.size, 0, none⟩) (u := .slice a4 (l.length) d4) (w := w4.alloc (Obj.cells #[.slice a4 (l.length) d4] 26)) (by simp [go_sem]) ho5
      have c_cx_5 := cell_new hb5
      have ac_cx_w := cell_apart_new O_w_4.out
      have ac_cx_x := cell_apart_new O_x_4.out
      have hb5 := below_new hb5
      have c_a_5 := cell_up hb5 c_a_4
      have c_cw_5 := cell_up hb5 c_cw_4
      have O_w_5 : Hid (ownsR w5 w.heap.size 36 (.slice a3 (L.length) d3) (L)) := O_w_4.out.all hb5
      have O_x_5 : Hid (ownsR w5 w.heap.size 36 (.slice a4 (l.length) d4) (l)) := O_x_4.out.all hb5
      have B5 : Below w.heap.size w w5 := B4.trans (hb5.mono B4.size)
      have O_i_5 : Hid (ownsR w5 w.heap.size 3 (.slice a5 (left.length) d5) (left)) := ho5.mono (by have := B4.size; simp; omega)
      clear c_a_4 c_cw_4 sz_a sz_cw O_w_4 O_x_4 B4 hb5 ho5
      go_wp2_with fail
      refine (CI.out _ _ _ (ownsR.reads O_x_5.out) (ownsR.reads O_i_5.out)).mono ?_
      rintro e w6 ⟨v6, rfl, ho6, hb6⟩
      obtain ⟨a6, d6, rfl⟩ := ho6.slice
      have ap_w_g := apart_new O_w_5.out ho6
      have ap_g_w := apart_old O_w_5.out ho6
      have ap_x_g := apart_new O_x_5.out ho6
      have ap_g_x := apart_old O_x_5.out ho6
      have ap_i_g := apart_new O_i_5.out ho6
      have ap_g_i := apart_old O_i_5.out ho6
      have ac_a_g := cell_apart c_a_5 ho6
      have ac_cw_g := cell_apart c_cw_5 ho6
      have ac_cx_g := cell_apart c_cx_5 ho6
      have c_a_6 := cell_up hb6 c_a_5
      have c_cw_6 := cell_up hb6 c_cw_5
      have c_cx_6 := cell_up hb6 c_cx_5
      have O_w_6 : Hid (ownsR w6 w.heap.size 36 (.slice a3 (L.length) d3) (L)) := O_w_5.out.all hb6
      have O_x_6 : Hid (ownsR w6 w.heap.size 36 (.slice a4 (l.length) d4) (l)) := O_x_5.out.all hb6
      have O_i_6 : Hid (ownsR w6 w.heap.size 3 (.slice a5 (left.length) d5) (left)) := O_i_5.out.all hb6
      have B6 : Below w.heap.size w w6 := B5.trans (hb6.mono B5.size)
      have O_g_6 : Hid (ownsR w6 w.heap.size 36 (.slice a6 (L.length) d6) (L)) := ho6.mono (B5.size)
      clear c_a_5 c_cw_5 c_cx_5 O_w_5 O_x_5 O_i_5 B5 hb6 ho6
      have sz_a : w.heap.size < w6.heap.size := World.block_lt_of_cell? _ _ c_a_6
      have sz_cw : w3.heap.size < w6.heap.size := World.block_lt_of_cell? _ _ c_cw_6
      have sz_cx : w4.heap.size < w6.heap.size := World.block_lt_of_cell? _ _ c_cx_6
      go_wp2_with fail
      refine (eqDisk_any _ _ L _ (ownsR.reads (O_g_6.out.alloc _)) (ownsR.reads (O_w_6.out.alloc _)) (Nat.le_trans HO.out (by decide))).mono ?_
      rintro e w7 ⟨rfl, hb7⟩
      have c_cg_7 := cell_new hb7
      have ac_cg_w := cell_apart_new O_w_6.out
      have ac_cg_x := cell_apart_new O_x_6.out
      have ac_cg_i := cell_apart_new O_i_6.out
      have ac_cg_g := cell_apart_new O_g_6.out
      have hb7 := below_new hb7
      have c_a_7 := cell_up hb7 c_a_6
      have c_cw_7 := cell_up hb7 c_cw_6
      have c_cx_7 := cell_up hb7 c_cx_6
      have O_w_7 : Hid (ownsR w7 w.heap.size 36 (.slice a3 (L.length) d3) (L)) := O_w_6.out.all hb7
      have O_x_7 : Hid (ownsR w7 w.heap.size 36 (.slice a4 (l.length) d4) (l)) := O_x_6.out.all hb7
      have O_i_7 : Hid (ownsR w7 w.heap.size 3 (.slice a5 (left.length) d5) (left)) := O_i_6.out.all hb7
      have O_g_7 : Hid (ownsR w7 w.heap.size 36 (.slice a6 (L.length) d6) (L)) := O_g_6.out.all hb7
      have B7 : Below w.heap.size w w7 := B6.trans (hb7.mono B6.size)
      clear c_a_6 c_cw_6 c_cx_6 sz_a sz_cw sz_cx O_w_6 O_x_6 O_i_6 O_g_6 B6 hb7
      go_wp2
      go_region_held3 (fun w' => w'.cell? ⟨w.heap.size, 0, none⟩ = some (.slice ao n cap) ∧ w'.cell? ⟨w4.heap.size, 0, none⟩ = some (.slice a4 (l.length) d4)) ((first | exact ⟨c_a_7, c_cx_7⟩ | exact ⟨cell_up (w := w7.drew) hb8 c_a_7, cell_up (w := w7.drew) hb8 c_cx_7⟩ | exact ⟨cell_up hb9 cc1, cell_up hb9 cc2⟩)) ((first | (go_at_call 30; refine (toDisk_any _ l _ (HR.out.below B7).drew HL.out).mono ?_; rintro e w8 ⟨v8, rfl, ho8, hb8⟩; obtain ⟨a8, d8, rfl⟩ := ho8.slice; have cc1 := cell_up (w := w7.drew) hb8 c_a_7; have cc2 := cell_up (w := w7.drew) hb8 c_cx_7) | (go_at_call 31; refine (eqDisk_any _ _ l _ ((ownsR.reads O_x_7.out).drew.below hb8) ho8.reads (Nat.le_trans HL.out (by decide))).mono ?_; rintro e w9 ⟨rfl, hb9⟩)))
      have hb9 : Below w7.heap.size w7 w9 := ((Below.refl _ w7).drew.trans hb8).trans (hb9.mono hb8.size)
      clear ho8 hb8 cc1 cc2
      have c_a_9 := cell_up hb9 c_a_7
      have c_cw_9 := cell_up hb9 c_cw_7
      have c_cx_9 := cell_up hb9 c_cx_7
      have c_cg_9 := cell_up hb9 c_cg_7
      have O_w_9 : Hid (ownsR w9 w.heap.size 36 (.slice a3 (L.length) d3) (L)) := O_w_7.out.all hb9
      have O_x_9 : Hid (ownsR w9 w.heap.size 36 (.slice a4 (l.length) d4) (l)) := O_x_7.out.all hb9
      have O_i_9 : Hid (ownsR w9 w.heap.size 3 (.slice a5 (left.length) d5) (left)) := O_i_7.out.all hb9
      have O_g_9 : Hid (ownsR w9 w.heap.size 36 (.slice a6 (L.length) d6) (L)) := O_g_7.out.all hb9
      have B9 : Below w.heap.size w w9 := B7.trans (hb9.mono B7.size)
      clear c_a_7 c_cw_7 c_cx_7 c_cg_7 O_w_7 O_x_7 O_i_7 O_g_7 B7 hb9
      go_wp2_with fail
      refine (toIntS_any lo ln lc left _ (HI.out.below B9) (by have := HK.out; rw [HM.out]; exact this)).mono ?_
      rintro e w10 ⟨v10, rfl, ho10, hb10⟩
      obtain ⟨a10, d10, rfl⟩ := ho10.slice
      have ap_w_i2 := apart_new O_w_9.out ho10
      have ap_i2_w := apart_old O_w_9.out ho10
      have ap_x_i2 := apart_new O_x_9.out ho10
      have ap_i2_x := apart_old O_x_9.out ho10
      have ap_i_i2 := apart_new O_i_9.out ho10
      have ap_i2_i := apart_old O_i_9.out ho10
      have ap_g_i2 := apart_new O_g_9.out ho10
      have ap_i2_g := apart_old O_g_9.out ho10
      have ac_a_i2 := cell_apart c_a_9 ho10
      have ac_cw_i2 := cell_apart c_cw_9 ho10
      have ac_cx_i2 := cell_apart c_cx_9 ho10
      have ac_cg_i2 := cell_apart c_cg_9 ho10
      have c_a_10 := cell_up hb10 c_a_9
      have c_cw_10 := cell_up hb10 c_cw_9
      have c_cx_10 := cell_up hb10 c_cx_9
      have c_cg_10 := cell_up hb10 c_cg_9
      have O_w_10 : Hid (ownsR w10 w.heap.size 36 (.slice a3 (L.length) d3) (L)) := O_w_9.out.all hb10
      have O_x_10 : Hid (ownsR w10 w.heap.size 36 (.slice a4 (l.length) d4) (l)) := O_x_9.out.all hb10
      have O_i_10 : Hid (ownsR w10 w.heap.size 3 (.slice a5 (left.length) d5) (left)) := O_i_9.out.all hb10
      have O_g_10 : Hid (ownsR w10 w.heap.size 36 (.slice a6 (L.length) d6) (L)) := O_g_9.out.all hb10
      have B10 : Below w.heap.size w w10 := B9.trans (hb10.mono B9.size)
      have O_i2_10 : Hid (ownsR w10 w.heap.size 3 (.slice a10 (left.length) d10) (left)) := ho10.mono (B9.size)
      clear c_a_9 c_cw_9 c_cx_9 c_cg_9 O_w_9 O_x_9 O_i_9 O_g_9 B9 hb10 ho10
      go_wp2_with fail
      refine (eqIntS_any _ _ _ _ _ left _ (ownsR.reads O_i_10.out) (ownsR.reads O_i2_10.out) (Nat.le_trans HK.out (by decide))).mono ?_
      rintro e w11 ⟨rfl, hb11⟩
      have c_a_11 := cell_up hb11 c_a_10
      have c_cw_11 := cell_up hb11 c_cw_10
      have c_cx_11 := cell_up hb11 c_cx_10
      have c_cg_11 := cell_up hb11 c_cg_10
      have O_w_11 : Hid (ownsR w11 w.heap.size 36 (.slice a3 (L.length) d3) (L)) := O_w_10.out.all hb11
      have O_x_11 : Hid (ownsR w11 w.heap.size 36 (.slice a4 (l.length) d4) (l)) := O_x_10.out.all hb11
      have O_i_11 : Hid (ownsR w11 w.heap.size 3 (.slice a5 (left.length) d5) (left)) := O_i_10.out.all hb11
      have O_g_11 : Hid (ownsR w11 w.heap.size 36 (.slice a6 (L.length) d6) (L)) := O_g_10.out.all hb11
      have O_i2_11 : Hid (ownsR w11 w.heap.size 3 (.slice a10 (left.length) d10) (left)) := O_i2_10.out.all hb11
      have B11 : Below w.heap.size w w11 := B10.trans (hb11.mono B10.size)
      clear c_a_10 c_cw_10 c_cx_10 c_cg_10 O_w_10 O_x_10 O_i_10 O_g_10 O_i2_10 B10 hb11
      go_wp2_with fail
      refine (markDisk_any (x := 1) O_x_11.out (Nat.le_trans HL.out (by decide)) (by decide) (by decide)).mono ?_
      rintro e w12 ⟨rfl, hm12, hg12⟩
      have c_a_12 := cell_other c_a_11 hg12 ac_a_x
      have c_cw_12 := cell_other c_cw_11 hg12 ac_cw_x
      have c_cx_12 := cell_other c_cx_11 hg12 ac_cx_x
      have c_cg_12 := cell_other c_cg_11 hg12 ac_cg_x
      have O_w_12 : Hid (ownsR w12 w.heap.size 36 (.slice a3 (L.length) d3) (L)) := O_w_11.out.other hg12 ap_w_x
      have O_i_12 : Hid (ownsR w12 w.heap.size 3 (.slice a5 (left.length) d5) (left)) := O_i_11.out.other hg12 ap_i_x
      have O_g_12 : Hid (ownsR w12 w.heap.size 36 (.slice a6 (L.length) d6) (L)) := O_g_11.out.other hg12 ap_g_x
      have B12 : Below w.heap.size w w12 := below_marked B11 O_x_11.out hg12
      have O_x_12 : Hid (ownsR w12 w.heap.size 36 (.slice a4 (l.length) d4) (marksF 1 l.length)) := hm12
      clear c_a_11 c_cw_11 c_cx_11 c_cg_11 O_w_11 O_i_11 O_g_11 B11 hm12 O_x_11 hg12
      go_wp2_with fail
      refine (markIntS_any' (x := 1 + 3 * (l.length : Int)) O_i_12.out (Nat.le_trans HK.out (by decide)) (by omega) (by have := HL.out; omega)).mono ?_
      rintro e w13 ⟨rfl, hg13⟩
      have c_a_13 := cell_other c_a_12 hg13 ac_a_i
      have c_cw_13 := cell_other c_cw_12 hg13 ac_cw_i
      have c_cx_13 := cell_other c_cx_12 hg13 ac_cx_i
      have c_cg_13 := cell_other c_cg_12 hg13 ac_cg_i
      have O_w_13 : Hid (ownsR w13 w.heap.size 36 (.slice a3 (L.length) d3) (L)) := O_w_12.out.other hg13 ap_w_i
      have O_x_13 : Hid (ownsR w13 w.heap.size 36 (.slice a4 (l.length) d4) (marksF 1 l.length)) := O_x_12.out.other hg13 ap_x_i
      have O_g_13 : Hid (ownsR w13 w.heap.size 36 (.slice a6 (L.length) d6) (L)) := O_g_12.out.other hg13 ap_g_i
      have B13 : Below w.heap.size w w13 := below_marked B12 O_i_12.out hg13
      clear c_a_12 c_cw_12 c_cx_12 c_cg_12 O_w_12 O_x_12 O_g_12 B12 O_i_12 hg13
      go_wp2_with fail
      refine (eqDisk_any _ _ L _ (ownsR.reads O_g_13.out) (ownsR.reads O_w_13.out) (Nat.le_trans HO.out (by decide))).mono ?_
      rintro e w14 ⟨rfl, hb14⟩
      have c_a_14 := cell_up hb14 c_a_13
      have c_cw_14 := cell_up hb14 c_cw_13
      have c_cx_14 := cell_up hb14 c_cx_13
      have c_cg_14 := cell_up hb14 c_cg_13
      have O_w_14 : Hid (ownsR w14 w.heap.size 36 (.slice a3 (L.length) d3) (L)) := O_w_13.out.all hb14
      have O_x_14 : Hid (ownsR w14 w.heap.size 36 (.slice a4 (l.length) d4) (marksF 1 l.length)) := O_x_13.out.all hb14
      have O_g_14 : Hid (ownsR w14 w.heap.size 36 (.slice a6 (L.length) d6) (L)) := O_g_13.out.all hb14
      have B14 : Below w.heap.size w w14 := B13.trans (hb14.mono B13.size)
      clear c_a_13 c_cw_13 c_cx_13 c_cg_13 O_w_13 O_x_13 O_g_13 B13 hb14
      go_wp2_with fail
      refine (markDisk_any (x := 1) O_g_14.out (Nat.le_trans HO.out (by decide)) (by decide) (by decide)).mono ?_
      rintro e w15 ⟨rfl, hm15, hg15⟩
      have c_a_15 := cell_other c_a_14 hg15 ac_a_g
      have c_cw_15 := cell_other c_cw_14 hg15 ac_cw_g
      have c_cx_15 := cell_other c_cx_14 hg15 ac_cx_g
      have c_cg_15 := cell_other c_cg_14 hg15 ac_cg_g
      have O_w_15 : Hid (ownsR w15 w.heap.size 36 (.slice a3 (L.length) d3) (L)) := O_w_14.out.other hg15 ap_w_g
      have O_x_15 : Hid (ownsR w15 w.heap.size 36 (.slice a4 (l.length) d4) (marksF 1 l.length)) := O_x_14.out.other hg15 ap_x_g
      have B15 : Below w.heap.size w w15 := below_marked B14 O_g_14.out hg15
      have O_g_15 : Hid (ownsR w15 w.heap.size 36 (.slice a6 (L.length) d6) (marksF 1 L.length)) := hm15
      clear c_a_14 c_cw_14 c_cx_14 c_cg_14 O_w_14 O_x_14 B14 hm15 O_g_14 hg15
      go_wp2_with fail
      refine (heldDisk_any (x := 1) (ownsR.reads O_g_15.out) (Nat.le_trans HO.out (by decide)) (by decide) (by decide)).mono ?_
      rintro e w16 ⟨rfl, hb16⟩
      have c_a_16 := cell_up hb16 c_a_15
      have c_cw_16 := cell_up hb16 c_cw_15
      have c_cx_16 := cell_up hb16 c_cx_15
      have c_cg_16 := cell_up hb16 c_cg_15
      have O_w_16 : Hid (ownsR w16 w.heap.size 36 (.slice a3 (L.length) d3) (L)) := O_w_15.out.all hb16
      have O_x_16 : Hid (ownsR w16 w.heap.size 36 (.slice a4 (l.length) d4) (marksF 1 l.length)) := O_x_15.out.all hb16
      have O_g_16 : Hid (ownsR w16 w.heap.size 36 (.slice a6 (L.length) d6) (marksF 1 L.length)) := O_g_15.out.all hb16
      have B16 : Below w.heap.size w w16 := B15.trans (hb16.mono B15.size)
      clear c_a_15 c_cw_15 c_cx_15 c_cg_15 O_w_15 O_x_15 O_g_15 B15 hb16
      go_wp2_with fail
      refine (toDisk_any _ l _ (HR.out.below B16) HL.out).mono ?_
      rintro e w17 ⟨v17, rfl, ho17, hb17⟩
      obtain ⟨a17, d17, rfl⟩ := ho17.slice
      have ap_w_d2 := apart_new O_w_16.out ho17
      have ap_d2_w := apart_old O_w_16.out ho17
      have ap_x_d2 := apart_new O_x_16.out ho17
      have ap_d2_x := apart_old O_x_16.out ho17
      have ap_g_d2 := apart_new O_g_16.out ho17
      have ap_d2_g := apart_old O_g_16.out ho17
      have ac_a_d2 := cell_apart c_a_16 ho17
      have ac_cw_d2 := cell_apart c_cw_16 ho17
      have ac_cx_d2 := cell_apart c_cx_16 ho17
      have ac_cg_d2 := cell_apart c_cg_16 ho17
      have c_a_17 := cell_up hb17 c_a_16
      have c_cw_17 := cell_up hb17 c_cw_16
      have c_cx_17 := cell_up hb17 c_cx_16
      have c_cg_17 := cell_up hb17 c_cg_16
      have O_w_17 : Hid (ownsR w17 w.heap.size 36 (.slice a3 (L.length) d3) (L)) := O_w_16.out.all hb17
      have O_x_17 : Hid (ownsR w17 w.heap.size 36 (.slice a4 (l.length) d4) (marksF 1 l.length)) := O_x_16.out.all hb17
      have O_g_17 : Hid (ownsR w17 w.heap.size 36 (.slice a6 (L.length) d6) (marksF 1 L.length)) := O_g_16.out.all hb17
      have B17 : Below w.heap.size w w17 := B16.trans (hb17.mono B16.size)
      have O_d2_17 : Hid (ownsR w17 w.heap.size 36 (.slice a17 (l.length) d17) (l)) := ho17.mono (B16.size)
      clear c_a_16 c_cw_16 c_cx_16 c_cg_16 O_w_16 O_x_16 O_g_16 B16 hb17 ho17
      go_wp2_with fail
      refine (toIntS_any lo ln lc left _ (HI.out.below B17) (by have := HK.out; rw [HM.out]; exact this)).mono ?_
      rintro e w18 ⟨v18, rfl, ho18, hb18⟩
      obtain ⟨a18, d18, rfl⟩ := ho18.slice
      have ap_w_i3 := apart_new O_w_17.out ho18
      have ap_i3_w := apart_old O_w_17.out ho18
      have ap_x_i3 := apart_new O_x_17.out ho18
      have ap_i3_x := apart_old O_x_17.out ho18
      have ap_g_i3 := apart_new O_g_17.out ho18
      have ap_i3_g := apart_old O_g_17.out ho18
      have ap_d2_i3 := apart_new O_d2_17.out ho18
      have ap_i3_d2 := apart_old O_d2_17.out ho18
      have ac_a_i3 := cell_apart c_a_17 ho18
      have ac_cw_i3 := cell_apart c_cw_17 ho18
      have ac_cx_i3 := cell_apart c_cx_17 ho18
      have ac_cg_i3 := cell_apart c_cg_17 ho18
      have c_a_18 := cell_up hb18 c_a_17
      have c_cw_18 := cell_up hb18 c_cw_17
      have c_cx_18 := cell_up hb18 c_cx_17
      have c_cg_18 := cell_up hb18 c_cg_17
      have O_w_18 : Hid (ownsR w18 w.heap.size 36 (.slice a3 (L.length) d3) (L)) := O_w_17.out.all hb18
      have O_x_18 : Hid (ownsR w18 w.heap.size 36 (.slice a4 (l.length) d4) (marksF 1 l.length)) := O_x_17.out.all hb18
      have O_g_18 : Hid (ownsR w18 w.heap.size 36 (.slice a6 (L.length) d6) (marksF 1 L.length)) := O_g_17.out.all hb18
      have O_d2_18 : Hid (ownsR w18 w.heap.size 36 (.slice a17 (l.length) d17) (l)) := O_d2_17.out.all hb18
      have B18 : Below w.heap.size w w18 := B17.trans (hb18.mono B17.size)
      have O_i3_18 : Hid (ownsR w18 w.heap.size 3 (.slice a18 (left.length) d18) (left)) := ho18.mono (B17.size)
      clear c_a_17 c_cw_17 c_cx_17 c_cg_17 O_w_17 O_x_17 O_g_17 O_d2_17 B17 hb18 ho18
      go_wp2_with fail
      refine (CI.out _ _ _ (ownsR.reads O_d2_18.out) (ownsR.reads O_i3_18.out)).mono ?_
      rintro e w19 ⟨v19, rfl, ho19, hb19⟩
      obtain ⟨a19, d19, rfl⟩ := ho19.slice
      have ap_w_h := apart_new O_w_18.out ho19
      have ap_h_w := apart_old O_w_18.out ho19
      have ap_x_h := apart_new O_x_18.out ho19
      have ap_h_x := apart_old O_x_18.out ho19
      have ap_g_h := apart_new O_g_18.out ho19
      have ap_h_g := apart_old O_g_18.out ho19
      have ap_d2_h := apart_new O_d2_18.out ho19
      have ap_h_d2 := apart_old O_d2_18.out ho19
      have ap_i3_h := apart_new O_i3_18.out ho19
      have ap_h_i3 := apart_old O_i3_18.out ho19
      have ac_a_h := cell_apart c_a_18 ho19
      have ac_cw_h := cell_apart c_cw_18 ho19
      have ac_cx_h := cell_apart c_cx_18 ho19
      have ac_cg_h := cell_apart c_cg_18 ho19
      have c_a_19 := cell_up hb19 c_a_18
      have c_cw_19 := cell_up hb19 c_cw_18
      have c_cx_19 := cell_up hb19 c_cx_18
      have c_cg_19 := cell_up hb19 c_cg_18
      have O_w_19 : Hid (ownsR w19 w.heap.size 36 (.slice a3 (L.length) d3) (L)) := O_w_18.out.all hb19
      have O_x_19 : Hid (ownsR w19 w.heap.size 36 (.slice a4 (l.length) d4) (marksF 1 l.length)) := O_x_18.out.all hb19
      have O_g_19 : Hid (ownsR w19 w.heap.size 36 (.slice a6 (L.length) d6) (marksF 1 L.length)) := O_g_18.out.all hb19
      have O_d2_19 : Hid (ownsR w19 w.heap.size 36 (.slice a17 (l.length) d17) (l)) := O_d2_18.out.all hb19
      have O_i3_19 : Hid (ownsR w19 w.heap.size 3 (.slice a18 (left.length) d18) (left)) := O_i3_18.out.all hb19
      have B19 : Below w.heap.size w w19 := B18.trans (hb19.mono B18.size)
      have O_h_19 : Hid (ownsR w19 w.heap.size 36 (.slice a19 (L.length) d19) (L)) := ho19.mono (B18.size)
      clear c_a_18 c_cw_18 c_cx_18 c_cg_18 O_w_18 O_x_18 O_g_18 O_d2_18 O_i3_18 B18 hb19 ho19
      have sz_a : w.heap.size < w19.heap.size := World.block_lt_of_cell? _ _ c_a_19
      have sz_cw : w3.heap.size < w19.heap.size := World.block_lt_of_cell? _ _ c_cw_19
      have sz_cx : w4.heap.size < w19.heap.size := World.block_lt_of_cell? _ _ c_cx_19
      have sz_cg : w6.heap.size < w19.heap.size := World.block_lt_of_cell? _ _ c_cg_19
      go_wp2_with fail
      refine (eqDisk_any _ _ L _ (ownsR.reads (O_h_19.out.alloc _)) (ownsR.reads (O_w_19.out.alloc _)) (Nat.le_trans HO.out (by decide))).mono ?_
      rintro e w20 ⟨rfl, hb20⟩
      have c_ch_20 := cell_new hb20
      have ac_ch_w := cell_apart_new O_w_19.out
      have ac_ch_x := cell_apart_new O_x_19.out
      have ac_ch_g := cell_apart_new O_g_19.out
      have ac_ch_d2 := cell_apart_new O_d2_19.out
      have ac_ch_i3 := cell_apart_new O_i3_19.out
      have ac_ch_h := cell_apart_new O_h_19.out
      have hb20 := below_new hb20
      have c_a_20 := cell_up hb20 c_a_19
      have c_cw_20 := cell_up hb20 c_cw_19
      have c_cx_20 := cell_up hb20 c_cx_19
      have c_cg_20 := cell_up hb20 c_cg_19
      have O_w_20 : Hid (ownsR w20 w.heap.size 36 (.slice a3 (L.length) d3) (L)) := O_w_19.out.all hb20
      have O_x_20 : Hid (ownsR w20 w.heap.size 36 (.slice a4 (l.length) d4) (marksF 1 l.length)) := O_x_19.out.all hb20
      have O_g_20 : Hid (ownsR w20 w.heap.size 36 (.slice a6 (L.length) d6) (marksF 1 L.length)) := O_g_19.out.all hb20
      have O_d2_20 : Hid (ownsR w20 w.heap.size 36 (.slice a17 (l.length) d17) (l)) := O_d2_19.out.all hb20
      have O_i3_20 : Hid (ownsR w20 w.heap.size 3 (.slice a18 (left.length) d18) (left)) := O_i3_19.out.all hb20
      have O_h_20 : Hid (ownsR w20 w.heap.size 36 (.slice a19 (L.length) d19) (L)) := O_h_19.out.all hb20
      have B20 : Below w.heap.size w w20 := B19.trans (hb20.mono B19.size)
      clear c_a_19 c_cw_19 c_cx_19 c_cg_19 sz_a sz_cw sz_cx sz_cg O_w_19 O_x_19 O_g_19 O_d2_19 O_i3_19 O_h_19 B19 hb20
      go_wp2_with fail
      refine (heldDisk_any (x := 1) (ownsR.reads O_g_20.out) (Nat.le_trans HO.out (by decide)) (by decide) (by decide)).mono ?_
      rintro e w21 ⟨rfl, hb21⟩
      have c_a_21 := cell_up hb21 c_a_20
      have c_cw_21 := cell_up hb21 c_cw_20
      have c_cx_21 := cell_up hb21 c_cx_20
      have c_cg_21 := cell_up hb21 c_cg_20
      have c_ch_21 := cell_up hb21 c_ch_20
      have O_w_21 : Hid (ownsR w21 w.heap.size 36 (.slice a3 (L.length) d3) (L)) := O_w_20.out.all hb21
      have O_x_21 : Hid (ownsR w21 w.heap.size 36 (.slice a4 (l.length) d4) (marksF 1 l.length)) := O_x_20.out.all hb21
      have O_g_21 : Hid (ownsR w21 w.heap.size 36 (.slice a6 (L.length) d6) (marksF 1 L.length)) := O_g_20.out.all hb21
      have O_d2_21 : Hid (ownsR w21 w.heap.size 36 (.slice a17 (l.length) d17) (l)) := O_d2_20.out.all hb21
      have O_i3_21 : Hid (ownsR w21 w.heap.size 3 (.slice a18 (left.length) d18) (left)) := O_i3_20.out.all hb21
      have O_h_21 : Hid (ownsR w21 w.heap.size 36 (.slice a19 (L.length) d19) (L)) := O_h_20.out.all hb21
      have B21 : Below w.heap.size w w21 := B20.trans (hb21.mono B20.size)
      clear c_a_20 c_cw_20 c_cx_20 c_cg_20 c_ch_20 O_w_20 O_x_20 O_g_20 O_d2_20 O_i3_20 O_h_20 B20 hb21
      go_wp2
      go_ret
      exact ⟨rfl, B21⟩
end Go.Proofs.Ytekflgecfcjjiaa
