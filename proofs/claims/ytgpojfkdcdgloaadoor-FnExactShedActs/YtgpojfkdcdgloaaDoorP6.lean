/-
  The acts that shed all snapshots but the newest one: the walks of ShedActs on both sides. The law on the acts that shed: the walk.
-/
import Derived.Test.YtgpojfkdcdgloaaDoorP5
import Derived.Test.YtgpojfkdcdgloaaDoorT8
import Derived.Deep.RegionHeldLaw
namespace Go.Proofs.YtgpojfkdcdgloaaDoor
open Go Go.RowKit

/-- The acts that shed. -/
def shedL (l : List Fl) : List Ac := if (nsP l).z = true then newDrop l ++ dropsS (nsP l).i l else []
theorem nsP_right (l : List Fl) : (nsP l).z = true → diskR l = true := fun h => by
  unfold nsP at h
  split at h
  · rename_i hd
    exact hd
  · cases h

set_option maxRecDepth 10000 in
set_option maxHeartbeats 4000000 in
theorem shedActs_any {w : World} {v : Value} {l : List Fl} (hr : Reads w v l) (hn : l.length ≤ 1048577) (hp : PowIs w) (ht : TableIs w) :
    Calls Tryd.prog 32 #[.agg #[v]] w fun e w' => ∃ x, e = .returned x ∧ ownsR w' w.heap.size 75 x (shedL l) ∧ Below w.heap.size w w' := by
  obtain ⟨ao, c, rfl, _⟩ := id hr
  have HR : Hid (Reads w (.slice ao l.length c) l) := hr
  have HL : Hid (l.length ≤ 1048577) := hn
  have HP : Hid (PowIs w) := hp
  have HT : Hid (TableIs w) := ht
  clear hp ht
  clear hr hn
  go_enter Tryd.func32, Tryd.ntmps32
  go_wp2_with fail
  refine Calls.mono (newestSnap_any (HR.out.alloc _) (HP.out.below (ba (Below.refl _ _) _)) (HT.out.below (ba (Below.refl _ _) _))) ?_
  rintro e w3 ⟨v3, rfl, o3, hb3⟩
  obtain ⟨oa, on, oc, rfl⟩ := o3.slice3
  have gd := blk_upD (heap_last w (.cells #[.slice ao l.length c] 47)) hb3
  have B3 : Below w.heap.size w w3 := below_new hb3
  have HD : Hid ((nsP l).z = true → diskR l = true) := nsP_right l
  rcases hns : nsP l with ⟨si, st, sl, sb, sz⟩
  have HNS : Hid (nsP l = ⟨si, st, sl, sb, sz⟩) := hns
  clear hns o3 hb3
  unfold rsV
  dsimp only
  have gs := heap_last w3 (.cells #[.int .i64 si, .int .i64 st, .slice oa on oc, .string sb] 30)
  have gd2 := heap_old gd (.cells #[.int .i64 si, .int .i64 st, .slice oa on oc, .string sb] 30)
  have B4 := ba B3 (.cells #[.int .i64 si, .int .i64 st, .slice oa on oc, .string sb] 30)
  clear B3 gd
  cases sz with
  | false =>
    have HE : Hid (shedL l = []) := by show _ = _; unfold shedL; rw [HNS.out]; rfl
    clear gs gd2
    go_wp2
    go_ret
    have o5 := ownsA_made (w3.alloc (.cells #[.int .i64 si, .int .i64 st, .slice oa on oc, .string sb] 30)) w.heap.size 0 #[] B4.size (by decide) rfl
    rw [World.size_alloc] at o5
    exact ⟨_, rfl, by rw [HE.out]; exact o5, ba B4 _⟩
  | true =>
    have HE : Hid (shedL l = newDrop l ++ dropsS si l) := by show _ = _; unfold shedL; rw [HNS.out]; rfl
    have hd : diskR l = true := HD.out (by rw [HNS.out])
    have HM : Hid (NamesL l) := names_right hd
    have HX : Hid (TextsL l) := texts_right hd
    have H30 : Hid (l.length ≤ 30) := diskR_len hd
    have HLL : Hid ((newDrop l).length + (dropsS si l).length ≤ 1048577) := by
      have h1 := newDrop_length l
      have h2 := dropsS_length si l
      have h3 := diskR_len hd
      show _ ≤ _
      omega
    clear hd
    go_wp2
    generalize w3.heap.size = g at gs ⊢
    generalize w3.alloc (.cells #[.int .i64 si, .int .i64 st, .slice oa on oc, .string sb] 30) = W at gs gd2 B4 ⊢
    obtain ⟨s0, _, _, _⟩ := sb_cells gs
    have d0 := one_cellD gd2
    have K0 := Below.cellOf (B := W.heap.size) (W := W) (p := ⟨w.heap.size, 0, none⟩) (v := .slice ao l.length c) (World.block_lt_of_cell? _ _ d0) d0
    have K1 := Below.cellOf (B := W.heap.size) (W := W) (p := ⟨g, 0, none⟩) (v := .int .i64 si) (World.block_lt_of_cell? _ _ s0) s0
    have BW : Hid (Below w.heap.size w W) := B4
    clear B4 gs gd2
    go_region_held_law (fun w' => Below W.heap.size W w') ((first | exact (Below.refl _ _).drew | exact hS1 | exact hS2 | exact hS3)) ((first
      | (refine step_append_recs rfl (.tmp 14) (.tmp 18) 42 rfl W.heap.size 75 _ 56 underAc infoAc rfl (.slice a1 n1 e1) (.slice a2 n2 e2) (newDrop l) (dropsS si l) rfl rfl (ho1.all hb2) ho2.reads (ac_one _) HLL.out (by decide) hS2.size ?_; intro v3 w3' ho3 hg3; have hS3 : Below W.heap.size W w3' := hS2.grown hg3 hS2.size (fun k hk => (ho1.lt k hk).1))
      | (go_at_call 60; refine Calls.mono (newSnapDrops_any (HR.out.below (Below.on BW.out (by assumption))) HL.out HX.out) ?_; rintro e w1 ⟨v1, rfl, ho1, hb1⟩; obtain ⟨a1, n1, e1, rfl⟩ := ho1.slice3; have hS1 := keep_on (B := W.heap.size) (W := W) hb1 (by assumption) (Nat.le_refl _); replace ho1 := ho1.mono (B' := W.heap.size) (Below.size (by assumption)))
      | (go_at_call 62; refine Calls.mono (otherSnapDrops_any (HR.out.below (Below.on BW.out hS1)) H30.out HM.out (HP.out.below (Below.on BW.out hS1))) ?_; rintro e w2 ⟨v2, rfl, ho2, hb2⟩; obtain ⟨a2, n2, e2, rfl⟩ := ho2.slice3; have hS2 := keep_on (B := W.heap.size) (W := W) hb2 hS1 (Nat.le_refl _))))
    have BF : Below w.heap.size w w3' := Below.on BW.out hS3
    have OF : Hid (ownsR w3' w.heap.size 75 v3 (shedL l)) := by show ownsR _ _ _ _ _; rw [HE.out]; exact ho3.mono BW.out.size
    clear ho1 ho2 ho3 hg3 hb1 hb2 hS1 hS2 hS3 K0 K1 s0 d0
    go_wp2
    go_ret
    refine ⟨v3, ?_, OF.out, BF⟩
    simp

set_option maxRecDepth 10000 in
set_option maxHeartbeats 4000000 in
theorem specShed_any {w : World} {v : Value} {l : List Fl} (hr : Reads w v l) (hn : l.length ≤ 1048577) :
    Calls Tryd.prog 31 #[.agg #[v]] w fun e w' => ∃ x, e = .returned x ∧ ownsR w' w.heap.size 75 x (shedL l) ∧ Below w.heap.size w w' := by
  obtain ⟨ao, c, rfl, _⟩ := id hr
  have HR : Hid (Reads w (.slice ao l.length c) l) := hr
  have HL : Hid (l.length ≤ 1048577) := hn
  clear hr hn
  go_enter Tryd.func31, Tryd.ntmps31
  go_wp2_with fail
  refine Calls.mono (specNewest_any (HR.out.alloc _) HL.out) ?_
  rintro e w3 ⟨v3, rfl, o3, hb3⟩
  obtain ⟨oa, on, oc, rfl⟩ := o3.slice3
  have gd := blk_upD (heap_last w (.cells #[.slice ao l.length c] 47)) hb3
  have B3 : Below w.heap.size w w3 := below_new hb3
  have HD : Hid ((nsP l).z = true → diskR l = true) := nsP_right l
  rcases hns : nsP l with ⟨si, st, sl, sb, sz⟩
  have HNS : Hid (nsP l = ⟨si, st, sl, sb, sz⟩) := hns
  clear hns o3 hb3
  unfold rsV
  dsimp only
  have gs := heap_last w3 (.cells #[.int .i64 si, .int .i64 st, .slice oa on oc, .string sb] 30)
  have gd2 := heap_old gd (.cells #[.int .i64 si, .int .i64 st, .slice oa on oc, .string sb] 30)
  have B4 := ba B3 (.cells #[.int .i64 si, .int .i64 st, .slice oa on oc, .string sb] 30)
  clear B3 gd
  cases sz with
  | false =>
    have HE : Hid (shedL l = []) := by show _ = _; unfold shedL; rw [HNS.out]; rfl
    clear gs gd2
    go_wp2
    go_ret
    have o5 := ownsA_made (w3.alloc (.cells #[.int .i64 si, .int .i64 st, .slice oa on oc, .string sb] 30)) w.heap.size 0 #[] B4.size (by decide) rfl
    rw [World.size_alloc] at o5
    exact ⟨_, rfl, by rw [HE.out]; exact o5, ba B4 _⟩
  | true =>
    have HE : Hid (shedL l = newDrop l ++ dropsS si l) := by show _ = _; unfold shedL; rw [HNS.out]; rfl
    have hd : diskR l = true := HD.out (by rw [HNS.out])
    have HM : Hid (NamesL l) := names_right hd
    have HX : Hid (TextsL l) := texts_right hd
    have H30 : Hid (l.length ≤ 30) := diskR_len hd
    have HLL : Hid ((newDrop l).length + (dropsS si l).length ≤ 1048577) := by
      have h1 := newDrop_length l
      have h2 := dropsS_length si l
      have h3 := diskR_len hd
      show _ ≤ _
      omega
    clear hd
    go_wp2
    generalize w3.heap.size = g at gs ⊢
    generalize w3.alloc (.cells #[.int .i64 si, .int .i64 st, .slice oa on oc, .string sb] 30) = W at gs gd2 B4 ⊢
    obtain ⟨s0, _, _, _⟩ := sb_cells gs
    have d0 := one_cellD gd2
    have K0 := Below.cellOf (B := W.heap.size) (W := W) (p := ⟨w.heap.size, 0, none⟩) (v := .slice ao l.length c) (World.block_lt_of_cell? _ _ d0) d0
    have K1 := Below.cellOf (B := W.heap.size) (W := W) (p := ⟨g, 0, none⟩) (v := .int .i64 si) (World.block_lt_of_cell? _ _ s0) s0
    have BW : Hid (Below w.heap.size w W) := B4
    clear B4 gs gd2
    go_region_held_law (fun w' => Below W.heap.size W w') ((first | exact (Below.refl _ _).drew | exact hS1 | exact hS2 | exact hS3)) ((first
      | (refine step_append_recs rfl (.tmp 14) (.tmp 18) 42 rfl W.heap.size 75 _ 56 underAc infoAc rfl (.slice a1 n1 e1) (.slice a2 n2 e2) (newDrop l) (dropsS si l) rfl rfl (ho1.all hb2) ho2.reads (ac_one _) HLL.out (by decide) hS2.size ?_; intro v3 w3' ho3 hg3; have hS3 : Below W.heap.size W w3' := hS2.grown hg3 hS2.size (fun k hk => (ho1.lt k hk).1))
      | (go_at_call 56; refine Calls.mono (specNew_any (HR.out.below (Below.on BW.out (by assumption))) HL.out) ?_; rintro e w1 ⟨v1, rfl, ho1, hb1⟩; obtain ⟨a1, n1, e1, rfl⟩ := ho1.slice3; have hS1 := keep_on (B := W.heap.size) (W := W) hb1 (by assumption) (Nat.le_refl _); replace ho1 := ho1.mono (B' := W.heap.size) (Below.size (by assumption)))
      | (go_at_call 57; refine Calls.mono (specDrops_any (HR.out.below (Below.on BW.out hS1)) H30.out HM.out) ?_; rintro e w2 ⟨v2, rfl, ho2, hb2⟩; obtain ⟨a2, n2, e2, rfl⟩ := ho2.slice3; have hS2 := keep_on (B := W.heap.size) (W := W) hb2 hS1 (Nat.le_refl _))))
    have BF : Below w.heap.size w w3' := Below.on BW.out hS3
    have OF : Hid (ownsR w3' w.heap.size 75 v3 (shedL l)) := by show ownsR _ _ _ _ _; rw [HE.out]; exact ho3.mono BW.out.size
    clear ho1 ho2 ho3 hg3 hb1 hb2 hS1 hS2 hS3 K0 K1 s0 d0
    go_wp2
    go_ret
    refine ⟨v3, ?_, OF.out, BF⟩
    simp
end Go.Proofs.YtgpojfkdcdgloaaDoor

namespace Go.Proofs.YtgpojfkdcdgloaaDoor
open Go Go.RowKit

theorem shedL_length (l : List Fl) : (shedL l).length ≤ 1048577 := by
  unfold shedL
  split
  · rename_i h
    have h1 := newDrop_length l
    have h2 := dropsS_length (nsP l).i l
    have h3 := diskR_len (nsP_right l h)
    rw [List.length_append]
    omega
  · exact Nat.zero_le _
set_option maxRecDepth 10000 in
set_option maxHeartbeats 4000000 in
theorem law_ShedActs (ao : Option Addr) (n cap : Nat) (l : List Fl) (w : World) (hr : Reads w (.slice ao n cap) l) (hs : Small l) (hn : n ≤ 9223372036854775807) (hp : PowIs w) (ht : TableIs w) :
    Calls Tryd.prog 8 #[.agg #[.slice ao n cap]] w fun e w' => e = .returned (.bool true) ∧ Below w.heap.size w w' := by
  have HR : Hid (Reads w (.slice ao n cap) l) := hr
  have HN : Hid (n = l.length) := hr.len
  have HS : Hid (Small l) := hs
  have HP : Hid (PowIs w) := hp
  have HT : Hid (TableIs w) := ht
  clear hr hs hp ht
  obtain ⟨L, HX⟩ : ∃ q, Hid (shedL l = q) := ⟨_, rfl⟩
  have HO : Hid (L.length ≤ 1048577) := by show _ ≤ _; rw [← HX.out]; exact shedL_length l
  go_enter Tryd.func8, Tryd.ntmps8
  go_wp2_with fail
  refine (szDisk_any _ l _ _ (HR.out.alloc _) HS.out (by decide) (by decide) (by rw [← HN.out]; exact hn)).mono ?_
  rintro e w0 ⟨r, rfl, hr, hb0⟩
  have c_a0_0 := cells1_new hb0
  have B0 := below_new hb0
  clear hb0
  rcases hr with rfl | ⟨hr0, hr1⟩
  · go_wp2
    go_ret
    exact ⟨rfl, B0⟩
  · have HL : Hid (l.length ≤ 1048576) := by show l.length ≤ 1048576; omega
    clear hr1
    have CS : Hid (∀ (W : World) (B : Nat) (x : Value), ownsR W B 84 x l → Calls Tryd.prog 31 #[.agg #[x]] W fun e w' => ∃ v, e = .returned v ∧ ownsR w' W.heap.size 75 v L ∧ Below W.heap.size W w') := fun W B x h1 => by rw [← HX.out]; exact specShed_any h1.reads (Nat.le_trans HL.out (by decide))
    have CI : Hid (∀ (W : World) (B : Nat) (x : Value), ownsR W B 84 x l → PowIs W → TableIs W → Calls Tryd.prog 32 #[.agg #[x]] W fun e w' => ∃ v, e = .returned v ∧ ownsR w' W.heap.size 75 v L ∧ Below W.heap.size W w') := fun W B x h1 h2 h3 => by rw [← HX.out]; exact shedActs_any h1.reads (Nat.le_trans HL.out (by decide)) h2 h3
    go_wp2_with fail
    refine (toDisk_any _ l _ (HR.out.below B0) HL.out).mono ?_
    rintro e w1 ⟨v1, rfl, ho1, hb1⟩
    obtain ⟨a1, n1, d1, rfl⟩ := ho1.slice3
    have ac_a_d := cell_apart c_a0_0 ho1
    have c_a0_1 := cell_up hb1 c_a0_0
    have B1 : Below w.heap.size w w1 := B0.trans (hb1.mono B0.size)
    have O_d_1 : Hid (ownsR w1 w.heap.size 84 (.slice a1 n1 d1) (l)) := ho1.mono B0.size
    clear c_a0_0 B0 hb1 ho1
    go_wp2_with fail
    refine (CS.out _ _ _ O_d_1.out).mono ?_
    rintro e w2 ⟨v2, rfl, ho2, hb2⟩
    obtain ⟨a2, n2, d2, rfl⟩ := ho2.slice3
    have ap_d_w := apart_new O_d_1.out ho2
    have ap_w_d := apart_old O_d_1.out ho2
    have ac_a_w := cell_apart c_a0_1 ho2
    have c_a0_2 := cell_up hb2 c_a0_1
    have O_d_2 : Hid (ownsR w2 w.heap.size 84 (.slice a1 n1 d1) (l)) := O_d_1.out.all hb2
    have B2 : Below w.heap.size w w2 := B1.trans (hb2.mono B1.size)
    have O_w_2 : Hid (ownsR w2 w.heap.size 75 (.slice a2 n2 d2) (L)) := ho2.mono B1.size
    clear c_a0_1 O_d_1 B1 hb2 ho2
    go_wp2_with fail
    refine (toDisk_any _ l _ (HR.out.below B2) HL.out).mono ?_
    rintro e w3 ⟨v3, rfl, ho3, hb3⟩
    obtain ⟨a3, n3, d3, rfl⟩ := ho3.slice3
    have ap_w_x := apart_new O_w_2.out ho3
    have ap_x_w := apart_old O_w_2.out ho3
    have ac_a_x := cell_apart c_a0_2 ho3
    have c_a0_3 := cell_up hb3 c_a0_2
    have O_w_3 : Hid (ownsR w3 w.heap.size 75 (.slice a2 n2 d2) (L)) := O_w_2.out.all hb3
    have B3 : Below w.heap.size w w3 := B2.trans (hb3.mono B2.size)
    have O_x_3 : Hid (ownsR w3 w.heap.size 84 (.slice a3 n3 d3) (l)) := ho3.mono B2.size
    clear c_a0_2 O_w_2 B2 hb3 ho3
    have sz_a : w.heap.size < w3.heap.size := World.block_lt_of_cell? _ _ c_a0_3
    go_wp2_with fail
    refine (CI.out _ _ _ (O_x_3.out.alloc _) ((HP.out.below B3).below (ba (Below.refl _ _) _)) ((HT.out.below B3).below (ba (Below.refl _ _) _))).mono ?_
    rintro e w4 ⟨v4, rfl, ho4, hb4⟩
    obtain ⟨a4, n4, d4, rfl⟩ := ho4.slice3
    have ap_w_g := apart_new (O_w_3.out.alloc _) ho4
    have ap_g_w := apart_old (O_w_3.out.alloc _) ho4
    have ap_x_g := apart_new (O_x_3.out.alloc _) ho4
    have ap_g_x := apart_old (O_x_3.out.alloc _) ho4
    have ac_a_g := cell_apart (cell_up (ba (Below.refl _ w3) _) c_a0_3) ho4
    have ac_x_g := cell_apart (p := ⟨w3.heap.size, 0, none⟩) (u := .slice a3 n3 d3) (w := (w3.alloc (Obj.cells #[.slice a3 n3 d3] 47))) (by simp [go_sem]) ho4
    have c_x0_4 := cells1_new hb4
    have ac_x_w := cell_apart_new O_w_3.out
    have ac_x_x := cell_apart_new O_x_3.out
    have hb4 := below_new hb4
    have c_a0_4 := cell_up hb4 c_a0_3
    have O_w_4 : Hid (ownsR w4 w.heap.size 75 (.slice a2 n2 d2) (L)) := O_w_3.out.all hb4
    have O_x_4 : Hid (ownsR w4 w.heap.size 84 (.slice a3 n3 d3) (l)) := O_x_3.out.all hb4
    have B4 : Below w.heap.size w w4 := B3.trans (hb4.mono B3.size)
    have O_g_4 : Hid (ownsR w4 w.heap.size 75 (.slice a4 n4 d4) (L)) := ho4.mono (by have := B3.size; simp; omega)
    clear c_a0_3 sz_a O_w_3 O_x_3 B3 hb4 ho4
    go_wp2_with fail
    refine (eqActS_val (ownsR.reads O_g_4.out) (ownsR.reads O_w_4.out) HO.out).mono ?_
    rintro e w5 ⟨rfl, hb5⟩
    have c_a0_5 := cell_up hb5 c_a0_4
    have c_x0_5 := cell_up hb5 c_x0_4
    have O_w_5 : Hid (ownsR w5 w.heap.size 75 (.slice a2 n2 d2) (L)) := O_w_4.out.all hb5
    have O_x_5 : Hid (ownsR w5 w.heap.size 84 (.slice a3 n3 d3) (l)) := O_x_4.out.all hb5
    have O_g_5 : Hid (ownsR w5 w.heap.size 75 (.slice a4 n4 d4) (L)) := O_g_4.out.all hb5
    have B5 : Below w.heap.size w w5 := B4.trans (hb5.mono B4.size)
    clear c_a0_4 c_x0_4 O_w_4 O_x_4 O_g_4 B4 hb5
    have K_x0 := Below.cellOf (B := w5.heap.size) (W := w5) (p := ⟨w3.heap.size, 0, none⟩) (v := .slice a3 n3 d3) (World.block_lt_of_cell? _ _ c_x0_5) c_x0_5
    have K_a0 := Below.cellOf (B := w5.heap.size) (W := w5) (p := ⟨w.heap.size, 0, none⟩) (v := .slice ao n cap) (World.block_lt_of_cell? _ _ c_a0_5) c_a0_5
    go_wp2_with fail
    go_region_held3 (fun w' => Below w5.heap.size w5 w') ((first | exact (Below.refl _ _).drew | exact hS6 | exact hS7)) ((first | (go_at_call 22; refine (toDisk_any _ l _ (HR.out.below (Below.on B5 (by assumption))) HL.out).mono ?_; rintro e w6 ⟨v6, rfl, ho6, hb6⟩; obtain ⟨a6, n6, d6, rfl⟩ := ho6.slice3; have hS6 := keep_on (B := w5.heap.size) (W := w5) hb6 (by assumption) (Nat.le_refl _)) | (go_at_call 25; refine (eqDisk_any _ _ l _ ((ownsR.reads O_x_5.out).below hS6) ho6.reads (Nat.le_trans HL.out (by decide))).mono ?_; rintro e w7 ⟨rfl, hb7⟩; have hS7 := keep_on (B := w5.heap.size) (W := w5) hb7 hS6 (Nat.le_refl _))))
    clear ho6 hb6 hb7 hS6 K_x0 K_a0
    have c_a0_7 := cell_up hS7 c_a0_5
    have c_x0_7 := cell_up hS7 c_x0_5
    have O_w_7 : Hid (ownsR w7 w.heap.size 75 (.slice a2 n2 d2) (L)) := O_w_5.out.all hS7
    have O_x_7 : Hid (ownsR w7 w.heap.size 84 (.slice a3 n3 d3) (l)) := O_x_5.out.all hS7
    have O_g_7 : Hid (ownsR w7 w.heap.size 75 (.slice a4 n4 d4) (L)) := O_g_5.out.all hS7
    have B7 : Below w.heap.size w w7 := B5.trans (hS7.mono B5.size)
    clear c_a0_5 c_x0_5 O_w_5 O_x_5 O_g_5 B5 hS7
    go_wp2_with fail
    refine (markDisk_any (x := 1) O_x_7.out (Nat.le_trans HL.out (by decide)) (by decide) (by decide)).mono ?_
    rintro e w8 ⟨rfl, hm8, hg8⟩
    have c_a0_8 := cell_other c_a0_7 hg8 ac_a_x
    have c_x0_8 := cell_other c_x0_7 hg8 ac_x_x
    have O_w_8 : Hid (ownsR w8 w.heap.size 75 (.slice a2 n2 d2) (L)) := O_w_7.out.other hg8 ap_w_x
    have O_g_8 : Hid (ownsR w8 w.heap.size 75 (.slice a4 n4 d4) (L)) := O_g_7.out.other hg8 ap_g_x
    have B8 : Below w.heap.size w w8 := below_marked B7 O_x_7.out hg8
    have O_x_8 : Hid (ownsR w8 w.heap.size 84 (.slice a3 n3 d3) (marksF 1 l.length)) := hm8
    clear c_a0_7 c_x0_7 O_w_7 O_g_7 B7 hm8 O_x_7 hg8
    go_wp2_with fail
    refine (eqActS_val (ownsR.reads O_g_8.out) (ownsR.reads O_w_8.out) HO.out).mono ?_
    rintro e w9 ⟨rfl, hb9⟩
    have c_a0_9 := cell_up hb9 c_a0_8
    have c_x0_9 := cell_up hb9 c_x0_8
    have O_w_9 : Hid (ownsR w9 w.heap.size 75 (.slice a2 n2 d2) (L)) := O_w_8.out.all hb9
    have O_g_9 : Hid (ownsR w9 w.heap.size 75 (.slice a4 n4 d4) (L)) := O_g_8.out.all hb9
    have B9 : Below w.heap.size w w9 := B8.trans (hb9.mono B8.size)
    clear c_a0_8 c_x0_8 O_w_8 O_g_8 B8 hb9
    go_wp2_with fail
    refine (markActS_any (x := 1) O_g_9.out HO.out (by decide) (by decide)).mono ?_
    rintro e w10 ⟨rfl, hm10, hg10⟩
    have c_a0_10 := cell_other c_a0_9 hg10 ac_a_g
    have c_x0_10 := cell_other c_x0_9 hg10 ac_x_g
    have O_w_10 : Hid (ownsR w10 w.heap.size 75 (.slice a2 n2 d2) (L)) := O_w_9.out.other hg10 ap_w_g
    have B10 : Below w.heap.size w w10 := below_marked B9 O_g_9.out hg10
    have O_g_10 : Hid (ownsR w10 w.heap.size 75 (.slice a4 n4 d4) (marksAc 1 L.length)) := hm10
    clear c_a0_9 c_x0_9 O_w_9 B9 hm10 O_g_9 hg10
    go_wp2_with fail
    refine (heldActS_val (x := 1) (ownsR.reads O_g_10.out) HO.out (by decide) (by decide)).mono ?_
    rintro e w11 ⟨rfl, hb11⟩
    have c_a0_11 := cell_up hb11 c_a0_10
    have c_x0_11 := cell_up hb11 c_x0_10
    have O_w_11 : Hid (ownsR w11 w.heap.size 75 (.slice a2 n2 d2) (L)) := O_w_10.out.all hb11
    have O_g_11 : Hid (ownsR w11 w.heap.size 75 (.slice a4 n4 d4) (marksAc 1 L.length)) := O_g_10.out.all hb11
    have B11 : Below w.heap.size w w11 := B10.trans (hb11.mono B10.size)
    clear c_a0_10 c_x0_10 O_w_10 O_g_10 B10 hb11
    go_wp2_with fail
    refine (toDisk_any _ l _ (HR.out.below B11) HL.out).mono ?_
    rintro e w12 ⟨v12, rfl, ho12, hb12⟩
    obtain ⟨a12, n12, d12, rfl⟩ := ho12.slice3
    have ap_w_e := apart_new O_w_11.out ho12
    have ap_e_w := apart_old O_w_11.out ho12
    have ap_g_e := apart_new O_g_11.out ho12
    have ap_e_g := apart_old O_g_11.out ho12
    have ac_a_e := cell_apart c_a0_11 ho12
    have ac_x_e := cell_apart c_x0_11 ho12
    have c_a0_12 := cell_up hb12 c_a0_11
    have c_x0_12 := cell_up hb12 c_x0_11
    have O_w_12 : Hid (ownsR w12 w.heap.size 75 (.slice a2 n2 d2) (L)) := O_w_11.out.all hb12
    have O_g_12 : Hid (ownsR w12 w.heap.size 75 (.slice a4 n4 d4) (marksAc 1 L.length)) := O_g_11.out.all hb12
    have B12 : Below w.heap.size w w12 := B11.trans (hb12.mono B11.size)
    have O_e_12 : Hid (ownsR w12 w.heap.size 84 (.slice a12 n12 d12) (l)) := ho12.mono B11.size
    clear c_a0_11 c_x0_11 O_w_11 O_g_11 B11 hb12 ho12
    go_wp2_with fail
    refine (CI.out _ _ _ O_e_12.out (HP.out.below B12) (HT.out.below B12)).mono ?_
    rintro e w13 ⟨v13, rfl, ho13, hb13⟩
    obtain ⟨a13, n13, d13, rfl⟩ := ho13.slice3
    have ap_w_h := apart_new O_w_12.out ho13
    have ap_h_w := apart_old O_w_12.out ho13
    have ap_g_h := apart_new O_g_12.out ho13
    have ap_h_g := apart_old O_g_12.out ho13
    have ap_e_h := apart_new O_e_12.out ho13
    have ap_h_e := apart_old O_e_12.out ho13
    have ac_a_h := cell_apart c_a0_12 ho13
    have ac_x_h := cell_apart c_x0_12 ho13
    have c_a0_13 := cell_up hb13 c_a0_12
    have c_x0_13 := cell_up hb13 c_x0_12
    have O_w_13 : Hid (ownsR w13 w.heap.size 75 (.slice a2 n2 d2) (L)) := O_w_12.out.all hb13
    have O_g_13 : Hid (ownsR w13 w.heap.size 75 (.slice a4 n4 d4) (marksAc 1 L.length)) := O_g_12.out.all hb13
    have O_e_13 : Hid (ownsR w13 w.heap.size 84 (.slice a12 n12 d12) (l)) := O_e_12.out.all hb13
    have B13 : Below w.heap.size w w13 := B12.trans (hb13.mono B12.size)
    have O_h_13 : Hid (ownsR w13 w.heap.size 75 (.slice a13 n13 d13) (L)) := ho13.mono B12.size
    clear c_a0_12 c_x0_12 O_w_12 O_g_12 O_e_12 B12 hb13 ho13
    go_wp2_with fail
    refine (eqActS_val (ownsR.reads O_h_13.out) (ownsR.reads O_w_13.out) HO.out).mono ?_
    rintro e w14 ⟨rfl, hb14⟩
    have c_a0_14 := cell_up hb14 c_a0_13
    have c_x0_14 := cell_up hb14 c_x0_13
    have O_w_14 : Hid (ownsR w14 w.heap.size 75 (.slice a2 n2 d2) (L)) := O_w_13.out.all hb14
    have O_g_14 : Hid (ownsR w14 w.heap.size 75 (.slice a4 n4 d4) (marksAc 1 L.length)) := O_g_13.out.all hb14
    have O_h_14 : Hid (ownsR w14 w.heap.size 75 (.slice a13 n13 d13) (L)) := O_h_13.out.all hb14
    have B14 : Below w.heap.size w w14 := B13.trans (hb14.mono B13.size)
    clear c_a0_13 c_x0_13 O_w_13 O_g_13 O_h_13 B13 hb14
    go_wp2_with fail
    refine (heldActS_val (x := 1) (ownsR.reads O_g_14.out) HO.out (by decide) (by decide)).mono ?_
    rintro e w15 ⟨rfl, hb15⟩
    have c_a0_15 := cell_up hb15 c_a0_14
    have c_x0_15 := cell_up hb15 c_x0_14
    have O_w_15 : Hid (ownsR w15 w.heap.size 75 (.slice a2 n2 d2) (L)) := O_w_14.out.all hb15
    have O_g_15 : Hid (ownsR w15 w.heap.size 75 (.slice a4 n4 d4) (marksAc 1 L.length)) := O_g_14.out.all hb15
    have O_h_15 : Hid (ownsR w15 w.heap.size 75 (.slice a13 n13 d13) (L)) := O_h_14.out.all hb15
    have B15 : Below w.heap.size w w15 := B14.trans (hb15.mono B14.size)
    clear c_a0_14 c_x0_14 O_w_14 O_g_14 O_h_14 B14 hb15
    go_wp2
    go_ret
    exact ⟨rfl, B15⟩
end Go.Proofs.YtgpojfkdcdgloaaDoor
