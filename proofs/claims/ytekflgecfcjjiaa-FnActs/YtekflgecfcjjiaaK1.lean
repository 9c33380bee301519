/-
  The law on acts done one by one: the walk. Acts of which the first ones are done, and what the power leaves then: the walks. Numbers that came in as an argument, opened. The law on acts that are cut: the walk.
-/
import Derived.Test.YtekflgecfcjjiaaSx
import Derived.Test.YtekflgecfcjjiaaOa
import Derived.Test.YtekflgecfcjjiaaOd
import Derived.Test.YtekflgecfcjjiaaLd
namespace Go.Proofs.Ytekflgecfcjjiaa
open Go Go.RowKit

/-- How many acts are done, and what they leave. -/
def endsOf : List Fl → List Ac → Nat × List Fl
  | l, [] => (0, l)
  | l, a :: r => match actL l a with
    | none => (0, l)
    | some o => ((endsOf o r).1 + 1, (endsOf o r).2)
theorem endsOf_ends : ∀ (acts : List Ac) (l : List Fl), Ends l acts (endsOf l acts).1 (endsOf l acts).2
  | [], l => ⟨rfl, Nat.le_refl _, fun a h => by simp [endsOf] at h⟩
  | a :: r, l => by
    unfold endsOf
    cases h : actL l a with
    | none => exact ⟨rfl, Nat.zero_le _, fun b hb => by simp at hb; subst hb; exact h⟩
    | some o =>
      obtain ⟨h1, h2, h3⟩ := endsOf_ends r o
      refine ⟨?_, by simp; omega, fun b hb => h3 b (by simpa using hb)⟩
      simp only [List.take_succ_cons, List.foldlM_cons, h]
      exact h1
theorem endsOf_le (l : List Fl) (acts : List Ac) : (endsOf l acts).1 ≤ acts.length := (endsOf_ends acts l).2.1
theorem endsOf_same : ∀ (acts : List Ac) (l : List Fl), (endsOf l acts).2 = l ∨ diskR (endsOf l acts).2 = true
  | [], l => .inl rfl
  | a :: r, l => by
    unfold endsOf
    cases h : actL l a with
    | none => exact .inl rfl
    | some o =>
      rcases endsOf_same r o with e | e
      · right; simp only; rw [e]; exact actL_diskR h
      · exact .inr e
theorem endsOf_len (l : List Fl) (acts : List Ac) (h : l.length ≤ 1048576) : (endsOf l acts).2.length ≤ 1048576 := by
  rcases endsOf_same acts l with e | e
  · rw [e]; exact h
  · have := (diskR_iff.1 e).1; omega
theorem specActs_is (l : List Fl) (acts : List Ac) (w : World) (v vi : Value) (hr : Reads w v l) (ha : Reads w vi acts) (hn : l.length ≤ 1048576) (hm : acts.length ≤ 1048576) (hs : SizedA acts) :
    Calls Try.prog 23 #[.agg #[v], vi] w fun e w' => ∃ v', e = .returned (.tuple #[.agg #[v'], .int .i64 (((endsOf l acts).1 : Nat) : Int)]) ∧ ownsR w' w.heap.size 36 v' (endsOf l acts).2 ∧ Below w.heap.size w w' := by
  obtain ⟨ao, c, rfl, _⟩ := id hr
  obtain ⟨bo, d, rfl, _⟩ := id ha
  refine (specActs_any ao bo _ c _ d l acts w hr ha hn hm hs).mono ?_
  rintro e w' ⟨k, o, v, hE, rfl, ho, hb⟩
  obtain ⟨rfl, rfl⟩ := hE.uniq (endsOf_ends acts l)
  exact ⟨v, rfl, ho, hb⟩
theorem doActs_is (l : List Fl) (acts : List Ac) (w : World) (v vi : Value) (hr : Reads w v l) (ha : Reads w vi acts) (hn : l.length ≤ 1048576) (hm : acts.length ≤ 1048576) (hl : Sized l) (hs : SizedA acts) :
    Calls Try.prog 22 #[.agg #[v], vi] w fun e w' => ∃ v', e = .returned (.tuple #[.agg #[v'], .int .i64 (((endsOf l acts).1 : Nat) : Int)]) ∧ ownsR w' w.heap.size 36 v' (endsOf l acts).2 ∧ Below w.heap.size w w' := by
  obtain ⟨ao, c, rfl, _⟩ := id hr
  obtain ⟨bo, d, rfl, _⟩ := id ha
  refine (doActs_any ao bo _ c _ d l acts w hr ha hn hm hl hs).mono ?_
  rintro e w' ⟨k, o, v, hE, rfl, ho, hb⟩
  obtain ⟨rfl, rfl⟩ := hE.uniq (endsOf_ends acts l)
  exact ⟨v, rfl, ho, hb⟩
theorem sizedA_of {acts : List Ac} (h : sizeAc acts ≤ 1048576) : SizedA acts := fun a ha => by
  have := sizeAc_mem ha
  exact ⟨by omega, by omega, by omega⟩

set_option maxRecDepth 10000 in
set_option maxHeartbeats 4000000 in
theorem law_DoActs (ao : Option Addr) (n cap : Nat) (l : List Fl) (bo : Option Addr) (m bc : Nat) (acts : List Ac) (w : World) (hr : Reads w (.slice ao n cap) l) (hs : Small l) (hn : n ≤ 9223372036854775807) (ha : Reads w (.slice bo m bc) acts) (hsa : SmallAc acts) (hm : m ≤ 9223372036854775807) :
    Calls Try.prog 8 #[.agg #[.slice ao n cap], .slice bo m bc] w fun e w' => e = .returned (.bool true) ∧ Below w.heap.size w w' := by
  have HR : Hid (Reads w (.slice ao n cap) l) := hr
  have HA : Hid (Reads w (.slice bo m bc) acts) := ha
  have HN : Hid (n = l.length) := hr.len
  have HM : Hid (m = acts.length) := ha.len
  have HS : Hid (Small l) := hs
  have HSA : Hid (SmallAc acts) := hsa
  clear hr hs ha hsa
  go_enter Try.func8, Try.ntmps8
  go_wp2_with fail
  refine (szDisk_any _ l _ _ (HR.out.alloc _) HS.out (by decide) (by decide) (by rw [← HN.out]; exact hn)).mono ?_
  rintro e wz ⟨r, rfl, hr, hbz⟩
  have BZ : Below w.heap.size w wz := (ba (Below.refl _ _) _).trans (hbz.mono (by simp))
  rcases hr with rfl | ⟨hr0, hr1⟩
  · go_wp2
    go_ret
    exact ⟨rfl, BZ⟩
  · have hr9 : r ≤ 1048576 := by omega
    have HL : Hid (l.length ≤ 1048576) := by show l.length ≤ 1048576; omega
    have HZ : Hid (Sized l) := fun f hf => by have := sizeL_mem hf; omega
    have ca : wz.cell? ⟨w.heap.size, 0, none⟩ = some (.slice ao n cap) := (hbz.cell (by simp)).trans (by simp [go_sem])
    clear hbz hr1
    go_wp2_with fail
    refine (szActS_any bo m bc acts r _ (HA.out.below BZ) HSA.out hr9 hr0 hm).mono ?_
    rintro e w0 ⟨r2, rfl, hr2, hb0⟩
    rcases hr2 with rfl | ⟨hr20, hr21⟩
    · go_wp2
      go_ret
      exact ⟨rfl, BZ.trans (hb0.mono BZ.size)⟩
    · have hm9 : m ≤ 1048576 := by omega
      have HK : Hid (acts.length ≤ 1048576) := by show acts.length ≤ 1048576; rw [← HM.out]; exact hm9
      have HSZ : Hid (SizedA acts) := sizedA_of (by omega)
      have CS : Hid (∀ (w : World) (v vi : Value), Reads w v l → Reads w vi acts → Calls Try.prog 23 #[.agg #[v], vi] w fun e w' => ∃ v', e = .returned (.tuple #[.agg #[v'], .int .i64 (((endsOf l acts).1 : Nat) : Int)]) ∧ ownsR w' w.heap.size 36 v' (endsOf l acts).2 ∧ Below w.heap.size w w') := fun w v vi h1 h2 => specActs_is l acts w v vi h1 h2 HL.out HK.out HSZ.out
      have CI : Hid (∀ (w : World) (v vi : Value), Reads w v l → Reads w vi acts → Calls Try.prog 22 #[.agg #[v], vi] w fun e w' => ∃ v', e = .returned (.tuple #[.agg #[v'], .int .i64 (((endsOf l acts).1 : Nat) : Int)]) ∧ ownsR w' w.heap.size 36 v' (endsOf l acts).2 ∧ Below w.heap.size w w') := fun w v vi h1 h2 => doActs_is l acts w v vi h1 h2 HL.out HK.out HZ.out HSZ.out
      have HO : Hid ((endsOf l acts).2.length ≤ 1048576) := endsOf_len l acts HL.out
      have c_a_0 := cell_up hb0 ca
      have B0 : Below w.heap.size w w0 := BZ.trans (hb0.mono BZ.size)
      clear hb0 ca hr21 hr0 hr9 BZ hm9
      generalize (endsOf l acts).2 = L at *
      generalize (endsOf l acts).1 = z at *
      go_wp2_with fail
      refine (toDisk_any _ l _ (HR.out.below B0) HL.out).mono ?_
      rintro e w1 ⟨v1, rfl, ho1, hb1⟩
      obtain ⟨a1, d1, rfl⟩ := ho1.slice
      have ac_a_d1 := cell_apart c_a_0 ho1
      have c_a_1 := cell_up hb1 c_a_0
      have B1 : Below w.heap.size w w1 := B0.trans (hb1.mono B0.size)
      have O_d1_1 : Hid (ownsR w1 w.heap.size 36 (.slice a1 (l.length) d1) (l)) := ho1.mono (B0.size)
      clear c_a_0 B0 hb1 ho1
      go_wp2_with fail
      refine (toActS_any bo m bc acts _ (HA.out.below B1) (by have := HK.out; rw [HM.out]; exact this)).mono ?_
      rintro e w2 ⟨v2, rfl, ho2, hb2⟩
      obtain ⟨a2, d2, rfl⟩ := ho2.slice
      have ap_d1_i1 := apart_new O_d1_1.out ho2
      have ap_i1_d1 := apart_old O_d1_1.out ho2
      have ac_a_i1 := cell_apart c_a_1 ho2
      have c_a_2 := cell_up hb2 c_a_1
      have O_d1_2 : Hid (ownsR w2 w.heap.size 36 (.slice a1 (l.length) d1) (l)) := O_d1_1.out.all hb2
      have B2 : Below w.heap.size w w2 := B1.trans (hb2.mono B1.size)
      have O_i1_2 : Hid (ownsR w2 w.heap.size 45 (.slice a2 (acts.length) d2) (acts)) := ho2.mono (B1.size)
      clear c_a_1 O_d1_1 B1 hb2 ho2
      go_wp2_with fail
      refine (CS.out _ _ _ (ownsR.reads O_d1_2.out) (ownsR.reads O_i1_2.out)).mono ?_
      rintro e w3 ⟨v3, rfl, ho3, hb3⟩
      obtain ⟨a3, d3, rfl⟩ := ho3.slice
      have ap_d1_w := apart_new O_d1_2.out ho3
      have ap_w_d1 := apart_old O_d1_2.out ho3
      have ap_i1_w := apart_new O_i1_2.out ho3
      have ap_w_i1 := apart_old O_i1_2.out ho3
      have ac_a_w := cell_apart c_a_2 ho3
      have c_a_3 := cell_up hb3 c_a_2
      have O_d1_3 : Hid (ownsR w3 w.heap.size 36 (.slice a1 (l.length) d1) (l)) := O_d1_2.out.all hb3
      have O_i1_3 : Hid (ownsR w3 w.heap.size 45 (.slice a2 (acts.length) d2) (acts)) := O_i1_2.out.all hb3
      have B3 : Below w.heap.size w w3 := B2.trans (hb3.mono B2.size)
      have O_w_3 : Hid (ownsR w3 w.heap.size 36 (.slice a3 (L.length) d3) (L)) := ho3.mono (B2.size)
      clear c_a_2 O_d1_2 O_i1_2 B2 hb3 ho3
      have sz_a : w.heap.size < w3.heap.size := World.block_lt_of_cell? _ _ c_a_3
      go_wp2_with fail
      refine (toDisk_any _ l _ ((HR.out.below B3).alloc _) HL.out).mono ?_
      rintro e w4 ⟨v4, rfl, ho4, hb4⟩
      obtain ⟨a4, d4, rfl⟩ := ho4.slice
      have ap_w_x := apart_new (O_w_3.out.alloc _) ho4
      have ap_x_w := apart_old (O_w_3.out.alloc _) ho4
      have ac_a_x := cell_apart (cell_up (ba (Below.refl _ w3) _) c_a_3) ho4
      have ac_cw_x := cell_apart (p := ⟨w3.heap.size, 0, none⟩) (u := .slice a3 (L.length) d3) (w := w3.alloc (Obj.cells #[.slice a3 (L.length) d3] 26)) (by simp [go_sem]) ho4
      have c_cw_4 := cell_new hb4
      have ac_cw_w := cell_apart_new O_w_3.out
      have hb4 := below_new hb4
      have c_a_4 := cell_up hb4 c_a_3
      have O_w_4 : Hid (ownsR w4 w.heap.size 36 (.slice a3 (L.length) d3) (L)) := O_w_3.out.all hb4
      have B4 : Below w.heap.size w w4 := B3.trans (hb4.mono B3.size)
      have O_x_4 : Hid (ownsR w4 w.heap.size 36 (.slice a4 (l.length) d4) (l)) := ho4.mono (by have := B3.size; simp; omega)
      clear c_a_3 sz_a O_w_3 B3 hb4 ho4
      have sz_a : w.heap.size < w4.heap.size := World.block_lt_of_cell? _ _ c_a_4
      have sz_cw : w3.heap.size < w4.heap.size := World.block_lt_of_cell? _ _ c_cw_4
      go_wp2_with fail
      refine (toActS_any bo m bc acts _ ((HA.out.below B4).alloc _) (by have := HK.out; rw [HM.out]; exact this)).mono ?_
      rintro e w5 ⟨v5, rfl, ho5, hb5⟩
      obtain ⟨a5, d5, rfl⟩ := ho5.slice
      have ap_w_i := apart_new (O_w_4.out.alloc _) ho5
      have ap_i_w := apart_old (O_w_4.out.alloc _) ho5
      have ap_x_i := apart_new (O_x_4.out.alloc _) ho5
      have ap_i_x := apart_old (O_x_4.out.alloc _) ho5
      have ac_a_i := cell_apart (cell_up (ba (Below.refl _ w4) _) c_a_4) ho5
      have ac_cw_i := cell_apart (cell_up (ba (Below.refl _ w4) _) c_cw_4) ho5
      have ac_cx_i := cell_apart (p := ⟨w4.heap.size, 0, none⟩) (u := .slice a4 (l.length) d4) (w := w4.alloc (Obj.cells #[.slice a4 (l.length) d4] 26)) (by simp [go_sem]) ho5
      have c_cx_5 := cell_new hb5
      have ac_cx_w := cell_apart_new O_w_4.out
      have ac_cx_x := cell_apart_new O_x_4.out
      have hb5 := below_new hb5
      have c_a_5 := cell_up hb5 c_a_4
      have c_cw_5 := cell_up hb5 c_cw_4
      have O_w_5 : Hid (ownsR w5 w.heap.size 36 (.slice a3 (L.length) d3) (L)) := O_w_4.out.all hb5
      have O_x_5 : Hid (ownsR w5 w.heap.size 36 (.slice a4 (l.length) d4) (l)) := O_x_4.out.all hb5
      have B5 : Below w.heap.size w w5 := B4.trans (hb5.mono B4.size)
      have O_i_5 : Hid (ownsR w5 w.heap.size 45 (.slice a5 (acts.length) d5) (acts)) := ho5.mono (by have := B4.size; simp; omega)
      clear c_a_4 c_cw_4 sz_a sz_cw O_w_4 O_x_4 B4 hb5 ho5
      go_wp2_with fail
      refine (CI.out _ _ _ (ownsR.reads O_x_5.out) (ownsR.reads O_i_5.out)).mono ?_
      rintro e w6 ⟨v6, rfl, ho6, hb6⟩
      obtain ⟨a6, d6, rfl⟩ := ho6.slice
      have ap_w_g := apart_new O_w_5.out ho6
      have ap_g_w := apart_old O_w_5.out ho6
      have ap_x_g := apart_new O_x_5.out ho6
      have ap_g_x := apart_old O_x_5.out ho6
      have ap_i_g := apart_new O_i_5.out ho6
      have ap_g_i := apart_old O_i_5.out ho6
      have ac_a_g := cell_apart c_a_5 ho6
      have ac_cw_g := cell_apart c_cw_5 ho6
      have ac_cx_g := cell_apart c_cx_5 ho6
      have c_a_6 := cell_up hb6 c_a_5
      have c_cw_6 := cell_up hb6 c_cw_5
      have c_cx_6 := cell_up hb6 c_cx_5
      have O_w_6 : Hid (ownsR w6 w.heap.size 36 (.slice a3 (L.length) d3) (L)) := O_w_5.out.all hb6
      have O_x_6 : Hid (ownsR w6 w.heap.size 36 (.slice a4 (l.length) d4) (l)) := O_x_5.out.all hb6
      have O_i_6 : Hid (ownsR w6 w.heap.size 45 (.slice a5 (acts.length) d5) (acts)) := O_i_5.out.all hb6
      have B6 : Below w.heap.size w w6 := B5.trans (hb6.mono B5.size)
      have O_g_6 : Hid (ownsR w6 w.heap.size 36 (.slice a6 (L.length) d6) (L)) := ho6.mono (B5.size)
      clear c_a_5 c_cw_5 c_cx_5 O_w_5 O_x_5 O_i_5 B5 hb6 ho6
      have sz_a : w.heap.size < w6.heap.size := World.block_lt_of_cell? _ _ c_a_6
      have sz_cw : w3.heap.size < w6.heap.size := World.block_lt_of_cell? _ _ c_cw_6
      have sz_cx : w4.heap.size < w6.heap.size := World.block_lt_of_cell? _ _ c_cx_6
      go_wp2_with fail
      refine (eqDisk_any _ _ L _ (ownsR.reads (O_g_6.out.alloc _)) (ownsR.reads (O_w_6.out.alloc _)) (Nat.le_trans HO.out (by decide))).mono ?_
      rintro e w7 ⟨rfl, hb7⟩
      have c_cg_7 := cell_new hb7
      have ac_cg_w := cell_apart_new O_w_6.out
      have ac_cg_x := cell_apart_new O_x_6.out
      have ac_cg_i := cell_apart_new O_i_6.out
      have ac_cg_g := cell_apart_new O_g_6.out
      have hb7 := below_new hb7
      have c_a_7 := cell_up hb7 c_a_6
      have c_cw_7 := cell_up hb7 c_cw_6
      have c_cx_7 := cell_up hb7 c_cx_6
      have O_w_7 : Hid (ownsR w7 w.heap.size 36 (.slice a3 (L.length) d3) (L)) := O_w_6.out.all hb7
      have O_x_7 : Hid (ownsR w7 w.heap.size 36 (.slice a4 (l.length) d4) (l)) := O_x_6.out.all hb7
      have O_i_7 : Hid (ownsR w7 w.heap.size 45 (.slice a5 (acts.length) d5) (acts)) := O_i_6.out.all hb7
      have O_g_7 : Hid (ownsR w7 w.heap.size 36 (.slice a6 (L.length) d6) (L)) := O_g_6.out.all hb7
      have B7 : Below w.heap.size w w7 := B6.trans (hb7.mono B6.size)
      clear c_a_6 c_cw_6 c_cx_6 sz_a sz_cw sz_cx O_w_6 O_x_6 O_i_6 O_g_6 B6 hb7
      go_wp2
      go_region_held3 (fun w' => w'.cell? ⟨w.heap.size, 0, none⟩ = some (.slice ao n cap) ∧ w'.cell? ⟨w4.heap.size, 0, none⟩ = some (.slice a4 (l.length) d4)) ((first | exact ⟨c_a_7, c_cx_7⟩ | exact ⟨cell_up (w := w7.drew) hb8 c_a_7, cell_up (w := w7.drew) hb8 c_cx_7⟩ | exact ⟨cell_up hb9 cc1, cell_up hb9 cc2⟩)) ((first | (go_at_call 30; refine (toDisk_any _ l _ (HR.out.below B7).drew HL.out).mono ?_; rintro e w8 ⟨v8, rfl, ho8, hb8⟩; obtain ⟨a8, d8, rfl⟩ := ho8.slice; have cc1 := cell_up (w := w7.drew) hb8 c_a_7; have cc2 := cell_up (w := w7.drew) hb8 c_cx_7) | (go_at_call 31; refine (eqDisk_any _ _ l _ ((ownsR.reads O_x_7.out).drew.below hb8) ho8.reads (Nat.le_trans HL.out (by decide))).mono ?_; rintro e w9 ⟨rfl, hb9⟩)))
      have hb9 : Below w7.heap.size w7 w9 := ((Below.refl _ w7).drew.trans hb8).trans (hb9.mono hb8.size)
      clear ho8 hb8 cc1 cc2
      have c_a_9 := cell_up hb9 c_a_7
      have c_cw_9 := cell_up hb9 c_cw_7
      have c_cx_9 := cell_up hb9 c_cx_7
      have c_cg_9 := cell_up hb9 c_cg_7
      have O_w_9 : Hid (ownsR w9 w.heap.size 36 (.slice a3 (L.length) d3) (L)) := O_w_7.out.all hb9
      have O_x_9 : Hid (ownsR w9 w.heap.size 36 (.slice a4 (l.length) d4) (l)) := O_x_7.out.all hb9
      have O_i_9 : Hid (ownsR w9 w.heap.size 45 (.slice a5 (acts.length) d5) (acts)) := O_i_7.out.all hb9
      have O_g_9 : Hid (ownsR w9 w.heap.size 36 (.slice a6 (L.length) d6) (L)) := O_g_7.out.all hb9
      have B9 : Below w.heap.size w w9 := B7.trans (hb9.mono B7.size)
      clear c_a_7 c_cw_7 c_cx_7 c_cg_7 O_w_7 O_x_7 O_i_7 O_g_7 B7 hb9
      go_wp2_with fail
      refine (toActS_any bo m bc acts _ (HA.out.below B9) (by have := HK.out; rw [HM.out]; exact this)).mono ?_
      rintro e w10 ⟨v10, rfl, ho10, hb10⟩
      obtain ⟨a10, d10, rfl⟩ := ho10.slice
      have ap_w_i2 := apart_new O_w_9.out ho10
      have ap_i2_w := apart_old O_w_9.out ho10
      have ap_x_i2 := apart_new O_x_9.out ho10
      have ap_i2_x := apart_old O_x_9.out ho10
      have ap_i_i2 := apart_new O_i_9.out ho10
      have ap_i2_i := apart_old O_i_9.out ho10
      have ap_g_i2 := apart_new O_g_9.out ho10
      have ap_i2_g := apart_old O_g_9.out ho10
      have ac_a_i2 := cell_apart c_a_9 ho10
      have ac_cw_i2 := cell_apart c_cw_9 ho10
      have ac_cx_i2 := cell_apart c_cx_9 ho10
      have ac_cg_i2 := cell_apart c_cg_9 ho10
      have c_a_10 := cell_up hb10 c_a_9
      have c_cw_10 := cell_up hb10 c_cw_9
      have c_cx_10 := cell_up hb10 c_cx_9
      have c_cg_10 := cell_up hb10 c_cg_9
      have O_w_10 : Hid (ownsR w10 w.heap.size 36 (.slice a3 (L.length) d3) (L)) := O_w_9.out.all hb10
      have O_x_10 : Hid (ownsR w10 w.heap.size 36 (.slice a4 (l.length) d4) (l)) := O_x_9.out.all hb10
      have O_i_10 : Hid (ownsR w10 w.heap.size 45 (.slice a5 (acts.length) d5) (acts)) := O_i_9.out.all hb10
      have O_g_10 : Hid (ownsR w10 w.heap.size 36 (.slice a6 (L.length) d6) (L)) := O_g_9.out.all hb10
      have B10 : Below w.heap.size w w10 := B9.trans (hb10.mono B9.size)
      have O_i2_10 : Hid (ownsR w10 w.heap.size 45 (.slice a10 (acts.length) d10) (acts)) := ho10.mono (B9.size)
      clear c_a_9 c_cw_9 c_cx_9 c_cg_9 O_w_9 O_x_9 O_i_9 O_g_9 B9 hb10 ho10
      go_wp2_with fail
      refine (eqActS_any _ _ _ _ _ acts _ (ownsR.reads O_i_10.out) (ownsR.reads O_i2_10.out) (Nat.le_trans HK.out (by decide))).mono ?_
      rintro e w11 ⟨rfl, hb11⟩
      have c_a_11 := cell_up hb11 c_a_10
      have c_cw_11 := cell_up hb11 c_cw_10
      have c_cx_11 := cell_up hb11 c_cx_10
      have c_cg_11 := cell_up hb11 c_cg_10
      have O_w_11 : Hid (ownsR w11 w.heap.size 36 (.slice a3 (L.length) d3) (L)) := O_w_10.out.all hb11
      have O_x_11 : Hid (ownsR w11 w.heap.size 36 (.slice a4 (l.length) d4) (l)) := O_x_10.out.all hb11
      have O_i_11 : Hid (ownsR w11 w.heap.size 45 (.slice a5 (acts.length) d5) (acts)) := O_i_10.out.all hb11
      have O_g_11 : Hid (ownsR w11 w.heap.size 36 (.slice a6 (L.length) d6) (L)) := O_g_10.out.all hb11
      have O_i2_11 : Hid (ownsR w11 w.heap.size 45 (.slice a10 (acts.length) d10) (acts)) := O_i2_10.out.all hb11
      have B11 : Below w.heap.size w w11 := B10.trans (hb11.mono B10.size)
      clear c_a_10 c_cw_10 c_cx_10 c_cg_10 O_w_10 O_x_10 O_i_10 O_g_10 O_i2_10 B10 hb11
      go_wp2_with fail
      refine (markDisk_any (x := 1) O_x_11.out (Nat.le_trans HL.out (by decide)) (by decide) (by decide)).mono ?_
      rintro e w12 ⟨rfl, hm12, hg12⟩
      have c_a_12 := cell_other c_a_11 hg12 ac_a_x
      have c_cw_12 := cell_other c_cw_11 hg12 ac_cw_x
      have c_cx_12 := cell_other c_cx_11 hg12 ac_cx_x
      have c_cg_12 := cell_other c_cg_11 hg12 ac_cg_x
      have O_w_12 : Hid (ownsR w12 w.heap.size 36 (.slice a3 (L.length) d3) (L)) := O_w_11.out.other hg12 ap_w_x
      have O_i_12 : Hid (ownsR w12 w.heap.size 45 (.slice a5 (acts.length) d5) (acts)) := O_i_11.out.other hg12 ap_i_x
      have O_g_12 : Hid (ownsR w12 w.heap.size 36 (.slice a6 (L.length) d6) (L)) := O_g_11.out.other hg12 ap_g_x
      have B12 : Below w.heap.size w w12 := below_marked B11 O_x_11.out hg12
      have O_x_12 : Hid (ownsR w12 w.heap.size 36 (.slice a4 (l.length) d4) (marksF 1 l.length)) := hm12
      clear c_a_11 c_cw_11 c_cx_11 c_cg_11 O_w_11 O_i_11 O_g_11 B11 hm12 O_x_11 hg12
      go_wp2_with fail
      refine (markActS_any (x := 1 + 3 * (l.length : Int)) O_i_12.out (Nat.le_trans HK.out (by decide)) (by omega) (by have := HL.out; omega)).mono ?_
      rintro e w13 ⟨rfl, hm13, hg13⟩
      have c_a_13 := cell_other c_a_12 hg13 ac_a_i
      have c_cw_13 := cell_other c_cw_12 hg13 ac_cw_i
      have c_cx_13 := cell_other c_cx_12 hg13 ac_cx_i
      have c_cg_13 := cell_other c_cg_12 hg13 ac_cg_i
      have O_w_13 : Hid (ownsR w13 w.heap.size 36 (.slice a3 (L.length) d3) (L)) := O_w_12.out.other hg13 ap_w_i
      have O_x_13 : Hid (ownsR w13 w.heap.size 36 (.slice a4 (l.length) d4) (marksF 1 l.length)) := O_x_12.out.other hg13 ap_x_i
      have O_g_13 : Hid (ownsR w13 w.heap.size 36 (.slice a6 (L.length) d6) (L)) := O_g_12.out.other hg13 ap_g_i
      have B13 : Below w.heap.size w w13 := below_marked B12 O_i_12.out hg13
      have O_i_13 : Hid (ownsR w13 w.heap.size 45 (.slice a5 (acts.length) d5) (marksAc (1 + 3 * (l.length : Int)) acts.length)) := hm13
      clear c_a_12 c_cw_12 c_cx_12 c_cg_12 O_w_12 O_x_12 O_g_12 B12 hm13 O_i_12 hg13
      go_wp2_with fail
      refine (eqDisk_any _ _ L _ (ownsR.reads O_g_13.out) (ownsR.reads O_w_13.out) (Nat.le_trans HO.out (by decide))).mono ?_
      rintro e w14 ⟨rfl, hb14⟩
      have c_a_14 := cell_up hb14 c_a_13
      have c_cw_14 := cell_up hb14 c_cw_13
      have c_cx_14 := cell_up hb14 c_cx_13
      have c_cg_14 := cell_up hb14 c_cg_13
      have O_w_14 : Hid (ownsR w14 w.heap.size 36 (.slice a3 (L.length) d3) (L)) := O_w_13.out.all hb14
      have O_x_14 : Hid (ownsR w14 w.heap.size 36 (.slice a4 (l.length) d4) (marksF 1 l.length)) := O_x_13.out.all hb14
      have O_i_14 : Hid (ownsR w14 w.heap.size 45 (.slice a5 (acts.length) d5) (marksAc (1 + 3 * (l.length : Int)) acts.length)) := O_i_13.out.all hb14
      have O_g_14 : Hid (ownsR w14 w.heap.size 36 (.slice a6 (L.length) d6) (L)) := O_g_13.out.all hb14
      have B14 : Below w.heap.size w w14 := B13.trans (hb14.mono B13.size)
      clear c_a_13 c_cw_13 c_cx_13 c_cg_13 O_w_13 O_x_13 O_i_13 O_g_13 B13 hb14
      go_wp2_with fail
      refine (markDisk_any (x := 1) O_g_14.out (Nat.le_trans HO.out (by decide)) (by decide) (by decide)).mono ?_
      rintro e w15 ⟨rfl, hm15, hg15⟩
      have c_a_15 := cell_other c_a_14 hg15 ac_a_g
      have c_cw_15 := cell_other c_cw_14 hg15 ac_cw_g
      have c_cx_15 := cell_other c_cx_14 hg15 ac_cx_g
      have c_cg_15 := cell_other c_cg_14 hg15 ac_cg_g
      have O_w_15 : Hid (ownsR w15 w.heap.size 36 (.slice a3 (L.length) d3) (L)) := O_w_14.out.other hg15 ap_w_g
      have O_x_15 : Hid (ownsR w15 w.heap.size 36 (.slice a4 (l.length) d4) (marksF 1 l.length)) := O_x_14.out.other hg15 ap_x_g
      have O_i_15 : Hid (ownsR w15 w.heap.size 45 (.slice a5 (acts.length) d5) (marksAc (1 + 3 * (l.length : Int)) acts.length)) := O_i_14.out.other hg15 ap_i_g
      have B15 : Below w.heap.size w w15 := below_marked B14 O_g_14.out hg15
      have O_g_15 : Hid (ownsR w15 w.heap.size 36 (.slice a6 (L.length) d6) (marksF 1 L.length)) := hm15
      clear c_a_14 c_cw_14 c_cx_14 c_cg_14 O_w_14 O_x_14 O_i_14 B14 hm15 O_g_14 hg15
      go_wp2_with fail
      refine (heldDisk_any (x := 1) (ownsR.reads O_g_15.out) (Nat.le_trans HO.out (by decide)) (by decide) (by decide)).mono ?_
      rintro e w16 ⟨rfl, hb16⟩
      have c_a_16 := cell_up hb16 c_a_15
      have c_cw_16 := cell_up hb16 c_cw_15
      have c_cx_16 := cell_up hb16 c_cx_15
      have c_cg_16 := cell_up hb16 c_cg_15
      have O_w_16 : Hid (ownsR w16 w.heap.size 36 (.slice a3 (L.length) d3) (L)) := O_w_15.out.all hb16
      have O_x_16 : Hid (ownsR w16 w.heap.size 36 (.slice a4 (l.length) d4) (marksF 1 l.length)) := O_x_15.out.all hb16
      have O_i_16 : Hid (ownsR w16 w.heap.size 45 (.slice a5 (acts.length) d5) (marksAc (1 + 3 * (l.length : Int)) acts.length)) := O_i_15.out.all hb16
      have O_g_16 : Hid (ownsR w16 w.heap.size 36 (.slice a6 (L.length) d6) (marksF 1 L.length)) := O_g_15.out.all hb16
      have B16 : Below w.heap.size w w16 := B15.trans (hb16.mono B15.size)
      clear c_a_15 c_cw_15 c_cx_15 c_cg_15 O_w_15 O_x_15 O_i_15 O_g_15 B15 hb16
      go_wp2_with fail
      refine (toDisk_any _ l _ (HR.out.below B16) HL.out).mono ?_
      rintro e w17 ⟨v17, rfl, ho17, hb17⟩
      obtain ⟨a17, d17, rfl⟩ := ho17.slice
      have ap_w_d2 := apart_new O_w_16.out ho17
      have ap_d2_w := apart_old O_w_16.out ho17
      have ap_x_d2 := apart_new O_x_16.out ho17
      have ap_d2_x := apart_old O_x_16.out ho17
      have ap_i_d2 := apart_new O_i_16.out ho17
      have ap_d2_i := apart_old O_i_16.out ho17
      have ap_g_d2 := apart_new O_g_16.out ho17
      have ap_d2_g := apart_old O_g_16.out ho17
      have ac_a_d2 := cell_apart c_a_16 ho17
      have ac_cw_d2 := cell_apart c_cw_16 ho17
      have ac_cx_d2 := cell_apart c_cx_16 ho17
      have ac_cg_d2 := cell_apart c_cg_16 ho17
      have c_a_17 := cell_up hb17 c_a_16
      have c_cw_17 := cell_up hb17 c_cw_16
      have c_cx_17 := cell_up hb17 c_cx_16
      have c_cg_17 := cell_up hb17 c_cg_16
      have O_w_17 : Hid (ownsR w17 w.heap.size 36 (.slice a3 (L.length) d3) (L)) := O_w_16.out.all hb17
      have O_x_17 : Hid (ownsR w17 w.heap.size 36 (.slice a4 (l.length) d4) (marksF 1 l.length)) := O_x_16.out.all hb17
      have O_i_17 : Hid (ownsR w17 w.heap.size 45 (.slice a5 (acts.length) d5) (marksAc (1 + 3 * (l.length : Int)) acts.length)) := O_i_16.out.all hb17
      have O_g_17 : Hid (ownsR w17 w.heap.size 36 (.slice a6 (L.length) d6) (marksF 1 L.length)) := O_g_16.out.all hb17
      have B17 : Below w.heap.size w w17 := B16.trans (hb17.mono B16.size)
      have O_d2_17 : Hid (ownsR w17 w.heap.size 36 (.slice a17 (l.length) d17) (l)) := ho17.mono (B16.size)
      clear c_a_16 c_cw_16 c_cx_16 c_cg_16 O_w_16 O_x_16 O_i_16 O_g_16 B16 hb17 ho17
      go_wp2_with fail
      refine (toActS_any bo m bc acts _ (HA.out.below B17) (by have := HK.out; rw [HM.out]; exact this)).mono ?_
      rintro e w18 ⟨v18, rfl, ho18, hb18⟩
      obtain ⟨a18, d18, rfl⟩ := ho18.slice
      have ap_w_i3 := apart_new O_w_17.out ho18
      have ap_i3_w := apart_old O_w_17.out ho18
      have ap_x_i3 := apart_new O_x_17.out ho18
      have ap_i3_x := apart_old O_x_17.out ho18
      have ap_i_i3 := apart_new O_i_17.out ho18
      have ap_i3_i := apart_old O_i_17.out ho18
      have ap_g_i3 := apart_new O_g_17.out ho18
      have ap_i3_g := apart_old O_g_17.out ho18
      have ap_d2_i3 := apart_new O_d2_17.out ho18
      have ap_i3_d2 := apart_old O_d2_17.out ho18
      have ac_a_i3 := cell_apart c_a_17 ho18
      have ac_cw_i3 := cell_apart c_cw_17 ho18
      have ac_cx_i3 := cell_apart c_cx_17 ho18
      have ac_cg_i3 := cell_apart c_cg_17 ho18
      have c_a_18 := cell_up hb18 c_a_17
      have c_cw_18 := cell_up hb18 c_cw_17
      have c_cx_18 := cell_up hb18 c_cx_17
      have c_cg_18 := cell_up hb18 c_cg_17
      have O_w_18 : Hid (ownsR w18 w.heap.size 36 (.slice a3 (L.length) d3) (L)) := O_w_17.out.all hb18
      have O_x_18 : Hid (ownsR w18 w.heap.size 36 (.slice a4 (l.length) d4) (marksF 1 l.length)) := O_x_17.out.all hb18
      have O_i_18 : Hid (ownsR w18 w.heap.size 45 (.slice a5 (acts.length) d5) (marksAc (1 + 3 * (l.length : Int)) acts.length)) := O_i_17.out.all hb18
      have O_g_18 : Hid (ownsR w18 w.heap.size 36 (.slice a6 (L.length) d6) (marksF 1 L.length)) := O_g_17.out.all hb18
      have O_d2_18 : Hid (ownsR w18 w.heap.size 36 (.slice a17 (l.length) d17) (l)) := O_d2_17.out.all hb18
      have B18 : Below w.heap.size w w18 := B17.trans (hb18.mono B17.size)
      have O_i3_18 : Hid (ownsR w18 w.heap.size 45 (.slice a18 (acts.length) d18) (acts)) := ho18.mono (B17.size)
      clear c_a_17 c_cw_17 c_cx_17 c_cg_17 O_w_17 O_x_17 O_i_17 O_g_17 O_d2_17 B17 hb18 ho18
      go_wp2_with fail
      refine (CI.out _ _ _ (ownsR.reads O_d2_18.out) (ownsR.reads O_i3_18.out)).mono ?_
      rintro e w19 ⟨v19, rfl, ho19, hb19⟩
      obtain ⟨a19, d19, rfl⟩ := ho19.slice
      have ap_w_h := apart_new O_w_18.out ho19
      have ap_h_w := apart_old O_w_18.out ho19
      have ap_x_h := apart_new O_x_18.out ho19
      have ap_h_x := apart_old O_x_18.out ho19
      have ap_i_h := apart_new O_i_18.out ho19
      have ap_h_i := apart_old O_i_18.out ho19
      have ap_g_h := apart_new O_g_18.out ho19
      have ap_h_g := apart_old O_g_18.out ho19
      have ap_d2_h := apart_new O_d2_18.out ho19
      have ap_h_d2 := apart_old O_d2_18.out ho19
      have ap_i3_h := apart_new O_i3_18.out ho19
      have ap_h_i3 := apart_old O_i3_18.out ho19
      have ac_a_h := cell_apart c_a_18 ho19
      have ac_cw_h := cell_apart c_cw_18 ho19
      have ac_cx_h := cell_apart c_cx_18 ho19
      have ac_cg_h := cell_apart c_cg_18 ho19
      have c_a_19 := cell_up hb19 c_a_18
      have c_cw_19 := cell_up hb19 c_cw_18
      have c_cx_19 := cell_up hb19 c_cx_18
      have c_cg_19 := cell_up hb19 c_cg_18
      have O_w_19 : Hid (ownsR w19 w.heap.size 36 (.slice a3 (L.length) d3) (L)) := O_w_18.out.all hb19
      have O_x_19 : Hid (ownsR w19 w.heap.size 36 (.slice a4 (l.length) d4) (marksF 1 l.length)) := O_x_18.out.all hb19
      have O_i_19 : Hid (ownsR w19 w.heap.size 45 (.slice a5 (acts.length) d5) (marksAc (1 + 3 * (l.length : Int)) acts.length)) := O_i_18.out.all hb19
      have O_g_19 : Hid (ownsR w19 w.heap.size 36 (.slice a6 (L.length) d6) (marksF 1 L.length)) := O_g_18.out.all hb19
      have O_d2_19 : Hid (ownsR w19 w.heap.size 36 (.slice a17 (l.length) d17) (l)) := O_d2_18.out.all hb19
      have O_i3_19 : Hid (ownsR w19 w.heap.size 45 (.slice a18 (acts.length) d18) (acts)) := O_i3_18.out.all hb19
      have B19 : Below w.heap.size w w19 := B18.trans (hb19.mono B18.size)
      have O_h_19 : Hid (ownsR w19 w.heap.size 36 (.slice a19 (L.length) d19) (L)) := ho19.mono (B18.size)
      clear c_a_18 c_cw_18 c_cx_18 c_cg_18 O_w_18 O_x_18 O_i_18 O_g_18 O_d2_18 O_i3_18 B18 hb19 ho19
      have sz_a : w.heap.size < w19.heap.size := World.block_lt_of_cell? _ _ c_a_19
      have sz_cw : w3.heap.size < w19.heap.size := World.block_lt_of_cell? _ _ c_cw_19
      have sz_cx : w4.heap.size < w19.heap.size := World.block_lt_of_cell? _ _ c_cx_19
      have sz_cg : w6.heap.size < w19.heap.size := World.block_lt_of_cell? _ _ c_cg_19
      go_wp2_with fail
      refine (eqDisk_any _ _ L _ (ownsR.reads (O_h_19.out.alloc _)) (ownsR.reads (O_w_19.out.alloc _)) (Nat.le_trans HO.out (by decide))).mono ?_
      rintro e w20 ⟨rfl, hb20⟩
      have c_ch_20 := cell_new hb20
      have ac_ch_w := cell_apart_new O_w_19.out
      have ac_ch_x := cell_apart_new O_x_19.out
      have ac_ch_i := cell_apart_new O_i_19.out
      have ac_ch_g := cell_apart_new O_g_19.out
      have ac_ch_d2 := cell_apart_new O_d2_19.out
      have ac_ch_i3 := cell_apart_new O_i3_19.out
      have ac_ch_h := cell_apart_new O_h_19.out
      have hb20 := below_new hb20
      have c_a_20 := cell_up hb20 c_a_19
      have c_cw_20 := cell_up hb20 c_cw_19
      have c_cx_20 := cell_up hb20 c_cx_19
      have c_cg_20 := cell_up hb20 c_cg_19
      have O_w_20 : Hid (ownsR w20 w.heap.size 36 (.slice a3 (L.length) d3) (L)) := O_w_19.out.all hb20
      have O_x_20 : Hid (ownsR w20 w.heap.size 36 (.slice a4 (l.length) d4) (marksF 1 l.length)) := O_x_19.out.all hb20
      have O_i_20 : Hid (ownsR w20 w.heap.size 45 (.slice a5 (acts.length) d5) (marksAc (1 + 3 * (l.length : Int)) acts.length)) := O_i_19.out.all hb20
      have O_g_20 : Hid (ownsR w20 w.heap.size 36 (.slice a6 (L.length) d6) (marksF 1 L.length)) := O_g_19.out.all hb20
      have O_d2_20 : Hid (ownsR w20 w.heap.size 36 (.slice a17 (l.length) d17) (l)) := O_d2_19.out.all hb20
      have O_i3_20 : Hid (ownsR w20 w.heap.size 45 (.slice a18 (acts.length) d18) (acts)) := O_i3_19.out.all hb20
      have O_h_20 : Hid (ownsR w20 w.heap.size 36 (.slice a19 (L.length) d19) (L)) := O_h_19.out.all hb20
      have B20 : Below w.heap.size w w20 := B19.trans (hb20.mono B19.size)
      clear c_a_19 c_cw_19 c_cx_19 c_cg_19 sz_a sz_cw sz_cx sz_cg O_w_19 O_x_19 O_i_19 O_g_19 O_d2_19 O_i3_19 O_h_19 B19 hb20
      go_wp2_with fail
      refine (heldDisk_any (x := 1) (ownsR.reads O_g_20.out) (Nat.le_trans HO.out (by decide)) (by decide) (by decide)).mono ?_
      rintro e w21 ⟨rfl, hb21⟩
      have c_a_21 := cell_up hb21 c_a_20
      have c_cw_21 := cell_up hb21 c_cw_20
      have c_cx_21 := cell_up hb21 c_cx_20
      have c_cg_21 := cell_up hb21 c_cg_20
      have c_ch_21 := cell_up hb21 c_ch_20
      have O_w_21 : Hid (ownsR w21 w.heap.size 36 (.slice a3 (L.length) d3) (L)) := O_w_20.out.all hb21
      have O_x_21 : Hid (ownsR w21 w.heap.size 36 (.slice a4 (l.length) d4) (marksF 1 l.length)) := O_x_20.out.all hb21
      have O_i_21 : Hid (ownsR w21 w.heap.size 45 (.slice a5 (acts.length) d5) (marksAc (1 + 3 * (l.length : Int)) acts.length)) := O_i_20.out.all hb21
      have O_g_21 : Hid (ownsR w21 w.heap.size 36 (.slice a6 (L.length) d6) (marksF 1 L.length)) := O_g_20.out.all hb21
      have O_d2_21 : Hid (ownsR w21 w.heap.size 36 (.slice a17 (l.length) d17) (l)) := O_d2_20.out.all hb21
      have O_i3_21 : Hid (ownsR w21 w.heap.size 45 (.slice a18 (acts.length) d18) (acts)) := O_i3_20.out.all hb21
      have O_h_21 : Hid (ownsR w21 w.heap.size 36 (.slice a19 (L.length) d19) (L)) := O_h_20.out.all hb21
      have B21 : Below w.heap.size w w21 := B20.trans (hb21.mono B20.size)
      clear c_a_20 c_cw_20 c_cx_20 c_cg_20 c_ch_20 O_w_20 O_x_20 O_i_20 O_g_20 O_d2_20 O_i3_20 O_h_20 B20 hb21
      go_wp2
      go_ret
      exact ⟨rfl, B21⟩
end Go.Proofs.Ytekflgecfcjjiaa

namespace Go.Proofs.Ytekflgecfcjjiaa
open Go Go.RowKit

theorem slice_head (bo : Option Addr) (m bc k : Nat) (h : k ≤ bc) (wx : World) :
    (Instr.slice 38 (.slice bo m bc) none (some (.int .i64 (k : Int))) none).run Try.prog wx = .ok (.slice bo k bc) wx := by
  have hu := Try.underlying38
  cases bo <;> simp [Instr.slice, Instr.sliceBounds, Instr.sliceBound, asIntOf, run_underlying hu, h, go_sem]
theorem endsOf_sized (l : List Fl) (acts : List Ac) (h : Sized l) : Sized (endsOf l acts).2 := by
  rcases endsOf_same acts l with e | e
  · rw [e]; exact h
  · intro f hf
    have := (diskR_iff.1 e).2.1 f hf
    simp only [Fl.right, nameR, Bool.and_eq_true, decide_eq_true_eq] at this
    omega
/-- Whether, and what, CutActs answers. -/
def cutOk (l : List Fl) (acts : List Ac) (k : Nat) : Bool := decide ((endsOf l (acts.take k)).1 = k) && diskR (endsOf l (acts.take k)).2
def cutL (l : List Fl) (acts : List Ac) (k : Nat) (left : List Int) : List Fl := if (endsOf l (acts.take k)).1 = k then loseO (endsOf l (acts.take k)).2 left else []

set_option maxRecDepth 10000 in
set_option maxHeartbeats 4000000 in
theorem cutActs_bad (ao bo lo : Option Addr) (n c m bc ln lc : Nat) (wh : Int) (w : World) (hm : m ≤ 1048576) (h : wh < 0 ∨ (m : Int) < wh) :
    Calls Try.prog 26 #[.agg #[.slice ao n c], .slice bo m bc, .int .i64 wh, .slice lo ln lc] w fun e w' => ∃ v', e = .returned (.tuple #[.agg #[v'], .bool false]) ∧ ownsR w' w.heap.size 36 v' ([] : List Fl) ∧ Below w.heap.size w w' := by
  rcases h with h | h
  · go_enter Try.func26, Try.ntmps26
    go_wp2
    refine bodyPost_ret (ret_disk2 rfl rfl rfl (v := .slice none 0 0) (by simp [go_sem])) rfl ?_
    exact ⟨_, rfl, ownsR_nil _ _ _, by first | exact ba (ba (Below.refl _ _) _) _ | exact (ba (ba (Below.refl _ _) _) _).setCell (by simp) _⟩
  · have h0 : ¬ wh < 0 := by omega
    go_enter Try.func26, Try.ntmps26
    go_wp2
    refine bodyPost_ret (ret_disk2 rfl rfl rfl (v := .slice none 0 0) (by simp [go_sem])) rfl ?_
    exact ⟨_, rfl, ownsR_nil _ _ _, by first | exact ba (ba (Below.refl _ _) _) _ | exact (ba (ba (Below.refl _ _) _) _).setCell (by simp) _⟩

set_option maxRecDepth 10000 in
set_option maxHeartbeats 4000000 in
theorem cutActs_in (ao bo lo : Option Addr) (n c m bc ln lc k : Nat) (l : List Fl) (acts : List Ac) (left : List Int) (w : World) (hr : Reads w (.slice ao n c) l) (ha : Reads w (.slice bo m bc) acts) (hlf : Reads w (.slice lo ln lc) left) (hn : n ≤ 1048576) (hm : m ≤ 1048576) (hz : Sized l) (hs : SizedA acts) (hk : k ≤ m) (hbc : m ≤ bc) :
    Calls Try.prog 26 #[.agg #[.slice ao n c], .slice bo m bc, .int .i64 (k : Int), .slice lo ln lc] w fun e w' => ∃ v', e = .returned (.tuple #[.agg #[v'], .bool (cutOk l acts k)]) ∧ ownsR w' w.heap.size 36 v' (cutL l acts k left) ∧ Below w.heap.size w w' := by
  have HR : Hid (Reads w (.slice ao n c) l) := hr
  have HA : Hid (Reads w (.slice bo k bc) (acts.take k)) := ha.take k hk bc
  have HF : Hid (Reads w (.slice lo ln lc) left) := hlf
  have hN := hr.len
  have HLN : Hid (l.length ≤ 1048576) := by show _ ≤ _; omega
  have HKN : Hid ((acts.take k).length ≤ 1048576) := by show _ ≤ _; rw [List.length_take]; omega
  have HZ : Hid (Sized l) := hz
  have HSA : Hid (SizedA (acts.take k)) := fun a ha => hs a (List.mem_of_mem_take ha)
  have hzk : (endsOf l (acts.take k)).1 ≤ k := Nat.le_trans (endsOf_le _ _) (by rw [List.length_take]; omega)
  have HLL : Hid ((endsOf l (acts.take k)).2.length ≤ 1048576) := endsOf_len l _ HLN.out
  have HZZ : Hid (Sized (endsOf l (acts.take k)).2) := endsOf_sized l _ hz
  have CD : Hid (∀ (w : World) (v vi : Value), Reads w v l → Reads w vi (acts.take k) → Calls Try.prog 22 #[.agg #[v], vi] w fun e w' => ∃ v', e = .returned (.tuple #[.agg #[v'], .int .i64 (((endsOf l (acts.take k)).1 : Nat) : Int)]) ∧ ownsR w' w.heap.size 36 v' (endsOf l (acts.take k)).2 ∧ Below w.heap.size w w') := fun w v vi h1 h2 => doActs_is l _ w v vi h1 h2 HLN.out HKN.out HZ.out HSA.out
  have hok : cutOk l acts k = (decide ((endsOf l (acts.take k)).1 = k) && diskR (endsOf l (acts.take k)).2) := rfl
  have hcl : cutL l acts k left = if (endsOf l (acts.take k)).1 = k then loseO (endsOf l (acts.take k)).2 left else [] := rfl
  rw [hok, hcl]
  clear hok hcl hN hr ha hlf hz hs
  generalize (endsOf l (acts.take k)).2 = L at *
  generalize (endsOf l (acts.take k)).1 = z at *
  have h0 : ¬ (k : Int) < 0 := by omega
  have h1 : ¬ (m : Int) < (k : Int) := by omega
  have hsl := slice_head bo m bc k (by omega)
  go_enter Try.func26, Try.ntmps26
  go_wp2_with fail
  obtain ⟨W, hW⟩ : ∃ W, (w.alloc (.cells #[.slice ao n c] 26)).alloc (.cells #[.slice none 0 0] 26) = W := ⟨_, rfl⟩
  have cb : W.cell? ⟨w.heap.size, 0, none⟩ = some (.slice ao n c) := by rw [← hW]; simp [go_sem]
  have cr : W.cell? ⟨w.heap.size + 1, 0, none⟩ = some (.slice none 0 0) := by rw [← hW]; simp [go_sem]
  have fr : W.frozen? ⟨w.heap.size + 1, 0, none⟩ = false := by rw [← hW]; simp [go_sem]
  have BW : Below w.heap.size w W := by rw [← hW]; exact ba (ba (Below.refl _ _) _) _
  have sW : W.heap.size = w.heap.size + 1 + 1 := by rw [← hW]; simp
  have HSW : Hid (W.heap.size = w.heap.size + 1 + 1) := sW
  rw [hW]
  clear hW sW
  have e0 := Below.cellOf (B := W.heap.size) (World.block_lt_of_cell? _ _ cb) cb
  refine wp_puts (α := Nat × Option Addr × Nat) (fun x => [(22, .agg #[.slice ao n c]), (23, .slice bo m bc), (24, .int .i64 (k : Int)), (25, .slice bo k bc), (26, .tuple #[.agg #[.slice x.2.1 L.length x.2.2], .int .i64 (z : Int)]), (21, .tuple #[.agg #[.slice x.2.1 L.length x.2.2], .int .i64 (z : Int)]), (27, .agg #[.slice x.2.1 L.length x.2.2]), (28, .int .i64 (z : Int)), (10, .pointer (some ⟨x.1, 0, none⟩)), (11, .int .i64 (z : Int))]) (fun x w' => NewRow W w' 36 x.1 (.slice x.2.1 L.length x.2.2) L) ?_ ?_
  · go_region_held3 (fun w' => Below W.heap.size W w') ((first | exact (Below.refl _ _).drew | exact (keep_on hb3 (by assumption) (Nat.le_refl _)) | exact (Below.alloc (by assumption) (Below.size (by assumption)) _) | exact (Below.alloc hS3 hS3.size _) | exact (Below.setCell hS3 (Nat.le_refl _) _))) ((go_at_call 22; refine (CD.out _ _ _ (HR.out.below (BW.trans (Below.mono (B := W.heap.size) (by assumption) BW.size))) (HA.out.below (BW.trans (Below.mono (B := W.heap.size) (by assumption) BW.size)))).mono ?_; rintro e w3' ⟨v3', rfl, ho3, hb3⟩; have hS3 := keep_on (B := W.heap.size) (W := W) hb3 (by assumption) (Nat.le_refl _); obtain ⟨a3', d3', rfl⟩ := ho3.slice; first | (have hcx : w3'.cell? ⟨W.heap.size, 0, none⟩ = some (.slice none 0 0) := cell_new (w := W.drew) hb3; have hfx : w3'.frozen? ⟨W.heap.size, 0, none⟩ = false := frozen_new (w := W.drew) hb3) | skip))
    all_goals first | refine ⟨rfl, ⟨_, a3', d3'⟩, ?_, newRow_b (W := W.drew) (Below.refl _ _).drew ho3 hb3⟩ | refine ⟨rfl, ⟨_, a3', d3'⟩, ?_, newRow_m (W := W.drew) (Below.refl _ _).drew ho3 hb3⟩
    all_goals kernel_rfl
  clear e0
  rintro ⟨X2, a2, d2⟩ w2 hN
  simp only [putAll]
  dsimp only at hN
  have cr2 := cell_up hN.below cr
  have fr2 := frozen_up hN.below cr fr
  have B2 : Below w.heap.size w w2 := BW.trans (hN.below.mono BW.size)
  have hO := hN.own
  have cX := hN.cellAt
  have HW2 : Hid (W.heap.size ≤ w2.heap.size) := hN.below.size
  clear hN cr fr cb
  by_cases hzk2 : z < k
  · have hne : ¬ z = k := by omega
    go_wp2_with fail
    refine bodyPost_ret (ret_disk2 rfl rfl rfl (World.cell?_setCell_same' _ _ _ (by simp [cr2]))) rfl ?_
    exact ⟨.slice none 0 0, by first | rfl | (rw [decide_eq_false hne, Bool.false_and]; rfl), by first | exact ownsR_nil _ _ _ | (rw [if_neg hne]; exact ownsR_nil _ _ _), B2.setCell (p := ⟨w.heap.size + 1, 0, none⟩) (by simp) _⟩
  · have heq : z = k := by omega
    have HQ : Hid (z = k) := heq
    clear heq
    go_wp2_with (go_at_call 16; refine (loseDisk_any hO.reads (HF.out.below B2) HLL.out HZZ.out).mono ?_; rintro e w3 ⟨v3, rfl, ho3, hb3⟩; obtain ⟨a3, d3, rfl⟩ := ho3.slice; have cr3 := cell_up hb3 cr2; have fr3 := frozen_up hb3 cr2 fr2)
    refine bodyPost_ret (ret_disk2 rfl rfl rfl (World.cell?_setCell_same' _ _ _ (by simp [cr3]))) rfl ?_
    refine ⟨.slice a3 (loseO L left).length d3, by first | rfl | (rw [decide_eq_true HQ.out, Bool.true_and]; rfl), ?_, (B2.trans (hb3.mono B2.size)).setCell (p := ⟨w.heap.size + 1, 0, none⟩) (by simp) _⟩
    try rw [if_pos HQ.out]
    exact (ho3.setBelow (by show w.heap.size + 1 < _; have := HW2.out; have := HSW.out; omega) _).mono B2.size

set_option maxRecDepth 10000 in
set_option maxHeartbeats 4000000 in
theorem specCut_bad (ao bo lo : Option Addr) (n c m bc ln lc : Nat) (wh : Int) (w : World) (_hm : m ≤ 1048576) (h : wh < 0 ∨ (m : Int) < wh) :
    Calls Try.prog 27 #[.agg #[.slice ao n c], .slice bo m bc, .int .i64 wh, .slice lo ln lc] w fun e w' => ∃ v', e = .returned (.tuple #[.agg #[v'], .bool false]) ∧ ownsR w' w.heap.size 36 v' ([] : List Fl) ∧ Below w.heap.size w w' := by
  have h1 : (decide ((0 : Int) ≤ wh) && decide (wh ≤ (m : Int))) = false := by
    rw [Bool.and_eq_false_iff]
    rcases h with h | h
    · exact .inl (decide_eq_false (by omega))
    · exact .inr (decide_eq_false (by omega))
  clear h
  go_enter Try.func27, Try.ntmps27
  go_wp2_with (go_at_call 65; refine (in_any _ _ _ _).mono ?_; rintro e w' ⟨rfl, hw⟩; have hw2 := hw.symm; subst hw2)
  refine bodyPost_ret (ret_disk2 rfl rfl rfl (v := .slice none 0 0) (by simp [go_sem])) rfl ?_
  exact ⟨_, rfl, ownsR_nil _ _ _, by first | exact ba (ba (Below.refl _ _) _) _ | exact (ba (ba (Below.refl _ _) _) _).setCell (by simp) _⟩

set_option maxRecDepth 10000 in
set_option maxHeartbeats 4000000 in
theorem specCut_in (ao bo lo : Option Addr) (n c m bc ln lc k : Nat) (l : List Fl) (acts : List Ac) (left : List Int) (w : World) (hr : Reads w (.slice ao n c) l) (ha : Reads w (.slice bo m bc) acts) (hlf : Reads w (.slice lo ln lc) left) (hn : n ≤ 1048576) (hm : m ≤ 1048576) (hz : Sized l) (hs : SizedA acts) (hk : k ≤ m) (hbc : m ≤ bc) :
    Calls Try.prog 27 #[.agg #[.slice ao n c], .slice bo m bc, .int .i64 (k : Int), .slice lo ln lc] w fun e w' => ∃ v', e = .returned (.tuple #[.agg #[v'], .bool (cutOk l acts k)]) ∧ ownsR w' w.heap.size 36 v' (cutL l acts k left) ∧ Below w.heap.size w w' := by
  have HR : Hid (Reads w (.slice ao n c) l) := hr
  have HA : Hid (Reads w (.slice bo k bc) (acts.take k)) := ha.take k hk bc
  have HF : Hid (Reads w (.slice lo ln lc) left) := hlf
  have hN := hr.len
  have HLN : Hid (l.length ≤ 1048576) := by show _ ≤ _; omega
  have HKN : Hid ((acts.take k).length ≤ 1048576) := by show _ ≤ _; rw [List.length_take]; omega
  have HZ : Hid (Sized l) := hz
  have HSA : Hid (SizedA (acts.take k)) := fun a ha => hs a (List.mem_of_mem_take ha)
  have hzk : (endsOf l (acts.take k)).1 ≤ k := Nat.le_trans (endsOf_le _ _) (by rw [List.length_take]; omega)
  have HLL : Hid ((endsOf l (acts.take k)).2.length ≤ 1048576) := endsOf_len l _ HLN.out
  have HZZ : Hid (Sized (endsOf l (acts.take k)).2) := endsOf_sized l _ hz
  have CD : Hid (∀ (w : World) (v vi : Value), Reads w v l → Reads w vi (acts.take k) → Calls Try.prog 23 #[.agg #[v], vi] w fun e w' => ∃ v', e = .returned (.tuple #[.agg #[v'], .int .i64 (((endsOf l (acts.take k)).1 : Nat) : Int)]) ∧ ownsR w' w.heap.size 36 v' (endsOf l (acts.take k)).2 ∧ Below w.heap.size w w') := fun w v vi h1 h2 => specActs_is l _ w v vi h1 h2 HLN.out HKN.out HSA.out
  have hok : cutOk l acts k = (decide ((endsOf l (acts.take k)).1 = k) && diskR (endsOf l (acts.take k)).2) := rfl
  have hcl : cutL l acts k left = if (endsOf l (acts.take k)).1 = k then loseO (endsOf l (acts.take k)).2 left else [] := rfl
  rw [hok, hcl]
  clear hok hcl hN hr ha hlf hz hs
  generalize (endsOf l (acts.take k)).2 = L at *
  generalize (endsOf l (acts.take k)).1 = z at *
  have h1 : (decide ((0 : Int) ≤ (k : Int)) && decide ((k : Int) ≤ (m : Int))) = true := by rw [Bool.and_eq_true]; exact ⟨decide_eq_true (by omega), decide_eq_true (by omega)⟩
  have hsl := slice_head bo m bc k (by omega)
  go_enter Try.func27, Try.ntmps27
  go_wp2_with (go_at_call 65; refine (in_any _ _ _ _).mono ?_; rintro e w' ⟨rfl, hw⟩; have hw2 := hw.symm; subst hw2)
  obtain ⟨W, hW⟩ : ∃ W, (w.alloc (.cells #[.slice ao n c] 26)).alloc (.cells #[.slice none 0 0] 26) = W := ⟨_, rfl⟩
  have cb : W.cell? ⟨w.heap.size, 0, none⟩ = some (.slice ao n c) := by rw [← hW]; simp [go_sem]
  have cr : W.cell? ⟨w.heap.size + 1, 0, none⟩ = some (.slice none 0 0) := by rw [← hW]; simp [go_sem]
  have fr : W.frozen? ⟨w.heap.size + 1, 0, none⟩ = false := by rw [← hW]; simp [go_sem]
  have BW : Below w.heap.size w W := by rw [← hW]; exact ba (ba (Below.refl _ _) _) _
  have sW : W.heap.size = w.heap.size + 1 + 1 := by rw [← hW]; simp
  have HSW : Hid (W.heap.size = w.heap.size + 1 + 1) := sW
  rw [hW]
  clear hW sW
  have e0 := Below.cellOf (B := W.heap.size) (World.block_lt_of_cell? _ _ cb) cb
  refine wp_puts (α := Nat × Option Addr × Nat) (fun x => [(19, .agg #[.slice ao n c]), (20, .slice bo m bc), (21, .int .i64 (k : Int)), (22, .slice bo k bc), (23, .tuple #[.agg #[.slice x.2.1 L.length x.2.2], .int .i64 (z : Int)]), (18, .tuple #[.agg #[.slice x.2.1 L.length x.2.2], .int .i64 (z : Int)]), (24, .agg #[.slice x.2.1 L.length x.2.2]), (25, .int .i64 (z : Int)), (10, .pointer (some ⟨x.1, 0, none⟩)), (11, .int .i64 (z : Int))]) (fun x w' => NewRow W w' 36 x.1 (.slice x.2.1 L.length x.2.2) L) ?_ ?_
  · go_region_held3 (fun w' => Below W.heap.size W w') ((first | exact (Below.refl _ _).drew | exact (keep_on hb3 (by assumption) (Nat.le_refl _)) | exact (Below.alloc (by assumption) (Below.size (by assumption)) _) | exact (Below.alloc hS3 hS3.size _) | exact (Below.setCell hS3 (Nat.le_refl _) _))) ((go_at_call 23; refine (CD.out _ _ _ (HR.out.below (BW.trans (Below.mono (B := W.heap.size) (by assumption) BW.size))) (HA.out.below (BW.trans (Below.mono (B := W.heap.size) (by assumption) BW.size)))).mono ?_; rintro e w3' ⟨v3', rfl, ho3, hb3⟩; have hS3 := keep_on (B := W.heap.size) (W := W) hb3 (by assumption) (Nat.le_refl _); obtain ⟨a3', d3', rfl⟩ := ho3.slice; first | (have hcx : w3'.cell? ⟨W.heap.size, 0, none⟩ = some (.slice none 0 0) := cell_new (w := W.drew) hb3; have hfx : w3'.frozen? ⟨W.heap.size, 0, none⟩ = false := frozen_new (w := W.drew) hb3) | skip))
    all_goals first | refine ⟨rfl, ⟨_, a3', d3'⟩, ?_, newRow_b (W := W.drew) (Below.refl _ _).drew ho3 hb3⟩ | refine ⟨rfl, ⟨_, a3', d3'⟩, ?_, newRow_m (W := W.drew) (Below.refl _ _).drew ho3 hb3⟩
    all_goals kernel_rfl
  clear e0
  rintro ⟨X2, a2, d2⟩ w2 hN
  simp only [putAll]
  dsimp only at hN
  have cr2 := cell_up hN.below cr
  have fr2 := frozen_up hN.below cr fr
  have B2 : Below w.heap.size w w2 := BW.trans (hN.below.mono BW.size)
  have hO := hN.own
  have cX := hN.cellAt
  have HW2 : Hid (W.heap.size ≤ w2.heap.size) := hN.below.size
  clear hN cr fr cb
  by_cases hzk2 : z < k
  · have hne : ¬ z = k := by omega
    go_wp2_with fail
    refine bodyPost_ret (ret_disk2 rfl rfl rfl (World.cell?_setCell_same' _ _ _ (by simp [cr2]))) rfl ?_
    exact ⟨.slice none 0 0, by first | rfl | (rw [decide_eq_false hne, Bool.false_and]; rfl), by first | exact ownsR_nil _ _ _ | (rw [if_neg hne]; exact ownsR_nil _ _ _), B2.setCell (p := ⟨w.heap.size + 1, 0, none⟩) (by simp) _⟩
  · have heq : z = k := by omega
    have HQ : Hid (z = k) := heq
    clear heq
    go_wp2_with (go_at_call 42; refine (specLose_any hO.reads (HF.out.below B2) HLL.out HZZ.out).mono ?_; rintro e w3 ⟨v3, rfl, ho3, hb3⟩; obtain ⟨a3, d3, rfl⟩ := ho3.slice; have cr3 := cell_up hb3 cr2; have fr3 := frozen_up hb3 cr2 fr2)
    refine bodyPost_ret (ret_disk2 rfl rfl rfl (World.cell?_setCell_same' _ _ _ (by simp [cr3]))) rfl ?_
    refine ⟨.slice a3 (loseO L left).length d3, by first | rfl | (rw [decide_eq_true HQ.out, Bool.true_and]; rfl), ?_, (B2.trans (hb3.mono B2.size)).setCell (p := ⟨w.heap.size + 1, 0, none⟩) (by simp) _⟩
    try rw [if_pos HQ.out]
    exact (ho3.setBelow (by show w.heap.size + 1 < _; have := HW2.out; have := HSW.out; omega) _).mono B2.size

end Go.Proofs.Ytekflgecfcjjiaa

namespace Go.Proofs.Ytekflgecfcjjiaa
open Go Go.RowKit Go.ChangeShapes Go.WideShapes

theorem open_intS {H : Type} {enc : TypeId × Value → H} {W : World} {v : Value} {d : DataW H} {p : List MemPlace} (hv : ∃ a len cap, v = .slice a len cap) (h : DataW.Trod enc Try.prog W 0 (fun _ => true) true 28 v d p) :
    ∃ a len cap, ∃ l : List Int, v = .slice a len cap ∧ Reads W (.slice a len cap) l ∧ True ∧ len ≤ 9223372036854775807 := by
  obtain ⟨a, len, cap, rfl⟩ := hv
  obtain ⟨fuel, hf⟩ := h
  obtain ⟨l, hr, _, hm⟩ := open_rows (fun _ : Int => True) Try.underlying28 cells3 (fun n cs y h => by
    obtain ⟨k, rfl, _, _⟩ := DataW.trod_int Try.underlying3 h
    exact ⟨k, rfl, trivial⟩) hf
  exact ⟨a, len, cap, l, rfl, hr, trivial, hm⟩
end Go.Proofs.Ytekflgecfcjjiaa

namespace Go.Proofs.Ytekflgecfcjjiaa
open Go Go.RowKit

theorem ownsR.cap {α : Type} [Rec α] {w : World} {B : Nat} {e : TypeId} {v : Value} {l : List α} (h : ownsR w B e v l) : ∃ a c, v = .slice a l.length c ∧ l.length ≤ c := by
  rcases h.2 with ⟨rfl, h0⟩ | ⟨g, cap, cur, rfl, _, _, hc, _⟩
  · exact ⟨none, 0, by rw [h0], by omega⟩
  · exact ⟨_, _, rfl, hc⟩
def cutB (l : List Fl) (acts : List Ac) (wh : Int) : Bool := if 0 ≤ wh ∧ wh ≤ acts.length then cutOk l acts wh.toNat else false
def cutA (l : List Fl) (acts : List Ac) (wh : Int) (left : List Int) : List Fl := if 0 ≤ wh ∧ wh ≤ acts.length then cutL l acts wh.toNat left else []
theorem cutA_len (l : List Fl) (acts : List Ac) (wh : Int) (left : List Int) (h : l.length ≤ 1048576) : (cutA l acts wh left).length ≤ 1048576 := by
  unfold cutA cutL
  split
  · split
    · exact Nat.le_trans (loseO_length _ _) (endsOf_len l _ h)
    · simp
  · simp
theorem cutActs_is (l : List Fl) (acts : List Ac) (wh : Int) (left : List Int) (w : World) (B : Nat) (v vi vl : Value) (hr : Reads w v l) (ha : ownsR w B 45 vi acts) (hl : Reads w vl left) (hn : l.length ≤ 1048576) (hm : acts.length ≤ 1048576) (hz : Sized l) (hs : SizedA acts) :
    Calls Try.prog 26 #[.agg #[v], vi, .int .i64 wh, vl] w fun e w' => ∃ v', e = .returned (.tuple #[.agg #[v'], .bool (cutB l acts wh)]) ∧ ownsR w' w.heap.size 36 v' (cutA l acts wh left) ∧ Below w.heap.size w w' := by
  have hra := ha.reads
  obtain ⟨ao, c, rfl, _⟩ := id hr
  obtain ⟨bo, d, rfl, hcap⟩ := ha.cap
  obtain ⟨lo, lc, rfl, _⟩ := id hl
  unfold cutB cutA
  by_cases h : 0 ≤ wh ∧ wh ≤ acts.length
  · rw [if_pos h, if_pos h]
    have := cutActs_in ao bo lo _ c _ d _ lc wh.toNat l acts left w hr hra hl hn hm hz hs (by omega) hcap
    rw [Int.toNat_of_nonneg h.1] at this
    exact this
  · rw [if_neg h, if_neg h]
    exact cutActs_bad ao bo lo _ c _ d _ lc wh w hm (by omega)
theorem specCut_is (l : List Fl) (acts : List Ac) (wh : Int) (left : List Int) (w : World) (B : Nat) (v vi vl : Value) (hr : Reads w v l) (ha : ownsR w B 45 vi acts) (hl : Reads w vl left) (hn : l.length ≤ 1048576) (hm : acts.length ≤ 1048576) (hz : Sized l) (hs : SizedA acts) :
    Calls Try.prog 27 #[.agg #[v], vi, .int .i64 wh, vl] w fun e w' => ∃ v', e = .returned (.tuple #[.agg #[v'], .bool (cutB l acts wh)]) ∧ ownsR w' w.heap.size 36 v' (cutA l acts wh left) ∧ Below w.heap.size w w' := by
  have hra := ha.reads
  obtain ⟨ao, c, rfl, _⟩ := id hr
  obtain ⟨bo, d, rfl, hcap⟩ := ha.cap
  obtain ⟨lo, lc, rfl, _⟩ := id hl
  unfold cutB cutA
  by_cases h : 0 ≤ wh ∧ wh ≤ acts.length
  · rw [if_pos h, if_pos h]
    have := specCut_in ao bo lo _ c _ d _ lc wh.toNat l acts left w hr hra hl hn hm hz hs (by omega) hcap
    rw [Int.toNat_of_nonneg h.1] at this
    exact this
  · rw [if_neg h, if_neg h]
    exact specCut_bad ao bo lo _ c _ d _ lc wh w hm (by omega)

set_option maxRecDepth 10000 in
set_option maxHeartbeats 4000000 in
theorem law_CutActs (ao : Option Addr) (n cap : Nat) (l : List Fl) (bo : Option Addr) (m bc : Nat) (acts : List Ac) (wh : Int) (lo : Option Addr) (ln lc : Nat) (left : List Int) (w : World) (hr : Reads w (.slice ao n cap) l) (hs : Small l) (hn : n ≤ 9223372036854775807) (ha : Reads w (.slice bo m bc) acts) (hsa : SmallAc acts) (hm : m ≤ 9223372036854775807) (hl : Reads w (.slice lo ln lc) left) :
    Calls Try.prog 10 #[.agg #[.slice ao n cap], .slice bo m bc, .int .i64 wh, .slice lo ln lc] w fun e w' => e = .returned (.bool true) ∧ Below w.heap.size w w' := by
  have HR : Hid (Reads w (.slice ao n cap) l) := hr
  have HA : Hid (Reads w (.slice bo m bc) acts) := ha
  have HI : Hid (Reads w (.slice lo ln lc) left) := hl
  have HN : Hid (n = l.length) := hr.len
  have HM : Hid (m = acts.length) := ha.len
  have HJ : Hid (ln = left.length) := hl.len
  have HS : Hid (Small l) := hs
  have HSA : Hid (SmallAc acts) := hsa
  clear hr hs ha hsa hl
  by_cases hlong : (1048576 : Int) < (ln : Int)
  · go_enter Try.func10, Try.ntmps10
    go_wp2
    go_ret
    exact ⟨rfl, ba (Below.refl _ _) _⟩
  go_enter Try.func10, Try.ntmps10
  go_wp2_with fail
  refine (szDisk_any _ l _ _ (HR.out.alloc _) HS.out (by decide) (by decide) (by rw [← HN.out]; exact hn)).mono ?_
  rintro e wz ⟨r, rfl, hr, hbz⟩
  have BZ : Below w.heap.size w wz := (ba (Below.refl _ _) _).trans (hbz.mono (by simp))
  rcases hr with rfl | ⟨hr0, hr1⟩
  · go_wp2
    go_ret
    exact ⟨rfl, BZ⟩
  · have hr9 : r ≤ 1048576 := by omega
    have HL : Hid (l.length ≤ 1048576) := by show l.length ≤ 1048576; omega
    have HZ : Hid (Sized l) := fun f hf => by have := sizeL_mem hf; omega
    have ca : wz.cell? ⟨w.heap.size, 0, none⟩ = some (.slice ao n cap) := (hbz.cell (by simp)).trans (by simp [go_sem])
    clear hbz hr1
    go_wp2_with fail
    refine (szActS_any bo m bc acts r _ (HA.out.below BZ) HSA.out hr9 hr0 hm).mono ?_
    rintro e w0 ⟨r2, rfl, hr2, hb0⟩
    rcases hr2 with rfl | ⟨hr20, hr21⟩
    · go_wp2
      go_ret
      exact ⟨rfl, BZ.trans (hb0.mono BZ.size)⟩
    · have hm9 : m ≤ 1048576 := by omega
      have HK : Hid (acts.length ≤ 1048576) := by show acts.length ≤ 1048576; rw [← HM.out]; exact hm9
      have HJK : Hid (left.length ≤ 1048576) := by show left.length ≤ 1048576; rw [← HJ.out]; omega
      have HSZ : Hid (SizedA acts) := sizedA_of (by omega)
      have CS : Hid (∀ (w : World) (B : Nat) (v vi vl : Value), Reads w v l → ownsR w B 45 vi acts → Reads w vl left → Calls Try.prog 27 #[.agg #[v], vi, .int .i64 wh, vl] w fun e w' => ∃ v', e = .returned (.tuple #[.agg #[v'], .bool (cutB l acts wh)]) ∧ ownsR w' w.heap.size 36 v' (cutA l acts wh left) ∧ Below w.heap.size w w') := fun w B v vi vl h1 h2 h3 => specCut_is l acts wh left w B v vi vl h1 h2 h3 HL.out HK.out HZ.out HSZ.out
      have CI : Hid (∀ (w : World) (B : Nat) (v vi vl : Value), Reads w v l → ownsR w B 45 vi acts → Reads w vl left → Calls Try.prog 26 #[.agg #[v], vi, .int .i64 wh, vl] w fun e w' => ∃ v', e = .returned (.tuple #[.agg #[v'], .bool (cutB l acts wh)]) ∧ ownsR w' w.heap.size 36 v' (cutA l acts wh left) ∧ Below w.heap.size w w') := fun w B v vi vl h1 h2 h3 => cutActs_is l acts wh left w B v vi vl h1 h2 h3 HL.out HK.out HZ.out HSZ.out
      have HO : Hid ((cutA l acts wh left).length ≤ 1048576) := cutA_len l acts wh left HL.out
      have c_a_0 := cell_up hb0 ca
      have B0 : Below w.heap.size w w0 := BZ.trans (hb0.mono BZ.size)
      clear hb0 ca hr21 hr0 hr9 BZ hm9
      generalize cutA l acts wh left = L at *
      generalize cutB l acts wh = z at *
      go_wp2_with fail
      refine (toDisk_any _ l _ (HR.out.below B0) HL.out).mono ?_
      rintro e w1 ⟨v1, rfl, ho1, hb1⟩
      obtain ⟨a1, d1, rfl⟩ := ho1.slice
      have ac_a_d1 := cell_apart c_a_0 ho1
      have c_a_1 := cell_up hb1 c_a_0
      have B1 : Below w.heap.size w w1 := B0.trans (hb1.mono B0.size)
      have O_d1_1 : Hid (ownsR w1 w.heap.size 36 (.slice a1 (l.length) d1) (l)) := ho1.mono (B0.size)
      clear c_a_0 B0 hb1 ho1
      go_wp2_with fail
      refine (toActS_any bo m bc acts _ (HA.out.below B1) (by have := HK.out; rw [HM.out]; exact this)).mono ?_
      rintro e w2 ⟨v2, rfl, ho2, hb2⟩
      obtain ⟨a2, d2, rfl⟩ := ho2.slice
      have ap_d1_i1 := apart_new O_d1_1.out ho2
      have ap_i1_d1 := apart_old O_d1_1.out ho2
      have ac_a_i1 := cell_apart c_a_1 ho2
      have c_a_2 := cell_up hb2 c_a_1
      have O_d1_2 : Hid (ownsR w2 w.heap.size 36 (.slice a1 (l.length) d1) (l)) := O_d1_1.out.all hb2
      have B2 : Below w.heap.size w w2 := B1.trans (hb2.mono B1.size)
      have O_i1_2 : Hid (ownsR w2 w.heap.size 45 (.slice a2 (acts.length) d2) (acts)) := ho2.mono (B1.size)
      clear c_a_1 O_d1_1 B1 hb2 ho2
      go_wp2_with fail
      refine (toIntS_any lo ln lc left _ (HI.out.below B2) (by have := HJK.out; rw [HJ.out]; exact this)).mono ?_
      rintro e w3 ⟨v3, rfl, ho3, hb3⟩
      obtain ⟨a3, d3, rfl⟩ := ho3.slice
      have ap_d1_j1 := apart_new O_d1_2.out ho3
      have ap_j1_d1 := apart_old O_d1_2.out ho3
      have ap_i1_j1 := apart_new O_i1_2.out ho3
      have ap_j1_i1 := apart_old O_i1_2.out ho3
      have ac_a_j1 := cell_apart c_a_2 ho3
      have c_a_3 := cell_up hb3 c_a_2
      have O_d1_3 : Hid (ownsR w3 w.heap.size 36 (.slice a1 (l.length) d1) (l)) := O_d1_2.out.all hb3
      have O_i1_3 : Hid (ownsR w3 w.heap.size 45 (.slice a2 (acts.length) d2) (acts)) := O_i1_2.out.all hb3
      have B3 : Below w.heap.size w w3 := B2.trans (hb3.mono B2.size)
      have O_j1_3 : Hid (ownsR w3 w.heap.size 3 (.slice a3 (left.length) d3) (left)) := ho3.mono (B2.size)
      clear c_a_2 O_d1_2 O_i1_2 B2 hb3 ho3
      go_wp2_with fail
      refine (CS.out _ _ _ _ _ (ownsR.reads O_d1_3.out) O_i1_3.out (ownsR.reads O_j1_3.out)).mono ?_
      rintro e w4 ⟨v4, rfl, ho4, hb4⟩
      obtain ⟨a4, d4, rfl⟩ := ho4.slice
      have ap_d1_w := apart_new O_d1_3.out ho4
      have ap_w_d1 := apart_old O_d1_3.out ho4
      have ap_i1_w := apart_new O_i1_3.out ho4
      have ap_w_i1 := apart_old O_i1_3.out ho4
      have ap_j1_w := apart_new O_j1_3.out ho4
      have ap_w_j1 := apart_old O_j1_3.out ho4
      have ac_a_w := cell_apart c_a_3 ho4
      have c_a_4 := cell_up hb4 c_a_3
      have O_d1_4 : Hid (ownsR w4 w.heap.size 36 (.slice a1 (l.length) d1) (l)) := O_d1_3.out.all hb4
      have O_i1_4 : Hid (ownsR w4 w.heap.size 45 (.slice a2 (acts.length) d2) (acts)) := O_i1_3.out.all hb4
      have O_j1_4 : Hid (ownsR w4 w.heap.size 3 (.slice a3 (left.length) d3) (left)) := O_j1_3.out.all hb4
      have B4 : Below w.heap.size w w4 := B3.trans (hb4.mono B3.size)
      have O_w_4 : Hid (ownsR w4 w.heap.size 36 (.slice a4 (L.length) d4) (L)) := ho4.mono (B3.size)
      clear c_a_3 O_d1_3 O_i1_3 O_j1_3 B3 hb4 ho4
      have sz_a : w.heap.size < w4.heap.size := World.block_lt_of_cell? _ _ c_a_4
      go_wp2_with fail
      refine (toDisk_any _ l _ ((HR.out.below B4).alloc _) HL.out).mono ?_
      rintro e w5 ⟨v5, rfl, ho5, hb5⟩
      obtain ⟨a5, d5, rfl⟩ := ho5.slice
      have ap_w_x := apart_new (O_w_4.out.alloc _) ho5
      have ap_x_w := apart_old (O_w_4.out.alloc _) ho5
      have ac_a_x := cell_apart (cell_up (ba (Below.refl _ w4) _) c_a_4) ho5
      have ac_cw_x := cell_apart (p := ⟨w4.heap.size, 0, none⟩) (u := .slice a4 (L.length) d4) (w := w4.alloc (Obj.cells #[.slice a4 (L.length) d4] 26)) (by simp [go_sem]) ho5
      have c_cw_5 := cell_new hb5
      have ac_cw_w := cell_apart_new O_w_4.out
      have hb5 := below_new hb5
      have c_a_5 := cell_up hb5 c_a_4
      have O_w_5 : Hid (ownsR w5 w.heap.size 36 (.slice a4 (L.length) d4) (L)) := O_w_4.out.all hb5
      have B5 : Below w.heap.size w w5 := B4.trans (hb5.mono B4.size)
      have O_x_5 : Hid (ownsR w5 w.heap.size 36 (.slice a5 (l.length) d5) (l)) := ho5.mono (by have := B4.size; simp; omega)
      clear c_a_4 sz_a O_w_4 B4 hb5 ho5
      have sz_a : w.heap.size < w5.heap.size := World.block_lt_of_cell? _ _ c_a_5
      have sz_cw : w4.heap.size < w5.heap.size := World.block_lt_of_cell? _ _ c_cw_5
      go_wp2_with fail
      refine (toActS_any bo m bc acts _ ((HA.out.below B5).alloc _) (by have := HK.out; rw [HM.out]; exact this)).mono ?_
      rintro e w6 ⟨v6, rfl, ho6, hb6⟩
      obtain ⟨a6, d6, rfl⟩ := ho6.slice
      have ap_w_i := apart_new (O_w_5.out.alloc _) ho6
      have ap_i_w := apart_old (O_w_5.out.alloc _) ho6
      have ap_x_i := apart_new (O_x_5.out.alloc _) ho6
      have ap_i_x := apart_old (O_x_5.out.alloc _) ho6
      have ac_a_i := cell_apart (cell_up (ba (Below.refl _ w5) _) c_a_5) ho6
      have ac_cw_i := cell_apart (cell_up (ba (Below.refl _ w5) _) c_cw_5) ho6
      have ac_cx_i := cell_apart (p := ⟨w5.heap.size, 0, none⟩) (u := .slice a5 (l.length) d5) (w := w5.alloc (Obj.cells #[.slice a5 (l.length) d5] 26)) (by simp [go_sem]) ho6
      have c_cx_6 := cell_new hb6
      have ac_cx_w := cell_apart_new O_w_5.out
      have ac_cx_x := cell_apart_new O_x_5.out
      have hb6 := below_new hb6
      have c_a_6 := cell_up hb6 c_a_5
      have c_cw_6 := cell_up hb6 c_cw_5
      have O_w_6 : Hid (ownsR w6 w.heap.size 36 (.slice a4 (L.length) d4) (L)) := O_w_5.out.all hb6
      have O_x_6 : Hid (ownsR w6 w.heap.size 36 (.slice a5 (l.length) d5) (l)) := O_x_5.out.all hb6
      have B6 : Below w.heap.size w w6 := B5.trans (hb6.mono B5.size)
      have O_i_6 : Hid (ownsR w6 w.heap.size 45 (.slice a6 (acts.length) d6) (acts)) := ho6.mono (by have := B5.size; simp; omega)
      clear c_a_5 c_cw_5 sz_a sz_cw O_w_5 O_x_5 B5 hb6 ho6
      go_wp2_with fail
      refine (toIntS_any lo ln lc left _ (HI.out.below B6) (by have := HJK.out; rw [HJ.out]; exact this)).mono ?_
      rintro e w7 ⟨v7, rfl, ho7, hb7⟩
      obtain ⟨a7, d7, rfl⟩ := ho7.slice
      have ap_w_j := apart_new O_w_6.out ho7
      have ap_j_w := apart_old O_w_6.out ho7
      have ap_x_j := apart_new O_x_6.out ho7
      have ap_j_x := apart_old O_x_6.out ho7
      have ap_i_j := apart_new O_i_6.out ho7
      have ap_j_i := apart_old O_i_6.out ho7
      have ac_a_j := cell_apart c_a_6 ho7
      have ac_cw_j := cell_apart c_cw_6 ho7
      have ac_cx_j := cell_apart c_cx_6 ho7
      have c_a_7 := cell_up hb7 c_a_6
      have c_cw_7 := cell_up hb7 c_cw_6
      have c_cx_7 := cell_up hb7 c_cx_6
      have O_w_7 : Hid (ownsR w7 w.heap.size 36 (.slice a4 (L.length) d4) (L)) := O_w_6.out.all hb7
      have O_x_7 : Hid (ownsR w7 w.heap.size 36 (.slice a5 (l.length) d5) (l)) := O_x_6.out.all hb7
      have O_i_7 : Hid (ownsR w7 w.heap.size 45 (.slice a6 (acts.length) d6) (acts)) := O_i_6.out.all hb7
      have B7 : Below w.heap.size w w7 := B6.trans (hb7.mono B6.size)
      have O_j_7 : Hid (ownsR w7 w.heap.size 3 (.slice a7 (left.length) d7) (left)) := ho7.mono (B6.size)
      clear c_a_6 c_cw_6 c_cx_6 O_w_6 O_x_6 O_i_6 B6 hb7 ho7
      go_wp2_with fail
      refine (CI.out _ _ _ _ _ (ownsR.reads O_x_7.out) O_i_7.out (ownsR.reads O_j_7.out)).mono ?_
      rintro e w8 ⟨v8, rfl, ho8, hb8⟩
      obtain ⟨a8, d8, rfl⟩ := ho8.slice
      have ap_w_g := apart_new O_w_7.out ho8
      have ap_g_w := apart_old O_w_7.out ho8
      have ap_x_g := apart_new O_x_7.out ho8
      have ap_g_x := apart_old O_x_7.out ho8
      have ap_i_g := apart_new O_i_7.out ho8
      have ap_g_i := apart_old O_i_7.out ho8
      have ap_j_g := apart_new O_j_7.out ho8
      have ap_g_j := apart_old O_j_7.out ho8
      have ac_a_g := cell_apart c_a_7 ho8
      have ac_cw_g := cell_apart c_cw_7 ho8
      have ac_cx_g := cell_apart c_cx_7 ho8
      have c_a_8 := cell_up hb8 c_a_7
      have c_cw_8 := cell_up hb8 c_cw_7
      have c_cx_8 := cell_up hb8 c_cx_7
      have O_w_8 : Hid (ownsR w8 w.heap.size 36 (.slice a4 (L.length) d4) (L)) := O_w_7.out.all hb8
      have O_x_8 : Hid (ownsR w8 w.heap.size 36 (.slice a5 (l.length) d5) (l)) := O_x_7.out.all hb8
      have O_i_8 : Hid (ownsR w8 w.heap.size 45 (.slice a6 (acts.length) d6) (acts)) := O_i_7.out.all hb8
      have O_j_8 : Hid (ownsR w8 w.heap.size 3 (.slice a7 (left.length) d7) (left)) := O_j_7.out.all hb8
      have B8 : Below w.heap.size w w8 := B7.trans (hb8.mono B7.size)
      have O_g_8 : Hid (ownsR w8 w.heap.size 36 (.slice a8 (L.length) d8) (L)) := ho8.mono (B7.size)
      clear c_a_7 c_cw_7 c_cx_7 O_w_7 O_x_7 O_i_7 O_j_7 B7 hb8 ho8
      have sz_a : w.heap.size < w8.heap.size := World.block_lt_of_cell? _ _ c_a_8
      have sz_cw : w4.heap.size < w8.heap.size := World.block_lt_of_cell? _ _ c_cw_8
      have sz_cx : w5.heap.size < w8.heap.size := World.block_lt_of_cell? _ _ c_cx_8
      go_wp2_with fail
      refine (eqDisk_any _ _ L _ (ownsR.reads (O_g_8.out.alloc _)) (ownsR.reads (O_w_8.out.alloc _)) (Nat.le_trans HO.out (by decide))).mono ?_
      rintro e w9 ⟨rfl, hb9⟩
      have c_cg_9 := cell_new hb9
      have ac_cg_w := cell_apart_new O_w_8.out
      have ac_cg_x := cell_apart_new O_x_8.out
      have ac_cg_i := cell_apart_new O_i_8.out
      have ac_cg_j := cell_apart_new O_j_8.out
      have ac_cg_g := cell_apart_new O_g_8.out
      have hb9 := below_new hb9
      have c_a_9 := cell_up hb9 c_a_8
      have c_cw_9 := cell_up hb9 c_cw_8
      have c_cx_9 := cell_up hb9 c_cx_8
      have O_w_9 : Hid (ownsR w9 w.heap.size 36 (.slice a4 (L.length) d4) (L)) := O_w_8.out.all hb9
      have O_x_9 : Hid (ownsR w9 w.heap.size 36 (.slice a5 (l.length) d5) (l)) := O_x_8.out.all hb9
      have O_i_9 : Hid (ownsR w9 w.heap.size 45 (.slice a6 (acts.length) d6) (acts)) := O_i_8.out.all hb9
      have O_j_9 : Hid (ownsR w9 w.heap.size 3 (.slice a7 (left.length) d7) (left)) := O_j_8.out.all hb9
      have O_g_9 : Hid (ownsR w9 w.heap.size 36 (.slice a8 (L.length) d8) (L)) := O_g_8.out.all hb9
      have B9 : Below w.heap.size w w9 := B8.trans (hb9.mono B8.size)
      clear c_a_8 c_cw_8 c_cx_8 sz_a sz_cw sz_cx O_w_8 O_x_8 O_i_8 O_j_8 O_g_8 B8 hb9
      go_wp2
      go_region_held3 (fun w' => w'.cell? ⟨w.heap.size, 0, none⟩ = some (.slice ao n cap) ∧ w'.cell? ⟨w5.heap.size, 0, none⟩ = some (.slice a5 (l.length) d5)) ((first | exact ⟨c_a_9, c_cx_9⟩ | exact ⟨cell_up (w := w9.drew) hb10 c_a_9, cell_up (w := w9.drew) hb10 c_cx_9⟩ | exact ⟨cell_up hb11 cc1, cell_up hb11 cc2⟩)) ((first | (go_at_call 30; refine (toDisk_any _ l _ (HR.out.below B9).drew HL.out).mono ?_; rintro e w10 ⟨v10, rfl, ho10, hb10⟩; obtain ⟨a10, d10, rfl⟩ := ho10.slice; have cc1 := cell_up (w := w9.drew) hb10 c_a_9; have cc2 := cell_up (w := w9.drew) hb10 c_cx_9) | (go_at_call 31; refine (eqDisk_any _ _ l _ ((ownsR.reads O_x_9.out).drew.below hb10) ho10.reads (Nat.le_trans HL.out (by decide))).mono ?_; rintro e w11 ⟨rfl, hb11⟩)))
      have hb11 : Below w9.heap.size w9 w11 := ((Below.refl _ w9).drew.trans hb10).trans (hb11.mono hb10.size)
      clear ho10 hb10 cc1 cc2
      have c_a_11 := cell_up hb11 c_a_9
      have c_cw_11 := cell_up hb11 c_cw_9
      have c_cx_11 := cell_up hb11 c_cx_9
      have c_cg_11 := cell_up hb11 c_cg_9
      have O_w_11 : Hid (ownsR w11 w.heap.size 36 (.slice a4 (L.length) d4) (L)) := O_w_9.out.all hb11
      have O_x_11 : Hid (ownsR w11 w.heap.size 36 (.slice a5 (l.length) d5) (l)) := O_x_9.out.all hb11
      have O_i_11 : Hid (ownsR w11 w.heap.size 45 (.slice a6 (acts.length) d6) (acts)) := O_i_9.out.all hb11
      have O_j_11 : Hid (ownsR w11 w.heap.size 3 (.slice a7 (left.length) d7) (left)) := O_j_9.out.all hb11
      have O_g_11 : Hid (ownsR w11 w.heap.size 36 (.slice a8 (L.length) d8) (L)) := O_g_9.out.all hb11
      have B11 : Below w.heap.size w w11 := B9.trans (hb11.mono B9.size)
      clear c_a_9 c_cw_9 c_cx_9 c_cg_9 O_w_9 O_x_9 O_i_9 O_j_9 O_g_9 B9 hb11
      go_wp2_with fail
      refine (toActS_any bo m bc acts _ (HA.out.below B11) (by have := HK.out; rw [HM.out]; exact this)).mono ?_
      rintro e w12 ⟨v12, rfl, ho12, hb12⟩
      obtain ⟨a12, d12, rfl⟩ := ho12.slice
      have ap_w_i2 := apart_new O_w_11.out ho12
      have ap_i2_w := apart_old O_w_11.out ho12
      have ap_x_i2 := apart_new O_x_11.out ho12
      have ap_i2_x := apart_old O_x_11.out ho12
      have ap_i_i2 := apart_new O_i_11.out ho12
      have ap_i2_i := apart_old O_i_11.out ho12
      have ap_j_i2 := apart_new O_j_11.out ho12
      have ap_i2_j := apart_old O_j_11.out ho12
      have ap_g_i2 := apart_new O_g_11.out ho12
      have ap_i2_g := apart_old O_g_11.out ho12
      have ac_a_i2 := cell_apart c_a_11 ho12
      have ac_cw_i2 := cell_apart c_cw_11 ho12
      have ac_cx_i2 := cell_apart c_cx_11 ho12
      have ac_cg_i2 := cell_apart c_cg_11 ho12
      have c_a_12 := cell_up hb12 c_a_11
      have c_cw_12 := cell_up hb12 c_cw_11
      have c_cx_12 := cell_up hb12 c_cx_11
      have c_cg_12 := cell_up hb12 c_cg_11
      have O_w_12 : Hid (ownsR w12 w.heap.size 36 (.slice a4 (L.length) d4) (L)) := O_w_11.out.all hb12
      have O_x_12 : Hid (ownsR w12 w.heap.size 36 (.slice a5 (l.length) d5) (l)) := O_x_11.out.all hb12
      have O_i_12 : Hid (ownsR w12 w.heap.size 45 (.slice a6 (acts.length) d6) (acts)) := O_i_11.out.all hb12
      have O_j_12 : Hid (ownsR w12 w.heap.size 3 (.slice a7 (left.length) d7) (left)) := O_j_11.out.all hb12
      have O_g_12 : Hid (ownsR w12 w.heap.size 36 (.slice a8 (L.length) d8) (L)) := O_g_11.out.all hb12
      have B12 : Below w.heap.size w w12 := B11.trans (hb12.mono B11.size)
      have O_i2_12 : Hid (ownsR w12 w.heap.size 45 (.slice a12 (acts.length) d12) (acts)) := ho12.mono (B11.size)
      clear c_a_11 c_cw_11 c_cx_11 c_cg_11 O_w_11 O_x_11 O_i_11 O_j_11 O_g_11 B11 hb12 ho12
      go_wp2_with fail
      refine (eqActS_any _ _ _ _ _ acts _ (ownsR.reads O_i_12.out) (ownsR.reads O_i2_12.out) (Nat.le_trans HK.out (by decide))).mono ?_
      rintro e w13 ⟨rfl, hb13⟩
      have c_a_13 := cell_up hb13 c_a_12
      have c_cw_13 := cell_up hb13 c_cw_12
      have c_cx_13 := cell_up hb13 c_cx_12
      have c_cg_13 := cell_up hb13 c_cg_12
      have O_w_13 : Hid (ownsR w13 w.heap.size 36 (.slice a4 (L.length) d4) (L)) := O_w_12.out.all hb13
      have O_x_13 : Hid (ownsR w13 w.heap.size 36 (.slice a5 (l.length) d5) (l)) := O_x_12.out.all hb13
      have O_i_13 : Hid (ownsR w13 w.heap.size 45 (.slice a6 (acts.length) d6) (acts)) := O_i_12.out.all hb13
      have O_j_13 : Hid (ownsR w13 w.heap.size 3 (.slice a7 (left.length) d7) (left)) := O_j_12.out.all hb13
      have O_g_13 : Hid (ownsR w13 w.heap.size 36 (.slice a8 (L.length) d8) (L)) := O_g_12.out.all hb13
      have O_i2_13 : Hid (ownsR w13 w.heap.size 45 (.slice a12 (acts.length) d12) (acts)) := O_i2_12.out.all hb13
      have B13 : Below w.heap.size w w13 := B12.trans (hb13.mono B12.size)
      clear c_a_12 c_cw_12 c_cx_12 c_cg_12 O_w_12 O_x_12 O_i_12 O_j_12 O_g_12 O_i2_12 B12 hb13
      go_wp2_with fail
      refine (toIntS_any lo ln lc left _ (HI.out.below B13) (by have := HJK.out; rw [HJ.out]; exact this)).mono ?_
      rintro e w14 ⟨v14, rfl, ho14, hb14⟩
      obtain ⟨a14, d14, rfl⟩ := ho14.slice
      have ap_w_j2 := apart_new O_w_13.out ho14
      have ap_j2_w := apart_old O_w_13.out ho14
      have ap_x_j2 := apart_new O_x_13.out ho14
      have ap_j2_x := apart_old O_x_13.out ho14
      have ap_i_j2 := apart_new O_i_13.out ho14
      have ap_j2_i := apart_old O_i_13.out ho14
      have ap_j_j2 := apart_new O_j_13.out ho14
      have ap_j2_j := apart_old O_j_13.out ho14
      have ap_g_j2 := apart_new O_g_13.out ho14
      have ap_j2_g := apart_old O_g_13.out ho14
      have ac_a_j2 := cell_apart c_a_13 ho14
      have ac_cw_j2 := cell_apart c_cw_13 ho14
      have ac_cx_j2 := cell_apart c_cx_13 ho14
      have ac_cg_j2 := cell_apart c_cg_13 ho14
      have c_a_14 := cell_up hb14 c_a_13
      have c_cw_14 := cell_up hb14 c_cw_13
      have c_cx_14 := cell_up hb14 c_cx_13
      have c_cg_14 := cell_up hb14 c_cg_13
      have O_w_14 : Hid (ownsR w14 w.heap.size 36 (.slice a4 (L.length) d4) (L)) := O_w_13.out.all hb14
      have O_x_14 : Hid (ownsR w14 w.heap.size 36 (.slice a5 (l.length) d5) (l)) := O_x_13.out.all hb14
      have O_i_14 : Hid (ownsR w14 w.heap.size 45 (.slice a6 (acts.length) d6) (acts)) := O_i_13.out.all hb14
      have O_j_14 : Hid (ownsR w14 w.heap.size 3 (.slice a7 (left.length) d7) (left)) := O_j_13.out.all hb14
      have O_g_14 : Hid (ownsR w14 w.heap.size 36 (.slice a8 (L.length) d8) (L)) := O_g_13.out.all hb14
      have B14 : Below w.heap.size w w14 := B13.trans (hb14.mono B13.size)
      have O_j2_14 : Hid (ownsR w14 w.heap.size 3 (.slice a14 (left.length) d14) (left)) := ho14.mono (B13.size)
      clear c_a_13 c_cw_13 c_cx_13 c_cg_13 O_w_13 O_x_13 O_i_13 O_j_13 O_g_13 B13 hb14 ho14
      go_wp2_with fail
      refine (eqIntS_any _ _ _ _ _ left _ (ownsR.reads O_j_14.out) (ownsR.reads O_j2_14.out) (Nat.le_trans HJK.out (by decide))).mono ?_
      rintro e w15 ⟨rfl, hb15⟩
      have c_a_15 := cell_up hb15 c_a_14
      have c_cw_15 := cell_up hb15 c_cw_14
      have c_cx_15 := cell_up hb15 c_cx_14
      have c_cg_15 := cell_up hb15 c_cg_14
      have O_w_15 : Hid (ownsR w15 w.heap.size 36 (.slice a4 (L.length) d4) (L)) := O_w_14.out.all hb15
      have O_x_15 : Hid (ownsR w15 w.heap.size 36 (.slice a5 (l.length) d5) (l)) := O_x_14.out.all hb15
      have O_i_15 : Hid (ownsR w15 w.heap.size 45 (.slice a6 (acts.length) d6) (acts)) := O_i_14.out.all hb15
      have O_j_15 : Hid (ownsR w15 w.heap.size 3 (.slice a7 (left.length) d7) (left)) := O_j_14.out.all hb15
      have O_g_15 : Hid (ownsR w15 w.heap.size 36 (.slice a8 (L.length) d8) (L)) := O_g_14.out.all hb15
      have O_j2_15 : Hid (ownsR w15 w.heap.size 3 (.slice a14 (left.length) d14) (left)) := O_j2_14.out.all hb15
      have B15 : Below w.heap.size w w15 := B14.trans (hb15.mono B14.size)
      clear c_a_14 c_cw_14 c_cx_14 c_cg_14 O_w_14 O_x_14 O_i_14 O_j_14 O_g_14 O_j2_14 B14 hb15
      go_wp2_with fail
      refine (markDisk_any (x := 1) O_x_15.out (Nat.le_trans HL.out (by decide)) (by decide) (by decide)).mono ?_
      rintro e w16 ⟨rfl, hm16, hg16⟩
      have c_a_16 := cell_other c_a_15 hg16 ac_a_x
      have c_cw_16 := cell_other c_cw_15 hg16 ac_cw_x
      have c_cx_16 := cell_other c_cx_15 hg16 ac_cx_x
      have c_cg_16 := cell_other c_cg_15 hg16 ac_cg_x
      have O_w_16 : Hid (ownsR w16 w.heap.size 36 (.slice a4 (L.length) d4) (L)) := O_w_15.out.other hg16 ap_w_x
      have O_i_16 : Hid (ownsR w16 w.heap.size 45 (.slice a6 (acts.length) d6) (acts)) := O_i_15.out.other hg16 ap_i_x
      have O_j_16 : Hid (ownsR w16 w.heap.size 3 (.slice a7 (left.length) d7) (left)) := O_j_15.out.other hg16 ap_j_x
      have O_g_16 : Hid (ownsR w16 w.heap.size 36 (.slice a8 (L.length) d8) (L)) := O_g_15.out.other hg16 ap_g_x
      have B16 : Below w.heap.size w w16 := below_marked B15 O_x_15.out hg16
      have O_x_16 : Hid (ownsR w16 w.heap.size 36 (.slice a5 (l.length) d5) (marksF 1 l.length)) := hm16
      clear c_a_15 c_cw_15 c_cx_15 c_cg_15 O_w_15 O_i_15 O_j_15 O_g_15 B15 hm16 O_x_15 hg16
      go_wp2_with fail
      refine (markActS_any (x := 1 + 3 * (l.length : Int)) O_i_16.out (Nat.le_trans HK.out (by decide)) (by omega) (by have := HL.out; omega)).mono ?_
      rintro e w17 ⟨rfl, hm17, hg17⟩
      have c_a_17 := cell_other c_a_16 hg17 ac_a_i
      have c_cw_17 := cell_other c_cw_16 hg17 ac_cw_i
      have c_cx_17 := cell_other c_cx_16 hg17 ac_cx_i
      have c_cg_17 := cell_other c_cg_16 hg17 ac_cg_i
      have O_w_17 : Hid (ownsR w17 w.heap.size 36 (.slice a4 (L.length) d4) (L)) := O_w_16.out.other hg17 ap_w_i
      have O_x_17 : Hid (ownsR w17 w.heap.size 36 (.slice a5 (l.length) d5) (marksF 1 l.length)) := O_x_16.out.other hg17 ap_x_i
      have O_j_17 : Hid (ownsR w17 w.heap.size 3 (.slice a7 (left.length) d7) (left)) := O_j_16.out.other hg17 ap_j_i
      have O_g_17 : Hid (ownsR w17 w.heap.size 36 (.slice a8 (L.length) d8) (L)) := O_g_16.out.other hg17 ap_g_i
      have B17 : Below w.heap.size w w17 := below_marked B16 O_i_16.out hg17
      have O_i_17 : Hid (ownsR w17 w.heap.size 45 (.slice a6 (acts.length) d6) (marksAc (1 + 3 * (l.length : Int)) acts.length)) := hm17
      clear c_a_16 c_cw_16 c_cx_16 c_cg_16 O_w_16 O_x_16 O_j_16 O_g_16 B16 hm17 O_i_16 hg17
      go_wp2_with fail
      refine (markIntS_any' (x := 1 + 3 * (l.length : Int) + 4 * (acts.length : Int)) O_j_17.out (Nat.le_trans HJK.out (by decide)) (by omega) (by have := HL.out; have := HK.out; omega)).mono ?_
      rintro e w18 ⟨rfl, hg18⟩
      have c_a_18 := cell_other c_a_17 hg18 ac_a_j
      have c_cw_18 := cell_other c_cw_17 hg18 ac_cw_j
      have c_cx_18 := cell_other c_cx_17 hg18 ac_cx_j
      have c_cg_18 := cell_other c_cg_17 hg18 ac_cg_j
      have O_w_18 : Hid (ownsR w18 w.heap.size 36 (.slice a4 (L.length) d4) (L)) := O_w_17.out.other hg18 ap_w_j
      have O_x_18 : Hid (ownsR w18 w.heap.size 36 (.slice a5 (l.length) d5) (marksF 1 l.length)) := O_x_17.out.other hg18 ap_x_j
      have O_i_18 : Hid (ownsR w18 w.heap.size 45 (.slice a6 (acts.length) d6) (marksAc (1 + 3 * (l.length : Int)) acts.length)) := O_i_17.out.other hg18 ap_i_j
      have O_g_18 : Hid (ownsR w18 w.heap.size 36 (.slice a8 (L.length) d8) (L)) := O_g_17.out.other hg18 ap_g_j
      have B18 : Below w.heap.size w w18 := below_marked B17 O_j_17.out hg18
      clear c_a_17 c_cw_17 c_cx_17 c_cg_17 O_w_17 O_x_17 O_i_17 O_g_17 B17 O_j_17 hg18
      go_wp2_with fail
      refine (eqDisk_any _ _ L _ (ownsR.reads O_g_18.out) (ownsR.reads O_w_18.out) (Nat.le_trans HO.out (by decide))).mono ?_
      rintro e w19 ⟨rfl, hb19⟩
      have c_a_19 := cell_up hb19 c_a_18
      have c_cw_19 := cell_up hb19 c_cw_18
      have c_cx_19 := cell_up hb19 c_cx_18
      have c_cg_19 := cell_up hb19 c_cg_18
      have O_w_19 : Hid (ownsR w19 w.heap.size 36 (.slice a4 (L.length) d4) (L)) := O_w_18.out.all hb19
      have O_x_19 : Hid (ownsR w19 w.heap.size 36 (.slice a5 (l.length) d5) (marksF 1 l.length)) := O_x_18.out.all hb19
      have O_i_19 : Hid (ownsR w19 w.heap.size 45 (.slice a6 (acts.length) d6) (marksAc (1 + 3 * (l.length : Int)) acts.length)) := O_i_18.out.all hb19
      have O_g_19 : Hid (ownsR w19 w.heap.size 36 (.slice a8 (L.length) d8) (L)) := O_g_18.out.all hb19
      have B19 : Below w.heap.size w w19 := B18.trans (hb19.mono B18.size)
      clear c_a_18 c_cw_18 c_cx_18 c_cg_18 O_w_18 O_x_18 O_i_18 O_g_18 B18 hb19
      go_wp2_with fail
      refine (markDisk_any (x := 1) O_g_19.out (Nat.le_trans HO.out (by decide)) (by decide) (by decide)).mono ?_
      rintro e w20 ⟨rfl, hm20, hg20⟩
      have c_a_20 := cell_other c_a_19 hg20 ac_a_g
      have c_cw_20 := cell_other c_cw_19 hg20 ac_cw_g
      have c_cx_20 := cell_other c_cx_19 hg20 ac_cx_g
      have c_cg_20 := cell_other c_cg_19 hg20 ac_cg_g
      have O_w_20 : Hid (ownsR w20 w.heap.size 36 (.slice a4 (L.length) d4) (L)) := O_w_19.out.other hg20 ap_w_g
      have O_x_20 : Hid (ownsR w20 w.heap.size 36 (.slice a5 (l.length) d5) (marksF 1 l.length)) := O_x_19.out.other hg20 ap_x_g
      have O_i_20 : Hid (ownsR w20 w.heap.size 45 (.slice a6 (acts.length) d6) (marksAc (1 + 3 * (l.length : Int)) acts.length)) := O_i_19.out.other hg20 ap_i_g
      have B20 : Below w.heap.size w w20 := below_marked B19 O_g_19.out hg20
      have O_g_20 : Hid (ownsR w20 w.heap.size 36 (.slice a8 (L.length) d8) (marksF 1 L.length)) := hm20
      clear c_a_19 c_cw_19 c_cx_19 c_cg_19 O_w_19 O_x_19 O_i_19 B19 hm20 O_g_19 hg20
      go_wp2_with fail
      refine (heldDisk_any (x := 1) (ownsR.reads O_g_20.out) (Nat.le_trans HO.out (by decide)) (by decide) (by decide)).mono ?_
      rintro e w21 ⟨rfl, hb21⟩
      have c_a_21 := cell_up hb21 c_a_20
      have c_cw_21 := cell_up hb21 c_cw_20
      have c_cx_21 := cell_up hb21 c_cx_20
      have c_cg_21 := cell_up hb21 c_cg_20
      have O_w_21 : Hid (ownsR w21 w.heap.size 36 (.slice a4 (L.length) d4) (L)) := O_w_20.out.all hb21
      have O_x_21 : Hid (ownsR w21 w.heap.size 36 (.slice a5 (l.length) d5) (marksF 1 l.length)) := O_x_20.out.all hb21
      have O_i_21 : Hid (ownsR w21 w.heap.size 45 (.slice a6 (acts.length) d6) (marksAc (1 + 3 * (l.length : Int)) acts.length)) := O_i_20.out.all hb21
      have O_g_21 : Hid (ownsR w21 w.heap.size 36 (.slice a8 (L.length) d8) (marksF 1 L.length)) := O_g_20.out.all hb21
      have B21 : Below w.heap.size w w21 := B20.trans (hb21.mono B20.size)
      clear c_a_20 c_cw_20 c_cx_20 c_cg_20 O_w_20 O_x_20 O_i_20 O_g_20 B20 hb21
      go_wp2_with fail
      refine (toDisk_any _ l _ (HR.out.below B21) HL.out).mono ?_
      rintro e w22 ⟨v22, rfl, ho22, hb22⟩
      obtain ⟨a22, d22, rfl⟩ := ho22.slice
      have ap_w_d2 := apart_new O_w_21.out ho22
      have ap_d2_w := apart_old O_w_21.out ho22
      have ap_x_d2 := apart_new O_x_21.out ho22
      have ap_d2_x := apart_old O_x_21.out ho22
      have ap_i_d2 := apart_new O_i_21.out ho22
      have ap_d2_i := apart_old O_i_21.out ho22
      have ap_g_d2 := apart_new O_g_21.out ho22
      have ap_d2_g := apart_old O_g_21.out ho22
      have ac_a_d2 := cell_apart c_a_21 ho22
      have ac_cw_d2 := cell_apart c_cw_21 ho22
      have ac_cx_d2 := cell_apart c_cx_21 ho22
      have ac_cg_d2 := cell_apart c_cg_21 ho22
      have c_a_22 := cell_up hb22 c_a_21
      have c_cw_22 := cell_up hb22 c_cw_21
      have c_cx_22 := cell_up hb22 c_cx_21
      have c_cg_22 := cell_up hb22 c_cg_21
      have O_w_22 : Hid (ownsR w22 w.heap.size 36 (.slice a4 (L.length) d4) (L)) := O_w_21.out.all hb22
      have O_x_22 : Hid (ownsR w22 w.heap.size 36 (.slice a5 (l.length) d5) (marksF 1 l.length)) := O_x_21.out.all hb22
      have O_i_22 : Hid (ownsR w22 w.heap.size 45 (.slice a6 (acts.length) d6) (marksAc (1 + 3 * (l.length : Int)) acts.length)) := O_i_21.out.all hb22
      have O_g_22 : Hid (ownsR w22 w.heap.size 36 (.slice a8 (L.length) d8) (marksF 1 L.length)) := O_g_21.out.all hb22
      have B22 : Below w.heap.size w w22 := B21.trans (hb22.mono B21.size)
      have O_d2_22 : Hid (ownsR w22 w.heap.size 36 (.slice a22 (l.length) d22) (l)) := ho22.mono (B21.size)
      clear c_a_21 c_cw_21 c_cx_21 c_cg_21 O_w_21 O_x_21 O_i_21 O_g_21 B21 hb22 ho22
      go_wp2_with fail
      refine (toActS_any bo m bc acts _ (HA.out.below B22) (by have := HK.out; rw [HM.out]; exact this)).mono ?_
      rintro e w23 ⟨v23, rfl, ho23, hb23⟩
      obtain ⟨a23, d23, rfl⟩ := ho23.slice
      have ap_w_i3 := apart_new O_w_22.out ho23
      have ap_i3_w := apart_old O_w_22.out ho23
      have ap_x_i3 := apart_new O_x_22.out ho23
      have ap_i3_x := apart_old O_x_22.out ho23
      have ap_i_i3 := apart_new O_i_22.out ho23
      have ap_i3_i := apart_old O_i_22.out ho23
      have ap_g_i3 := apart_new O_g_22.out ho23
      have ap_i3_g := apart_old O_g_22.out ho23
      have ap_d2_i3 := apart_new O_d2_22.out ho23
      have ap_i3_d2 := apart_old O_d2_22.out ho23
      have ac_a_i3 := cell_apart c_a_22 ho23
      have ac_cw_i3 := cell_apart c_cw_22 ho23
      have ac_cx_i3 := cell_apart c_cx_22 ho23
      have ac_cg_i3 := cell_apart c_cg_22 ho23
      have c_a_23 := cell_up hb23 c_a_22
      have c_cw_23 := cell_up hb23 c_cw_22
      have c_cx_23 := cell_up hb23 c_cx_22
      have c_cg_23 := cell_up hb23 c_cg_22
      have O_w_23 : Hid (ownsR w23 w.heap.size 36 (.slice a4 (L.length) d4) (L)) := O_w_22.out.all hb23
      have O_x_23 : Hid (ownsR w23 w.heap.size 36 (.slice a5 (l.length) d5) (marksF 1 l.length)) := O_x_22.out.all hb23
      have O_i_23 : Hid (ownsR w23 w.heap.size 45 (.slice a6 (acts.length) d6) (marksAc (1 + 3 * (l.length : Int)) acts.length)) := O_i_22.out.all hb23
      have O_g_23 : Hid (ownsR w23 w.heap.size 36 (.slice a8 (L.length) d8) (marksF 1 L.length)) := O_g_22.out.all hb23
      have O_d2_23 : Hid (ownsR w23 w.heap.size 36 (.slice a22 (l.length) d22) (l)) := O_d2_22.out.all hb23
      have B23 : Below w.heap.size w w23 := B22.trans (hb23.mono B22.size)
      have O_i3_23 : Hid (ownsR w23 w.heap.size 45 (.slice a23 (acts.length) d23) (acts)) := ho23.mono (B22.size)
      clear c_a_22 c_cw_22 c_cx_22 c_cg_22 O_w_22 O_x_22 O_i_22 O_g_22 O_d2_22 B22 hb23 ho23
      go_wp2_with fail
      refine (toIntS_any lo ln lc left _ (HI.out.below B23) (by have := HJK.out; rw [HJ.out]; exact this)).mono ?_
      rintro e w24 ⟨v24, rfl, ho24, hb24⟩
      obtain ⟨a24, d24, rfl⟩ := ho24.slice
      have ap_w_j3 := apart_new O_w_23.out ho24
      have ap_j3_w := apart_old O_w_23.out ho24
      have ap_x_j3 := apart_new O_x_23.out ho24
      have ap_j3_x := apart_old O_x_23.out ho24
      have ap_i_j3 := apart_new O_i_23.out ho24
      have ap_j3_i := apart_old O_i_23.out ho24
      have ap_g_j3 := apart_new O_g_23.out ho24
      have ap_j3_g := apart_old O_g_23.out ho24
      have ap_d2_j3 := apart_new O_d2_23.out ho24
      have ap_j3_d2 := apart_old O_d2_23.out ho24
      have ap_i3_j3 := apart_new O_i3_23.out ho24
      have ap_j3_i3 := apart_old O_i3_23.out ho24
      have ac_a_j3 := cell_apart c_a_23 ho24
      have ac_cw_j3 := cell_apart c_cw_23 ho24
      have ac_cx_j3 := cell_apart c_cx_23 ho24
      have ac_cg_j3 := cell_apart c_cg_23 ho24
      have c_a_24 := cell_up hb24 c_a_23
      have c_cw_24 := cell_up hb24 c_cw_23
      have c_cx_24 := cell_up hb24 c_cx_23
      have c_cg_24 := cell_up hb24 c_cg_23
      have O_w_24 : Hid (ownsR w24 w.heap.size 36 (.slice a4 (L.length) d4) (L)) := O_w_23.out.all hb24
      have O_x_24 : Hid (ownsR w24 w.heap.size 36 (.slice a5 (l.length) d5) (marksF 1 l.length)) := O_x_23.out.all hb24
      have O_i_24 : Hid (ownsR w24 w.heap.size 45 (.slice a6 (acts.length) d6) (marksAc (1 + 3 * (l.length : Int)) acts.length)) := O_i_23.out.all hb24
      have O_g_24 : Hid (ownsR w24 w.heap.size 36 (.slice a8 (L.length) d8) (marksF 1 L.length)) := O_g_23.out.all hb24
      have O_d2_24 : Hid (ownsR w24 w.heap.size 36 (.slice a22 (l.length) d22) (l)) := O_d2_23.out.all hb24
      have O_i3_24 : Hid (ownsR w24 w.heap.size 45 (.slice a23 (acts.length) d23) (acts)) := O_i3_23.out.all hb24
      have B24 : Below w.heap.size w w24 := B23.trans (hb24.mono B23.size)
      have O_j3_24 : Hid (ownsR w24 w.heap.size 3 (.slice a24 (left.length) d24) (left)) := ho24.mono (B23.size)
      clear c_a_23 c_cw_23 c_cx_23 c_cg_23 O_w_23 O_x_23 O_i_23 O_g_23 O_d2_23 O_i3_23 B23 hb24 ho24
      go_wp2_with fail
      refine (CI.out _ _ _ _ _ (ownsR.reads O_d2_24.out) O_i3_24.out (ownsR.reads O_j3_24.out)).mono ?_
      rintro e w25 ⟨v25, rfl, ho25, hb25⟩
      obtain ⟨a25, d25, rfl⟩ := ho25.slice
      have ap_w_h := apart_new O_w_24.out ho25
      have ap_h_w := apart_old O_w_24.out ho25
      have ap_x_h := apart_new O_x_24.out ho25
      have ap_h_x := apart_old O_x_24.out ho25
      have ap_i_h := apart_new O_i_24.out ho25
      have ap_h_i := apart_old O_i_24.out ho25
      have ap_g_h := apart_new O_g_24.out ho25
      have ap_h_g := apart_old O_g_24.out ho25
      have ap_d2_h := apart_new O_d2_24.out ho25
      have ap_h_d2 := apart_old O_d2_24.out ho25
      have ap_i3_h := apart_new O_i3_24.out ho25
      have ap_h_i3 := apart_old O_i3_24.out ho25
      have ap_j3_h := apart_new O_j3_24.out ho25
      have ap_h_j3 := apart_old O_j3_24.out ho25
      have ac_a_h := cell_apart c_a_24 ho25
      have ac_cw_h := cell_apart c_cw_24 ho25
      have ac_cx_h := cell_apart c_cx_24 ho25
      have ac_cg_h := cell_apart c_cg_24 ho25
      have c_a_25 := cell_up hb25 c_a_24
      have c_cw_25 := cell_up hb25 c_cw_24
      have c_cx_25 := cell_up hb25 c_cx_24
      have c_cg_25 := cell_up hb25 c_cg_24
      have O_w_25 : Hid (ownsR w25 w.heap.size 36 (.slice a4 (L.length) d4) (L)) := O_w_24.out.all hb25
      have O_x_25 : Hid (ownsR w25 w.heap.size 36 (.slice a5 (l.length) d5) (marksF 1 l.length)) := O_x_24.out.all hb25
      have O_i_25 : Hid (ownsR w25 w.heap.size 45 (.slice a6 (acts.length) d6) (marksAc (1 + 3 * (l.length : Int)) acts.length)) := O_i_24.out.all hb25
      have O_g_25 : Hid (ownsR w25 w.heap.size 36 (.slice a8 (L.length) d8) (marksF 1 L.length)) := O_g_24.out.all hb25
      have O_d2_25 : Hid (ownsR w25 w.heap.size 36 (.slice a22 (l.length) d22) (l)) := O_d2_24.out.all hb25
      have O_i3_25 : Hid (ownsR w25 w.heap.size 45 (.slice a23 (acts.length) d23) (acts)) := O_i3_24.out.all hb25
      have O_j3_25 : Hid (ownsR w25 w.heap.size 3 (.slice a24 (left.length) d24) (left)) := O_j3_24.out.all hb25
      have B25 : Below w.heap.size w w25 := B24.trans (hb25.mono B24.size)
      have O_h_25 : Hid (ownsR w25 w.heap.size 36 (.slice a25 (L.length) d25) (L)) := ho25.mono (B24.size)
      clear c_a_24 c_cw_24 c_cx_24 c_cg_24 O_w_24 O_x_24 O_i_24 O_g_24 O_d2_24 O_i3_24 O_j3_24 B24 hb25 ho25
      have sz_a : w.heap.size < w25.heap.size := World.block_lt_of_cell? _ _ c_a_25
      have sz_cw : w4.heap.size < w25.heap.size := World.block_lt_of_cell? _ _ c_cw_25
      have sz_cx : w5.heap.size < w25.heap.size := World.block_lt_of_cell? _ _ c_cx_25
      have sz_cg : w8.heap.size < w25.heap.size := World.block_lt_of_cell? _ _ c_cg_25
      go_wp2_with fail
      refine (eqDisk_any _ _ L _ (ownsR.reads (O_h_25.out.alloc _)) (ownsR.reads (O_w_25.out.alloc _)) (Nat.le_trans HO.out (by decide))).mono ?_
      rintro e w26 ⟨rfl, hb26⟩
      have c_ch_26 := cell_new hb26
      have ac_ch_w := cell_apart_new O_w_25.out
      have ac_ch_x := cell_apart_new O_x_25.out
      have ac_ch_i := cell_apart_new O_i_25.out
      have ac_ch_g := cell_apart_new O_g_25.out
      have ac_ch_d2 := cell_apart_new O_d2_25.out
      have ac_ch_i3 := cell_apart_new O_i3_25.out
      have ac_ch_j3 := cell_apart_new O_j3_25.out
      have ac_ch_h := cell_apart_new O_h_25.out
      have hb26 := below_new hb26
      have c_a_26 := cell_up hb26 c_a_25
      have c_cw_26 := cell_up hb26 c_cw_25
      have c_cx_26 := cell_up hb26 c_cx_25
      have c_cg_26 := cell_up hb26 c_cg_25
      have O_w_26 : Hid (ownsR w26 w.heap.size 36 (.slice a4 (L.length) d4) (L)) := O_w_25.out.all hb26
      have O_x_26 : Hid (ownsR w26 w.heap.size 36 (.slice a5 (l.length) d5) (marksF 1 l.length)) := O_x_25.out.all hb26
      have O_i_26 : Hid (ownsR w26 w.heap.size 45 (.slice a6 (acts.length) d6) (marksAc (1 + 3 * (l.length : Int)) acts.length)) := O_i_25.out.all hb26
      have O_g_26 : Hid (ownsR w26 w.heap.size 36 (.slice a8 (L.length) d8) (marksF 1 L.length)) := O_g_25.out.all hb26
      have O_d2_26 : Hid (ownsR w26 w.heap.size 36 (.slice a22 (l.length) d22) (l)) := O_d2_25.out.all hb26
      have O_i3_26 : Hid (ownsR w26 w.heap.size 45 (.slice a23 (acts.length) d23) (acts)) := O_i3_25.out.all hb26
      have O_j3_26 : Hid (ownsR w26 w.heap.size 3 (.slice a24 (left.length) d24) (left)) := O_j3_25.out.all hb26
      have O_h_26 : Hid (ownsR w26 w.heap.size 36 (.slice a25 (L.length) d25) (L)) := O_h_25.out.all hb26
      have B26 : Below w.heap.size w w26 := B25.trans (hb26.mono B25.size)
      clear c_a_25 c_cw_25 c_cx_25 c_cg_25 sz_a sz_cw sz_cx sz_cg O_w_25 O_x_25 O_i_25 O_g_25 O_d2_25 O_i3_25 O_j3_25 O_h_25 B25 hb26
      go_wp2_with fail
      refine (heldDisk_any (x := 1) (ownsR.reads O_g_26.out) (Nat.le_trans HO.out (by decide)) (by decide) (by decide)).mono ?_
      rintro e w27 ⟨rfl, hb27⟩
      have c_a_27 := cell_up hb27 c_a_26
      have c_cw_27 := cell_up hb27 c_cw_26
      have c_cx_27 := cell_up hb27 c_cx_26
      have c_cg_27 := cell_up hb27 c_cg_26
      have c_ch_27 := cell_up hb27 c_ch_26
      have O_w_27 : Hid (ownsR w27 w.heap.size 36 (.slice a4 (L.length) d4) (L)) := O_w_26.out.all hb27
      have O_x_27 : Hid (ownsR w27 w.heap.size 36 (.slice a5 (l.length) d5) (marksF 1 l.length)) := O_x_26.out.all hb27
      have O_i_27 : Hid (ownsR w27 w.heap.size 45 (.slice a6 (acts.length) d6) (marksAc (1 + 3 * (l.length : Int)) acts.length)) := O_i_26.out.all hb27
      have O_g_27 : Hid (ownsR w27 w.heap.size 36 (.slice a8 (L.length) d8) (marksF 1 L.length)) := O_g_26.out.all hb27
      have O_d2_27 : Hid (ownsR w27 w.heap.size 36 (.slice a22 (l.length) d22) (l)) := O_d2_26.out.all hb27
      have O_i3_27 : Hid (ownsR w27 w.heap.size 45 (.slice a23 (acts.length) d23) (acts)) := O_i3_26.out.all hb27
      have O_j3_27 : Hid (ownsR w27 w.heap.size 3 (.slice a24 (left.length) d24) (left)) := O_j3_26.out.all hb27
      have O_h_27 : Hid (ownsR w27 w.heap.size 36 (.slice a25 (L.length) d25) (L)) := O_h_26.out.all hb27
      have B27 : Below w.heap.size w w27 := B26.trans (hb27.mono B26.size)
      clear c_a_26 c_cw_26 c_cx_26 c_cg_26 c_ch_26 O_w_26 O_x_26 O_i_26 O_g_26 O_d2_26 O_i3_26 O_j3_26 O_h_26 B26 hb27
      go_wp2
      go_ret
      exact ⟨rfl, B27⟩
end Go.Proofs.Ytekflgecfcjjiaa
