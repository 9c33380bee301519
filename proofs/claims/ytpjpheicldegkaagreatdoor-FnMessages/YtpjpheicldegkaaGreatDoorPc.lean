/- Pc -/
import Derived.Test.YtpjpheicldegkaaGreatDoorGM8
import Derived.Test.YtpjpheicldegkaaGreatDoorGM9
import Derived.Test.YtpjpheicldegkaaGreatDoorGM11
namespace Go.Proofs.YtpjpheicldegkaaGreatDoor
open Go Go.RowKit

def pcT : List ByteArray → Option (List (List Int))
  | [a, b, c, d, e] => if (fieldO a 0 59).isSome && ((fieldO b 0 23).isSome && ((fieldO c 1 31).isSome && ((fieldO d 1 12).isSome && (fieldO e 0 6).isSome))) then some [qce a 0 59, qce b 0 23, qce c 1 31, qce d 1 12, qce e 0 6] else none
  | _ => none
def pcO (s : ByteArray) : Option (List (List Int)) := if (qfb s).2 then pcT (texts (qfb s).1) else none
def pcN (o : Option (List (List Int))) (k : Nat) : List Int := ((o.getD [])[k]?).getD []
def PcP (s : ByteArray) (w : World) (e : Ending) (w' : World) : Prop :=
  ∃ v0 v1 v2 v3 v4, e = .returned (.tuple #[.agg #[v0, v1, v2, v3, v4], .bool (pcO s).isSome]) ∧ ownsR w' w.heap.size 3 v0 (pcN (pcO s) 0) ∧ ownsR w' w.heap.size 3 v1 (pcN (pcO s) 1) ∧ ownsR w' w.heap.size 3 v2 (pcN (pcO s) 2) ∧ ownsR w' w.heap.size 3 v3 (pcN (pcO s) 3) ∧ ownsR w' w.heap.size 3 v4 (pcN (pcO s) 4) ∧ Below w.heap.size w w'
theorem ownsR_none {α : Type} [Rec α] (w : World) (B : Nat) (e : TypeId) : ownsR w B e (.slice none 0 0) ([] : List α) := ⟨by simp, .inl ⟨rfl, rfl⟩⟩
theorem pc_no {s : ByteArray} {w W : World} (h : pcO s = none) (hb : Below w.heap.size w W) : PcP s w (.returned (.tuple #[.agg #[.slice none 0 0, .slice none 0 0, .slice none 0 0, .slice none 0 0, .slice none 0 0], .bool false])) W := by
  refine ⟨_, _, _, _, _, by rw [h]; rfl, ?_, ?_, ?_, ?_, ?_, hb⟩ <;> rw [h] <;> exact ownsR_none _ _ _
theorem pcT_len {l : List ByteArray} (h : l.length ≠ 5) : pcT l = none := by
  unfold pcT
  split
  · exact absurd rfl h
  · rfl
theorem qqe : ∀ (l cur t : List UInt8), t ∈ Lib.fieldsGo cur l → t.length ≤ cur.length + l.length
  | [], cur, t, h => by
    unfold Lib.fieldsGo at h
    split at h
    · cases h
    · rw [List.mem_singleton] at h; subst h; simp
  | b :: l, cur, t, h => by
    unfold Lib.fieldsGo at h
    split at h
    · split at h
      · have := qqe l [] t h
        simp at this ⊢; omega
      · rcases List.mem_cons.1 h with rfl | h
        · omega
        · have := qqe l [] t h
          simp at this ⊢; omega
    · have := qqe l (cur ++ [b]) t h
      simp at this ⊢; omega
theorem parts_sz {s t : ByteArray} (h : t ∈ texts (qfb s).1) : t.size ≤ 1048576 := by
  unfold texts at h
  obtain ⟨u, hu, rfl⟩ := List.mem_map.1 h
  unfold qfb at hu
  split at hu
  · cases hu
  · rename_i h6
    split at hu
    · split at hu
      · cases hu
      · have := qqe _ [] u hu
        have h7 : s.data.toList.length = s.size := by simp
        show u.toArray.size ≤ _
        simp at this ⊢
        have h8 : s.data.size = s.size := rfl
        omega
    · cases hu
theorem bools5 {W : World} {B D : Nat} (h : ownsR W B 4 (.slice (some ⟨D, 0, none⟩) 5 5) (List.replicate 5 false)) : B5 4 W D (.bool false) (.bool false) (.bool false) (.bool false) (.bool false) := by
  rcases h.2 with ⟨h2, _⟩ | ⟨g, cap, cur, hv, _, hg, _, _, hz, ht⟩
  · cases h2
  · injection hv with h1 h2 h3
    injection h1 with h1
    injection h1 with h1
    subst h1 h3
    have e : cur = #[.bool false, .bool false, .bool false, .bool false, .bool false] := by
      apply Array.toList_inj.1
      rw [List.take_of_length_le (by rw [Array.length_toList, hz]; exact Nat.le_refl _)] at ht
      rw [ht]; rfl
    rw [e] at hg
    exact hg
theorem five {α : Type} {l : List α} (h : l.length = 5) : ∃ a b c d e, l = [a, b, c, d, e] := by
  match l, h with
  | [a, b, c, d, e], _ => exact ⟨a, b, c, d, e, rfl⟩

set_option maxRecDepth 10000 in
set_option maxHeartbeats 2000000 in
theorem parseCron_any (s : ByteArray) (w : World) (hs : s.size ≤ 1048576) : Calls Tryz.prog 120 #[.string s] w (PcP s w) := by
  obtain ⟨i0, hi0, hz0, hz1, hz2⟩ := info_parts infoB
  have HPS : Hid (qqc s = qqc s) := rfl
  go_enter Tryz.func120, Tryz.ntmps120
  go_wp2_with fail
  refine (specParts_any s _ hs).mono ?_
  rintro e w1 ⟨vp, rfl, hop, hb1⟩
  have ZR : B5 194 w1 w.heap.size (.slice none 0 0) (.slice none 0 0) (.slice none 0 0) (.slice none 0 0) (.slice none 0 0) := (B5.new 194 w (.slice none 0 0) (.slice none 0 0) (.slice none 0 0) (.slice none 0 0) (.slice none 0 0)).up hb1
  have B1 : Below w.heap.size w w1 := qma hb1
  have hz : w.heap.size < w1.heap.size := ZR.lt
  obtain ⟨ao, cap, rfl⟩ := ownsS_slice hop
  have HOP : Hid (ownsS w1 (w.heap.size + 1) 9 (.slice ao (texts (qfb s).1).length cap) (texts (qfb s).1)) := by show ownsS _ _ _ _ _; simpa using hop
  clear hop hb1 HPS
  have r0 := ZR.c0
  have r1 := ZR.c1
  have r2 := ZR.c2
  have r3 := ZR.c3
  have r4 := ZR.c4
  have rf := ZR.fr
  have HZR : Hid (B5 194 w1 w.heap.size (.slice none 0 0) (.slice none 0 0) (.slice none 0 0) (.slice none 0 0) (.slice none 0 0)) := ZR
  clear ZR
  cases hok : (qfb s).2 with
  | false =>
    have HN : Hid (pcO s = none) := by show _ = _; unfold pcO; rw [hok]; rfl
    clear HOP hok
    generalize (texts (qfb s).1).length = n
    go_wp2
    refine bodyPost_ret (ret_c2 rfl rfl rfl (HZR.out.set (.slice none 0 0) (.slice none 0 0) (.slice none 0 0) (.slice none 0 0) (.slice none 0 0))) rfl ?_
    exact pc_no HN.out (qrc B1 (Nat.le_refl _) _ _ _ _ _)
  | true =>
    by_cases h5 : (texts (qfb s).1).length = 5
    · obtain ⟨t0, t1, t2, t3, t4, hT⟩ := five h5
      have HE : Hid (pcO s = pcT [t0, t1, t2, t3, t4]) := by show _ = _; unfold pcO; rw [hok, hT]; rfl
      clear r0 r1 r2 r3 r4 rf hok h5
      have z0 : t0.size ≤ 1048576 := parts_sz (s := s) (by rw [hT]; simp)
      have z1 : t1.size ≤ 1048576 := parts_sz (s := s) (by rw [hT]; simp)
      have z2 : t2.size ≤ 1048576 := parts_sz (s := s) (by rw [hT]; simp)
      have z3 : t3.size ≤ 1048576 := parts_sz (s := s) (by rw [hT]; simp)
      have z4 : t4.size ≤ 1048576 := parts_sz (s := s) (by rw [hT]; simp)
      rw [hT] at HOP
      obtain ⟨gp, cp, hv, hgp, hcp⟩ := qge HOP.out (by simp)
      obtain ⟨rfl, -⟩ : ao = some ⟨gp, 0, none⟩ ∧ True := ⟨by injection hv, trivial⟩
      have hgl : w.heap.size + 1 ≤ gp := (HOP.out.lt gp rfl).1
      have p0_0 := hcp 0 t0 rfl
      have p1_0 := hcp 1 t1 rfl
      have p2_0 := hcp 2 t2 rfl
      have p3_0 := hcp 3 t3 rfl
      have p4_0 := hcp 4 t4 rfl
      clear hcp hv HOP
      rw [hT]
      obtain ⟨b0, HB0⟩ : ∃ q, Hid ((fieldO t0 0 59).isSome = q) := ⟨_, rfl⟩
      obtain ⟨L0, HL0⟩ : ∃ q, Hid (qce t0 0 59 = q) := ⟨_, rfl⟩
      have CF0 : Hid (∀ W, Calls Tryz.prog 129 #[.string t0, .int .i64 0, .int .i64 59] W fun e w' => ∃ v, e = .returned (.tuple #[v, .bool b0]) ∧ ownsR w' W.heap.size 3 v L0 ∧ Below W.heap.size W w') := fun W => by rw [← HB0.out, ← HL0.out]; exact qyd t0 0 59 W z0 (by decide) (by decide) (by decide)
      obtain ⟨b1, HB1⟩ : ∃ q, Hid ((fieldO t1 0 23).isSome = q) := ⟨_, rfl⟩
      obtain ⟨L1, HL1⟩ : ∃ q, Hid (qce t1 0 23 = q) := ⟨_, rfl⟩
      have CF1 : Hid (∀ W, Calls Tryz.prog 129 #[.string t1, .int .i64 0, .int .i64 23] W fun e w' => ∃ v, e = .returned (.tuple #[v, .bool b1]) ∧ ownsR w' W.heap.size 3 v L1 ∧ Below W.heap.size W w') := fun W => by rw [← HB1.out, ← HL1.out]; exact qyd t1 0 23 W z1 (by decide) (by decide) (by decide)
      obtain ⟨b2, HB2⟩ : ∃ q, Hid ((fieldO t2 1 31).isSome = q) := ⟨_, rfl⟩
      obtain ⟨L2, HL2⟩ : ∃ q, Hid (qce t2 1 31 = q) := ⟨_, rfl⟩
      have CF2 : Hid (∀ W, Calls Tryz.prog 129 #[.string t2, .int .i64 1, .int .i64 31] W fun e w' => ∃ v, e = .returned (.tuple #[v, .bool b2]) ∧ ownsR w' W.heap.size 3 v L2 ∧ Below W.heap.size W w') := fun W => by rw [← HB2.out, ← HL2.out]; exact qyd t2 1 31 W z2 (by decide) (by decide) (by decide)
      obtain ⟨b3, HB3⟩ : ∃ q, Hid ((fieldO t3 1 12).isSome = q) := ⟨_, rfl⟩
      obtain ⟨L3, HL3⟩ : ∃ q, Hid (qce t3 1 12 = q) := ⟨_, rfl⟩
      have CF3 : Hid (∀ W, Calls Tryz.prog 129 #[.string t3, .int .i64 1, .int .i64 12] W fun e w' => ∃ v, e = .returned (.tuple #[v, .bool b3]) ∧ ownsR w' W.heap.size 3 v L3 ∧ Below W.heap.size W w') := fun W => by rw [← HB3.out, ← HL3.out]; exact qyd t3 1 12 W z3 (by decide) (by decide) (by decide)
      obtain ⟨b4, HB4⟩ : ∃ q, Hid ((fieldO t4 0 6).isSome = q) := ⟨_, rfl⟩
      obtain ⟨L4, HL4⟩ : ∃ q, Hid (qce t4 0 6 = q) := ⟨_, rfl⟩
      have CF4 : Hid (∀ W, Calls Tryz.prog 129 #[.string t4, .int .i64 0, .int .i64 6] W fun e w' => ∃ v, e = .returned (.tuple #[v, .bool b4]) ∧ ownsR w' W.heap.size 3 v L4 ∧ Below W.heap.size W w') := fun W => by rw [← HB4.out, ← HL4.out]; exact qyd t4 0 6 W z4 (by decide) (by decide) (by decide)
      clear hT z0 z1 z2 z3 z4
      go_wp2_with (at_make; refine wpList_make_full _ rfl _ _ 204 rfl w.heap.size 4 i0 _ 1 underB hi0 hz0 hz1 .i64 .i64 _ _ 5 rfl rfl rfl rfl (by rw [hz2]; omega) (by unfold maxLen; omega) (by simp; omega) ?_; intro w2 ho hg; have p0_1 := hg.cell (qia (ba (Below.refl _ w1) _) p0_0) (by simp); have p1_1 := hg.cell (qia (ba (Below.refl _ w1) _) p1_0) (by simp); have p2_1 := hg.cell (qia (ba (Below.refl _ w1) _) p2_0) (by simp); have p3_1 := hg.cell (qia (ba (Below.refl _ w1) _) p3_0) (by simp); have p4_1 := hg.cell (qia (ba (Below.refl _ w1) _) p4_0) (by simp))
      clear p0_0 p1_0 p2_0 p3_0 p4_0
      have ZD1 : B5 4 w2 (w1.heap.size + 1) (.bool false) (.bool false) (.bool false) (.bool false) (.bool false) := by
        rw [made_bools] at ho
        refine bools5 (B := w.heap.size) ?_
        unfold ownsR
        rw [List.length_replicate]
        simp only [World.size_alloc] at ho
        exact ho
      have ZC1 : B5 194 w2 w1.heap.size (.slice none 0 0) (.slice none 0 0) (.slice none 0 0) (.slice none 0 0) (.slice none 0 0) := (B5.new 194 w1 (.slice none 0 0) (.slice none 0 0) (.slice none 0 0) (.slice none 0 0) (.slice none 0 0)).grown hg (by simp)
      have ZR1 : B5 194 w2 w.heap.size (.slice none 0 0) (.slice none 0 0) (.slice none 0 0) (.slice none 0 0) (.slice none 0 0) := (HZR.out.alloc _).grown hg (by simp)
      have X1 : Below w.heap.size w w2 := (ba B1 _).grown hg (by simp; omega) (fun j hj => by cases hj)
      clear HZR B1 ho hg
      obtain ⟨R, hR⟩ : ∃ R, R = w.heap.size := ⟨_, rfl⟩
      obtain ⟨C, hC⟩ : ∃ C, C = w1.heap.size := ⟨_, rfl⟩
      obtain ⟨D, hD⟩ : ∃ D, D = w1.heap.size + 1 := ⟨_, rfl⟩
      have hCD : C ≠ D := by omega
      have hDC : D ≠ C := by omega
      have hRC : C ≠ R := by omega
      have hRD : D ≠ R := by omega
      have hgC : C ≠ gp := by omega
      have hgD : D ≠ gp := by omega
      have kC : w.heap.size ≤ C := by omega
      have kD : w.heap.size ≤ D := by omega
      have lCD : C < D := by omega
      have lRD : R < D + 1 := by omega
      have lwR : w.heap.size ≤ R := by omega
      have lwD : w.heap.size ≤ D + 1 := by omega
      rw [← hD] at ZD1 ⊢
      rw [← hC] at ZC1 ⊢
      rw [← hR] at ZR1 ⊢
      have HRw : Hid (R = w.heap.size) := hR
      clear hz hgp hgl hC hD hR
      have HX1 : Hid (D < w2.heap.size) := ZD1.lt
      refine (CF0.out _).mono ?_
      rintro e y0 ⟨v0, rfl, ho0, hb0⟩
      obtain ⟨a0, n0, d0, rfl⟩ := ho0.slice3
      have p0_2 := qia hb0 p0_1
      have p1_2 := qia hb0 p1_1
      have p2_2 := qia hb0 p2_1
      have p3_2 := qia hb0 p3_1
      have p4_2 := qia hb0 p4_1
      have ZD2 := ZD1.up hb0
      have ZC2 := ZC1.up hb0
      have ZR2 := ZR1.up hb0
      have X2 : Below w.heap.size w y0 := Below.on X1 hb0
      have HX2 : Hid (D < y0.heap.size) := Nat.lt_of_lt_of_le HX1.out hb0.size
      have O0_2 : Hid (ownsR y0 (D + 1) 3 (.slice a0 n0 d0) L0) := ho0.mono HX1.out
      clear hb0 ho0 ZD1 ZC1 ZR1 X1 HX1 CF0 p0_1 p1_1 p2_1 p3_1 p4_1
      have sc := ZC2.c0
      have sd := ZD2.c0
      have fc := ZC2.fr 0
      have fd := ZD2.fr 0
      go_wp2_with fail
      clear sc sd fc fd
      have ZC3 : B5 194 ((y0.setCell ⟨C, 0, none⟩ (.slice a0 n0 d0)).setCell ⟨D, 0, none⟩ (.bool b0)) C (.slice a0 n0 d0) (.slice none 0 0) (.slice none 0 0) (.slice none 0 0) (.slice none 0 0) := (ZC2.s0 _).far hDC _
      have ZD3 : B5 4 ((y0.setCell ⟨C, 0, none⟩ (.slice a0 n0 d0)).setCell ⟨D, 0, none⟩ (.bool b0)) D (.bool b0) (.bool false) (.bool false) (.bool false) (.bool false) := (ZD2.far hCD _).s0 _
      have ZR3 : B5 194 ((y0.setCell ⟨C, 0, none⟩ (.slice a0 n0 d0)).setCell ⟨D, 0, none⟩ (.bool b0)) R (.slice none 0 0) (.slice none 0 0) (.slice none 0 0) (.slice none 0 0) (.slice none 0 0) := (ZR2.far hRC _).far hRD _
      have X3 : Below w.heap.size w ((y0.setCell ⟨C, 0, none⟩ (.slice a0 n0 d0)).setCell ⟨D, 0, none⟩ (.bool b0)) := Below.setCell (Below.setCell X2 kC _) kD _
      have HX3 : Hid (D < ((y0.setCell ⟨C, 0, none⟩ (.slice a0 n0 d0)).setCell ⟨D, 0, none⟩ (.bool b0)).heap.size) := by show D < _; simpa using HX2.out
      have p0_3 : ((y0.setCell ⟨C, 0, none⟩ (.slice a0 n0 d0)).setCell ⟨D, 0, none⟩ (.bool b0)).cell? ⟨gp, 0, none⟩ = some (.string t0) := cell_far (cell_far p0_2 hgC _) hgD _
      have p1_3 : ((y0.setCell ⟨C, 0, none⟩ (.slice a0 n0 d0)).setCell ⟨D, 0, none⟩ (.bool b0)).cell? ⟨gp, 1, none⟩ = some (.string t1) := cell_far (cell_far p1_2 hgC _) hgD _
      have p2_3 : ((y0.setCell ⟨C, 0, none⟩ (.slice a0 n0 d0)).setCell ⟨D, 0, none⟩ (.bool b0)).cell? ⟨gp, 2, none⟩ = some (.string t2) := cell_far (cell_far p2_2 hgC _) hgD _
      have p3_3 : ((y0.setCell ⟨C, 0, none⟩ (.slice a0 n0 d0)).setCell ⟨D, 0, none⟩ (.bool b0)).cell? ⟨gp, 3, none⟩ = some (.string t3) := cell_far (cell_far p3_2 hgC _) hgD _
      have p4_3 : ((y0.setCell ⟨C, 0, none⟩ (.slice a0 n0 d0)).setCell ⟨D, 0, none⟩ (.bool b0)).cell? ⟨gp, 4, none⟩ = some (.string t4) := cell_far (cell_far p4_2 hgC _) hgD _
      have O0_3 : Hid (ownsR ((y0.setCell ⟨C, 0, none⟩ (.slice a0 n0 d0)).setCell ⟨D, 0, none⟩ (.bool b0)) (D + 1) 3 (.slice a0 n0 d0) L0) := (O0_2.out.setB (by show C < D + 1; omega) _).setB (by show D < D + 1; omega) _
      clear ZD2 ZC2 ZR2 X2 HX2 p0_2 p1_2 p2_2 p3_2 p4_2 O0_2
      refine (CF1.out _).mono ?_
      rintro e y1 ⟨v1, rfl, ho1, hb1⟩
      obtain ⟨a1, n1, d1, rfl⟩ := ho1.slice3
      have p0_4 := qia hb1 p0_3
      have p1_4 := qia hb1 p1_3
      have p2_4 := qia hb1 p2_3
      have p3_4 := qia hb1 p3_3
      have p4_4 := qia hb1 p4_3
      have ZD4 := ZD3.up hb1
      have ZC4 := ZC3.up hb1
      have ZR4 := ZR3.up hb1
      have X4 : Below w.heap.size w y1 := Below.on X3 hb1
      have O0_4 : Hid (ownsR y1 (D + 1) 3 (.slice a0 n0 d0) L0) := O0_3.out.all hb1
      have HX4 : Hid (D < y1.heap.size) := Nat.lt_of_lt_of_le HX3.out hb1.size
      have O1_4 : Hid (ownsR y1 (D + 1) 3 (.slice a1 n1 d1) L1) := ho1.mono HX3.out
      clear hb1 ho1 ZD3 ZC3 ZR3 X3 HX3 CF1 p0_3 p1_3 p2_3 p3_3 p4_3 O0_3
      have sc := ZC4.c1
      have sd := ZD4.c1
      have fc := ZC4.fr 1
      have fd := ZD4.fr 1
      go_wp2_with fail
      clear sc sd fc fd
      have ZC5 : B5 194 ((y1.setCell ⟨C, 1, none⟩ (.slice a1 n1 d1)).setCell ⟨D, 1, none⟩ (.bool b1)) C (.slice a0 n0 d0) (.slice a1 n1 d1) (.slice none 0 0) (.slice none 0 0) (.slice none 0 0) := (ZC4.s1 _).far hDC _
      have ZD5 : B5 4 ((y1.setCell ⟨C, 1, none⟩ (.slice a1 n1 d1)).setCell ⟨D, 1, none⟩ (.bool b1)) D (.bool b0) (.bool b1) (.bool false) (.bool false) (.bool false) := (ZD4.far hCD _).s1 _
      have ZR5 : B5 194 ((y1.setCell ⟨C, 1, none⟩ (.slice a1 n1 d1)).setCell ⟨D, 1, none⟩ (.bool b1)) R (.slice none 0 0) (.slice none 0 0) (.slice none 0 0) (.slice none 0 0) (.slice none 0 0) := (ZR4.far hRC _).far hRD _
      have X5 : Below w.heap.size w ((y1.setCell ⟨C, 1, none⟩ (.slice a1 n1 d1)).setCell ⟨D, 1, none⟩ (.bool b1)) := Below.setCell (Below.setCell X4 kC _) kD _
      have HX5 : Hid (D < ((y1.setCell ⟨C, 1, none⟩ (.slice a1 n1 d1)).setCell ⟨D, 1, none⟩ (.bool b1)).heap.size) := by show D < _; simpa using HX4.out
      have p0_5 : ((y1.setCell ⟨C, 1, none⟩ (.slice a1 n1 d1)).setCell ⟨D, 1, none⟩ (.bool b1)).cell? ⟨gp, 0, none⟩ = some (.string t0) := cell_far (cell_far p0_4 hgC _) hgD _
      have p1_5 : ((y1.setCell ⟨C, 1, none⟩ (.slice a1 n1 d1)).setCell ⟨D, 1, none⟩ (.bool b1)).cell? ⟨gp, 1, none⟩ = some (.string t1) := cell_far (cell_far p1_4 hgC _) hgD _
      have p2_5 : ((y1.setCell ⟨C, 1, none⟩ (.slice a1 n1 d1)).setCell ⟨D, 1, none⟩ (.bool b1)).cell? ⟨gp, 2, none⟩ = some (.string t2) := cell_far (cell_far p2_4 hgC _) hgD _
      have p3_5 : ((y1.setCell ⟨C, 1, none⟩ (.slice a1 n1 d1)).setCell ⟨D, 1, none⟩ (.bool b1)).cell? ⟨gp, 3, none⟩ = some (.string t3) := cell_far (cell_far p3_4 hgC _) hgD _
      have p4_5 : ((y1.setCell ⟨C, 1, none⟩ (.slice a1 n1 d1)).setCell ⟨D, 1, none⟩ (.bool b1)).cell? ⟨gp, 4, none⟩ = some (.string t4) := cell_far (cell_far p4_4 hgC _) hgD _
      have O0_5 : Hid (ownsR ((y1.setCell ⟨C, 1, none⟩ (.slice a1 n1 d1)).setCell ⟨D, 1, none⟩ (.bool b1)) (D + 1) 3 (.slice a0 n0 d0) L0) := (O0_4.out.setB (by show C < D + 1; omega) _).setB (by show D < D + 1; omega) _
      have O1_5 : Hid (ownsR ((y1.setCell ⟨C, 1, none⟩ (.slice a1 n1 d1)).setCell ⟨D, 1, none⟩ (.bool b1)) (D + 1) 3 (.slice a1 n1 d1) L1) := (O1_4.out.setB (by show C < D + 1; omega) _).setB (by show D < D + 1; omega) _
      clear ZD4 ZC4 ZR4 X4 HX4 p0_4 p1_4 p2_4 p3_4 p4_4 O0_4 O1_4
      refine (CF2.out _).mono ?_
      rintro e y2 ⟨v2, rfl, ho2, hb2⟩
      obtain ⟨a2, n2, d2, rfl⟩ := ho2.slice3
      have p0_6 := qia hb2 p0_5
      have p1_6 := qia hb2 p1_5
      have p2_6 := qia hb2 p2_5
      have p3_6 := qia hb2 p3_5
      have p4_6 := qia hb2 p4_5
      have ZD6 := ZD5.up hb2
      have ZC6 := ZC5.up hb2
      have ZR6 := ZR5.up hb2
      have X6 : Below w.heap.size w y2 := Below.on X5 hb2
      have O0_6 : Hid (ownsR y2 (D + 1) 3 (.slice a0 n0 d0) L0) := O0_5.out.all hb2
      have O1_6 : Hid (ownsR y2 (D + 1) 3 (.slice a1 n1 d1) L1) := O1_5.out.all hb2
      have HX6 : Hid (D < y2.heap.size) := Nat.lt_of_lt_of_le HX5.out hb2.size
      have O2_6 : Hid (ownsR y2 (D + 1) 3 (.slice a2 n2 d2) L2) := ho2.mono HX5.out
      clear hb2 ho2 ZD5 ZC5 ZR5 X5 HX5 CF2 p0_5 p1_5 p2_5 p3_5 p4_5 O0_5 O1_5
      have sc := ZC6.c2
      have sd := ZD6.c2
      have fc := ZC6.fr 2
      have fd := ZD6.fr 2
      go_wp2_with fail
      clear sc sd fc fd
      have ZC7 : B5 194 ((y2.setCell ⟨C, 2, none⟩ (.slice a2 n2 d2)).setCell ⟨D, 2, none⟩ (.bool b2)) C (.slice a0 n0 d0) (.slice a1 n1 d1) (.slice a2 n2 d2) (.slice none 0 0) (.slice none 0 0) := (ZC6.s2 _).far hDC _
      have ZD7 : B5 4 ((y2.setCell ⟨C, 2, none⟩ (.slice a2 n2 d2)).setCell ⟨D, 2, none⟩ (.bool b2)) D (.bool b0) (.bool b1) (.bool b2) (.bool false) (.bool false) := (ZD6.far hCD _).s2 _
      have ZR7 : B5 194 ((y2.setCell ⟨C, 2, none⟩ (.slice a2 n2 d2)).setCell ⟨D, 2, none⟩ (.bool b2)) R (.slice none 0 0) (.slice none 0 0) (.slice none 0 0) (.slice none 0 0) (.slice none 0 0) := (ZR6.far hRC _).far hRD _
      have X7 : Below w.heap.size w ((y2.setCell ⟨C, 2, none⟩ (.slice a2 n2 d2)).setCell ⟨D, 2, none⟩ (.bool b2)) := Below.setCell (Below.setCell X6 kC _) kD _
      have HX7 : Hid (D < ((y2.setCell ⟨C, 2, none⟩ (.slice a2 n2 d2)).setCell ⟨D, 2, none⟩ (.bool b2)).heap.size) := by show D < _; simpa using HX6.out
      have p0_7 : ((y2.setCell ⟨C, 2, none⟩ (.slice a2 n2 d2)).setCell ⟨D, 2, none⟩ (.bool b2)).cell? ⟨gp, 0, none⟩ = some (.string t0) := cell_far (cell_far p0_6 hgC _) hgD _
      have p1_7 : ((y2.setCell ⟨C, 2, none⟩ (.slice a2 n2 d2)).setCell ⟨D, 2, none⟩ (.bool b2)).cell? ⟨gp, 1, none⟩ = some (.string t1) := cell_far (cell_far p1_6 hgC _) hgD _
      have p2_7 : ((y2.setCell ⟨C, 2, none⟩ (.slice a2 n2 d2)).setCell ⟨D, 2, none⟩ (.bool b2)).cell? ⟨gp, 2, none⟩ = some (.string t2) := cell_far (cell_far p2_6 hgC _) hgD _
      have p3_7 : ((y2.setCell ⟨C, 2, none⟩ (.slice a2 n2 d2)).setCell ⟨D, 2, none⟩ (.bool b2)).cell? ⟨gp, 3, none⟩ = some (.string t3) := cell_far (cell_far p3_6 hgC _) hgD _
      have p4_7 : ((y2.setCell ⟨C, 2, none⟩ (.slice a2 n2 d2)).setCell ⟨D, 2, none⟩ (.bool b2)).cell? ⟨gp, 4, none⟩ = some (.string t4) := cell_far (cell_far p4_6 hgC _) hgD _
      have O0_7 : Hid (ownsR ((y2.setCell ⟨C, 2, none⟩ (.slice a2 n2 d2)).setCell ⟨D, 2, none⟩ (.bool b2)) (D + 1) 3 (.slice a0 n0 d0) L0) := (O0_6.out.setB (by show C < D + 1; omega) _).setB (by show D < D + 1; omega) _
      have O1_7 : Hid (ownsR ((y2.setCell ⟨C, 2, none⟩ (.slice a2 n2 d2)).setCell ⟨D, 2, none⟩ (.bool b2)) (D + 1) 3 (.slice a1 n1 d1) L1) := (O1_6.out.setB (by show C < D + 1; omega) _).setB (by show D < D + 1; omega) _
      have O2_7 : Hid (ownsR ((y2.setCell ⟨C, 2, none⟩ (.slice a2 n2 d2)).setCell ⟨D, 2, none⟩ (.bool b2)) (D + 1) 3 (.slice a2 n2 d2) L2) := (O2_6.out.setB (by show C < D + 1; omega) _).setB (by show D < D + 1; omega) _
      clear ZD6 ZC6 ZR6 X6 HX6 p0_6 p1_6 p2_6 p3_6 p4_6 O0_6 O1_6 O2_6
      refine (CF3.out _).mono ?_
      rintro e y3 ⟨v3, rfl, ho3, hb3⟩
      obtain ⟨a3, n3, d3, rfl⟩ := ho3.slice3
      have p0_8 := qia hb3 p0_7
      have p1_8 := qia hb3 p1_7
      have p2_8 := qia hb3 p2_7
      have p3_8 := qia hb3 p3_7
      have p4_8 := qia hb3 p4_7
      have ZD8 := ZD7.up hb3
      have ZC8 := ZC7.up hb3
      have ZR8 := ZR7.up hb3
      have X8 : Below w.heap.size w y3 := Below.on X7 hb3
      have O0_8 : Hid (ownsR y3 (D + 1) 3 (.slice a0 n0 d0) L0) := O0_7.out.all hb3
      have O1_8 : Hid (ownsR y3 (D + 1) 3 (.slice a1 n1 d1) L1) := O1_7.out.all hb3
      have O2_8 : Hid (ownsR y3 (D + 1) 3 (.slice a2 n2 d2) L2) := O2_7.out.all hb3
      have HX8 : Hid (D < y3.heap.size) := Nat.lt_of_lt_of_le HX7.out hb3.size
      have O3_8 : Hid (ownsR y3 (D + 1) 3 (.slice a3 n3 d3) L3) := ho3.mono HX7.out
      clear hb3 ho3 ZD7 ZC7 ZR7 X7 HX7 CF3 p0_7 p1_7 p2_7 p3_7 p4_7 O0_7 O1_7 O2_7
      have sc := ZC8.c3
      have sd := ZD8.c3
      have fc := ZC8.fr 3
      have fd := ZD8.fr 3
      go_wp2_with fail
      clear sc sd fc fd
      have ZC9 : B5 194 ((y3.setCell ⟨C, 3, none⟩ (.slice a3 n3 d3)).setCell ⟨D, 3, none⟩ (.bool b3)) C (.slice a0 n0 d0) (.slice a1 n1 d1) (.slice a2 n2 d2) (.slice a3 n3 d3) (.slice none 0 0) := (ZC8.s3 _).far hDC _
      have ZD9 : B5 4 ((y3.setCell ⟨C, 3, none⟩ (.slice a3 n3 d3)).setCell ⟨D, 3, none⟩ (.bool b3)) D (.bool b0) (.bool b1) (.bool b2) (.bool b3) (.bool false) := (ZD8.far hCD _).s3 _
      have ZR9 : B5 194 ((y3.setCell ⟨C, 3, none⟩ (.slice a3 n3 d3)).setCell ⟨D, 3, none⟩ (.bool b3)) R (.slice none 0 0) (.slice none 0 0) (.slice none 0 0) (.slice none 0 0) (.slice none 0 0) := (ZR8.far hRC _).far hRD _
      have X9 : Below w.heap.size w ((y3.setCell ⟨C, 3, none⟩ (.slice a3 n3 d3)).setCell ⟨D, 3, none⟩ (.bool b3)) := Below.setCell (Below.setCell X8 kC _) kD _
      have HX9 : Hid (D < ((y3.setCell ⟨C, 3, none⟩ (.slice a3 n3 d3)).setCell ⟨D, 3, none⟩ (.bool b3)).heap.size) := by show D < _; simpa using HX8.out
      have p0_9 : ((y3.setCell ⟨C, 3, none⟩ (.slice a3 n3 d3)).setCell ⟨D, 3, none⟩ (.bool b3)).cell? ⟨gp, 0, none⟩ = some (.string t0) := cell_far (cell_far p0_8 hgC _) hgD _
      have p1_9 : ((y3.setCell ⟨C, 3, none⟩ (.slice a3 n3 d3)).setCell ⟨D, 3, none⟩ (.bool b3)).cell? ⟨gp, 1, none⟩ = some (.string t1) := cell_far (cell_far p1_8 hgC _) hgD _
      have p2_9 : ((y3.setCell ⟨C, 3, none⟩ (.slice a3 n3 d3)).setCell ⟨D, 3, none⟩ (.bool b3)).cell? ⟨gp, 2, none⟩ = some (.string t2) := cell_far (cell_far p2_8 hgC _) hgD _
      have p3_9 : ((y3.setCell ⟨C, 3, none⟩ (.slice a3 n3 d3)).setCell ⟨D, 3, none⟩ (.bool b3)).cell? ⟨gp, 3, none⟩ = some (.string t3) := cell_far (cell_far p3_8 hgC _) hgD _
      have p4_9 : ((y3.setCell ⟨C, 3, none⟩ (.slice a3 n3 d3)).setCell ⟨D, 3, none⟩ (.bool b3)).cell? ⟨gp, 4, none⟩ = some (.string t4) := cell_far (cell_far p4_8 hgC _) hgD _
      have O0_9 : Hid (ownsR ((y3.setCell ⟨C, 3, none⟩ (.slice a3 n3 d3)).setCell ⟨D, 3, none⟩ (.bool b3)) (D + 1) 3 (.slice a0 n0 d0) L0) := (O0_8.out.setB (by show C < D + 1; omega) _).setB (by show D < D + 1; omega) _
      have O1_9 : Hid (ownsR ((y3.setCell ⟨C, 3, none⟩ (.slice a3 n3 d3)).setCell ⟨D, 3, none⟩ (.bool b3)) (D + 1) 3 (.slice a1 n1 d1) L1) := (O1_8.out.setB (by show C < D + 1; omega) _).setB (by show D < D + 1; omega) _
      have O2_9 : Hid (ownsR ((y3.setCell ⟨C, 3, none⟩ (.slice a3 n3 d3)).setCell ⟨D, 3, none⟩ (.bool b3)) (D + 1) 3 (.slice a2 n2 d2) L2) := (O2_8.out.setB (by show C < D + 1; omega) _).setB (by show D < D + 1; omega) _
      have O3_9 : Hid (ownsR ((y3.setCell ⟨C, 3, none⟩ (.slice a3 n3 d3)).setCell ⟨D, 3, none⟩ (.bool b3)) (D + 1) 3 (.slice a3 n3 d3) L3) := (O3_8.out.setB (by show C < D + 1; omega) _).setB (by show D < D + 1; omega) _
      clear ZD8 ZC8 ZR8 X8 HX8 p0_8 p1_8 p2_8 p3_8 p4_8 O0_8 O1_8 O2_8 O3_8
      refine (CF4.out _).mono ?_
      rintro e y4 ⟨v4, rfl, ho4, hb4⟩
      obtain ⟨a4, n4, d4, rfl⟩ := ho4.slice3
      have p0_10 := qia hb4 p0_9
      have p1_10 := qia hb4 p1_9
      have p2_10 := qia hb4 p2_9
      have p3_10 := qia hb4 p3_9
      have p4_10 := qia hb4 p4_9
      have ZD10 := ZD9.up hb4
      have ZC10 := ZC9.up hb4
      have ZR10 := ZR9.up hb4
      have X10 : Below w.heap.size w y4 := Below.on X9 hb4
      have O0_10 : Hid (ownsR y4 (D + 1) 3 (.slice a0 n0 d0) L0) := O0_9.out.all hb4
      have O1_10 : Hid (ownsR y4 (D + 1) 3 (.slice a1 n1 d1) L1) := O1_9.out.all hb4
      have O2_10 : Hid (ownsR y4 (D + 1) 3 (.slice a2 n2 d2) L2) := O2_9.out.all hb4
      have O3_10 : Hid (ownsR y4 (D + 1) 3 (.slice a3 n3 d3) L3) := O3_9.out.all hb4
      have HX10 : Hid (D < y4.heap.size) := Nat.lt_of_lt_of_le HX9.out hb4.size
      have O4_10 : Hid (ownsR y4 (D + 1) 3 (.slice a4 n4 d4) L4) := ho4.mono HX9.out
      clear hb4 ho4 ZD9 ZC9 ZR9 X9 HX9 CF4 p0_9 p1_9 p2_9 p3_9 p4_9 O0_9 O1_9 O2_9 O3_9
      have sc := ZC10.c4
      have sd := ZD10.c4
      have fc := ZC10.fr 4
      have fd := ZD10.fr 4
      go_wp2
      clear sc sd fc fd
      have ZC11 : B5 194 ((y4.setCell ⟨C, 4, none⟩ (.slice a4 n4 d4)).setCell ⟨D, 4, none⟩ (.bool b4)) C (.slice a0 n0 d0) (.slice a1 n1 d1) (.slice a2 n2 d2) (.slice a3 n3 d3) (.slice a4 n4 d4) := (ZC10.s4 _).far hDC _
      have ZD11 : B5 4 ((y4.setCell ⟨C, 4, none⟩ (.slice a4 n4 d4)).setCell ⟨D, 4, none⟩ (.bool b4)) D (.bool b0) (.bool b1) (.bool b2) (.bool b3) (.bool b4) := (ZD10.far hCD _).s4 _
      have ZR11 : B5 194 ((y4.setCell ⟨C, 4, none⟩ (.slice a4 n4 d4)).setCell ⟨D, 4, none⟩ (.bool b4)) R (.slice none 0 0) (.slice none 0 0) (.slice none 0 0) (.slice none 0 0) (.slice none 0 0) := (ZR10.far hRC _).far hRD _
      have X11 : Below w.heap.size w ((y4.setCell ⟨C, 4, none⟩ (.slice a4 n4 d4)).setCell ⟨D, 4, none⟩ (.bool b4)) := Below.setCell (Below.setCell X10 kC _) kD _
      have HX11 : Hid (D < ((y4.setCell ⟨C, 4, none⟩ (.slice a4 n4 d4)).setCell ⟨D, 4, none⟩ (.bool b4)).heap.size) := by show D < _; simpa using HX10.out
      have p0_11 : ((y4.setCell ⟨C, 4, none⟩ (.slice a4 n4 d4)).setCell ⟨D, 4, none⟩ (.bool b4)).cell? ⟨gp, 0, none⟩ = some (.string t0) := cell_far (cell_far p0_10 hgC _) hgD _
      have p1_11 : ((y4.setCell ⟨C, 4, none⟩ (.slice a4 n4 d4)).setCell ⟨D, 4, none⟩ (.bool b4)).cell? ⟨gp, 1, none⟩ = some (.string t1) := cell_far (cell_far p1_10 hgC _) hgD _
      have p2_11 : ((y4.setCell ⟨C, 4, none⟩ (.slice a4 n4 d4)).setCell ⟨D, 4, none⟩ (.bool b4)).cell? ⟨gp, 2, none⟩ = some (.string t2) := cell_far (cell_far p2_10 hgC _) hgD _
      have p3_11 : ((y4.setCell ⟨C, 4, none⟩ (.slice a4 n4 d4)).setCell ⟨D, 4, none⟩ (.bool b4)).cell? ⟨gp, 3, none⟩ = some (.string t3) := cell_far (cell_far p3_10 hgC _) hgD _
      have p4_11 : ((y4.setCell ⟨C, 4, none⟩ (.slice a4 n4 d4)).setCell ⟨D, 4, none⟩ (.bool b4)).cell? ⟨gp, 4, none⟩ = some (.string t4) := cell_far (cell_far p4_10 hgC _) hgD _
      have O0_11 : Hid (ownsR ((y4.setCell ⟨C, 4, none⟩ (.slice a4 n4 d4)).setCell ⟨D, 4, none⟩ (.bool b4)) (D + 1) 3 (.slice a0 n0 d0) L0) := (O0_10.out.setB (by show C < D + 1; omega) _).setB (by show D < D + 1; omega) _
      have O1_11 : Hid (ownsR ((y4.setCell ⟨C, 4, none⟩ (.slice a4 n4 d4)).setCell ⟨D, 4, none⟩ (.bool b4)) (D + 1) 3 (.slice a1 n1 d1) L1) := (O1_10.out.setB (by show C < D + 1; omega) _).setB (by show D < D + 1; omega) _
      have O2_11 : Hid (ownsR ((y4.setCell ⟨C, 4, none⟩ (.slice a4 n4 d4)).setCell ⟨D, 4, none⟩ (.bool b4)) (D + 1) 3 (.slice a2 n2 d2) L2) := (O2_10.out.setB (by show C < D + 1; omega) _).setB (by show D < D + 1; omega) _
      have O3_11 : Hid (ownsR ((y4.setCell ⟨C, 4, none⟩ (.slice a4 n4 d4)).setCell ⟨D, 4, none⟩ (.bool b4)) (D + 1) 3 (.slice a3 n3 d3) L3) := (O3_10.out.setB (by show C < D + 1; omega) _).setB (by show D < D + 1; omega) _
      have O4_11 : Hid (ownsR ((y4.setCell ⟨C, 4, none⟩ (.slice a4 n4 d4)).setCell ⟨D, 4, none⟩ (.bool b4)) (D + 1) 3 (.slice a4 n4 d4) L4) := (O4_10.out.setB (by show C < D + 1; omega) _).setB (by show D < D + 1; omega) _
      clear ZD10 ZC10 ZR10 X10 HX10 p0_10 p1_10 p2_10 p3_10 p4_10 O0_10 O1_10 O2_10 O3_10 O4_10
      generalize ((y4.setCell ⟨C, 4, none⟩ (.slice a4 n4 d4)).setCell ⟨D, 4, none⟩ (.bool b4)) = Y at *
      clear p0_11 p1_11 p2_11 p3_11 p4_11 HX11
      have HA : Hid (pcO s = if [b0, b1, b2, b3, b4].all id then some [L0, L1, L2, L3, L4] else none) := by
        show _ = _
        rw [HE.out]
        simp [pcT, HB0.out, HB1.out, HB2.out, HB3.out, HB4.out, HL0.out, HL1.out, HL2.out, HL3.out, HL4.out]
      have HD : Hid (∀ j y, [b0, b1, b2, b3, b4][j]? = some y → Y.cell? ⟨D, j, none⟩ = some (.bool y)) := fun j y h => by
        match j, h with
        | 0, h => cases h; exact ZD11.c0
        | 1, h => cases h; exact ZD11.c1
        | 2, h => cases h; exact ZD11.c2
        | 3, h => cases h; exact ZD11.c3
        | 4, h => cases h; exact ZD11.c4
      obtain ⟨bl, hbl, hlen⟩ : ∃ q : List Bool, q = [b0, b1, b2, b3, b4] ∧ q.length = 5 := ⟨_, rfl, rfl⟩
      rw [← hbl] at HA HD
      have HZR : Hid (B5 194 Y R (.slice none 0 0) (.slice none 0 0) (.slice none 0 0) (.slice none 0 0) (.slice none 0 0)) := ZR11
      have HZC : Hid (B5 194 Y C (.slice a0 n0 d0) (.slice a1 n1 d1) (.slice a2 n2 d2) (.slice a3 n3 d3) (.slice a4 n4 d4)) := ZC11
      have HX : Hid (Below w.heap.size w Y) := X11
      have HLR : Hid (w.heap.size ≤ R ∧ R < D + 1 ∧ w.heap.size ≤ D + 1) := ⟨lwR, lRD, lwD⟩
      clear HRw ZD11 ZC11 ZR11 X11 HE hbl HB0 HB1 HB2 HB3 HB4 HL0 HL1 HL2 HL3 HL4 hCD hDC hRC hRD hgC hgD kC kD lCD lRD lwR lwD hs hi0 hz0 hz1 hz2
      go_loopw [8] (fun i wr => ∃ k : Nat, k ≤ 5 ∧ i = .int .i64 k ∧ wr = Y ∧ Hid (∀ j, j < k → bl[j]? = some true)) (fun i _ => (5 - intOf i).toNat)
      case atStart => exact ⟨0, Nat.zero_le _, rfl, rfl, fun j hj => absurd hj (Nat.not_lt_zero _)⟩
      case round =>
        obtain ⟨k, hk, rfl, rfl, HK⟩ := hrel
        by_cases hlt : k < 5
        · obtain ⟨y, HYY⟩ : ∃ y, Hid (bl[k]? = some y) := ⟨_, List.getElem?_eq_getElem (by rw [hlen]; exact hlt)⟩
          have qd := HD.out k y HYY.out
          cases y with
          | false =>
            have HN : Hid (pcO s = none) := by
              show _ = _
              rw [HA.out, if_neg]
              intro h
              have := List.all_eq_true.1 h _ (List.mem_of_getElem? HYY.out)
              cases this
            have r0 := HZR.out.c0
            have r1 := HZR.out.c1
            have r2 := HZR.out.c2
            have r3 := HZR.out.c3
            have r4 := HZR.out.c4
            have rf := HZR.out.fr
            go_wp2
            refine bodyPost_ret (ret_c2 rfl rfl rfl (HZR.out.set (.slice none 0 0) (.slice none 0 0) (.slice none 0 0) (.slice none 0 0) (.slice none 0 0))) rfl ?_
            exact pc_no HN.out (qrc HX.out HLR.out.1 _ _ _ _ _)
          | true =>
            go_wp2
            go_roundw
            case rel => exact ⟨k + 1, by omega, by go_num, by first | rfl | trivial, fun j hj => (Nat.lt_succ_iff_lt_or_eq.1 hj).elim (HK.out j) (fun e => by rw [e]; exact HYY.out)⟩
            case measure => simp [intOf]; omega
        · have hk5 : k = 5 := by omega
          subst hk5
          have HY : Hid (pcO s = some [L0, L1, L2, L3, L4]) := by
            show _ = _
            rw [HA.out, if_pos]
            rw [List.all_eq_true]
            intro x hx
            obtain ⟨j, hj, rfl⟩ := List.mem_iff_getElem.1 hx
            have := HK.out j (by omega)
            rw [List.getElem?_eq_getElem hj] at this
            exact Option.some.inj this
          have r0 := HZR.out.c0
          have r1 := HZR.out.c1
          have r2 := HZR.out.c2
          have r3 := HZR.out.c3
          have r4 := HZR.out.c4
          have rf := HZR.out.fr
          have e0 := HZC.out.c0
          have e1 := HZC.out.c1
          have e2 := HZC.out.c2
          have e3 := HZC.out.c3
          have e4 := HZC.out.c4
          go_wp2
          refine bodyPost_ret (ret_c2 rfl rfl rfl (HZR.out.set (.slice a0 n0 d0) (.slice a1 n1 d1) (.slice a2 n2 d2) (.slice a3 n3 d3) (.slice a4 n4 d4))) rfl ?_
          refine ⟨_, _, _, _, _, by rw [HY.out]; rfl, ?_, ?_, ?_, ?_, ?_, qrc HX.out HLR.out.1 _ _ _ _ _⟩
          · rw [HY.out]; exact (qbc O0_11.out HLR.out.2.1 _ _ _ _ _).mono HLR.out.2.2
          · rw [HY.out]; exact (qbc O1_11.out HLR.out.2.1 _ _ _ _ _).mono HLR.out.2.2
          · rw [HY.out]; exact (qbc O2_11.out HLR.out.2.1 _ _ _ _ _).mono HLR.out.2.2
          · rw [HY.out]; exact (qbc O3_11.out HLR.out.2.1 _ _ _ _ _).mono HLR.out.2.2
          · rw [HY.out]; exact (qbc O4_11.out HLR.out.2.1 _ _ _ _ _).mono HLR.out.2.2
    · have HN : Hid (pcO s = none) := by show _ = _; unfold pcO; rw [hok, pcT_len h5]; rfl
      clear HOP hok
      generalize (texts (qfb s).1).length = n at h5
      have h5' : ¬ ((n : Int) = 5) := by omega
      go_wp2
      refine bodyPost_ret (ret_c2 rfl rfl rfl (HZR.out.set (.slice none 0 0) (.slice none 0 0) (.slice none 0 0) (.slice none 0 0) (.slice none 0 0))) rfl ?_
      exact pc_no HN.out (qrc B1 (Nat.le_refl _) _ _ _ _ _)
end Go.Proofs.YtpjpheicldegkaaGreatDoor
