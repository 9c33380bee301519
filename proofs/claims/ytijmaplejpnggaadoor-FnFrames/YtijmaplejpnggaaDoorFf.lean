/-
  The drawn law on frames: the walk.
-/
import Derived.Test.YtijmaplejpnggaaDoorCut
import Derived.Test.YtijmaplejpnggaaDoorDh
namespace Go.Proofs.YtijmaplejpnggaaDoor
open Go.RowKit

abbrev txTwo : ByteArray := ⟨#[116, 119, 111]⟩
abbrev txThree : ByteArray := ⟨#[116, 104, 114, 101, 101, 32, 97, 110, 100, 32, 109, 111, 114, 101]⟩
abbrev txOne : ByteArray := ⟨#[111, 110, 101]⟩
/-- The three records. -/
def tsL (t : ByteArray) : List ByteArray := [t, txTwo, txThree]

theorem cat_snoc : ∀ (l : List ByteArray) (t : ByteArray), cat (l ++ [t]) = cat l ++ frameT t
  | [], t => by simp [cat]
  | u :: l, t => by
    show frameT u ++ cat (l ++ [t]) = frameT u ++ cat l ++ frameT t
    rw [cat_snoc l t, ByteArray.append_assoc]
theorem cat_le : ∀ (l : List ByteArray), Recs l → (∀ t ∈ l, t.size ≤ 900) → (cat l).size ≤ 907 * l.length
  | [], _, _ => by simp [cat]
  | t :: l, hr, h => by
    have h1 := cat_le l (fun u hu => hr u (by simp [hu])) (fun u hu => h u (by simp [hu]))
    have h2 : (cat (t :: l)).size = (frameT t).size + (cat l).size := ByteArray.size_append
    have h3 := h t (by simp)
    have h4 := varI_len5 (show t.size ≤ 20000 by omega)
    rw [frameT_size] at h2
    simp
    omega
/-- Where the first k frames end, for all k up to this. -/
def endsL (l : List ByteArray) (k : Nat) : List Int := (List.range (k + 1)).map fun j => ((cat (l.take j)).size : Int)
theorem endsL_snoc (l : List ByteArray) (k : Nat) : endsL l (k + 1) = endsL l k ++ [((cat (l.take (k + 1))).size : Int)] := by
  unfold endsL; rw [List.range_succ, List.map_append]; rfl
theorem endsL_len (l : List ByteArray) (k : Nat) : (endsL l k).length = k + 1 := by simp [endsL]

/-- What lies there ahead of the loop. -/
structure Fst (w2 W0 : World) (t : ByteArray) : Prop where
  size : W0.heap.size = w2.heap.size + 2
  cells : ∀ j (hj : j < (tsL t).length), W0.cell? ⟨w2.heap.size, j, none⟩ = some (.string (tsL t)[j])
  ends : ownsI W0 (w2.heap.size + 1) 3 (.slice (some ⟨w2.heap.size + 1, 0, none⟩) 1 1) [0]
  below : Below w2.heap.size w2 W0
theorem fstA (w2 : World) (t : ByteArray) : Fst w2 ((w2.alloc (.cells #[.string t, .string txTwo, .string txThree] 9)).alloc (.cells #[.int .i64 0] 3)) t := by
  refine ⟨by simp, fun j hj => ?_, ?_, ((Below.refl _ _).alloc (Nat.le_refl _) _).alloc (by simp) _⟩
  · simp [tsL] at hj
    match j, hj with
    | 0, _ => simp [tsL, go_sem]
    | 1, _ => simp [tsL, go_sem]
    | 2, _ => simp [tsL, go_sem]
  · have := World.ownsRow_lit (base := w2.heap.size + 1) (e := 3) (size := 1) (w2.alloc (.cells #[.string t, .string txTwo, .string txThree] 9)) #[.int .i64 0] 1 (by simp) (by decide) rfl
    simpa [ownsI] using this
/-- One record of the three. -/
theorem tsL_at {t : ByteArray} (h1 : 1 ≤ t.size) (h2 : t.size ≤ 900) {k : Nat} (hk : k < (tsL t).length) : 1 ≤ ((tsL t)[k]).size ∧ ((tsL t)[k]).size ≤ 900 := by
  simp [tsL] at hk
  match k, hk with
  | 0, _ => exact ⟨h1, h2⟩
  | 1, _ => show 1 ≤ txTwo.size ∧ txTwo.size ≤ 900; decide
  | 2, _ => show 1 ≤ txThree.size ∧ txThree.size ≤ 900; decide
theorem tsL_recs {t : ByteArray} (h1 : 1 ≤ t.size) (h2 : t.size ≤ 900) : Recs (tsL t) ∧ ∀ u ∈ tsL t, u.size ≤ 900 := by
  have : ∀ u ∈ tsL t, 1 ≤ u.size ∧ u.size ≤ 900 := by
    intro u hu
    obtain ⟨k, hk, rfl⟩ := List.getElem_of_mem hu
    exact tsL_at h1 h2 hk
  exact ⟨fun u hu => ⟨(this u hu).1, by have := (this u hu).2; omega⟩, fun u hu => (this u hu).2⟩
theorem cat_take_le {t : ByteArray} (h1 : 1 ≤ t.size) (h2 : t.size ≤ 900) (k : Nat) : (cat ((tsL t).take k)).size ≤ 2721 := by
  obtain ⟨r1, r2⟩ := tsL_recs h1 h2
  have := cat_le ((tsL t).take k) (fun u hu => r1 u (List.mem_of_mem_take hu)) (fun u hu => r2 u (List.mem_of_mem_take hu))
  have h3 : ((tsL t).take k).length ≤ 3 := by rw [List.length_take]; exact Nat.min_le_right _ _
  omega
theorem take_cat {t : ByteArray} {k : Nat} (hk : k < (tsL t).length) : cat ((tsL t).take (k + 1)) = cat ((tsL t).take k) ++ frameT (tsL t)[k] := by
  rw [List.take_succ_eq_append_getElem hk, cat_snoc]
theorem run_cat {t : ByteArray} (h1 : 1 ≤ t.size) (h2 : t.size ≤ 900) {k : Nat} (hk : k < (tsL t).length) (wx : World) :
    (Op.stringOp .add (cat ((tsL t).take k)) (frameT (tsL t)[k])).run Tryd.prog wx = .ok (.string (cat ((tsL t).take (k + 1)))) wx := by
  have a1 := cat_take_le h1 h2 (k + 1)
  have a2 := take_cat hk
  rw [a2, ByteArray.size_append] at a1
  rw [run_string_add_sum wx _ _ (by omega), ← a2]

theorem ownsI.all {w w' : World} {B : Nat} {e : TypeId} {v : Value} {l : List Int} (h : ownsI w B e v l) (hb : Below w.heap.size w w') : ownsI w' B e v l := by
  obtain ⟨h1, h2⟩ := h
  refine ⟨h1, ?_⟩
  rcases h2 with h | ⟨r, cap, cur, hv, hb2, hg, hr⟩
  · exact .inl h
  · exact .inr ⟨r, cap, cur, hv, hb2, by rw [hb.block r (Array.getElem?_eq_some_iff.1 hg).1]; exact hg, hr⟩

theorem cat_mono : ∀ (l : List ByteArray) (j : Nat), (cat (l.take j)).size ≤ (cat l).size
  | [], j => by simp [cat]
  | t :: l, 0 => by simp [cat]
  | t :: l, j + 1 => by
    have h1 : (cat ((t :: l).take (j + 1))).size = (frameT t).size + (cat (l.take j)).size := ByteArray.size_append
    have h2 : (cat (t :: l)).size = (frameT t).size + (cat l).size := ByteArray.size_append
    have := cat_mono l j
    omega
theorem unframe_cut {t : ByteArray} (h1 : 1 ≤ t.size) (h2 : t.size ≤ 900) (k : Nat) (hk : k ≤ (cat (tsL t)).size) :
    ∃ m, m ≤ 3 ∧ (cat ((tsL t).take m)).size ≤ k ∧ (m = 3 ∨ k < (cat ((tsL t).take (m + 1))).size) ∧
      ∀ w, TableIs w → Calls Tryd.prog 12 #[.string ((cat (tsL t)).extract 0 k)] w fun e w' => ∃ a d, e = .returned (.tuple #[.slice a m d, .int .i64 (cat ((tsL t).take m)).size]) ∧ ownsS w' w.heap.size 9 (.slice a m d) ((tsL t).take m) ∧ Below w.heap.size w w' := by
  obtain ⟨m, m1, m2, m3, m4, m5⟩ := frs_cat (tsL t) k (tsL_recs h1 h2).1 hk
  have hm : m ≤ 3 := m1
  refine ⟨m, hm, m2, m3, fun w hw => ?_⟩
  have hz : ((cat (tsL t)).extract 0 k).size ≤ 20000 := by
    have := cat_take_le h1 h2 3
    have e : (tsL t).take 3 = tsL t := rfl
    rw [e] at this
    rw [ByteArray.size_extract]; omega
  refine (unframe_ok _ w hz hw).mono ?_
  rintro e w' ⟨v, rfl, ho, hb⟩
  rw [m4] at ho
  obtain ⟨a, d, rfl⟩ := ho.slice
  have hl : ((tsL t).take m).length = m := by rw [List.length_take]; exact Nat.min_eq_left hm
  rw [hl] at ho ⊢
  exact ⟨a, d, by rw [m5], ho, hb⟩
theorem unframe_whole {t : ByteArray} (h1 : 1 ≤ t.size) (h2 : t.size ≤ 900) (w : World) (hw : TableIs w) :
    Calls Tryd.prog 12 #[.string (cat (tsL t))] w fun e w' => ∃ v, e = .returned (.tuple #[v, .int .i64 (cat (tsL t)).size]) ∧ ownsS w' w.heap.size 9 v (tsL t) ∧ Below w.heap.size w w' := by
  obtain ⟨m, m1, m2, m3, m4⟩ := unframe_cut h1 h2 (cat (tsL t)).size (Nat.le_refl _)
  have hm : m = 3 := by
    rcases m3 with h | h
    · exact h
    · have := cat_mono (tsL t) (m + 1); omega
  subst hm
  have e : (tsL t).take 3 = tsL t := rfl
  rw [e, ByteArray.extract_zero_size] at m4
  exact (m4 w hw).mono fun e w' ⟨a, d, h1, h2, h3⟩ => ⟨_, h1, h2, h3⟩
theorem same_ts {w : World} {A g d m : Nat} {va : Value} {t : ByteArray} (hm : m ≤ 3) (ha : ownsS w A 9 va ((tsL t).take m)) (hb : ∀ j (hj : j < (tsL t).length), w.cell? ⟨g, j, none⟩ = some (.string (tsL t)[j])) :
    Calls Tryd.prog 13 #[va, .slice (some ⟨g, 0, none⟩) m d] w fun e w' => e = .returned (.bool true) ∧ Below w.heap.size w w' := by
  have hl : ((tsL t).take m).length = m := by rw [List.length_take]; exact Nat.min_eq_left hm
  have := sameS_cells (g := g) (d := d) ha (fun j hj => by rw [List.getElem_take]; exact hb j (by rw [hl] at hj; exact Nat.lt_of_lt_of_le hj hm)) (by omega)
  rw [hl] at this
  exact this
theorem ends_at {w : World} {B : Nat} {v : Value} {l : List ByteArray} (h : ownsI w B 3 v (endsL l 3)) :
    ∃ E c, v = .slice (some ⟨E, 0, none⟩) 4 c ∧ E < w.heap.size ∧ ∀ j, j < 4 → w.cell? ⟨E, j, none⟩ = some (.int .i64 (cat (l.take j)).size) := by
  obtain ⟨r, c, rfl, _, h1, h2⟩ := h.cells (by intro e; have := congrArg List.length e; rw [endsL_len] at this; simp at this)
  have hl : (endsL l 3).length = 4 := endsL_len l 3
  refine ⟨r, c, by rw [hl], h1, fun j hj => ?_⟩
  rw [h2 j (by omega)]
  simp [endsL]

set_option maxRecDepth 10000 in
set_option maxHeartbeats 4000000 in
theorem law_Frames (v : Value) (n : Nat) (w : World) (hn : n ≤ 9223372036854775807) (hc : CodeAt w w.heap.size v n) (hp : TableIs w) :
    Calls Tryd.prog 3 #[v] w fun e w' => e = .returned (.bool true) ∧ Below w.heap.size w w' := by
  obtain ⟨a, cap, rfl, _⟩ := id hc
  by_cases hb : 1048576 < n
  · have hbb : decide (1048576 < n) = true := decide_eq_true hb
    go_enter Tryd.func3, Tryd.ntmps3
    go_wp2_with (go_at_call 8; refine (big_any a n cap _ hn).mono ?_; rintro e w' ⟨rfl, hw⟩; have hw2 := hw.symm; subst hw2)
    go_ret
    exact ⟨rfl, Below.refl _ _⟩
  · have hbb : decide (1048576 < n) = false := decide_eq_false hb
    have hn2 : n ≤ 1048576 := by omega
    have HT : Hid (TableIs w) := hp
    clear hp
    go_enter Tryd.func3, Tryd.ntmps3
    go_wp2_with fail
    refine (big_any a n cap _ hn).mono ?_
    rintro e w' ⟨rfl, hw⟩
    have hw2 := hw.symm
    subst hw2
    go_wp2_with fail
    refine (places_any _ n _ hn2 hc).mono ?_
    rintro e w1 ⟨u, l, rfl, ho, hl, hall, hb1⟩
    obtain ⟨r, rc, rfl, hr0, hr1, hrc⟩ := ho.cells (by intro e; rw [e] at hl; simp at hl)
    have hx := hall l[0] (List.getElem_mem _)
    have hp1 := hrc 0 (by omega)
    rw [hl]
    generalize l[0] = x0 at hx hp1
    obtain ⟨hx0, hx1⟩ := hx
    clear ho hrc hall hl
    go_wp2_with fail
    refine (drawHex_any _ n _ hn2 (hc.on hb1)).mono ?_
    rintro e w2 ⟨t, rfl, hts, hb2⟩
    have hp2 : w2.cell? ⟨r, 0, none⟩ = some (.int .i64 x0) := (hb2.cell (p := ⟨r, 0, none⟩) hr1).trans hp1
    have hr2 : r < w2.heap.size := Nat.lt_of_lt_of_le hr1 hb2.size
    have HW : Hid (Below w.heap.size w w2) := Below.on hb1 hb2
    clear hb1 hb2 hp1 hr1 hr0 hc
    have h3 : ∃ T : ByteArray, (1 ≤ T.size ∧ T.size ≤ 900) ∧ ((t.size = 0 ∧ T = txOne) ∨ (t.size ≠ 0 ∧ 900 < t.size ∧ T = txOne) ∨ (t.size ≠ 0 ∧ ¬ 900 < t.size ∧ T = t)) := by
      by_cases h0 : t.size = 0
      · exact ⟨txOne, by decide, Or.inl ⟨h0, rfl⟩⟩
      · by_cases h9 : 900 < t.size
        · exact ⟨txOne, by decide, Or.inr (Or.inl ⟨h0, h9, rfl⟩)⟩
        · exact ⟨t, ⟨by omega, by omega⟩, Or.inr (Or.inr ⟨h0, h9, rfl⟩)⟩
    obtain ⟨T, ⟨hT1, hT2⟩, h3⟩ := h3
    have F := fstA w2 T
    obtain ⟨W0, hW0⟩ : ∃ W0, (w2.alloc (.cells #[.string T, .string txTwo, .string txThree] 9)).alloc (.cells #[.int .i64 0] 3) = W0 := ⟨_, rfl⟩
    rw [hW0] at F
    have H0 : Hid ((w2.alloc (.cells #[.string T, .string txTwo, .string txThree] 9)).alloc (.cells #[.int .i64 0] 3) = W0) := hW0
    clear hW0
    have hsz0 := F.size
    have HF : Hid (Fst w2 W0 T) := F
    clear F
    rcases h3 with ⟨h0, hTe⟩ | ⟨h0, h9, hTe⟩ | ⟨h0, h9, rfl⟩
    have H1 : Hid ((w2.alloc (.cells #[.string txOne, .string txTwo, .string txThree] 9)).alloc (.cells #[.int .i64 0] 3) = W0) := by rw [hTe] at H0; exact H0
    clear hTe H0
    rotate_left
    have h0' : decide ((t.size : Int) = 0) = false := decide_eq_false (by omega)
    have H1 : Hid ((w2.alloc (.cells #[.string txOne, .string txTwo, .string txThree] 9)).alloc (.cells #[.int .i64 0] 3) = W0) := by rw [hTe] at H0; exact H0
    clear hTe H0
    rotate_left
    have h0' : decide ((T.size : Int) = 0) = false := decide_eq_false (by omega)
    have h9' : decide (900 < (T.size : Int)) = false := decide_eq_false (by omega)
    have H1 : Hid ((w2.alloc (.cells #[.string T, .string txTwo, .string txThree] 9)).alloc (.cells #[.int .i64 0] 3) = W0) := H0
    clear H0
    rotate_left
    all_goals go_wp2
    all_goals rw [H1.out]
    all_goals
      clear H1
      try clear h0'
      try clear h9'
      try clear h0
      try clear h9
      try (rename ((T.size : Int) == 0) = false => hz0; clear hz0)
      go_loopw [5, 6, 7] (fun fl en i wr => ∃ k : Nat, k ≤ 3 ∧ i = .int .i64 k ∧ fl = .string (cat ((tsL T).take k)) ∧ ownsI wr (w2.heap.size + 1) 3 en (endsL (tsL T) k) ∧ Below (w2.heap.size + 1) W0 wr) (fun _ _ i _ => 3 - (intOf i).toNat)
      case atStart => exact ⟨0, by omega, rfl, rfl, HF.out.ends, Below.refl _ _⟩
      case round =>
        obtain ⟨k, hk, rfl, rfl, hown, hbel⟩ := hrel
        have hsz := hbel.size
        have hBw : Below w.heap.size w wr := (HW.out.trans (HF.out.below.mono HW.out.size)).trans (hbel.mono (Nat.le_trans HW.out.size (Nat.le_succ _)))
        by_cases hlt : k < 3
        · have hlt' : k < (tsL T).length := hlt
          have hck := (hbel.cell (p := ⟨w2.heap.size, k, none⟩) (Nat.lt_succ_self _)).trans (HF.out.cells k hlt')
          have hadd := run_cat hT1 hT2 hlt'
          have hts := tsL_at hT1 hT2 hlt'
          have hcl := cat_take_le hT1 hT2 (k + 1)
          generalize (tsL T)[k] = tk at *
          obtain ⟨ht1, ht2⟩ := hts
          go_wp2_with (first | (go_at_call 11; refine (frame_ok _ _ ht1 (by omega) (HT.out.below hBw)).mono ?_; rintro e w3 ⟨rfl, hb3⟩) | (at_builtin; refine wpList_append_int _ W0 rfl (.tmp 57) (.tmp 60) 24 rfl (w2.heap.size + 1) 3 Tryd.underlying24 info3 _ (endsL (tsL T) k) rfl ((hown.all hb3).alloc _) ((hbel.trans (hb3.mono (by omega))).alloc (by have := hb3.size; omega) _) ⟨w3.heap.size, 0, none⟩ 1 ((cat ((tsL T).take (k + 1))).size : Int) rfl ?c1 ?c2 ?c3 ?_))
          case c1 => simp
          case c2 => rw [endsL_len]; omega
          case c3 => have := hb3.size; simp; omega
          intro v' w4 hown4 hbel4
          clear hown hbel hck hadd
          go_wp2
          go_roundw
          case rel => exact ⟨k + 1, by omega, by go_num, rfl, by rw [endsL_snoc]; exact hown4, hbel4⟩
          case measure => simp [intOf]; omega
        · have hk3 : k = 3 := by omega
          subst hk3
          have e3 : (tsL T).take 3 = tsL T := rfl
          rw [e3]
          obtain ⟨E, ec, rfl, hE, hends⟩ := ends_at hown
          have hcat := cat_take_le hT1 hT2 3
          rw [e3] at hcat
          have HC : Hid (∀ j (hj : j < (tsL T).length), wr.cell? ⟨w2.heap.size, j, none⟩ = some (.string (tsL T)[j])) := fun j hj => (hbel.cell (p := ⟨w2.heap.size, j, none⟩) (Nat.lt_succ_self _)).trans (HF.out.cells j hj)
          have HE : Hid (∀ j, j < 4 → wr.cell? ⟨E, j, none⟩ = some (.int .i64 (cat ((tsL T).take j)).size)) := hends
          have hpr : wr.cell? ⟨r, 0, none⟩ = some (.int .i64 x0) := (hbel.cell (p := ⟨r, 0, none⟩) (Nat.lt_succ_of_lt hr2)).trans ((HF.out.below.cell (p := ⟨r, 0, none⟩) hr2).trans hp2)
          have hrr : r < wr.heap.size := by omega
          have hLr : w2.heap.size < wr.heap.size := by omega
          have HT2 : Hid (TableIs wr) := HT.out.below hBw
          clear hown hends hp2 e3
          obtain ⟨kk, hkk⟩ : ∃ kk : Nat, x0 % ((((cat (tsL T)).size : Nat) : Int) + 1) = (kk : Int) := ⟨(x0 % ((((cat (tsL T)).size : Nat) : Int) + 1)).toNat, by rw [Int.toNat_of_nonneg (Int.emod_nonneg _ (by omega))]⟩
          have hkl : kk ≤ (cat (tsL T)).size := by
            have := Int.emod_lt_of_pos x0 (show (0 : Int) < ((cat (tsL T)).size : Int) + 1 by omega)
            omega
          have hsl : ∀ wx, (Instr.slice 9 (.string (cat (tsL T))) none (some (.int .i64 (kk : Int))) none).run Tryd.prog wx = .ok (.string ((cat (tsL T)).extract 0 kk)) wx := fun wx => by
            rw [run_slice_string_h (P := Tryd.prog) wx 9 _ Tryd.underlying9 .i64 (kk : Int) (by omega) (by omega)]; rfl
          obtain ⟨m, hm, hmk, hm3, hcut⟩ := unframe_cut hT1 hT2 kk hkl
          have HU : Hid (∀ w, TableIs w → Calls Tryd.prog 12 #[.string ((cat (tsL T)).extract 0 kk)] w fun e w' => ∃ a d, e = .returned (.tuple #[.slice a m d, .int .i64 (cat ((tsL T).take m)).size]) ∧ ownsS w' w.heap.size 9 (.slice a m d) ((tsL T).take m) ∧ Below w.heap.size w w') := hcut
          clear hcut
          go_wp2_with fail
          refine (unframe_whole hT1 hT2 _ HT2.out).mono ?_
          rintro e w4 ⟨vb, rfl, hob, hb4⟩
          go_wp2_with fail
          refine (same_ts (m := 3) (t := T) (by omega) hob (fun j hj => (hb4.cell (p := ⟨w2.heap.size, j, none⟩) hLr).trans (HC.out j hj))).mono ?_
          rintro e w5 ⟨rfl, hb5⟩
          have hb45 : Below wr.heap.size wr w5 := Below.on hb4 hb5
          have hp5 : w5.cell? ⟨r, 0, none⟩ = some (.int .i64 x0) := (hb45.cell (p := ⟨r, 0, none⟩) hrr).trans hpr
          clear hob hb4 hb5 hpr
          go_wp2_with fail
          refine (HU.out _ (HT2.out.below hb45)).mono ?_
          rintro e w6 ⟨a6, d6, rfl, ho6, hb6⟩
          have hb46 : Below wr.heap.size wr w6 := Below.on hb45 hb6
          have hE0 : w6.cell? ⟨E, m, none⟩ = some (.int .i64 (cat ((tsL T).take m)).size) := (hb46.cell (p := ⟨E, m, none⟩) hE).trans (HE.out m (by omega))
          have hN0 : (cat ((tsL T).take m)).size ≤ 2721 := cat_take_le hT1 hT2 m
          by_cases h33 : m = 3
          · subst h33
            clear hm3
            go_wp2_with fail
            refine (same_ts (m := 3) (t := T) (by omega) ho6 (fun j hj => (hb46.cell (p := ⟨w2.heap.size, j, none⟩) hLr).trans (HC.out j hj))).mono ?_
            rintro e w7 ⟨rfl, hb7⟩
            go_wp2_with fail
            go_ret
            exact ⟨rfl, Below.on (hBw.trans (hb46.mono hBw.size)) hb7⟩
          · have hm4 : kk < (cat ((tsL T).take (m + 1))).size := by
              rcases hm3 with h | h
              · exact absurd h h33
              · exact h
            have hm5 : m < 3 := by omega
            have hE1 : w6.cell? ⟨E, m + 1, none⟩ = some (.int .i64 (cat ((tsL T).take (m + 1))).size) := (hb46.cell (p := ⟨E, m + 1, none⟩) hE).trans (HE.out (m + 1) (by omega))
            have hme : ((m : Int) == 3) = false := by rw [beq_eq_false_iff_ne]; omega
            clear hm3
            go_wp2_with fail
            refine (same_ts (m := m) (t := T) (by omega) ho6 (fun j hj => (hb46.cell (p := ⟨w2.heap.size, j, none⟩) hLr).trans (HC.out j hj))).mono ?_
            rintro e w7 ⟨rfl, hb7⟩
            have hE7 := (hb7.cell (p := ⟨E, m + 1, none⟩) (Nat.lt_of_lt_of_le hE hb46.size)).trans hE1
            go_wp2_with fail
            go_ret
            exact ⟨rfl, Below.on (hBw.trans (hb46.mono hBw.size)) hb7⟩

end Go.Proofs.YtijmaplejpnggaaDoor
