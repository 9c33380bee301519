/-
  All records of a file, as the model reads them: the walk.
-/
import Derived.Test.YtijmaplejpnggaaDoorRf
import Derived.Test.YtijmaplejpnggaaDoorStr
namespace Go.Proofs.YtijmaplejpnggaaDoor
open Go.RowKit

/-- The place behind the last of these frames. -/
def behindF (l : List (ByteArray × Nat)) (a : Nat) : Nat := l.foldl (fun _ x => x.2) a
theorem behindF_snoc (l : List (ByteArray × Nat)) (a : Nat) (x : ByteArray × Nat) : behindF (l ++ [x]) a = x.2 := by simp [behindF]
def recs (l : List (ByteArray × Nat)) : List ByteArray := l.map Prod.fst
theorem recs_snoc (l : List (ByteArray × Nat)) (x : ByteArray × Nat) : recs (l ++ [x]) = recs l ++ [x.1] := by simp [recs]
theorem recs_len (l : List (ByteArray × Nat)) : (recs l).length = l.length := by simp [recs]

theorem specReadVar_is (s : ByteArray) (a : Nat) (w : World) (_ha : a ≤ s.size) (hs : s.size ≤ 1048576) (x y : Int) (z : Bool) (h : rv s a = (x, y, z)) :
    Calls Tryd.prog 37 #[.string s, .int .i64 a] w fun e w' => e = .returned (.tuple #[.int .i64 x, .int .i64 y, .bool z]) ∧ Below w.heap.size w w' := specReadVar_any s a w hs x y z h

/-- Where the reading stands: these frames have come, and these are to come. -/
structure At (s : ByteArray) (pre : List (ByteArray × Nat)) (a : Nat) : Prop where
  le : a ≤ s.size
  all : frs s 0 = pre ++ frs s a
  last : behindF pre 0 = a
  len : pre.length ≤ a
theorem At.start (s : ByteArray) : At s [] 0 := ⟨Nat.zero_le _, rfl, rfl, Nat.le_refl _⟩
theorem At.next {s : ByteArray} {pre : List (ByteArray × Nat)} {a : Nat} {x : ByteArray × Nat} (h : At s pre a) (hr : rdF s a = some x) : At s (pre ++ [x]) x.2 := by
  have hb := rdF_bd h.le (hr.trans (by rfl : some x = some (x.1, x.2)))
  refine ⟨hb.2, ?_, behindF_snoc _ _ _, ?_⟩
  · rw [h.all, frs_some h.le hr]; simp
  · have := h.len; simp; omega
theorem At.stop {s : ByteArray} {pre : List (ByteArray × Nat)} {a : Nat} (h : At s pre a) (hr : rdF s a = none) : frs s 0 = pre ∧ behindF (frs s 0) 0 = a := by
  have : frs s 0 = pre := by rw [h.all, frs_none hr]; simp
  rw [this]
  exact ⟨rfl, h.last⟩

theorem rdF_no1 {s : ByteArray} {a : Nat} {x y : Int} (h : rv s a = (x, y, false)) : rdF s a = none := by
  unfold rdF; rw [h]; simp
theorem rdF_no2 {s : ByteArray} {a : Nat} {x y : Int} (h : rv s a = (x, y, true)) (hx : (s.size : Int) - y - 4 < x) : rdF s a = none := by
  unfold rdF; rw [h]; rw [if_neg (by intro hh; have := hh.2; simp only at this; omega)]
theorem rdF_no3 {s : ByteArray} {a : Nat} {x y : Int} (h : rv s a = (x, y, true)) (hn : x < 1 ∨ 9000 < x) : rdF s a = none := by
  unfold rdF; rw [h]
  split
  · rw [if_neg (by intro hh; have := hh.1; have := hh.2.1; simp only at *; omega)]
  · rfl
theorem rdF_no4 {s : ByteArray} {a : Nat} {x y : Int} (h : rv s a = (x, y, true)) (h0 : 0 ≤ x) (h1 : 0 ≤ y) (hne : frameT (s.extract (y + 4).toNat (y + 4 + x).toNat) ≠ s.extract a (y + 4 + x).toNat) : rdF s a = none := by
  have e1 : (y + 4).toNat = y.toNat + 4 := by omega
  have e2 : (y + 4 + x).toNat = y.toNat + 4 + x.toNat := by omega
  rw [e1, e2] at hne
  unfold rdF; rw [h]
  split
  · rw [if_neg (fun hh => hne hh.2.2)]
  · rfl
theorem rdF_yes {s : ByteArray} {a : Nat} {x y : Int} (h : rv s a = (x, y, true)) (h0 : 0 ≤ y) (hx : x ≤ (s.size : Int) - y - 4) (h1 : 1 ≤ x) (h2 : x ≤ 9000)
    (he : frameT (s.extract (y + 4).toNat (y + 4 + x).toNat) = s.extract a (y + 4 + x).toNat) : rdF s a = some (s.extract (y + 4).toNat (y + 4 + x).toNat, (y + 4 + x).toNat) := by
  have e1 : (y + 4).toNat = y.toNat + 4 := by omega
  have e2 : (y + 4 + x).toNat = y.toNat + 4 + x.toNat := by omega
  rw [e1, e2] at he ⊢
  unfold rdF; rw [h]
  rw [if_pos ⟨rfl, hx⟩, if_pos ⟨by simp only; omega, by simp only; omega, he⟩]

/-- What Unframe answers. -/
def UnPost (s : ByteArray) (w : World) (e : Ending) (w' : World) : Prop :=
  ∃ v, e = .returned (.tuple #[v, .int .i64 (behindF (frs s 0) 0)]) ∧ ownsS w' w.heap.size 9 v (recs (frs s 0)) ∧ Below w.heap.size w w'

theorem unStop {s : ByteArray} {w w' : World} {pre : List (ByteArray × Nat)} {a : Nat} {v : Value} (HA : Hid (At s pre a)) (hr : rdF s a = none) (ho : ownsS w' w.heap.size 9 v (recs pre)) (hb : Below w.heap.size w w') :
    UnPost s w (.returned (.tuple #[v, .int .i64 a])) w' := by
  obtain ⟨h1, h2⟩ := HA.out.stop hr
  exact ⟨v, by rw [h2], by rw [h1]; exact ho, hb⟩

set_option maxRecDepth 10000 in
set_option maxHeartbeats 1000000 in
theorem specUnframe_any (s : ByteArray) (w : World) (hs : s.size ≤ 20000) :
    Calls Tryd.prog 14 #[.string s] w (UnPost s w) := by
  go_enter Tryd.func14, Tryd.ntmps14
  go_wp2
  go_loopw [4, 5] (fun out pl wr => ∃ (pre : List (ByteArray × Nat)) (a : Nat), pl = .int .i64 a ∧ a ≤ s.size ∧ pre.length ≤ a ∧ Hid (At s pre a) ∧ ownsS wr w.heap.size 9 out (recs pre) ∧ Below w.heap.size w wr) (fun _ pl _ => s.size - (intOf pl).toNat)
  case atStart => exact ⟨[], 0, rfl, Nat.zero_le _, Nat.le_refl _, At.start s, ownsS_made _ _ _ _ _ (Nat.le_refl _) (by decide) rfl, (Below.refl _ _).alloc (Nat.le_refl _) _⟩
  case round =>
    obtain ⟨pre, a, rfl, ha, hlen, HA, hown, hbel⟩ := hrel
    have hsz := hbel.size
    by_cases hlt : a < s.size
    · obtain ⟨x, y, z, h⟩ : ∃ x y z, rv s a = (x, y, z) := ⟨_, _, _, rfl⟩
      have H : Hid (rv s a = (x, y, z)) := h
      clear h
      cases z with
      | false =>
        go_wp2_with (go_at_call 37; refine (specReadVar_is s a _ ha (by omega) x y false H.out).mono ?_; rintro e w1 ⟨rfl, hb1⟩)
        go_ret2
        exact unStop HA (rdF_no1 H.out) (hown.all hb1) (hbel.trans (hb1.mono hsz))
      | true =>
        have hb := rv_bd s a ha (by rw [H.out])
        rw [H.out] at hb
        obtain ⟨b1, b2, b3⟩ := hb
        simp only at b1 b2 b3
        by_cases hx : (s.size : Int) - y - 4 < x
        · go_wp2_with (go_at_call 37; refine (specReadVar_is s a _ ha (by omega) x y true H.out).mono ?_; rintro e w1 ⟨rfl, hb1⟩)
          go_ret2
          exact unStop HA (rdF_no2 H.out hx) (hown.all hb1) (hbel.trans (hb1.mono hsz))
        · have hsl := fun wx => slice_two s (y + 4) (y + 4 + x) wx (by omega) (by omega) (by omega)
          have hsl2 := fun wx => slice_two s a (y + 4 + x) wx (by omega) (by omega) (by omega)
          simp only [Int.toNat_natCast] at hsl2
          have HZ : Hid ((s.extract (y + 4).toNat (y + 4 + x).toNat).size = x.toNat) := by
            show _ = _
            rw [ByteArray.size_extract]; omega
          by_cases hn : x < 1 ∨ 9000 < x
          · have HN : Hid (x < 1 ∨ 9000 < x) := hn
            clear hn
            go_wp2_with (first | (go_at_call 37; refine (specReadVar_is s a _ ha (by omega) x y true H.out).mono ?_; rintro e w1 ⟨rfl, hb1⟩) | (go_at_call 38; refine (specFrame_bad _ _ (by rw [HZ.out]; omega) (by rw [HZ.out]; have := HN.out; omega)).mono ?_; rintro e w2 ⟨rfl, hb2⟩))
            go_ret2
            exact unStop HA (rdF_no3 H.out HN.out) ((hown.all hb1).all hb2) ((hbel.trans (hb1.mono hsz)).trans (hb2.mono (Nat.le_trans hsz hb1.size)))
          · have h1 : 1 ≤ x := by omega
            have h2 : x ≤ 9000 := by omega
            clear hn
            by_cases he : frameT (s.extract (y + 4).toNat (y + 4 + x).toNat) = s.extract a (y + 4 + x).toNat
            · have hq := eq_list he
              have HR : Hid (rdF s a = some (s.extract (y + 4).toNat (y + 4 + x).toNat, (y + 4 + x).toNat)) := rdF_yes H.out (by omega) (by omega) h1 h2 he
              clear he
              go_wp2_with (first | (go_at_call 37; refine (specReadVar_is s a _ ha (by omega) x y true H.out).mono ?_; rintro e w1 ⟨rfl, hb1⟩) | (go_at_call 38; refine (specFrame_ok _ _ (by rw [HZ.out]; omega) (by rw [HZ.out]; omega)).mono ?_; rintro e w2 ⟨rfl, hb2⟩; have hbel2 := ((hbel.trans (hb1.mono hsz)).trans (hb2.mono (Nat.le_trans hsz hb1.size))); have hsz2 := hbel2.size) | (at_builtin; refine wpList_append_text _ w rfl (.tmp 69) (.tmp 71) 27 rfl w.heap.size 9 Tryd.underlying27 info9 _ (recs pre) rfl (((hown.all hb1).all hb2).alloc _) (hbel2.alloc hsz2 _) ⟨w2.heap.size, 0, none⟩ 1 (s.extract (y + 4).toNat (y + 4 + x).toNat) rfl ?c1 ?c2 ?c3 ?_))
              case c1 => simp
              case c2 => rw [recs_len]; omega
              case c3 => simp; omega
              intro v' w3 hown3 hbel3
              clear hown hbel hsl hsl2
              have hv : (y + 4 + x).toNat ≤ s.size := by omega
              go_wp2
              go_roundw
              case rel => exact ⟨pre ++ [_], (y + 4 + x).toNat, by rw [Int.toNat_of_nonneg (by omega)], hv, by simp; omega, HA.out.next HR.out, by rw [recs_snoc]; exact hown3, hbel3⟩
              case measure => simp [intOf]; omega
            · have hq := ne_list he
              have HE : Hid (rdF s a = none) := rdF_no4 H.out (by omega) (by omega) he
              clear he
              go_wp2_with (first | (go_at_call 37; refine (specReadVar_is s a _ ha (by omega) x y true H.out).mono ?_; rintro e w1 ⟨rfl, hb1⟩) | (go_at_call 38; refine (specFrame_ok _ _ (by rw [HZ.out]; omega) (by rw [HZ.out]; omega)).mono ?_; rintro e w2 ⟨rfl, hb2⟩))
              go_ret2
              exact unStop HA HE.out ((hown.all hb1).all hb2) ((hbel.trans (hb1.mono hsz)).trans (hb2.mono (Nat.le_trans hsz hb1.size)))
    · have has : a = s.size := by omega
      have HE : Hid (rdF s a = none) := by
        refine rdF_no1 (x := 0) (y := 0) ?_
        rw [rv_in_eq ha, has]
        exact rvGo_end (by omega)
      go_wp2
      go_ret2
      exact unStop HA HE.out hown hbel

set_option maxHeartbeats 400000 in
theorem specUnframe_long (s : ByteArray) (w : World) (hs0 : s.size ≤ 9223372036854775807) (hs : 20000 < s.size) :
    Calls Tryd.prog 14 #[.string s] w fun e w' => ∃ v, e = .returned (.tuple #[v, .int .i64 0]) ∧ ownsS w' w.heap.size 9 v [] ∧ Below w.heap.size w w' := by
  go_enter Tryd.func14, Tryd.ntmps14
  go_wp2
  go_ret2
  exact ⟨_, rfl, ownsS_made _ _ _ _ _ (Nat.le_refl _) (by decide) rfl, (Below.refl _ _).alloc (Nat.le_refl _) _⟩

end Go.Proofs.YtijmaplejpnggaaDoor
