/-
  An entry read from its text: what is read; and as the specification reads it: the walk. An entry read from its text, by the program: the walk.
-/
import Derived.Test.YtijmaplejpnggaaGreatDoorCu
import Derived.Test.YtijmaplejpnggaaGreatDoorEs
import Derived.Test.YtijmaplejpnggaaGreatDoorShelf
import Derived.Test.YtijmaplejpnggaaGreatDoorQ2
namespace Go.Proofs.YtijmaplejpnggaaGreatDoor
open Go Go.RowKit

/-- The byte at a place. -/
def kAt (s : ByteArray) (a : Nat) : Nat := if h : a < s.size then s[a].toNat else 0
theorem kAt_in {s : ByteArray} {a : Nat} (h : a < s.size) : kAt s a = s[a].toNat := by simp [kAt, h]
theorem kAt_lt (s : ByteArray) (a : Nat) : kAt s a < 256 := by
  unfold kAt
  split
  · exact UInt8.toNat_lt _
  · omega
def zeroV : Value := .tuple #[.int .i64 0, .agg #[.int .i64 0, .int .i64 0, .string ByteArray.empty], .bool false]
/-- The entry's data, behind its kind. -/
def dAt (s : ByteArray) (a : Nat) : ByteArray := s.extract (a + 1) s.size
theorem dAt_size (s : ByteArray) (a : Nat) : (dAt s a).size ≤ s.size := by
  unfold dAt
  rw [ByteArray.size_extract]
  omega
/-- Whether what was read would be written so. -/
def okF (s : ByteArray) (i t a : Nat) : Bool := okX i t (kAt s a) (dAt s a) && ((textX i t (kAt s a) (dAt s a)).toList == s.toList)
def finV (s : ByteArray) (i t a : Nat) : Value := if okF s i t a then .tuple #[.int .i64 i, .agg #[.int .i64 t, .int .i64 (kAt s a), .string (dAt s a)], .bool true] else zeroV
/-- What is read. -/
def rdV (s : ByteArray) : Value :=
  if (rv s 1).2.2 = true ∧ (rv s (rv s 1).2.1).2.2 = true ∧ (rv s (rv s 1).2.1).2.1 < s.size then finV s (rv s 1).1.toNat (rv s (rv s 1).2.1).1.toNat (rv s (rv s 1).2.1).2.1.toNat else zeroV

theorem takeS_ok {s t : ByteArray} {a a' n : Nat} {b : Bool} (h : takeS s a b n = (t, a', false)) : b = false ∧ a + n ≤ s.size ∧ t = s.extract a (a + n) ∧ a' = a + n := by
  unfold takeS at h
  split at h
  · rename_i hc
    simp only [Prod.mk.injEq, and_true] at h
    exact ⟨hc.1, hc.2, h.1.symm, h.2.symm⟩
  · simp at h
theorem varS_ok {s : ByteArray} {a x a' : Nat} {b : Bool} (h : varS s a b = (x, a', false)) : b = false ∧ rv s a = ((x : Int), (a' : Int), true) := by
  unfold varS at h
  split at h
  · rename_i hc
    refine ⟨hc.1, ?_⟩
    rcases hr : rv s a with ⟨X, Y, z⟩
    rw [hr] at hc h
    obtain ⟨-, rfl⟩ := hc
    obtain ⟨X', Y', rfl, rfl, -⟩ := rv_in hr
    simp only [Prod.mk.injEq, and_true, Int.toNat_natCast] at h
    rw [h.1, h.2]
  · simp at h
theorem varS_yes {s : ByteArray} {a X Y : Nat} (h : rv s a = ((X : Int), (Y : Int), true)) : varS s a false = (X, Y, false) := by simp [varS, h]
theorem varS_bad (s : ByteArray) (a : Nat) : varS s a true = (0, a, true) := by simp [varS]
theorem rd_good {s t1 t4 : ByteArray} {a1 a2 a3 a4 x2 x3 : Nat} {b1 b2 b3 : Bool} (h1 : takeS s 0 false 1 = (t1, a1, b1)) (h2 : varS s a1 b1 = (x2, a2, b2)) (h3 : varS s a2 b2 = (x3, a3, b3)) (h4 : takeS s a3 b3 1 = (t4, a4, false)) :
    rdV s = finV s x2 x3 a3 ∧ a3 < s.size ∧ t4 = s.extract a3 (a3 + 1) ∧ a4 = a3 + 1 := by
  obtain ⟨rfl, h5, h6, h7⟩ := takeS_ok h4
  obtain ⟨rfl, h8⟩ := varS_ok h3
  obtain ⟨rfl, h9⟩ := varS_ok h2
  obtain ⟨-, h10, -, h11⟩ := takeS_ok h1
  have e1 : a1 = 1 := by omega
  subst e1
  have h9' : rv s 1 = ((x2 : Int), (a2 : Int), true) := h9
  refine ⟨?_, by omega, h6, h7⟩
  unfold rdV
  rw [h9']
  dsimp only
  rw [h8]
  dsimp only
  rw [if_pos ⟨rfl, rfl, by omega⟩]
  simp
theorem rd_bad {s t1 t4 : ByteArray} {a1 a2 a3 a4 x2 x3 : Nat} {b1 b2 b3 : Bool} (h1 : takeS s 0 false 1 = (t1, a1, b1)) (h2 : varS s a1 b1 = (x2, a2, b2)) (h3 : varS s a2 b2 = (x3, a3, b3)) (h4 : takeS s a3 b3 1 = (t4, a4, true)) :
    rdV s = zeroV := by
  unfold rdV
  rw [if_neg]
  rintro ⟨k1, k2, k3⟩
  rcases hr1 : rv s 1 with ⟨X, Y, z⟩
  rw [hr1] at k1 k2 k3
  dsimp only at k1 k2 k3
  subst k1
  obtain ⟨X, Y, rfl, rfl, -, hy, hY⟩ := rv_in hr1
  rcases hr2 : rv s (Y : Int) with ⟨U, V, z⟩
  rw [hr2] at k2 k3
  dsimp only at k2 k3
  subst k2
  obtain ⟨U, V, rfl, rfl, -, hv, hV⟩ := rv_in hr2
  rw [takeS_yes (show 0 + 1 ≤ s.size by omega)] at h1
  simp only [Prod.mk.injEq] at h1
  obtain ⟨-, rfl, rfl⟩ := h1
  rw [varS_yes (show rv s ((0 + 1 : Nat) : Int) = ((X : Int), (Y : Int), true) from hr1)] at h2
  simp only [Prod.mk.injEq] at h2
  obtain ⟨rfl, rfl, rfl⟩ := h2
  rw [varS_yes hr2] at h3
  simp only [Prod.mk.injEq] at h3
  obtain ⟨rfl, rfl, rfl⟩ := h3
  rw [takeS_yes (by omega)] at h4
  simp at h4

theorem take1_any (g : Nat) (s : ByteArray) (a : Nat) (b : Bool) (w : World) (hc : Cur w g s a b) (hs : s.size ≤ 1048576) (ha : a ≤ s.size) :
    Calls Tryz.prog 57 #[.pointer (some ⟨g, 0, none⟩), .int .i64 1] w fun e w' => ∃ (t : ByteArray) (a' : Nat) (b' : Bool), e = .returned (.string t) ∧ takeS s a b 1 = (t, a', b') ∧ a' ≤ s.size ∧ Cur w' g s a' b' ∧ Save g w w' := take_any g s a 1 b w hc hs ha
theorem ret_entry {fn : Func} {p u v : Tmp} {w : World} {g : Nat} {a b c x y : Value} {tmps : Array Value} (h : fn.results = #[.tmp u, .cell p 84, .tmp v]) (hp : tmps.getD p undef = .pointer (some ⟨g, 0, none⟩)) (hu : tmps.getD u undef = x) (hv : tmps.getD v undef = y) (hb : w.heap[g]? = some (.cells #[a, b, c] 84)) :
    (results fn tmps).run Tryz.prog w = .ok (.tuple #[x, .agg #[a, b, c], y]) w := by
  have hp' : tmps[p]?.getD undef = .pointer (some ⟨g, 0, none⟩) := by simpa using hp
  have hu' : tmps[u]?.getD undef = x := by simpa using hu
  have hv' : tmps[v]?.getD undef = y := by simpa using hv
  obtain ⟨h0, h1, h2, _⟩ := cur_cells hb
  simp [results, h, hp', hu', hv', h0, h1, h2, asAddr, go_sem]

theorem heap_last (W : World) (o : Obj) : (W.alloc o).heap[W.heap.size]? = some o := by show (W.heap.push o)[W.heap.size]? = some o; simp
theorem heap_next (W : World) (o o2 : Obj) : ((W.alloc o).alloc o2).heap[W.heap.size + 1]? = some o2 := by
  have := heap_last (W.alloc o) o2
  rwa [World.size_alloc] at this
theorem heap_old {W : World} {k : Nat} {o : Obj} (h : W.heap[k]? = some o) (o2 : Obj) : (W.alloc o2).heap[k]? = some o :=
  (Below.heap_alloc _ _ _ (Array.getElem?_eq_some_iff.1 h).1).trans h
theorem heap_far {W : World} {k : Nat} {o : Obj} (h : W.heap[k]? = some o) {p : Addr} (hp : p.block ≠ k) (u : Value) : (W.setCell p u).heap[k]? = some o :=
  (Below.heap_setCell _ _ _ _ (by omega)).trans h
theorem Save.heap {g : Nat} {w w' : World} {k : Nat} {o : Obj} (h : Save g w w') (hk : k ≠ g) (hc : w.heap[k]? = some o) : w'.heap[k]? = some o :=
  (h.block k (Array.getElem?_eq_some_iff.1 hc).1 hk).trans hc
theorem Save.under {B g : Nat} {w w1 w' : World} (h : Below B w w1) (hs : Save g w1 w') (hg : B ≤ g) (hB : B ≤ w1.heap.size) : Below B w w' := h.trans (hs.below hg hB)

set_option maxRecDepth 10000 in
set_option maxHeartbeats 4000000 in
theorem specReadEntry_any (s : ByteArray) (w : World) (hs : s.size ≤ 1048576) :
    Calls Tryz.prog 61 #[.string s] w fun e w' => e = .returned (rdV s) ∧ Below w.heap.size w w' := by
  go_enter Tryz.func61, Tryz.ntmps61
  go_wp2_with fail
  refine (take1_any (w.heap.size + 1) s 0 false _ (heap_next _ _ _) hs (Nat.zero_le _)).mono ?_
  rintro e w1 ⟨t1, a1, b1, rfl, ht1, ha1, C1, S1⟩
  have R1 := S1.heap (k := w.heap.size) (by omega) (heap_old (heap_last _ _) _)
  have B1 := Save.under (B := w.heap.size) (ba (ba (Below.refl _ w) _) _) S1 (by omega) (by simp; omega)
  have HT1 : Hid (takeS s 0 false 1 = (t1, a1, b1)) := ht1
  have C1 : Hid (Cur w1 (w.heap.size + 1) s a1 b1) := C1
  have R1 : Hid (w1.heap[w.heap.size]? = some (.cells #[.int .i64 0, .int .i64 0, .string ByteArray.empty] 84)) := R1
  clear S1 ht1
  go_wp2_with fail
  refine (var_any (w.heap.size + 1) s a1 b1 _ C1.out hs ha1).mono ?_
  rintro e w2 ⟨x2, a2, b2, rfl, ht2, ha2, hx2, C2, S2⟩
  have B2 := Save.under (B := w.heap.size) B1 S2 (by omega) B1.size
  have R2 : Hid (w2.heap[w.heap.size]? = some (.cells #[.int .i64 0, .int .i64 0, .string ByteArray.empty] 84)) := S2.heap (by omega) R1.out
  have HT2 : Hid (varS s a1 b1 = (x2, a2, b2)) := ht2
  have C2 : Hid (Cur w2 (w.heap.size + 1) s a2 b2) := C2
  clear S2 ht2 B1 R1 C1
  have hE := C2.out.lt
  obtain ⟨E, hEq⟩ : ∃ E, w2.heap.size = E := ⟨_, rfl⟩
  rw [hEq] at hE
  go_wp2_with fail
  refine (var_any (w.heap.size + 1) s a2 b2 _ (heap_old C2.out _) hs ha2).mono ?_
  rintro e w3 ⟨x3, a3, b3, rfl, ht3, ha3, hx3, C3, S3⟩
  have B3 := Save.under (B := w.heap.size) (ba B2 _) S3 (by omega) (Nat.le_trans B2.size (by simp))
  have R3 : Hid (w3.heap[w.heap.size]? = some (.cells #[.int .i64 0, .int .i64 0, .string ByteArray.empty] 84)) := S3.heap (by omega) (heap_old R2.out _)
  have E3 : Hid (w3.heap[E]? = some (.cells #[.int .i64 0, .int .i64 0, .string ByteArray.empty] 84)) := S3.heap (by omega) (by rw [← hEq]; exact heap_last _ _)
  have HT3 : Hid (varS s a2 b2 = (x3, a3, b3)) := ht3
  have C3 : Hid (Cur w3 (w.heap.size + 1) s a3 b3) := C3
  clear S3 ht3 B2 R2 C2 hEq
  obtain ⟨e0, e1, e2, ef⟩ := cur_cells E3.out
  go_wp2_with fail
  refine (take1_any (w.heap.size + 1) s a3 b3 _ (heap_far C3.out (p := ⟨E, 0, none⟩) (by show E ≠ w.heap.size + 1; omega) _) hs ha3).mono ?_
  rintro e w4 ⟨t4, a4, b4, rfl, ht4, ha4, C4, S4⟩
  have B4 := Save.under (B := w.heap.size) (B3.setCell (p := ⟨E, 0, none⟩) (by show w.heap.size ≤ E; omega) _) S4 (by omega) (Nat.le_trans B3.size (by simp))
  have R4 : Hid (w4.heap[w.heap.size]? = some (.cells #[.int .i64 0, .int .i64 0, .string ByteArray.empty] 84)) := S4.heap (by omega) (heap_far R3.out (p := ⟨E, 0, none⟩) (by show E ≠ w.heap.size; omega) _)
  have E4 : Hid (w4.heap[E]? = some (.cells #[.int .i64 (x3 : Int), .int .i64 0, .string ByteArray.empty] 84)) := S4.heap (by omega) (cur_set0 E3.out _)
  have HT4 : Hid (takeS s a3 b3 1 = (t4, a4, b4)) := ht4
  have C4 : Hid (Cur w4 (w.heap.size + 1) s a4 b4) := C4
  clear S4 ht4 B3 R3 C3 E3 e0 e1 e2 ef
  obtain ⟨e0, e1, e2, ef⟩ := cur_cells E4.out
  obtain ⟨c0, c1, c2, cf⟩ := cur_cells C4.out
  obtain ⟨r0, r1, r2, rf⟩ := cur_cells R4.out
  cases b4 with
  | true =>
    have HZ : Hid (rdV s = zeroV) := rd_bad HT1.out HT2.out HT3.out HT4.out
    go_wp2
    refine bodyPost_ret (ret_entry (g := w.heap.size) rfl rfl rfl rfl (cur_set2 (cur_set1 (cur_set0 R4.out _) _) _)) rfl ⟨by rw [HZ.out]; rfl, ?_⟩
    exact ((B4.setCell (p := ⟨w.heap.size, 0, none⟩) (Nat.le_refl _) _).setCell (p := ⟨w.heap.size, 1, none⟩) (Nat.le_refl _) _).setCell (p := ⟨w.heap.size, 2, none⟩) (Nat.le_refl _) _
  | false =>
    obtain ⟨g1, g2, g3, g4⟩ := rd_good HT1.out HT2.out HT3.out HT4.out
    have G1 : Hid (rdV s = finV s x2 x3 a3) := g1
    have hk0 : 0 < t4.size := by rw [g3, ByteArray.size_extract]; omega
    obtain ⟨k, hk⟩ : ∃ k : Nat, t4[0].toNat = k := ⟨_, rfl⟩
    have hk8 : k < 256 := by rw [← hk]; exact UInt8.toNat_lt _
    obtain ⟨d, hd⟩ : ∃ d, s.extract a4 s.size = d := ⟨_, rfl⟩
    have GK : Hid (kAt s a3 = k) := by
      show kAt s a3 = k
      rw [kAt_in g2, ← hk]
      simp [g3, ByteArray.getElem_extract]
    have GD : Hid (dAt s a3 = d) := by show dAt s a3 = d; rw [← hd, g4]; rfl
    clear g1 g2 g3 g4
    have HM : Hid (d.size ≤ maxLen) := by
      have := dAt_size s a3
      rw [GD.out] at this
      show d.size ≤ maxLen
      unfold maxLen
      omega
    obtain ⟨q, HQ⟩ : ∃ q, Hid (okX x2 x3 k d = q) := ⟨_, rfl⟩
    obtain ⟨u, HU⟩ : ∃ u, Hid (textX x2 x3 k d = u) := ⟨_, rfl⟩
    have HV : Hid (valX x2 x3 k d = .tuple #[.string u, .bool q]) := by show valX _ _ _ d = _; rw [valX, HQ.out, HU.out]
    have HF : Hid (okF s x2 x3 a3 = (q && (u.toList == s.toList))) := by show okF s x2 x3 a3 = _; rw [okF, GK.out, GD.out, HQ.out, HU.out]
    go_wp2_with fail
    have E5 := cur_set2 (cur_set1 E4.out (.int .i64 (k : Int))) (.string d)
    have R5 := heap_far (heap_far R4.out (p := ⟨E, 1, none⟩) (by show E ≠ w.heap.size; omega) (.int .i64 (k : Int))) (p := ⟨E, 2, none⟩) (by show E ≠ w.heap.size; omega) (.string d)
    have B5 := (B4.setCell (p := ⟨E, 1, none⟩) (by show w.heap.size ≤ E; omega) (.int .i64 (k : Int))).setCell (p := ⟨E, 2, none⟩) (by show w.heap.size ≤ E; omega) (.string d)
    obtain ⟨W5, hW5⟩ : ∃ W5, (w4.setCell ⟨E, 1, none⟩ (.int .i64 (k : Int))).setCell ⟨E, 2, none⟩ (.string d) = W5 := ⟨_, rfl⟩
    rw [hW5] at E5 R5 B5 ⊢
    clear hW5 e0 e1 e2 ef c0 c1 c2 cf r0 r1 r2 rf R4 E4 B4 C4 HT1 HT2 HT3 HT4
    refine (specEntryText_any x2 x3 k d W5 HM.out).mono ?_
    rintro e w6 ⟨rfl, hb6⟩
    have B6 := Below.trans B5 (hb6.mono B5.size)
    have E6 : Hid (w6.heap[E]? = some (.cells #[.int .i64 (x3 : Int), .int .i64 (k : Int), .string d] 84)) := heap_on hb6 E5
    have R6 : Hid (w6.heap[w.heap.size]? = some (.cells #[.int .i64 0, .int .i64 0, .string ByteArray.empty] 84)) := heap_on hb6 R5
    clear hb6 E5 R5 B5
    obtain ⟨e0, e1, e2, ef⟩ := cur_cells E6.out
    obtain ⟨r0, r1, r2, rf⟩ := cur_cells R6.out
    rw [HV.out]
    cases q with
    | false =>
      have HZ : Hid (rdV s = zeroV) := by show rdV s = zeroV; rw [G1.out, finV, HF.out]; rfl
      go_wp2
      refine bodyPost_ret (ret_entry (g := w.heap.size) rfl rfl rfl rfl (cur_set2 (cur_set1 (cur_set0 R6.out _) _) _)) rfl ⟨by rw [HZ.out]; rfl, ?_⟩
      exact ((B6.setCell (p := ⟨w.heap.size, 0, none⟩) (Nat.le_refl _) _).setCell (p := ⟨w.heap.size, 1, none⟩) (Nat.le_refl _) _).setCell (p := ⟨w.heap.size, 2, none⟩) (Nat.le_refl _) _
    | true =>
      cases hu : (u.toList == s.toList) with
      | false =>
        have HZ : Hid (rdV s = zeroV) := by show rdV s = zeroV; rw [G1.out, finV, HF.out, hu]; rfl
        go_wp2
        refine bodyPost_ret (ret_entry (g := w.heap.size) rfl rfl rfl rfl (cur_set2 (cur_set1 (cur_set0 R6.out _) _) _)) rfl ⟨by rw [HZ.out]; rfl, ?_⟩
        exact ((B6.setCell (p := ⟨w.heap.size, 0, none⟩) (Nat.le_refl _) _).setCell (p := ⟨w.heap.size, 1, none⟩) (Nat.le_refl _) _).setCell (p := ⟨w.heap.size, 2, none⟩) (Nat.le_refl _) _
      | true =>
        have HZ : Hid (rdV s = .tuple #[.int .i64 x2, .agg #[.int .i64 x3, .int .i64 k, .string d], .bool true]) := by
          show rdV s = _
          rw [G1.out, finV, HF.out, hu, GK.out, GD.out]
          rfl
        go_wp2
        go_region
        go_wp2
        have RF := cur_set2 (cur_set1 (cur_set0 R6.out (.int .i64 (x3 : Int))) (.int .i64 (k : Int))) (.string d)
        have BF := (((B6.setCell (p := ⟨w.heap.size, 0, none⟩) (Nat.le_refl _) (.int .i64 (x3 : Int))).setCell (p := ⟨w.heap.size, 1, none⟩) (Nat.le_refl _) (.int .i64 (k : Int))).setCell (p := ⟨w.heap.size, 2, none⟩) (Nat.le_refl _) (.string d)).drew
        exact bodyPost_ret (ret_entry (g := w.heap.size) rfl rfl rfl rfl RF) rfl ⟨by rw [HZ.out]; rfl, BF⟩
end Go.Proofs.YtijmaplejpnggaaGreatDoor

namespace Go.Proofs.YtijmaplejpnggaaGreatDoor
open Go Go.RowKit


theorem rd_no1 {s : ByteArray} (h : (rv s 1).2.2 = false) : rdV s = zeroV := by
  unfold rdV
  rw [if_neg]
  rintro ⟨k, -⟩
  rw [h] at k
  cases k
theorem rd_no2 {s : ByteArray} {x a : Nat} (h : rv s 1 = ((x : Int), (a : Int), true)) (h2 : (rv s (a : Int)).2.2 = false) : rdV s = zeroV := by
  unfold rdV
  rw [if_neg]
  rintro ⟨-, k, -⟩
  rw [h] at k
  rw [h2] at k
  cases k
theorem rd_no3 {s : ByteArray} {x a t b : Nat} (h : rv s 1 = ((x : Int), (a : Int), true)) (h2 : rv s (a : Int) = ((t : Int), (b : Int), true)) (h3 : b = s.size) : rdV s = zeroV := by
  unfold rdV
  rw [if_neg]
  rintro ⟨-, -, k⟩
  rw [h] at k
  dsimp only at k
  rw [h2] at k
  dsimp only at k
  omega
theorem rd_yes {s : ByteArray} {x a t b : Nat} (h : rv s 1 = ((x : Int), (a : Int), true)) (h2 : rv s (a : Int) = ((t : Int), (b : Int), true)) (h3 : b < s.size) : rdV s = finV s x t b := by
  unfold rdV
  rw [h]
  dsimp only
  rw [h2]
  dsimp only
  rw [if_pos ⟨rfl, rfl, by omega⟩]
  simp

theorem zero_block {w W : World} (hb : Below w.heap.size w W) (hr : W.heap[w.heap.size]? = some (.cells #[.int .i64 0, .int .i64 0, .string ByteArray.empty] 84)) :
    (((W.setCell ⟨w.heap.size, 0, none⟩ (.int .i64 0)).setCell ⟨w.heap.size, 1, none⟩ (.int .i64 0)).setCell ⟨w.heap.size, 2, none⟩ (.string ByteArray.empty)).heap[w.heap.size]? = some (.cells #[.int .i64 0, .int .i64 0, .string ByteArray.empty] 84) ∧
    Below w.heap.size w (((W.setCell ⟨w.heap.size, 0, none⟩ (.int .i64 0)).setCell ⟨w.heap.size, 1, none⟩ (.int .i64 0)).setCell ⟨w.heap.size, 2, none⟩ (.string ByteArray.empty)) :=
  ⟨cur_set2 (cur_set1 (cur_set0 hr _) _) _, ((hb.setCell (p := ⟨w.heap.size, 0, none⟩) (Nat.le_refl _) _).setCell (p := ⟨w.heap.size, 1, none⟩) (Nat.le_refl _) _).setCell (p := ⟨w.heap.size, 2, none⟩) (Nat.le_refl _) _⟩

set_option maxRecDepth 10000 in
set_option maxHeartbeats 4000000 in
theorem readEntry_any (s : ByteArray) (w : World) (hs : s.size ≤ 1048576) :
    Calls Tryz.prog 101 #[.string s] w fun e w' => e = .returned (rdV s) ∧ Below w.heap.size w w' := by
  rcases hr1 : rv s 1 with ⟨x, y, z⟩
  have H1 : Hid (∀ w, Calls Tryz.prog 127 #[.string s, .int .i64 1] w fun e w' => e = .returned (.tuple #[.int .i64 x, .int .i64 y, .bool z]) ∧ w' = w) := fun w => readVar_any s 1 w hs x y z hr1
  cases z with
  | false =>
    have HZ : Hid (rdV s = zeroV) := rd_no1 (by rw [hr1])
    clear hr1
    go_enter Tryz.func101, Tryz.ntmps101
    go_wp2_with (go_at_call 127; refine (H1.out _).mono ?_; rintro e w2 ⟨rfl, hw⟩; have hw2 := hw.symm; subst hw2; clear hw)
    exact bodyPost_ret (ret_entry (g := w.heap.size) rfl rfl rfl rfl (heap_last _ _)) rfl ⟨by rw [HZ.out]; rfl, ba (Below.refl _ _) _⟩
  | true =>
    obtain ⟨X, Y, rfl, rfl, hX, hY0, hY⟩ := rv_in hr1
    rcases hr2 : rv s (Y : Int) with ⟨x, y, z⟩
    have H2 : Hid (∀ w, Calls Tryz.prog 127 #[.string s, .int .i64 (Y : Int)] w fun e w' => e = .returned (.tuple #[.int .i64 x, .int .i64 y, .bool z]) ∧ w' = w) := fun w => readVar_any s Y w hs x y z hr2
    cases z with
    | false =>
      have HZ : Hid (rdV s = zeroV) := rd_no2 hr1 (by rw [hr2])
      clear hr1 hr2
      go_enter Tryz.func101, Tryz.ntmps101
      go_wp2_with fail
      refine (H1.out _).mono ?_
      rintro e w2 ⟨rfl, hw⟩; have hw2 := hw.symm; subst hw2; clear hw
      go_wp2_with fail
      refine (H2.out _).mono ?_
      rintro e w2 ⟨rfl, hw⟩; have hw2 := hw.symm; subst hw2; clear hw
      go_wp2
      exact bodyPost_ret (ret_entry (g := w.heap.size) rfl rfl rfl rfl (heap_last _ _)) rfl ⟨by rw [HZ.out]; rfl, ba (Below.refl _ _) _⟩
    | true =>
      obtain ⟨U, V, rfl, rfl, hU, hV0, hV⟩ := rv_in hr2
      by_cases hVs : V = s.size
      · have HZ : Hid (rdV s = zeroV) := rd_no3 hr1 hr2 hVs
        have hVi : (V : Int) = (s.size : Int) := by omega
        clear hr1 hr2 hVs
        go_enter Tryz.func101, Tryz.ntmps101
        go_wp2_with fail
        refine (H1.out _).mono ?_
        rintro e w2 ⟨rfl, hw⟩; have hw2 := hw.symm; subst hw2; clear hw
        go_wp2_with fail
        refine (H2.out _).mono ?_
        rintro e w2 ⟨rfl, hw⟩; have hw2 := hw.symm; subst hw2; clear hw
        go_wp2
        exact bodyPost_ret (ret_entry (g := w.heap.size) rfl rfl rfl rfl (heap_last _ _)) rfl ⟨by rw [HZ.out]; rfl, ba (Below.refl _ _) _⟩
      · have hlt : V < s.size := by omega
        have G1 : Hid (rdV s = finV s X U V) := rd_yes hr1 hr2 hlt
        have hVi : ¬ (V : Int) = (s.size : Int) := by omega
        clear hr1 hr2 hVs
        obtain ⟨k, hk⟩ : ∃ k : Nat, s[V].toNat = k := ⟨_, rfl⟩
        have hk8 : k < 256 := by rw [← hk]; exact UInt8.toNat_lt _
        obtain ⟨d, hd⟩ : ∃ d, dAt s V = d := ⟨_, rfl⟩
        have GK : Hid (kAt s V = k) := by show kAt s V = k; rw [kAt_in hlt, hk]
        have GD : Hid (dAt s V = d) := hd
        have hds : d.size ≤ 1048576 := by rw [← hd]; exact Nat.le_trans (dAt_size s V) hs
        have hsl : ∀ wx, (Instr.slice 9 (.string s) (some (.int .i64 ((V : Int) + 1))) none none).run Tryz.prog wx = .ok (.string d) wx := fun wx => by
          rw [run_slice_string_l (P := Tryz.prog) wx 9 s Tryz.underlying9 .i64 ((V : Int) + 1) (by omega) (by omega), show ((V : Int) + 1).toNat = V + 1 by omega, ← hd]
          rfl
        have hwk : IntKind.i64.wrap (k : Int) = (k : Int) := by go_arith
        have hwv : IntKind.i64.wrap ((V : Int) + 1) = (V : Int) + 1 := by go_arith
        have hi0 : (0 : Int) ≤ (V : Int) := by omega
        have hi1 : (V : Int) < (s.size : Int) := by omega
        clear hd
        have HM : Hid (d.size ≤ maxLen) := by show d.size ≤ maxLen; unfold maxLen; omega
        obtain ⟨q, HQ⟩ : ∃ q, Hid (okX X U k d = q) := ⟨_, rfl⟩
        obtain ⟨u, HU⟩ : ∃ u, Hid (textX X U k d = u) := ⟨_, rfl⟩
        have HV : Hid (valX X U k d = .tuple #[.string u, .bool q]) := by show valX _ _ _ d = _; rw [valX, HQ.out, HU.out]
        have HF : Hid (okF s X U V = (q && (u.toList == s.toList))) := by show okF s X U V = _; rw [okF, GK.out, GD.out, HQ.out, HU.out]
        have R0 : Hid ((w.alloc (.cells #[.int .i64 0, .int .i64 0, .string ByteArray.empty] 84)).heap[w.heap.size]? = some (.cells #[.int .i64 0, .int .i64 0, .string ByteArray.empty] 84)) := heap_last _ _
        have B0 := ba (Below.refl _ w) (.cells #[.int .i64 0, .int .i64 0, .string ByteArray.empty] 84)
        go_enter Tryz.func101, Tryz.ntmps101
        go_wp2_with fail
        refine (H1.out _).mono ?_
        rintro e w2 ⟨rfl, hw⟩; have hw2 := hw.symm; subst hw2; clear hw
        go_wp2_with fail
        refine (H2.out _).mono ?_
        rintro e w2 ⟨rfl, hw⟩; have hw2 := hw.symm; subst hw2; clear hw
        go_wp2
        rename ((V : Int) == (s.size : Int)) = false => hbeq
        rw [hbeq]
        clear hbeq
        obtain ⟨w1, hw1⟩ : ∃ w1, w.alloc (.cells #[.int .i64 0, .int .i64 0, .string ByteArray.empty] 84) = w1 := ⟨_, rfl⟩
        rw [hw1] at R0 B0
        rw [show w.alloc (.cells #[.int .i64 0, .int .i64 0, .string { data := #[] }] 84) = w1 from hw1]
        clear hw1
        refine wp_puts (α := Nat) (fun E => [(37, .int .i64 (U : Int)), (38, .string s), (39, .int .i64 (V : Int)), (40, .int .u8 (k : Int)), (41, .int .i64 (k : Int)), (42, .string s), (43, .int .i64 (V : Int)), (44, .int .i64 ((V : Int) + 1)), (45, .string d), (46, .string d), (47, .agg #[.int .i64 (U : Int), .int .i64 (k : Int), .string d]), (9, .pointer (some ⟨E, 0, none⟩))]) (fun E w' => w1.heap.size ≤ E ∧ w'.heap[E]? = some (.cells #[.int .i64 (U : Int), .int .i64 (k : Int), .string d] 84) ∧ Below w1.heap.size w1 w') ?_ ?_
        · go_region_held3 (fun w' => Below w1.heap.size w1 w') ((first | assumption | exact (Below.refl _ _).drew | exact hSa | exact Below.alloc hSa hSa.size _ | exact Below.alloc (by assumption) (Below.size (by assumption)) _ | exact ((Below.setCell hSa (Nat.le_refl _) _).setCell (Nat.le_refl _) _).setCell (Nat.le_refl _) _)) ((go_at_call 114; refine (clone_any _ _ hds).mono ?_; rintro e wa ⟨rfl, hba⟩; have hSa := keep_on (B := w1.heap.size) (W := w1) hba (by assumption) (Nat.le_refl _); (try (have hE0 := heap_new hba; obtain ⟨p0, p1, p2, pf⟩ := cur_cells hE0)); (try (have hE0 := heap_newd hba; obtain ⟨p0, p1, p2, pf⟩ := cur_cells hE0))))
          all_goals first | refine ⟨rfl, wa.heap.size, ?_, hSa.size, heap_last _ _, Below.alloc hSa hSa.size _⟩ | refine ⟨rfl, w1.heap.size, ?_, Nat.le_refl _, cur_set2 (cur_set1 (cur_set0 hE0 _) _) _, ((Below.setCell hSa (p := ⟨w1.heap.size, 0, none⟩) (Nat.le_refl _) _).setCell (p := ⟨w1.heap.size, 1, none⟩) (Nat.le_refl _) _).setCell (p := ⟨w1.heap.size, 2, none⟩) (Nat.le_refl _) _⟩
          all_goals kernel_rfl
        rintro E w2 ⟨hE, E2, hb2⟩
        simp only [putAll]
        have hR := (Array.getElem?_eq_some_iff.1 R0.out).1
        have B2 := Below.trans B0 (hb2.mono B0.size)
        have R2 := heap_on hb2 R0.out
        have hne : E ≠ w.heap.size := by omega
        clear hb2 hsl hwv hwk hi0 hi1 H1 H2
        obtain ⟨e0, e1, e2, ef⟩ := cur_cells E2
        go_wp2_with fail
        refine (entryText_any X U k d _ HM.out).mono ?_
        rintro e w6 ⟨rfl, hb6⟩
        have B6 := Below.trans B2 (hb6.mono B2.size)
        have E6 : Hid (w6.heap[E]? = some (.cells #[.int .i64 (U : Int), .int .i64 (k : Int), .string d] 84)) := heap_on hb6 E2
        have R6 : Hid (w6.heap[w.heap.size]? = some (.cells #[.int .i64 0, .int .i64 0, .string ByteArray.empty] 84)) := heap_on hb6 R2
        clear hb6 E2 R2 B2 e0 e1 e2 ef
        obtain ⟨e0, e1, e2, ef⟩ := cur_cells E6.out
        obtain ⟨r0, r1, r2, rf⟩ := cur_cells R6.out
        rw [HV.out]
        cases q with
        | false =>
          have HZ : Hid (rdV s = zeroV) := by show rdV s = zeroV; rw [G1.out, finV, HF.out]; rfl
          go_wp2
          exact bodyPost_ret (ret_entry (g := w.heap.size) rfl rfl rfl rfl (zero_block B6 R6.out).1) rfl ⟨by rw [HZ.out]; rfl, (zero_block B6 R6.out).2⟩
        | true =>
          cases hu : (u.toList == s.toList) with
          | false =>
            have HZ : Hid (rdV s = zeroV) := by show rdV s = zeroV; rw [G1.out, finV, HF.out, hu]; rfl
            go_wp2
            exact bodyPost_ret (ret_entry (g := w.heap.size) rfl rfl rfl rfl (zero_block B6 R6.out).1) rfl ⟨by rw [HZ.out]; rfl, (zero_block B6 R6.out).2⟩
          | true =>
            have HZ : Hid (rdV s = .tuple #[.int .i64 X, .agg #[.int .i64 U, .int .i64 k, .string d], .bool true]) := by
              show rdV s = _
              rw [G1.out, finV, HF.out, hu, GK.out, GD.out]
              rfl
            go_wp2
            go_region
            go_wp2
            have RF := cur_set2 (cur_set1 (cur_set0 R6.out (.int .i64 (U : Int))) (.int .i64 (k : Int))) (.string d)
            have BF := (((B6.setCell (p := ⟨w.heap.size, 0, none⟩) (Nat.le_refl _) (.int .i64 (U : Int))).setCell (p := ⟨w.heap.size, 1, none⟩) (Nat.le_refl _) (.int .i64 (k : Int))).setCell (p := ⟨w.heap.size, 2, none⟩) (Nat.le_refl _) (.string d)).drew
            exact bodyPost_ret (ret_entry (g := w.heap.size) rfl rfl rfl rfl RF) rfl ⟨by rw [HZ.out]; rfl, BF⟩
end Go.Proofs.YtijmaplejpnggaaGreatDoor
