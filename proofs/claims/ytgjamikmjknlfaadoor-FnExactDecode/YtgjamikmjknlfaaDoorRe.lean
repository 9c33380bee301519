/-
  An entry read from its text: what is read; and as the specification reads it: the walk.
-/
import Derived.Test.YtgjamikmjknlfaaDoorRea
import Derived.Test.YtgjamikmjknlfaaDoorEs
namespace Go.Proofs.YtgjamikmjknlfaaDoor
open Go Go.RowKit

def zeroV : Value := .tuple #[.int .i64 0, .agg #[.int .i64 0, .int .i64 0, .string ByteArray.empty], .bool false]
/-- The entry's data, behind its kind. -/
def dAt (s : ByteArray) (a : Nat) : ByteArray := s.extract (a + 1) s.size
theorem dAt_size (s : ByteArray) (a : Nat) : (dAt s a).size ≤ s.size := by
  unfold dAt
  rw [ByteArray.size_extract]
  omega
/-- Whether what was read would be written so. -/
def okF (s : ByteArray) (i t a : Nat) : Bool := okX i t (kAt s a) (dAt s a) && ((textX i t (kAt s a) (dAt s a)).toList == s.toList)
def finV (s : ByteArray) (i t a : Nat) : Value := if okF s i t a then .tuple #[.int .i64 i, .agg #[.int .i64 t, .int .i64 (kAt s a), .string (dAt s a)], .bool true] else zeroV
/-- What is read. -/
def rdV (s : ByteArray) : Value :=
  if (rv s 1).2.2 = true ∧ (rv s (rv s 1).2.1).2.2 = true ∧ (rv s (rv s 1).2.1).2.1 < s.size then finV s (rv s 1).1.toNat (rv s (rv s 1).2.1).1.toNat (rv s (rv s 1).2.1).2.1.toNat else zeroV

theorem rd_good {s t1 t4 : ByteArray} {a1 a2 a3 a4 x2 x3 : Nat} {b1 b2 b3 : Bool} (h1 : takeS s 0 false 1 = (t1, a1, b1)) (h2 : varS s a1 b1 = (x2, a2, b2)) (h3 : varS s a2 b2 = (x3, a3, b3)) (h4 : takeS s a3 b3 1 = (t4, a4, false)) :
    rdV s = finV s x2 x3 a3 ∧ a3 < s.size ∧ t4 = s.extract a3 (a3 + 1) ∧ a4 = a3 + 1 := by
  obtain ⟨rfl, h5, h6, h7⟩ := takeS_ok h4
  obtain ⟨rfl, h8⟩ := varS_ok h3
  obtain ⟨rfl, h9⟩ := varS_ok h2
  obtain ⟨-, h10, -, h11⟩ := takeS_ok h1
  have e1 : a1 = 1 := by omega
  subst e1
  have h9' : rv s 1 = ((x2 : Int), (a2 : Int), true) := h9
  refine ⟨?_, by omega, h6, h7⟩
  unfold rdV
  rw [h9']
  dsimp only
  rw [h8]
  dsimp only
  rw [if_pos ⟨rfl, rfl, by omega⟩]
  simp
theorem rd_bad {s t1 t4 : ByteArray} {a1 a2 a3 a4 x2 x3 : Nat} {b1 b2 b3 : Bool} (h1 : takeS s 0 false 1 = (t1, a1, b1)) (h2 : varS s a1 b1 = (x2, a2, b2)) (h3 : varS s a2 b2 = (x3, a3, b3)) (h4 : takeS s a3 b3 1 = (t4, a4, true)) :
    rdV s = zeroV := by
  unfold rdV
  rw [if_neg]
  rintro ⟨k1, k2, k3⟩
  rcases hr1 : rv s 1 with ⟨X, Y, z⟩
  rw [hr1] at k1 k2 k3
  dsimp only at k1 k2 k3
  subst k1
  obtain ⟨X, Y, rfl, rfl, -, hy, hY⟩ := rv_in hr1
  rcases hr2 : rv s (Y : Int) with ⟨U, V, z⟩
  rw [hr2] at k2 k3
  dsimp only at k2 k3
  subst k2
  obtain ⟨U, V, rfl, rfl, -, hv, hV⟩ := rv_in hr2
  rw [takeS_yes (show 0 + 1 ≤ s.size by omega)] at h1
  simp only [Prod.mk.injEq] at h1
  obtain ⟨-, rfl, rfl⟩ := h1
  rw [varS_yes (show rv s ((0 + 1 : Nat) : Int) = ((X : Int), (Y : Int), true) from hr1)] at h2
  simp only [Prod.mk.injEq] at h2
  obtain ⟨rfl, rfl, rfl⟩ := h2
  rw [varS_yes hr2] at h3
  simp only [Prod.mk.injEq] at h3
  obtain ⟨rfl, rfl, rfl⟩ := h3
  rw [takeS_yes (by omega)] at h4
  simp at h4

theorem take1_any (g : Nat) (s : ByteArray) (a : Nat) (b : Bool) (w : World) (hc : Cur w g s a b) (hs : s.size ≤ 1048576) (ha : a ≤ s.size) :
    Calls Tryd.prog 34 #[.pointer (some ⟨g, 0, none⟩), .int .i64 1] w fun e w' => ∃ (t : ByteArray) (a' : Nat) (b' : Bool), e = .returned (.string t) ∧ takeS s a b 1 = (t, a', b') ∧ a' ≤ s.size ∧ Cur w' g s a' b' ∧ Save g w w' := take_any g s a 1 b w hc hs ha
theorem ret_entry {fn : Func} {p u v : Tmp} {w : World} {g : Nat} {a b c x y : Value} {tmps : Array Value} (h : fn.results = #[.tmp u, .cell p 47, .tmp v]) (hp : tmps.getD p undef = .pointer (some ⟨g, 0, none⟩)) (hu : tmps.getD u undef = x) (hv : tmps.getD v undef = y) (hb : w.heap[g]? = some (.cells #[a, b, c] 47)) :
    (results fn tmps).run Tryd.prog w = .ok (.tuple #[x, .agg #[a, b, c], y]) w := by
  have hp' : tmps[p]?.getD undef = .pointer (some ⟨g, 0, none⟩) := by simpa using hp
  have hu' : tmps[u]?.getD undef = x := by simpa using hu
  have hv' : tmps[v]?.getD undef = y := by simpa using hv
  obtain ⟨h0, h1, h2, _⟩ := cur_cells hb
  simp [results, h, hp', hu', hv', h0, h1, h2, asAddr, go_sem]

set_option maxRecDepth 10000 in
set_option maxHeartbeats 4000000 in
theorem specReadEntry_any (s : ByteArray) (w : World) (hs : s.size ≤ 1048576) :
    Calls Tryd.prog 36 #[.string s] w fun e w' => e = .returned (rdV s) ∧ Below w.heap.size w w' := by
  go_enter Tryd.func36, Tryd.ntmps36
  go_wp2_with fail
  refine (take1_any (w.heap.size + 1) s 0 false _ (heap_next _ _ _) hs (Nat.zero_le _)).mono ?_
  rintro e w1 ⟨t1, a1, b1, rfl, ht1, ha1, C1, S1⟩
  have R1 := S1.heap (k := w.heap.size) (by omega) (heap_old (heap_last _ _) _)
  have B1 := Save.under (B := w.heap.size) (ba (ba (Below.refl _ w) _) _) S1 (by omega) (by simp; omega)
  have HT1 : Hid (takeS s 0 false 1 = (t1, a1, b1)) := ht1
  have C1 : Hid (Cur w1 (w.heap.size + 1) s a1 b1) := C1
  have R1 : Hid (w1.heap[w.heap.size]? = some (.cells #[.int .i64 0, .int .i64 0, .string ByteArray.empty] 47)) := R1
  clear S1 ht1
  go_wp2_with fail
  refine (var_any (w.heap.size + 1) s a1 b1 _ C1.out hs ha1).mono ?_
  rintro e w2 ⟨x2, a2, b2, rfl, ht2, ha2, hx2, C2, S2⟩
  have B2 := Save.under (B := w.heap.size) B1 S2 (by omega) B1.size
  have R2 : Hid (w2.heap[w.heap.size]? = some (.cells #[.int .i64 0, .int .i64 0, .string ByteArray.empty] 47)) := S2.heap (by omega) R1.out
  have HT2 : Hid (varS s a1 b1 = (x2, a2, b2)) := ht2
  have C2 : Hid (Cur w2 (w.heap.size + 1) s a2 b2) := C2
  clear S2 ht2 B1 R1 C1
  have hE := C2.out.lt
  obtain ⟨E, hEq⟩ : ∃ E, w2.heap.size = E := ⟨_, rfl⟩
  rw [hEq] at hE
  go_wp2_with fail
  refine (var_any (w.heap.size + 1) s a2 b2 _ (heap_old C2.out _) hs ha2).mono ?_
  rintro e w3 ⟨x3, a3, b3, rfl, ht3, ha3, hx3, C3, S3⟩
  have B3 := Save.under (B := w.heap.size) (ba B2 _) S3 (by omega) (Nat.le_trans B2.size (by simp))
  have R3 : Hid (w3.heap[w.heap.size]? = some (.cells #[.int .i64 0, .int .i64 0, .string ByteArray.empty] 47)) := S3.heap (by omega) (heap_old R2.out _)
  have E3 : Hid (w3.heap[E]? = some (.cells #[.int .i64 0, .int .i64 0, .string ByteArray.empty] 47)) := S3.heap (by omega) (by rw [← hEq]; exact heap_last _ _)
  have HT3 : Hid (varS s a2 b2 = (x3, a3, b3)) := ht3
  have C3 : Hid (Cur w3 (w.heap.size + 1) s a3 b3) := C3
  clear S3 ht3 B2 R2 C2 hEq
  obtain ⟨e0, e1, e2, ef⟩ := cur_cells E3.out
  go_wp2_with fail
  refine (take1_any (w.heap.size + 1) s a3 b3 _ (heap_far C3.out (p := ⟨E, 0, none⟩) (by show E ≠ w.heap.size + 1; omega) _) hs ha3).mono ?_
  rintro e w4 ⟨t4, a4, b4, rfl, ht4, ha4, C4, S4⟩
  have B4 := Save.under (B := w.heap.size) (B3.setCell (p := ⟨E, 0, none⟩) (by show w.heap.size ≤ E; omega) _) S4 (by omega) (Nat.le_trans B3.size (by simp))
  have R4 : Hid (w4.heap[w.heap.size]? = some (.cells #[.int .i64 0, .int .i64 0, .string ByteArray.empty] 47)) := S4.heap (by omega) (heap_far R3.out (p := ⟨E, 0, none⟩) (by show E ≠ w.heap.size; omega) _)
  have E4 : Hid (w4.heap[E]? = some (.cells #[.int .i64 (x3 : Int), .int .i64 0, .string ByteArray.empty] 47)) := S4.heap (by omega) (cur_set0 E3.out _)
  have HT4 : Hid (takeS s a3 b3 1 = (t4, a4, b4)) := ht4
  have C4 : Hid (Cur w4 (w.heap.size + 1) s a4 b4) := C4
  clear S4 ht4 B3 R3 C3 E3 e0 e1 e2 ef
  obtain ⟨e0, e1, e2, ef⟩ := cur_cells E4.out
  obtain ⟨c0, c1, c2, cf⟩ := cur_cells C4.out
  obtain ⟨r0, r1, r2, rf⟩ := cur_cells R4.out
  cases b4 with
  | true =>
    have HZ : Hid (rdV s = zeroV) := rd_bad HT1.out HT2.out HT3.out HT4.out
    go_wp2
    refine bodyPost_ret (ret_entry (g := w.heap.size) rfl rfl rfl rfl (cur_set2 (cur_set1 (cur_set0 R4.out _) _) _)) rfl ⟨by rw [HZ.out]; rfl, ?_⟩
    exact ((B4.setCell (p := ⟨w.heap.size, 0, none⟩) (Nat.le_refl _) _).setCell (p := ⟨w.heap.size, 1, none⟩) (Nat.le_refl _) _).setCell (p := ⟨w.heap.size, 2, none⟩) (Nat.le_refl _) _
  | false =>
    obtain ⟨g1, g2, g3, g4⟩ := rd_good HT1.out HT2.out HT3.out HT4.out
    have G1 : Hid (rdV s = finV s x2 x3 a3) := g1
    have hk0 : 0 < t4.size := by rw [g3, ByteArray.size_extract]; omega
    obtain ⟨k, hk⟩ : ∃ k : Nat, t4[0].toNat = k := ⟨_, rfl⟩
    have hk8 : k < 256 := by rw [← hk]; exact UInt8.toNat_lt _
    obtain ⟨d, hd⟩ : ∃ d, s.extract a4 s.size = d := ⟨_, rfl⟩
    have GK : Hid (kAt s a3 = k) := by
      show kAt s a3 = k
      rw [kAt_in g2, ← hk]
      simp [g3, ByteArray.getElem_extract]
    have GD : Hid (dAt s a3 = d) := by show dAt s a3 = d; rw [← hd, g4]; rfl
    clear g1 g2 g3 g4
    have HM : Hid (d.size ≤ maxLen) := by
      have := dAt_size s a3
      rw [GD.out] at this
      show d.size ≤ maxLen
      unfold maxLen
      omega
    obtain ⟨q, HQ⟩ : ∃ q, Hid (okX x2 x3 k d = q) := ⟨_, rfl⟩
    obtain ⟨u, HU⟩ : ∃ u, Hid (textX x2 x3 k d = u) := ⟨_, rfl⟩
    have HV : Hid (valX x2 x3 k d = .tuple #[.string u, .bool q]) := by show valX _ _ _ d = _; rw [valX, HQ.out, HU.out]
    have HF : Hid (okF s x2 x3 a3 = (q && (u.toList == s.toList))) := by show okF s x2 x3 a3 = _; rw [okF, GK.out, GD.out, HQ.out, HU.out]
    go_wp2_with fail
    have E5 := cur_set2 (cur_set1 E4.out (.int .i64 (k : Int))) (.string d)
    have R5 := heap_far (heap_far R4.out (p := ⟨E, 1, none⟩) (by show E ≠ w.heap.size; omega) (.int .i64 (k : Int))) (p := ⟨E, 2, none⟩) (by show E ≠ w.heap.size; omega) (.string d)
    have B5 := (B4.setCell (p := ⟨E, 1, none⟩) (by show w.heap.size ≤ E; omega) (.int .i64 (k : Int))).setCell (p := ⟨E, 2, none⟩) (by show w.heap.size ≤ E; omega) (.string d)
    obtain ⟨W5, hW5⟩ : ∃ W5, (w4.setCell ⟨E, 1, none⟩ (.int .i64 (k : Int))).setCell ⟨E, 2, none⟩ (.string d) = W5 := ⟨_, rfl⟩
    rw [hW5] at E5 R5 B5 ⊢
    clear hW5 e0 e1 e2 ef c0 c1 c2 cf r0 r1 r2 rf R4 E4 B4 C4 HT1 HT2 HT3 HT4
    refine (specEntryText_any x2 x3 k d W5 HM.out).mono ?_
    rintro e w6 ⟨rfl, hb6⟩
    have B6 := Below.trans B5 (hb6.mono B5.size)
    have E6 : Hid (w6.heap[E]? = some (.cells #[.int .i64 (x3 : Int), .int .i64 (k : Int), .string d] 47)) := heap_on hb6 E5
    have R6 : Hid (w6.heap[w.heap.size]? = some (.cells #[.int .i64 0, .int .i64 0, .string ByteArray.empty] 47)) := heap_on hb6 R5
    clear hb6 E5 R5 B5
    obtain ⟨e0, e1, e2, ef⟩ := cur_cells E6.out
    obtain ⟨r0, r1, r2, rf⟩ := cur_cells R6.out
    rw [HV.out]
    cases q with
    | false =>
      have HZ : Hid (rdV s = zeroV) := by show rdV s = zeroV; rw [G1.out, finV, HF.out]; rfl
      go_wp2
      refine bodyPost_ret (ret_entry (g := w.heap.size) rfl rfl rfl rfl (cur_set2 (cur_set1 (cur_set0 R6.out _) _) _)) rfl ⟨by rw [HZ.out]; rfl, ?_⟩
      exact ((B6.setCell (p := ⟨w.heap.size, 0, none⟩) (Nat.le_refl _) _).setCell (p := ⟨w.heap.size, 1, none⟩) (Nat.le_refl _) _).setCell (p := ⟨w.heap.size, 2, none⟩) (Nat.le_refl _) _
    | true =>
      cases hu : (u.toList == s.toList) with
      | false =>
        have HZ : Hid (rdV s = zeroV) := by show rdV s = zeroV; rw [G1.out, finV, HF.out, hu]; rfl
        go_wp2
        refine bodyPost_ret (ret_entry (g := w.heap.size) rfl rfl rfl rfl (cur_set2 (cur_set1 (cur_set0 R6.out _) _) _)) rfl ⟨by rw [HZ.out]; rfl, ?_⟩
        exact ((B6.setCell (p := ⟨w.heap.size, 0, none⟩) (Nat.le_refl _) _).setCell (p := ⟨w.heap.size, 1, none⟩) (Nat.le_refl _) _).setCell (p := ⟨w.heap.size, 2, none⟩) (Nat.le_refl _) _
      | true =>
        have HZ : Hid (rdV s = .tuple #[.int .i64 x2, .agg #[.int .i64 x3, .int .i64 k, .string d], .bool true]) := by
          show rdV s = _
          rw [G1.out, finV, HF.out, hu, GK.out, GD.out]
          rfl
        go_wp2
        go_region
        go_wp2
        have RF := cur_set2 (cur_set1 (cur_set0 R6.out (.int .i64 (x3 : Int))) (.int .i64 (k : Int))) (.string d)
        have BF := (((B6.setCell (p := ⟨w.heap.size, 0, none⟩) (Nat.le_refl _) (.int .i64 (x3 : Int))).setCell (p := ⟨w.heap.size, 1, none⟩) (Nat.le_refl _) (.int .i64 (k : Int))).setCell (p := ⟨w.heap.size, 2, none⟩) (Nat.le_refl _) (.string d)).drew
        exact bodyPost_ret (ret_entry (g := w.heap.size) rfl rfl rfl rfl RF) rfl ⟨by rw [HZ.out]; rfl, BF⟩
end Go.Proofs.YtgjamikmjknlfaaDoor
