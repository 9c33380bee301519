/- Rde -/
import Derived.Test.YtpjpheicldegkaaGreatDoorGM15
import Derived.Test.YtpjpheicldegkaaGreatDoorGM2
import Derived.Test.YtpjpheicldegkaaGreatDoorGM11
namespace Go.Proofs.YtpjpheicldegkaaGreatDoor
open Go Go.RowKit

theorem rd_no1 {s : ByteArray} (h : (rv s 1).2.2 = false) : rdV s = zeroV := by
  unfold rdV
  rw [if_neg]
  rintro ⟨k, -⟩
  rw [h] at k
  cases k
theorem rd_no2 {s : ByteArray} {x a : Nat} (h : rv s 1 = ((x : Int), (a : Int), true)) (h2 : (rv s (a : Int)).2.2 = false) : rdV s = zeroV := by
  unfold rdV
  rw [if_neg]
  rintro ⟨-, k, -⟩
  rw [h] at k
  rw [h2] at k
  cases k
theorem rd_no3 {s : ByteArray} {x a t b : Nat} (h : rv s 1 = ((x : Int), (a : Int), true)) (h2 : rv s (a : Int) = ((t : Int), (b : Int), true)) (h3 : b = s.size) : rdV s = zeroV := by
  unfold rdV
  rw [if_neg]
  rintro ⟨-, -, k⟩
  rw [h] at k
  dsimp only at k
  rw [h2] at k
  dsimp only at k
  omega
theorem rd_yes {s : ByteArray} {x a t b : Nat} (h : rv s 1 = ((x : Int), (a : Int), true)) (h2 : rv s (a : Int) = ((t : Int), (b : Int), true)) (h3 : b < s.size) : rdV s = finV s x t b := by
  unfold rdV
  rw [h]
  dsimp only
  rw [h2]
  dsimp only
  rw [if_pos ⟨rfl, rfl, by omega⟩]
  simp

theorem zero_block {w W : World} (hb : Below w.heap.size w W) (hr : W.heap[w.heap.size]? = some (.cells #[.int .i64 0, .int .i64 0, .string ByteArray.empty] 59)) :
    (((W.setCell ⟨w.heap.size, 0, none⟩ (.int .i64 0)).setCell ⟨w.heap.size, 1, none⟩ (.int .i64 0)).setCell ⟨w.heap.size, 2, none⟩ (.string ByteArray.empty)).heap[w.heap.size]? = some (.cells #[.int .i64 0, .int .i64 0, .string ByteArray.empty] 59) ∧
    Below w.heap.size w (((W.setCell ⟨w.heap.size, 0, none⟩ (.int .i64 0)).setCell ⟨w.heap.size, 1, none⟩ (.int .i64 0)).setCell ⟨w.heap.size, 2, none⟩ (.string ByteArray.empty)) :=
  ⟨qmc (qid (cur_set0 hr _) _) _, ((hb.setCell (p := ⟨w.heap.size, 0, none⟩) (Nat.le_refl _) _).setCell (p := ⟨w.heap.size, 1, none⟩) (Nat.le_refl _) _).setCell (p := ⟨w.heap.size, 2, none⟩) (Nat.le_refl _) _⟩

set_option maxRecDepth 10000 in
set_option maxHeartbeats 4000000 in
theorem readEntry_any (s : ByteArray) (w : World) (hs : s.size ≤ 1048576) :
    Calls Tryz.prog 82 #[.string s] w fun e w' => e = .returned (rdV s) ∧ Below w.heap.size w w' := by
  rcases hr1 : rv s 1 with ⟨x, y, z⟩
  have H1 : Hid (∀ w, Calls Tryz.prog 80 #[.string s, .int .i64 1] w fun e w' => e = .returned (.tuple #[.int .i64 x, .int .i64 y, .bool z]) ∧ w' = w) := fun w => qgc s 1 w hs x y z hr1
  cases z with
  | false =>
    have HZ : Hid (rdV s = zeroV) := rd_no1 (by rw [hr1])
    clear hr1
    go_enter Tryz.func82, Tryz.ntmps82
    go_wp2_with (go_at_call 80; refine (H1.out _).mono ?_; rintro e w2 ⟨rfl, hw⟩; have hw2 := hw.symm; subst hw2; clear hw)
    exact bodyPost_ret (qvc (g := w.heap.size) rfl rfl rfl rfl (qkd _ _)) rfl ⟨by rw [HZ.out]; rfl, ba (Below.refl _ _) _⟩
  | true =>
    obtain ⟨X, Y, rfl, rfl, hX, hY0, hY⟩ := rv_in hr1
    rcases hr2 : rv s (Y : Int) with ⟨x, y, z⟩
    have H2 : Hid (∀ w, Calls Tryz.prog 80 #[.string s, .int .i64 (Y : Int)] w fun e w' => e = .returned (.tuple #[.int .i64 x, .int .i64 y, .bool z]) ∧ w' = w) := fun w => qgc s Y w hs x y z hr2
    cases z with
    | false =>
      have HZ : Hid (rdV s = zeroV) := rd_no2 hr1 (by rw [hr2])
      clear hr1 hr2
      go_enter Tryz.func82, Tryz.ntmps82
      go_wp2_with fail
      refine (H1.out _).mono ?_
      rintro e w2 ⟨rfl, hw⟩; have hw2 := hw.symm; subst hw2; clear hw
      go_wp2_with fail
      refine (H2.out _).mono ?_
      rintro e w2 ⟨rfl, hw⟩; have hw2 := hw.symm; subst hw2; clear hw
      go_wp2
      exact bodyPost_ret (qvc (g := w.heap.size) rfl rfl rfl rfl (qkd _ _)) rfl ⟨by rw [HZ.out]; rfl, ba (Below.refl _ _) _⟩
    | true =>
      obtain ⟨U, V, rfl, rfl, hU, hV0, hV⟩ := rv_in hr2
      by_cases hVs : V = s.size
      · have HZ : Hid (rdV s = zeroV) := rd_no3 hr1 hr2 hVs
        have hVi : (V : Int) = (s.size : Int) := by omega
        clear hr1 hr2 hVs
        go_enter Tryz.func82, Tryz.ntmps82
        go_wp2_with fail
        refine (H1.out _).mono ?_
        rintro e w2 ⟨rfl, hw⟩; have hw2 := hw.symm; subst hw2; clear hw
        go_wp2_with fail
        refine (H2.out _).mono ?_
        rintro e w2 ⟨rfl, hw⟩; have hw2 := hw.symm; subst hw2; clear hw
        go_wp2
        exact bodyPost_ret (qvc (g := w.heap.size) rfl rfl rfl rfl (qkd _ _)) rfl ⟨by rw [HZ.out]; rfl, ba (Below.refl _ _) _⟩
      · have hlt : V < s.size := by omega
        have G1 : Hid (rdV s = finV s X U V) := rd_yes hr1 hr2 hlt
        have hVi : ¬ (V : Int) = (s.size : Int) := by omega
        clear hr1 hr2 hVs
        obtain ⟨k, hk⟩ : ∃ k : Nat, s[V].toNat = k := ⟨_, rfl⟩
        have hk8 : k < 256 := by rw [← hk]; exact UInt8.toNat_lt _
        obtain ⟨d, hd⟩ : ∃ d, dAt s V = d := ⟨_, rfl⟩
        have GK : Hid (kAt s V = k) := by show kAt s V = k; rw [kAt_in hlt, hk]
        have GD : Hid (dAt s V = d) := hd
        have hds : d.size ≤ 1048576 := by rw [← hd]; exact Nat.le_trans (dAt_size s V) hs
        have hsl : ∀ wx, (Instr.slice 9 (.string s) (some (.int .i64 ((V : Int) + 1))) none none).run Tryz.prog wx = .ok (.string d) wx := fun wx => by
          rw [run_slice_string_l (P := Tryz.prog) wx 9 s Tryz.underlying9 .i64 ((V : Int) + 1) (by omega) (by omega), show ((V : Int) + 1).toNat = V + 1 by omega, ← hd]
          rfl
        have hwk : IntKind.i64.wrap (k : Int) = (k : Int) := by go_arith
        have hwv : IntKind.i64.wrap ((V : Int) + 1) = (V : Int) + 1 := by go_arith
        have hi0 : (0 : Int) ≤ (V : Int) := by omega
        have hi1 : (V : Int) < (s.size : Int) := by omega
        clear hd
        have HM : Hid (d.size ≤ maxLen) := by show d.size ≤ maxLen; unfold maxLen; omega
        obtain ⟨q, HQ⟩ : ∃ q, Hid (okX X U k d = q) := ⟨_, rfl⟩
        obtain ⟨u, HU⟩ : ∃ u, Hid (textX X U k d = u) := ⟨_, rfl⟩
        have HV : Hid (valX X U k d = .tuple #[.string u, .bool q]) := by show valX _ _ _ d = _; rw [valX, HQ.out, HU.out]
        have HF : Hid (okF s X U V = (q && (u.toList == s.toList))) := by show okF s X U V = _; rw [okF, GK.out, GD.out, HQ.out, HU.out]
        have R0 : Hid ((w.alloc (.cells #[.int .i64 0, .int .i64 0, .string ByteArray.empty] 59)).heap[w.heap.size]? = some (.cells #[.int .i64 0, .int .i64 0, .string ByteArray.empty] 59)) := qkd _ _
        have B0 := ba (Below.refl _ w) (.cells #[.int .i64 0, .int .i64 0, .string ByteArray.empty] 59)
        go_enter Tryz.func82, Tryz.ntmps82
        go_wp2_with fail
        refine (H1.out _).mono ?_
        rintro e w2 ⟨rfl, hw⟩; have hw2 := hw.symm; subst hw2; clear hw
        go_wp2_with fail
        refine (H2.out _).mono ?_
        rintro e w2 ⟨rfl, hw⟩; have hw2 := hw.symm; subst hw2; clear hw
        go_wp2
        rename ((V : Int) == (s.size : Int)) = false => hbeq
        rw [hbeq]
        clear hbeq
        obtain ⟨w1, hw1⟩ : ∃ w1, w.alloc (.cells #[.int .i64 0, .int .i64 0, .string ByteArray.empty] 59) = w1 := ⟨_, rfl⟩
        rw [hw1] at R0 B0
        rw [show w.alloc (.cells #[.int .i64 0, .int .i64 0, .string { data := #[] }] 59) = w1 from hw1]
        clear hw1
        refine wp_puts (α := Nat) (fun E => [(37, .int .i64 (U : Int)), (38, .string s), (39, .int .i64 (V : Int)), (40, .int .u8 (k : Int)), (41, .int .i64 (k : Int)), (42, .string s), (43, .int .i64 (V : Int)), (44, .int .i64 ((V : Int) + 1)), (45, .string d), (46, .string d), (47, .agg #[.int .i64 (U : Int), .int .i64 (k : Int), .string d]), (9, .pointer (some ⟨E, 0, none⟩))]) (fun E w' => w1.heap.size ≤ E ∧ w'.heap[E]? = some (.cells #[.int .i64 (U : Int), .int .i64 (k : Int), .string d] 59) ∧ Below w1.heap.size w1 w') ?_ ?_
        · go_region_held3 (fun w' => Below w1.heap.size w1 w') ((first | assumption | exact (Below.refl _ _).drew | exact hSa | exact Below.alloc hSa hSa.size _ | exact Below.alloc (by assumption) (Below.size (by assumption)) _ | exact ((Below.setCell hSa (Nat.le_refl _) _).setCell (Nat.le_refl _) _).setCell (Nat.le_refl _) _)) ((go_at_call 91; refine (clone_any _ _ hds).mono ?_; rintro e wa ⟨rfl, hba⟩; have hSa := keep_on (B := w1.heap.size) (W := w1) hba (by assumption) (Nat.le_refl _); (try (have hE0 := heap_new hba; obtain ⟨p0, p1, p2, pf⟩ := qpa hE0)); (try (have hE0 := heap_newd hba; obtain ⟨p0, p1, p2, pf⟩ := qpa hE0))))
          all_goals first | refine ⟨rfl, wa.heap.size, ?_, hSa.size, qkd _ _, Below.alloc hSa hSa.size _⟩ | refine ⟨rfl, w1.heap.size, ?_, Nat.le_refl _, qmc (qid (cur_set0 hE0 _) _) _, ((Below.setCell hSa (p := ⟨w1.heap.size, 0, none⟩) (Nat.le_refl _) _).setCell (p := ⟨w1.heap.size, 1, none⟩) (Nat.le_refl _) _).setCell (p := ⟨w1.heap.size, 2, none⟩) (Nat.le_refl _) _⟩
          all_goals kernel_rfl
        rintro E w2 ⟨hE, E2, hb2⟩
        simp only [putAll]
        have hR := (Array.getElem?_eq_some_iff.1 R0.out).1
        have B2 := Below.trans B0 (hb2.mono B0.size)
        have R2 := heap_on hb2 R0.out
        have hne : E ≠ w.heap.size := by omega
        clear hb2 hsl hwv hwk hi0 hi1 H1 H2
        obtain ⟨e0, e1, e2, ef⟩ := qpa E2
        go_wp2_with fail
        refine (entryText_any X U k d _ HM.out).mono ?_
        rintro e w6 ⟨rfl, hb6⟩
        have B6 := Below.trans B2 (hb6.mono B2.size)
        have E6 : Hid (w6.heap[E]? = some (.cells #[.int .i64 (U : Int), .int .i64 (k : Int), .string d] 59)) := heap_on hb6 E2
        have R6 : Hid (w6.heap[w.heap.size]? = some (.cells #[.int .i64 0, .int .i64 0, .string ByteArray.empty] 59)) := heap_on hb6 R2
        clear hb6 E2 R2 B2 e0 e1 e2 ef
        obtain ⟨e0, e1, e2, ef⟩ := qpa E6.out
        obtain ⟨r0, r1, r2, rf⟩ := qpa R6.out
        rw [HV.out]
        cases q with
        | false =>
          have HZ : Hid (rdV s = zeroV) := by show rdV s = zeroV; rw [G1.out, finV, HF.out]; rfl
          go_wp2
          exact bodyPost_ret (qvc (g := w.heap.size) rfl rfl rfl rfl (zero_block B6 R6.out).1) rfl ⟨by rw [HZ.out]; rfl, (zero_block B6 R6.out).2⟩
        | true =>
          cases hu : (u.toList == s.toList) with
          | false =>
            have HZ : Hid (rdV s = zeroV) := by show rdV s = zeroV; rw [G1.out, finV, HF.out, hu]; rfl
            go_wp2
            exact bodyPost_ret (qvc (g := w.heap.size) rfl rfl rfl rfl (zero_block B6 R6.out).1) rfl ⟨by rw [HZ.out]; rfl, (zero_block B6 R6.out).2⟩
          | true =>
            have HZ : Hid (rdV s = .tuple #[.int .i64 X, .agg #[.int .i64 U, .int .i64 k, .string d], .bool true]) := by
              show rdV s = _
              rw [G1.out, finV, HF.out, hu, GK.out, GD.out]
              rfl
            go_wp2
            go_region
            go_wp2
            have RF := qmc (qid (cur_set0 R6.out (.int .i64 (U : Int))) (.int .i64 (k : Int))) (.string d)
            have BF := (((B6.setCell (p := ⟨w.heap.size, 0, none⟩) (Nat.le_refl _) (.int .i64 (U : Int))).setCell (p := ⟨w.heap.size, 1, none⟩) (Nat.le_refl _) (.int .i64 (k : Int))).setCell (p := ⟨w.heap.size, 2, none⟩) (Nat.le_refl _) (.string d)).drew
            exact bodyPost_ret (qvc (g := w.heap.size) rfl rfl rfl rfl RF) rfl ⟨by rw [HZ.out]; rfl, BF⟩
end Go.Proofs.YtpjpheicldegkaaGreatDoor
