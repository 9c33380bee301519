/- Es -/
import Derived.Test.YtpjpheicldegkaaGreatDoorGM6
import Derived.Test.YtpjpheicldegkaaGreatDoorGM5
import Derived.BigRegion
import Derived.Deep.RegionHeld
import Derived.Deep.RegionHeld3
namespace Go.Proofs.YtpjpheicldegkaaGreatDoor
open Go Go.RowKit

theorem size_drew (w : World) : w.drew.heap.size = w.heap.size := rfl
theorem conv_at {w : World} {X : Nat} {x : Int} (h : w.heap[X]? = some (.cells #[.int .u8 x] 5)) : (convert 22 9 (.slice (some ⟨X, 0, none⟩) 1 1)).run Tryz.prog w = .ok (.string (bstr [x])) w :=
  qdb (P := Tryz.prog) (B := 0) (e := 5) 22 9 (show ownsB w 0 5 (.slice (some ⟨X, 0, none⟩) 1 1) [x] from
    ⟨rfl, .inr ⟨X, 1, #[.int .u8 x], rfl, Nat.zero_le _, h, Nat.le_refl _, by unfold maxLen; omega, rfl, rfl⟩⟩) Tryz.underlying22 Tryz.underlying5 Tryz.underlying9

set_option maxHeartbeats 4000000 in
theorem specEntryText_ok (i t k : Nat) (d : ByteArray) (w : World) (h1 : 1 ≤ i) (h2 : i ≤ 1000000) (h3 : t ≤ 100000) (hk3 : k ≤ 3) (hd : d.size ≤ 640) (hk : okE t k d = true) :
    Calls Tryz.prog 64 #[.int .i64 i, .agg #[.int .i64 t, .int .i64 k, .string d]] w fun e w' => e = .returned (.tuple #[.string (rawE (bstr (varI i)) (bstr (varI t)) k d), .bool true]) ∧ Below w.heap.size w w' := by
  have hv : (decide ((1 : Int) ≤ (i : Int)) && decide ((i : Int) ≤ 1000000)) = true := by
    rw [Bool.and_eq_true, decide_eq_true_iff, decide_eq_true_iff]
    omega
  have hs1 : (bstr (varI i)).size ≤ 3 := by rw [qra]; exact qic h2
  have hs2 : (bstr (varI t)).size ≤ 3 := by rw [qra]; exact qic (by omega)
  have H0 : Hid (∀ w, Calls Tryz.prog 25 #[.agg #[.int .i64 t, .int .i64 k, .string d]] w fun e w' => e = .returned (.bool true) ∧ Below w.heap.size w w') := by
    intro w; rw [← hk]; exact qhd t k d w (by unfold maxLen; omega)
  have a1 := add1 hs1
  have a2 := add2 hs1 hs2
  have a3 := add3 (k := k) hs1 hs2
  have a4 := add4 (k := k) hs1 hs2 hd
  clear hk hs1 hs2
  go_enter Tryz.func64, Tryz.ntmps64
  go_wp2_with (first | (go_at_call 25; refine (H0.out _).mono ?_; rintro e w1 ⟨rfl, hb1⟩) | (go_at_call 24; refine (qub _ _ _ _).mono ?_; rintro e w2 ⟨rfl, hw⟩; have hw2 := hw.symm; subst hw2; rw [hv]))
  have B1 := qma hb1
  have c1 : w1.cell? ⟨w.heap.size, 0, none⟩ = some (.int .i64 t) := (hb1.cell (by simp)).trans (by simp [go_sem])
  have c2 : w1.cell? ⟨w.heap.size, 1, none⟩ = some (.int .i64 k) := (hb1.cell (by simp)).trans (by simp [go_sem])
  have c3 : w1.cell? ⟨w.heap.size, 2, none⟩ = some (.string d) := (hb1.cell (by simp)).trans (by simp [go_sem])
  have hlt : w.heap.size < w1.heap.size := World.block_lt_of_cell? w1 _ c3
  clear hb1
  have k1 : ∀ w', Below w1.heap.size w1 w' → w'.cell? ⟨w.heap.size, 0, none⟩ = some (.int .i64 t) := Below.cellOf hlt c1
  have k2 : ∀ w', Below w1.heap.size w1 w' → w'.cell? ⟨w.heap.size, 1, none⟩ = some (.int .i64 k) := Below.cellOf hlt c2
  have k3 : ∀ w', Below w1.heap.size w1 w' → w'.cell? ⟨w.heap.size, 2, none⟩ = some (.string d) := Below.cellOf hlt c3
  have hcv := qcc
  have hcd : (convert 22 9 (.slice (some ⟨w1.heap.size, 0, none⟩) 1 1)).run Tryz.prog (w1.alloc (.cells #[.int .u8 (k : Int)] 5)).drew = .ok (.string (bstr [(k : Int)])) (w1.alloc (.cells #[.int .u8 (k : Int)] 5)).drew := conv_at (by show (w1.heap.push _)[w1.heap.size]? = _; simp)
  have hwr : IntKind.u8.wrap (k : Int) = (k : Int) := by go_arith
  refine wp_region_noPanic ?_
  go_region_held (fun w' => Below w1.heap.size w1 w') ((first | assumption | exact (Below.refl _ _).drew | exact keep_on hba (by assumption) (Nat.le_refl _) | exact Below.alloc (by assumption) (Below.size (by assumption)) _ | exact Below.alloc (keep_on hba (by assumption) (Nat.le_refl _)) (Below.size (keep_on hba (by assumption) (Nat.le_refl _))) _)) ((go_at_call 62; refine (qpc _ _ (by omega)).mono ?_; rintro e wa ⟨rfl, hba⟩; (try (have hX := heap_new hba; (try rw [size_drew] at hX); have hY := conv_at hX)); (try (have hX := heap_newd hba; have hY := conv_at hX)); (try (have hX := heap_on hba hX; have hY := conv_at hX))))
  all_goals refine NoPanic.normal ?_
  all_goals go_wp2
  all_goals (go_ret2; refine ⟨rfl, B1.trans (Below.mono (B := w1.heap.size) (by assumption) B1.size)⟩)

theorem specEntryText_any (i t k : Int) (d : ByteArray) (w : World) (hd : d.size ≤ maxLen) :
    Calls Tryz.prog 64 #[.int .i64 i, .agg #[.int .i64 t, .int .i64 k, .string d]] w fun e w' => e = .returned (valX i t k d) ∧ Below w.heap.size w w' := by
  cases hx : okX i t k d with
  | true =>
    rw [valX_yes hx]
    obtain ⟨h1, h2, h3, h4, h5, h6, h7⟩ := okX_out hx
    obtain ⟨a, rfl⟩ := Int.eq_ofNat_of_zero_le (show 0 ≤ i by omega)
    obtain ⟨b, rfl⟩ := Int.eq_ofNat_of_zero_le h3
    obtain ⟨c, rfl⟩ := Int.eq_ofNat_of_zero_le (show 0 ≤ k by omega)
    exact specEntryText_ok a b c d w (by omega) (by omega) (by omega) (by omega) h6 h7
  | false =>
    rw [valX_no hx]
    exact specEntryText_bad i t k d w hd hx

end Go.Proofs.YtpjpheicldegkaaGreatDoor
