/-
  The day of a minute as the specification tells it, and the law on it: the walks.
-/
import Derived.Test.YtbecdaholpiaeaaDoorCf
namespace Go.Proofs.YtbecdaholpiaeaaDoor
open Go Go.RowKit

/-- Five cells that may be written. -/
structure Fz5 (w : World) (g : Nat) : Prop where
  c0 : w.frozen? ⟨g, 0, none⟩ = false
  c1 : w.frozen? ⟨g, 1, none⟩ = false
  c2 : w.frozen? ⟨g, 2, none⟩ = false
  c3 : w.frozen? ⟨g, 3, none⟩ = false
  c4 : w.frozen? ⟨g, 4, none⟩ = false
theorem Fz5.up {w w' : World} {B g : Nat} (h : Fz5 w g) (hb : Below B w w') (hg : g < B) : Fz5 w' g :=
  ⟨(hb.frozen hg).trans h.c0, (hb.frozen hg).trans h.c1, (hb.frozen hg).trans h.c2, (hb.frozen hg).trans h.c3, (hb.frozen hg).trans h.c4⟩
theorem Fz5.made (w : World) (cs : Array Value) (t : TypeId) : Fz5 (w.alloc (.cells cs t)) w.heap.size :=
  ⟨by simp [go_sem], by simp [go_sem], by simp [go_sem], by simp [go_sem], by simp [go_sem]⟩

set_option maxRecDepth 10000 in
set_option maxHeartbeats 2000000 in
theorem specCivilOf_yes (k : Int) (w : World) (h0 : 0 ≤ k) (h1 : k ≤ 68374079) :
    Calls Tryd.prog 48 #[.int .i64 k] w fun e w' => ∃ c : Cv, e = .returned (.tuple #[.agg #[.int .i64 c.y, .int .i64 c.mo, .int .i64 c.d, .int .i64 c.h, .int .i64 c.mi], .bool true]) ∧ Right c ∧ minC c = k ∧ Below w.heap.size w w' := by
  obtain ⟨D, hD⟩ : ∃ D, k / 1440 = D := ⟨_, rfl⟩
  have hD0 : 0 ≤ D := by omega
  have hD1 : D ≤ 47481 := by omega
  have HI : Hid (∀ w, Calls Tryd.prog 35 #[.int .i64 k, .int .i64 0, .int .i64 68374079] w fun e w' => e = .returned (.bool true) ∧ w' = w) := by intro w; exact in_yes h0 h1
  go_enter Tryd.func48, Tryd.ntmps48
  go_wp2_with (go_at_call 35; refine (HI.out _).mono ?_; rintro e w1 ⟨rfl, hw⟩; have hw2 := hw.symm; subst hw2)
  rw [hD]
  go_loopw [5] (fun i wr => ∃ n : Nat, n ≤ 129 ∧ i = .int .i64 (1970 + n) ∧ Hid (yearN n ≤ D) ∧ wr = w.alloc (.cells #[.int .i64 0, .int .i64 0, .int .i64 0, .int .i64 0, .int .i64 0] 77)) (fun i _ => 2500 - (intOf i).toNat)
  case atStart => exact ⟨(D / 366).toNat, by omega, by go_num, by show yearN ((D / 366).toNat : Nat) ≤ D; unfold yearN; omega, rfl⟩
  case round =>
    obtain ⟨n, hn, rfl, HE, hwr⟩ := hrel
    subst hwr
    obtain ⟨Y, HY⟩ : ∃ Y, Hid (yearN (n + 1 : Nat) = Y) := ⟨_, rfl⟩
    have HC : Hid (∀ w, Calls Tryd.prog 55 #[.int .i64 (1970 + n + 1)] w fun e w' => e = .returned (.int .i64 Y) ∧ w' = w) := by
      intro w
      have := l09Year_any (1970 + n + 1) w (by omega) (by omega)
      rw [← HY.out]
      rw [show 1970 + (n : Int) + 1 - 1970 = (n + 1 : Nat) by omega] at this
      exact this
    by_cases hle : Y ≤ D
    · have hn2 : n + 1 ≤ 129 := by
        have e := HY.out
        unfold yearN at e
        omega
      go_wp2_with (go_at_call 55; refine (HC.out _).mono ?_; rintro e w1 ⟨rfl, hw⟩; have hw2 := hw.symm; subst hw2)
      go_roundw
      case rel => exact ⟨n + 1, hn2, by go_num, (by show yearN (n + 1 : Nat) ≤ D; rw [HY.out]; exact hle), trivial⟩
      case measure => simp [intOf]; omega
    · obtain ⟨Z, HZ⟩ : ∃ Z, Hid (yearN n = Z) := ⟨_, rfl⟩
      have HC2 : Hid (∀ w, Calls Tryd.prog 55 #[.int .i64 (1970 + n)] w fun e w' => e = .returned (.int .i64 Z) ∧ w' = w) := by
        intro w
        have := l09Year_any (1970 + n) w (by omega) (by omega)
        rw [← HZ.out]
        rw [show 1970 + (n : Int) - 1970 = n by omega] at this
        exact this
      have hZ0 : 0 ≤ Z ∧ Z ≤ D := by
        refine ⟨?_, by have := HE.out; rw [HZ.out] at this; exact this⟩
        rw [← HZ.out]; unfold yearN; omega
      have HL : Hid (D - Z < yearL (1970 + n)) := by
        have e := yearN_next (n := (n : Int)) (by omega) (by omega)
        have e2 := HY.out
        have e3 := HZ.out
        rw [show ((n + 1 : Nat) : Int) = (n : Int) + 1 by omega] at e2
        show D - Z < _
        omega
      go_wp2_with (first | (go_at_call 55; with_reducible refine (HC.out _).mono ?_; rintro e w1 ⟨rfl, hw⟩; have hw2 := hw.symm; subst hw2) | (go_at_call 55; with_reducible refine (HC2.out _).mono ?_; rintro e w1 ⟨rfl, hw⟩; have hw2 := hw.symm; subst hw2))
      go_loopw [4, 6] (fun ds i wr => ∃ (m : Nat) (x : Int), 1 ≤ m ∧ m ≤ 12 ∧ i = .int .i64 m ∧ ds = .int .i64 x ∧ 0 ≤ x ∧ x ≤ 47482 ∧ Hid (D - Z = monN (leapB (1970 + n)) m + x) ∧ Below (w.heap.size + 1) (w.alloc (.cells #[.int .i64 0, .int .i64 0, .int .i64 0, .int .i64 0, .int .i64 0] 77)) wr) (fun _ i _ => 20 - (intOf i).toNat)
      case atStart => exact ⟨1, D - Z, by omega, by omega, rfl, rfl, by omega, by omega, (by show D - Z = monN (leapB (1970 + n)) 1 + (D - Z); rw [monN_one, Int.zero_add]), Below.refl _ _⟩
      case round =>
        obtain ⟨m, x, hm0, hm1, rfl, rfl, hx0, hx1, HX, hbel⟩ := hrel
        have hsz : w.heap.size + 1 ≤ wr.heap.size := Nat.le_trans (by simp) hbel.size
        obtain ⟨L, HL2⟩ : ∃ L, Hid (daysB (1970 + n) m = L) := ⟨_, rfl⟩
        have HB := daysB_bd (y := 1970 + n) (m := m)
        rw [HL2.out] at HB
        have HC3 : Hid (∀ w, Calls Tryd.prog 56 #[.int .i64 (1970 + n), .int .i64 m] w fun e w' => e = .returned (.int .i64 L) ∧ Below w.heap.size w w') := by
          intro w; rw [← HL2.out]; exact specDays_any (1970 + n) m w
        have HN : Hid (monN (leapB (1970 + n)) (m + 1 : Nat) = monN (leapB (1970 + n)) m + L) := by
          have := monN_next (y := 1970 + n) (m := (m : Int)) (by omega) (by omega)
          rw [HL2.out] at this
          exact this
        by_cases hle : L ≤ x
        · have hm2 : m + 1 ≤ 12 := by
            by_cases hm : m = 12
            · subst hm
              have e1 : monN (leapB (1970 + n)) 13 = _ := HN.out
              rw [monN_end] at e1
              have e2 := HX.out
              have e3 := HL.out
              omega
            · omega
          go_wp2_with (first | (go_at_call 56; refine (HC3.out _).mono ?_; rintro e w3 ⟨rfl, hb3⟩; have hbel := hbel.trans (hb3.mono hsz); have hsz : w.heap.size + 1 ≤ w3.heap.size := (Nat.le_trans (by simp) hbel.size); clear hb3))
          go_roundw
          case rel => exact ⟨m + 1, x - L, by omega, hm2, by go_num, by go_num, by omega, by omega, (by show D - Z = monN _ (m + 1 : Nat) + (x - L); rw [HN.out, HX.out]; omega), by assumption⟩
          case measure => simp [intOf]; omega
        · have hR := right_of (n := n) (x := D - Z) (m := m) (d := x) (k := k) (by omega) (by omega) (by omega) (by omega) (by rw [hD, HZ.out]; omega) HX.out hx0 (by rw [HL2.out]; omega)
          have HR : Hid _ := hR
          have hmi : k % 1440 % 60 = k % 60 := by omega
          rw [hmi] at HR
          clear hR
          go_wp2_with fail
          refine (HC3.out _).mono ?_
          rintro e w3 ⟨rfl, hb3⟩
          replace hbel := hbel.trans (hb3.mono hsz)
          replace hsz : w.heap.size + 1 ≤ w3.heap.size := Nat.le_trans (by simp) hbel.size
          clear hb3
          have HV := (At5.made w ⟨0, 0, 0, 0, 0⟩ 77).up hbel (by omega)
          have HF := (Fz5.made w #[.int .i64 0, .int .i64 0, .int .i64 0, .int .i64 0, .int .i64 0] 77).up hbel (by omega)
          have p0 := HV.c0
          have p1 := HV.c1
          have p2 := HV.c2
          have p3 := HV.c3
          have p4 := HV.c4
          have f0 := HF.c0
          have f1 := HF.c1
          have f2 := HF.c2
          have f3 := HF.c3
          have f4 := HF.c4
          clear HV HF
          go_wp2
          refine bodyPost_ret (ret_civ2 (c := ⟨1970 + n, m, x + 1, k % 1440 / 60, k % 60⟩) rfl rfl rfl ⟨by simp [go_sem, p0], by simp [go_sem, p1], by simp [go_sem, p2], by simp [go_sem, p3], by simp [go_sem, p4]⟩) rfl ⟨_, rfl, HR.out.1, HR.out.2, ?_⟩
          have hb4 : Below w.heap.size w w3 := (ba (Below.refl _ _) _).trans (hbel.mono (by omega))
          refine Below.setCell (Below.setCell (Below.setCell (Below.setCell (Below.setCell hb4 ?_ _) ?_ _) ?_ _) ?_ _) ?_ _ <;> simp
end Go.Proofs.YtbecdaholpiaeaaDoor
