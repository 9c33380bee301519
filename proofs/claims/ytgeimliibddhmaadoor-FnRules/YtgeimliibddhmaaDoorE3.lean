/-
  The day of a minute as the specification tells it, and the law on it: the walks. Whether a rule fires on the day of a minute, as the specification tells it: the walk. Whether a rule fires on the day of a minute, as the program tells it: the walk.
-/
import Derived.Test.YtgeimliibddhmaaDoorE2
import Derived.Test.YtgeimliibddhmaaDoorNfp
import Derived.Test.YtgeimliibddhmaaDoorAt
import Derived.Test.YtgeimliibddhmaaDoorFul
namespace Go.Proofs.YtgeimliibddhmaaDoor
open Go Go.RowKit

/-- Five cells that may be written. -/
structure Fz5 (w : World) (g : Nat) : Prop where
  c0 : w.frozen? ⟨g, 0, none⟩ = false
  c1 : w.frozen? ⟨g, 1, none⟩ = false
  c2 : w.frozen? ⟨g, 2, none⟩ = false
  c3 : w.frozen? ⟨g, 3, none⟩ = false
  c4 : w.frozen? ⟨g, 4, none⟩ = false
theorem Fz5.up {w w' : World} {B g : Nat} (h : Fz5 w g) (hb : Below B w w') (hg : g < B) : Fz5 w' g :=
  ⟨(hb.frozen hg).trans h.c0, (hb.frozen hg).trans h.c1, (hb.frozen hg).trans h.c2, (hb.frozen hg).trans h.c3, (hb.frozen hg).trans h.c4⟩
theorem Fz5.made (w : World) (cs : Array Value) (t : TypeId) : Fz5 (w.alloc (.cells cs t)) w.heap.size :=
  ⟨by simp [go_sem], by simp [go_sem], by simp [go_sem], by simp [go_sem], by simp [go_sem]⟩

set_option maxRecDepth 10000 in
set_option maxHeartbeats 2000000 in
theorem specCivilOf_yes (k : Int) (w : World) (h0 : 0 ≤ k) (h1 : k ≤ 68374079) :
    Calls Tryd.prog 83 #[.int .i64 k] w fun e w' => ∃ c : Cv, e = .returned (.tuple #[.agg #[.int .i64 c.y, .int .i64 c.mo, .int .i64 c.d, .int .i64 c.h, .int .i64 c.mi], .bool true]) ∧ Right c ∧ minC c = k ∧ Below w.heap.size w w' := by
  obtain ⟨D, hD⟩ : ∃ D, k / 1440 = D := ⟨_, rfl⟩
  have hD0 : 0 ≤ D := by omega
  have hD1 : D ≤ 47481 := by omega
  have HI : Hid (∀ w, Calls Tryd.prog 54 #[.int .i64 k, .int .i64 0, .int .i64 68374079] w fun e w' => e = .returned (.bool true) ∧ w' = w) := by intro w; exact in_yes h0 h1
  go_enter Tryd.func83, Tryd.ntmps83
  go_wp2_with (go_at_call 54; refine (HI.out _).mono ?_; rintro e w1 ⟨rfl, hw⟩; have hw2 := hw.symm; subst hw2)
  rw [hD]
  go_loopw [5] (fun i wr => ∃ n : Nat, n ≤ 129 ∧ i = .int .i64 (1970 + n) ∧ Hid (yearN n ≤ D) ∧ wr = w.alloc (.cells #[.int .i64 0, .int .i64 0, .int .i64 0, .int .i64 0, .int .i64 0] 115)) (fun i _ => 2500 - (intOf i).toNat)
  case atStart => exact ⟨(D / 366).toNat, by omega, by go_num, by show yearN ((D / 366).toNat : Nat) ≤ D; unfold yearN; omega, rfl⟩
  case round =>
    obtain ⟨n, hn, rfl, HE, hwr⟩ := hrel
    subst hwr
    obtain ⟨Y, HY⟩ : ∃ Y, Hid (yearN (n + 1 : Nat) = Y) := ⟨_, rfl⟩
    have HC : Hid (∀ w, Calls Tryd.prog 101 #[.int .i64 (1970 + n + 1)] w fun e w' => e = .returned (.int .i64 Y) ∧ w' = w) := by
      intro w
      have := l09Year_any (1970 + n + 1) w (by omega) (by omega)
      rw [← HY.out]
      rw [show 1970 + (n : Int) + 1 - 1970 = (n + 1 : Nat) by omega] at this
      exact this
    by_cases hle : Y ≤ D
    · have hn2 : n + 1 ≤ 129 := by
        have e := HY.out
        unfold yearN at e
        omega
      go_wp2_with (go_at_call 101; refine (HC.out _).mono ?_; rintro e w1 ⟨rfl, hw⟩; have hw2 := hw.symm; subst hw2)
      go_roundw
      case rel => exact ⟨n + 1, hn2, by go_num, (by show yearN (n + 1 : Nat) ≤ D; rw [HY.out]; exact hle), trivial⟩
      case measure => simp [intOf]; omega
    · obtain ⟨Z, HZ⟩ : ∃ Z, Hid (yearN n = Z) := ⟨_, rfl⟩
      have HC2 : Hid (∀ w, Calls Tryd.prog 101 #[.int .i64 (1970 + n)] w fun e w' => e = .returned (.int .i64 Z) ∧ w' = w) := by
        intro w
        have := l09Year_any (1970 + n) w (by omega) (by omega)
        rw [← HZ.out]
        rw [show 1970 + (n : Int) - 1970 = n by omega] at this
        exact this
      have hZ0 : 0 ≤ Z ∧ Z ≤ D := by
        refine ⟨?_, by have := HE.out; rw [HZ.out] at this; exact this⟩
        rw [← HZ.out]; unfold yearN; omega
      have HL : Hid (D - Z < yearL (1970 + n)) := by
        have e := yearN_next (n := (n : Int)) (by omega) (by omega)
        have e2 := HY.out
        have e3 := HZ.out
        rw [show ((n + 1 : Nat) : Int) = (n : Int) + 1 by omega] at e2
        show D - Z < _
        omega
      go_wp2_with (first | (go_at_call 101; with_reducible refine (HC.out _).mono ?_; rintro e w1 ⟨rfl, hw⟩; have hw2 := hw.symm; subst hw2) | (go_at_call 101; with_reducible refine (HC2.out _).mono ?_; rintro e w1 ⟨rfl, hw⟩; have hw2 := hw.symm; subst hw2))
      go_loopw [4, 6] (fun ds i wr => ∃ (m : Nat) (x : Int), 1 ≤ m ∧ m ≤ 12 ∧ i = .int .i64 m ∧ ds = .int .i64 x ∧ 0 ≤ x ∧ x ≤ 47482 ∧ Hid (D - Z = monN (leapB (1970 + n)) m + x) ∧ Below (w.heap.size + 1) (w.alloc (.cells #[.int .i64 0, .int .i64 0, .int .i64 0, .int .i64 0, .int .i64 0] 115)) wr) (fun _ i _ => 20 - (intOf i).toNat)
      case atStart => exact ⟨1, D - Z, by omega, by omega, rfl, rfl, by omega, by omega, (by show D - Z = monN (leapB (1970 + n)) 1 + (D - Z); rw [monN_one, Int.zero_add]), Below.refl _ _⟩
      case round =>
        obtain ⟨m, x, hm0, hm1, rfl, rfl, hx0, hx1, HX, hbel⟩ := hrel
        have hsz : w.heap.size + 1 ≤ wr.heap.size := Nat.le_trans (by simp) hbel.size
        obtain ⟨L, HL2⟩ : ∃ L, Hid (daysB (1970 + n) m = L) := ⟨_, rfl⟩
        have HB := daysB_bd (y := 1970 + n) (m := m)
        rw [HL2.out] at HB
        have HC3 : Hid (∀ w, Calls Tryd.prog 102 #[.int .i64 (1970 + n), .int .i64 m] w fun e w' => e = .returned (.int .i64 L) ∧ Below w.heap.size w w') := by
          intro w; rw [← HL2.out]; exact specDays_any (1970 + n) m w
        have HN : Hid (monN (leapB (1970 + n)) (m + 1 : Nat) = monN (leapB (1970 + n)) m + L) := by
          have := monN_next (y := 1970 + n) (m := (m : Int)) (by omega) (by omega)
          rw [HL2.out] at this
          exact this
        by_cases hle : L ≤ x
        · have hm2 : m + 1 ≤ 12 := by
            by_cases hm : m = 12
            · subst hm
              have e1 : monN (leapB (1970 + n)) 13 = _ := HN.out
              rw [monN_end] at e1
              have e2 := HX.out
              have e3 := HL.out
              omega
            · omega
          go_wp2_with (first | (go_at_call 102; refine (HC3.out _).mono ?_; rintro e w3 ⟨rfl, hb3⟩; have hbel := hbel.trans (hb3.mono hsz); have hsz : w.heap.size + 1 ≤ w3.heap.size := (Nat.le_trans (by simp) hbel.size); clear hb3))
          go_roundw
          case rel => exact ⟨m + 1, x - L, by omega, hm2, by go_num, by go_num, by omega, by omega, (by show D - Z = monN _ (m + 1 : Nat) + (x - L); rw [HN.out, HX.out]; omega), by assumption⟩
          case measure => simp [intOf]; omega
        · have hR := right_of (n := n) (x := D - Z) (m := m) (d := x) (k := k) (by omega) (by omega) (by omega) (by omega) (by rw [hD, HZ.out]; omega) HX.out hx0 (by rw [HL2.out]; omega)
          have HR : Hid _ := hR
          have hmi : k % 1440 % 60 = k % 60 := by omega
          rw [hmi] at HR
          clear hR
          go_wp2_with fail
          refine (HC3.out _).mono ?_
          rintro e w3 ⟨rfl, hb3⟩
          replace hbel := hbel.trans (hb3.mono hsz)
          replace hsz : w.heap.size + 1 ≤ w3.heap.size := Nat.le_trans (by simp) hbel.size
          clear hb3
          have HV := (At5.made w ⟨0, 0, 0, 0, 0⟩ 115).up hbel (by omega)
          have HF := (Fz5.made w #[.int .i64 0, .int .i64 0, .int .i64 0, .int .i64 0, .int .i64 0] 115).up hbel (by omega)
          have p0 := HV.c0
          have p1 := HV.c1
          have p2 := HV.c2
          have p3 := HV.c3
          have p4 := HV.c4
          have f0 := HF.c0
          have f1 := HF.c1
          have f2 := HF.c2
          have f3 := HF.c3
          have f4 := HF.c4
          clear HV HF
          go_wp2
          refine bodyPost_ret (ret_civ2 (c := ⟨1970 + n, m, x + 1, k % 1440 / 60, k % 60⟩) rfl rfl rfl ⟨by simp [go_sem, p0], by simp [go_sem, p1], by simp [go_sem, p2], by simp [go_sem, p3], by simp [go_sem, p4]⟩) rfl ⟨_, rfl, HR.out.1, HR.out.2, ?_⟩
          have hb4 : Below w.heap.size w w3 := (ba (Below.refl _ _) _).trans (hbel.mono (by omega))
          refine Below.setCell (Below.setCell (Below.setCell (Below.setCell (Below.setCell hb4 ?_ _) ?_ _) ?_ _) ?_ _) ?_ _ <;> simp
end Go.Proofs.YtgeimliibddhmaaDoor

namespace Go.Proofs.YtgeimliibddhmaaDoor
open Go Go.RowKit

theorem specCivilOf_civ (m : Int) (w : World) (h0 : 0 ≤ m) (h1 : m ≤ 68374079) :
    Calls Tryd.prog 83 #[.int .i64 m] w fun e w' => e = .returned (.tuple #[.agg #[.int .i64 (civ m).y, .int .i64 (civ m).mo, .int .i64 (civ m).d, .int .i64 (civ m).h, .int .i64 (civ m).mi], .bool true]) ∧ Below w.heap.size w w' := by
  refine (specCivilOf_yes m w h0 h1).mono ?_
  rintro e w' ⟨c, rfl, hr, hm, hb⟩
  obtain rfl := civ_is hr hm
  exact ⟨rfl, hb⟩
theorem dayF_not {c d e : List Int} {m : Int} (h : decide ((civ m).mo ∈ d) = false) : dayF c d e m = false := by unfold dayF; rw [h]; rfl
theorem dayF_both {c d e : List Int} {m : Int} (h : decide ((civ m).mo ∈ d) = true) (hl : c.length = 31 ∨ e.length = 7) : dayF c d e m = (decide ((civ m).d ∈ c) && decide (weekN m ∈ e)) := by unfold dayF; rw [h, if_pos hl]; rfl
theorem dayF_one {c d e : List Int} {m : Int} (h : decide ((civ m).mo ∈ d) = true) (hl : ¬ (c.length = 31 ∨ e.length = 7)) : dayF c d e m = (decide ((civ m).d ∈ c) || decide (weekN m ∈ e)) := by unfold dayF; rw [h, if_neg hl]; rfl

set_option maxRecDepth 10000 in
set_option maxHeartbeats 2000000 in
theorem l10Day_any (va vb vc vd ve : Value) (c d e : List Int) (m : Int) (w : World) (h3 : Reads w vc c) (h4 : Reads w vd d) (h5 : Reads w ve e) (n3 : c.length ≤ 1048577) (n4 : d.length ≤ 1048577) (n5 : e.length ≤ 1048577) (m0 : 0 ≤ m) (m1 : m ≤ 68374079) :
    Calls Tryd.prog 55 #[.agg #[va, vb, vc, vd, ve], .int .i64 m] w fun x w' => x = .returned (.bool (dayF c d e m)) ∧ Below w.heap.size w w' := by
  obtain ⟨co, cc, rfl, -⟩ := id h3
  obtain ⟨d0, dc, rfl, -⟩ := id h4
  obtain ⟨eo, ec, rfl, -⟩ := id h5
  obtain ⟨qd, HD⟩ : ∃ q, Hid (decide ((civ m).d ∈ c) = q) := ⟨_, rfl⟩
  obtain ⟨qm, HM⟩ : ∃ q, Hid (decide ((civ m).mo ∈ d) = q) := ⟨_, rfl⟩
  obtain ⟨qw, HW⟩ : ∃ q, Hid (decide (weekN m ∈ e) = q) := ⟨_, rfl⟩
  have HF0 : Hid (qm = false → dayF c d e m = false) := fun h => dayF_not (HM.out.trans h)
  have HF1 : Hid (qm = true → (c.length = 31 ∨ e.length = 7) → dayF c d e m = (qd && qw)) := fun h hl => by rw [dayF_both (HM.out.trans h) hl, HD.out, HW.out]
  have HF2 : Hid (qm = true → ¬ (c.length = 31 ∨ e.length = 7) → dayF c d e m = (qd || qw)) := fun h hl => by rw [dayF_one (HM.out.trans h) hl, HD.out, HW.out]
  have HCV := specCivilOf_civ m
  obtain ⟨X, HX⟩ : ∃ X, Hid (civ m = X) := ⟨_, rfl⟩
  rw [HX.out] at HD HM
  have HC : Hid (∀ w, Calls Tryd.prog 83 #[.int .i64 m] w fun e w' => e = .returned (.tuple #[.agg #[.int .i64 X.y, .int .i64 X.mo, .int .i64 X.d, .int .i64 X.h, .int .i64 X.mi], .bool true]) ∧ Below w.heap.size w w') := by intro w; rw [← HX.out]; exact HCV w m0 m1
  clear HCV HX
  obtain ⟨y, mo, dd, hh, mi⟩ := X
  simp only at HD HM HC
  obtain ⟨k, HK⟩ : ∃ k, Hid (weekN m = k) := ⟨_, rfl⟩
  rw [HK.out] at HW
  have HK2 : Hid (∀ w, Calls Tryd.prog 84 #[.int .i64 m] w fun e w' => e = .returned (.int .i64 k) ∧ w' = w) := by intro w; rw [← HK.out]; exact specWeek_any m w
  have H1 : Hid (∀ W, Below w.heap.size w W → Calls Tryd.prog 64 #[.slice co c.length cc, .int .i64 dd] W fun x w' => x = .returned (.bool qd) ∧ w' = W) := by intro W hb; rw [← HD.out]; exact l10In_try co _ cc c dd W (h3.below hb) n3
  have H2 : Hid (∀ W, Below w.heap.size w W → Calls Tryd.prog 64 #[.slice d0 d.length dc, .int .i64 mo] W fun x w' => x = .returned (.bool qm) ∧ w' = W) := by intro W hb; rw [← HM.out]; exact l10In_try d0 _ dc d mo W (h4.below hb) n4
  have H3 : Hid (∀ W, Below w.heap.size w W → Calls Tryd.prog 64 #[.slice eo e.length ec, .int .i64 k] W fun x w' => x = .returned (.bool qw) ∧ w' = W) := by intro W hb; rw [← HW.out]; exact l10In_try eo _ ec e k W (h5.below hb) n5
  clear h3 h4 h5 HD HM HW HK
  obtain ⟨r, HR⟩ : ∃ r, Hid (dayF c d e m = r) := ⟨_, rfl⟩
  rw [HR.out] at HF0 HF1 HF2
  rw [HR.out]
  clear HR
  generalize c.length = lc at *
  generalize d.length = ld at *
  generalize e.length = le at *
  clear c d e
  go_enter Tryd.func55, Tryd.ntmps55
  go_wp2_with fail
  refine (HC.out _).mono ?_
  rintro x w1 ⟨rfl, hb1⟩
  have B1 := below_new hb1
  have c2 : w1.cell? ⟨w.heap.size, 2, none⟩ = some (.slice co lc cc) := (hb1.cell (by simp)).trans (by simp [go_sem])
  have c3 : w1.cell? ⟨w.heap.size, 3, none⟩ = some (.slice d0 ld dc) := (hb1.cell (by simp)).trans (by simp [go_sem])
  have c4 : w1.cell? ⟨w.heap.size, 4, none⟩ = some (.slice eo le ec) := (hb1.cell (by simp)).trans (by simp [go_sem])
  have hg : w.heap.size < w1.heap.size := World.block_lt_of_cell? _ _ c2
  clear hb1 HC
  go_wp2_with fail
  refine (H1.out _ (ba B1 _)).mono ?_
  rintro x w2 ⟨rfl, hw⟩
  subst hw
  obtain ⟨W, hW⟩ : ∃ W, w1.alloc (.cells #[.int .i64 y, .int .i64 mo, .int .i64 dd, .int .i64 hh, .int .i64 mi] 115) = W := ⟨_, rfl⟩
  have Z := At5.made w1 ⟨y, mo, dd, hh, mi⟩ 115
  have hb : Below w1.heap.size w1 W := by rw [← hW]; exact ba (Below.refl _ _) _
  have BW : Below w.heap.size w W := Below.on B1 hb
  have e2 := (hb.cell hg).trans c2
  have e3 := (hb.cell hg).trans c3
  have e4 := (hb.cell hg).trans c4
  rw [hW] at Z ⊢
  clear hW c2 c3 c4 hb H1
  have q4 := Wd.cell e4
  go_wp2_with fail
  refine wp_region_wd (by kernel_rfl) (by kernel_rfl) ?_
  repeat (go_big_quiet_step (first | (go_at_call 84; refine calls_wd_same (v := .int .i64 k) ?_; with_reducible exact HK2.out _) | (go_at_call 64; refine calls_wd_same (v := .bool qw) ?_; with_reducible exact H3.out _ (Below.on BW (Wd.ok _)))))
  refine wpQuiet_nil ?_
  rintro _ ⟨x, rfl⟩
  have BX := Below.on BW x.ok
  have p2 := Wd.cell e2 x
  have p3 := Wd.cell e3 x
  have p4 := Wd.cell e4 x
  have p1 := Wd.cell Z.c1 x
  clear q4 e2 e3 e4 Z
  go_wp2_with fail
  refine (H2.out _ BX).mono ?_
  rintro z w3 ⟨rfl, hw⟩
  have hw2 := hw.symm
  subst hw2
  clear H2 H3 HK2
  cases qm with
  | false =>
    have HF := HF0.out rfl
    go_wp2
    go_ret
    exact ⟨by rw [HF]; rfl, BX⟩
  | true =>
    by_cases h31 : lc = 31
    · have HF := HF1.out rfl (.inl h31)
      subst h31
      cases qd <;> cases qw <;>
      · go_wp2
        go_ret
        exact ⟨by rw [HF]; rfl, BX⟩
    · have b1 : ((lc : Int) == 31) = false := beq_eq_false_iff_ne.2 (by omega)
      by_cases h7 : le = 7
      · have HF := HF1.out rfl (.inr h7)
        subst h7
        cases qd <;> cases qw <;>
        · go_wp2
          go_ret
          exact ⟨by rw [HF]; rfl, BX⟩
      · have b2 : ((le : Int) == 7) = false := beq_eq_false_iff_ne.2 (by omega)
        have HF := HF2.out rfl (by rintro (h | h); exact h31 h; exact h7 h)
        cases qd <;> cases qw <;>
        · go_wp2
          go_ret
          exact ⟨by rw [HF]; rfl, BX⟩
end Go.Proofs.YtgeimliibddhmaaDoor

namespace Go.Proofs.YtgeimliibddhmaaDoor
open Go Go.RowKit
set_option linter.unusedVariables false

theorem Rb.cell3 {W : World} {b : Nat} {r : Nat → Nat → Bool} (h : Rb W b r) (k o : Nat) (hk : k < 5) (ho : o = k * 60) {i : Nat} (hi : i < 60) : W.cell? ⟨b, o + i, none⟩ = some (.bool (r k i)) := by
  subst ho
  exact h.cell hk hi

def dayQ (a2 a4 qd qw : Bool) : Bool := if a2 || a4 then qd && qw else qd || qw
set_option maxRecDepth 10000 in
set_option maxHeartbeats 4000000 in
theorem onDay_try (r : Nat → Nat → Bool) (m y hh mi : Int) (mo dd k : Nat) (qm qd qw a2 a4 : Bool) (w : World) (hm : r 3 mo = qm) (hd : r 2 dd = qd) (hk : r 4 k = qw) (h2 : fldE (r 2) (eachP 1 31 1) = a2) (h4 : fldE (r 4) (eachP 0 6 1) = a4) (bm : mo < 60) (bd : dd < 60) (bk : k < 60) (hg : RchIs w)
    (hc : ∀ W, Calls Tryd.prog 85 #[.int .i64 m] W fun e w' => e = .returned (.tuple #[.agg #[.int .i64 y, .int .i64 (mo : Int), .int .i64 (dd : Int), .int .i64 hh, .int .i64 mi], .bool true]) ∧ Below W.heap.size W w')
    (hw : ∀ W, Calls Tryd.prog 86 #[.int .i64 m] W fun e w' => e = .returned (.int .i64 (k : Int)) ∧ w' = W) :
    Calls Tryd.prog 56 #[.agg (rulA r), .int .i64 m] w fun e w' => e = .returned (.bool (qm && dayQ a2 a4 qd qw)) ∧ Below w.heap.size w w' := by
  have HC : Hid (∀ W, Calls Tryd.prog 85 #[.int .i64 m] W fun e w' => e = .returned (.tuple #[.agg #[.int .i64 y, .int .i64 (mo : Int), .int .i64 (dd : Int), .int .i64 hh, .int .i64 mi], .bool true]) ∧ Below W.heap.size W w') := hc
  have HK : Hid (∀ W, Calls Tryd.prog 86 #[.int .i64 m] W fun e w' => e = .returned (.int .i64 (k : Int)) ∧ w' = W) := hw
  have HM : Hid (r 3 mo = qm ∧ r 2 dd = qd ∧ r 4 k = qw) := ⟨hm, hd, hk⟩
  have H2 : Hid (∀ W, Below w.heap.size w W → Calls Tryd.prog 87 #[.agg (rulA r), .int .i64 2] W fun e w' => e = .returned (.bool a2) ∧ Below W.heap.size W w') := fun W hb => by rw [← h2]; exact hasAll_2 r W (hg.up hb)
  have H4 : Hid (∀ W, Below w.heap.size w W → Calls Tryd.prog 87 #[.agg (rulA r), .int .i64 4] W fun e w' => e = .returned (.bool a4) ∧ Below W.heap.size W w') := fun W hb => by rw [← h4]; exact hasAll_4 r W (hg.up hb)
  clear hc hw hm hd hk h2 h4 hg
  go_enter Tryd.func56, Tryd.ntmps56
  go_wp2_with fail
  refine (HC.out _).mono ?_
  rintro x w1 ⟨rfl, hb1⟩
  have B1 := below_new hb1
  have HZ1 : Hid (Rb w1 w.heap.size r) := (Rb.new w r 57 rfl).up hb1
  clear hb1 HC
  have HZ : Hid (Rb (w1.alloc (.cells #[.int .i64 y, .int .i64 (mo : Int), .int .i64 (dd : Int), .int .i64 hh, .int .i64 mi] 115)) w.heap.size r) := HZ1.out.alloc _
  have BW : Below w.heap.size w (w1.alloc (.cells #[.int .i64 y, .int .i64 (mo : Int), .int .i64 (dd : Int), .int .i64 hh, .int .i64 mi] 115)) := ba B1 _
  have e3 := HZ1.out.cell3 3 180 (by decide) rfl bm
  rw [HM.out.1] at e3
  have hlt : w.heap.size < w1.heap.size := HZ1.out.lt
  cases qm with
  | false =>
    go_wp2
    go_ret
    exact ⟨rfl, BW⟩
  | true =>
    go_wp2_with fail
    obtain ⟨W, hW⟩ : ∃ W, w1.alloc (.cells #[.int .i64 y, .int .i64 (mo : Int), .int .i64 (dd : Int), .int .i64 hh, .int .i64 mi] 115) = W := ⟨_, rfl⟩
    have p2 : W.cell? ⟨w1.heap.size, 2, none⟩ = some (.int .i64 (dd : Int)) := by rw [← hW]; simp [go_sem]
    rw [hW] at HZ BW
    rw [hW]
    clear hW e3 B1
    have f2 := Wd.cell p2
    have f3 := Wd.cell (HZ.out.cell3 2 120 (by decide) rfl bd)
    have f4 := Wd.cell (HZ.out.cell3 4 240 (by decide) rfl bk)
    rw [HM.out.2.1] at f3
    rw [HM.out.2.2] at f4
    clear p2
    refine wp_region_wd (by kernel_rfl) (by kernel_rfl) ?_
    repeat (go_big_quiet_step ((go_at_call 86; refine calls_wd_same (v := .int .i64 (k : Int)) ?_; with_reducible exact HK.out _)))
    refine wpQuiet_nil ?_
    rintro _ ⟨x, rfl⟩
    have BX := Below.on BW x.ok
    have HX : Hid (Rb x.at' w.heap.size r) := HZ.out.up x.ok
    clear f2 f3 f4 HZ BW HK
    go_wp2_with (refine wpr_load HX.out (.tmp 2) rfl rfl rfl ?_)
    refine (H2.out _ BX).mono ?_
    rintro z w2 ⟨rfl, hb2⟩
    have BY := Below.on BX hb2
    have HY : Hid (Rb w2 w.heap.size r) := HX.out.up hb2
    clear hb2
    cases a2 with
    | true =>
      cases qd <;> cases qw <;>
      · go_wp2
        go_ret
        exact ⟨rfl, BY⟩
    | false =>
      go_wp2_with (refine wpr_load_g HY.out (.tmp 2) rfl rfl rfl ?_)
      refine (H4.out _ BY).mono ?_
      rintro z w3 ⟨rfl, hb3⟩
      have BZ := Below.on BY hb3
      clear hb3
      cases a4 <;> cases qd <;> cases qw <;>
      · go_wp2
        go_ret
        exact ⟨rfl, BZ⟩

theorem full_rise (lo : Int) (n : Nat) : ((List.range n).map fun i : Nat => lo + (i : Int)).Pairwise (· < ·) := by
  rw [List.pairwise_map]
  exact List.Pairwise.imp (fun {a b} h => by show lo + (a : Int) < lo + (b : Int); omega) (List.pairwise_lt_range (n := n))
theorem all_iff {lo : Nat} {hi : Int} {l : List Int} (h9 : hi ≤ 59) (hlh : lo ≤ hi) (hB : listB lo hi l = true) : fldE (memP l) (eachP lo hi 1) = decide ((l.length : Int) = hi - lo + 1) := by
  obtain ⟨h1, h2, h3⟩ := listB_up hB
  by_cases h : (l.length : Int) = hi - lo + 1
  · rw [decide_eq_true h, fldE_iff]
    intro i hi6
    unfold memP eachP
    congr 1
    apply propext
    constructor
    · intro hm
      have := h1 _ hm
      exact ⟨by omega, this.2, Nat.mod_one _⟩
    · rintro ⟨g1, g2, _⟩
      exact full_list h1 h2 h (by omega) g2
  · rw [decide_eq_false h]
    cases he : fldE (memP l) (eachP lo hi 1) with
    | false => rfl
    | true =>
      exfalso
      apply h
      have hr := fldE_iff.1 he
      have e : l = (List.range (hi - lo + 1).toNat).map fun i : Nat => (lo : Int) + (i : Int) := by
        refine rise_ext _ _ h2 (full_rise _ _) fun x => ⟨fun hx => ?_, fun hx => ?_⟩
        · have := h1 x hx
          exact List.mem_map.2 ⟨(x - lo).toNat, List.mem_range.2 (by omega), by omega⟩
        · obtain ⟨i, hi2, rfl⟩ := List.mem_map.1 hx
          have hi3 := List.mem_range.1 hi2
          have := hr (lo + i) (by omega)
          unfold memP eachP at this
          rw [decide_eq_true (show lo ≤ lo + i ∧ ((lo + i : Nat) : Int) ≤ hi ∧ (lo + i - lo) % 1 = 0 from ⟨by omega, by omega, Nat.mod_one _⟩)] at this
          have := of_decide_eq_true this
          rw [show ((lo + i : Nat) : Int) = (lo : Int) + (i : Int) by omega] at this
          exact this
      have := congrArg List.length e
      rw [List.length_map, List.length_range] at this
      omega
theorem civilOf_civ (m : Int) (w : World) (h0 : 0 ≤ m) (h1 : m ≤ 68374079) :
    Calls Tryd.prog 85 #[.int .i64 m] w fun e w' => e = .returned (.tuple #[.agg #[.int .i64 (civ m).y, .int .i64 (civ m).mo, .int .i64 (civ m).d, .int .i64 (civ m).h, .int .i64 (civ m).mi], .bool true]) ∧ Below w.heap.size w w' := by
  refine (civilOf_yes m w h0 h1).mono ?_
  rintro e w' ⟨c, rfl, hr, hm, hb⟩
  obtain rfl := civ_is hr hm
  exact ⟨rfl, hb⟩
theorem dayF_is {a b c d e : List Int} {m : Int} (hB : cronB a b c d e = true) {mo dd k : Nat} (hmo : (civ m).mo = mo) (hdd : (civ m).d = dd) (hk : weekN m = k) :
    (mem5 a b c d e 3 mo && dayQ (fldE (mem5 a b c d e 2) (eachP 1 31 1)) (fldE (mem5 a b c d e 4) (eachP 0 6 1)) (mem5 a b c d e 2 dd) (mem5 a b c d e 4 k)) = dayF c d e m := by
  unfold dayQ
  unfold cronB at hB
  simp only [Bool.and_eq_true] at hB
  obtain ⟨_, _, h3, h4, h5⟩ := hB
  have e2 : fldE (mem5 a b c d e 2) (eachP 1 31 1) = decide (c.length = 31) := by
    have := all_iff (lo := 1) (hi := 31) (l := c) (by decide) (by decide) h3
    show fldE (memP c) _ = _
    rw [this]
    congr 1
    apply propext
    constructor <;> intro h <;> omega
  have e4 : fldE (mem5 a b c d e 4) (eachP 0 6 1) = decide (e.length = 7) := by
    have := all_iff (lo := 0) (hi := 6) (l := e) (by decide) (by decide) h5
    show fldE (memP e) _ = _
    rw [this]
    congr 1
    apply propext
    constructor <;> intro h <;> omega
  rw [e2, e4]
  unfold dayF
  rw [hmo, hdd, hk]
  show (memP d mo && (if _ then memP c dd && memP e k else memP c dd || memP e k)) = _
  unfold memP
  congr 1
  by_cases h : c.length = 31 ∨ e.length = 7
  · rw [if_pos h, if_pos (by rcases h with h | h <;> simp [h])]
  · rw [if_neg h, if_neg (by simp only [Bool.or_eq_true, decide_eq_true_eq]; exact h)]
theorem onDay_any {a b c d e : List Int} {m : Int} (w : World) (hB : cronB a b c d e = true) (hg : RchIs w) (h0 : 0 ≤ m) (h1 : m ≤ 68374079) :
    Calls Tryd.prog 56 #[.agg (rulA (mem5 a b c d e)), .int .i64 m] w fun x w' => x = .returned (.bool (dayF c d e m)) ∧ Below w.heap.size w w' := by
  obtain ⟨hr, hm⟩ := civ_right h0 h1
  have hw0 : 0 ≤ weekN m ∧ weekN m ≤ 6 := by unfold weekN; rw [if_pos ⟨h0, h1⟩]; omega
  have hd1 : (civ m).d ≤ 31 := Int.le_trans hr.d1 daysB_bd.2
  have := hr.m0
  have := hr.m1
  have := hr.d0
  obtain ⟨mo, hmo⟩ : ∃ n : Nat, (civ m).mo = n := ⟨(civ m).mo.toNat, by omega⟩
  obtain ⟨dd, hdd⟩ : ∃ n : Nat, (civ m).d = n := ⟨(civ m).d.toNat, by omega⟩
  obtain ⟨k, hk⟩ : ∃ n : Nat, weekN m = n := ⟨(weekN m).toNat, by omega⟩
  rw [← dayF_is hB hmo hdd hk]
  refine onDay_try (mem5 a b c d e) m (civ m).y (civ m).h (civ m).mi mo dd k _ _ _ _ _ w rfl rfl rfl rfl rfl (by omega) (by omega) (by omega) hg (fun W => ?_) (fun W => ?_)
  · rw [← hmo, ← hdd]
    exact civilOf_civ m W h0 h1
  · rw [← hk]
    exact week_any m W
set_option maxRecDepth 10000 in
set_option maxHeartbeats 1000000 in
theorem onDay_no (r : Nat → Nat → Bool) (m : Int) (w : World) (h : ¬ (0 ≤ m ∧ m ≤ 68374079)) :
    Calls Tryd.prog 56 #[.agg (rulA r), .int .i64 m] w fun x w' => x = .returned (.bool false) ∧ Below w.heap.size w w' := by
  have HC : Hid (∀ W, Calls Tryd.prog 85 #[.int .i64 m] W fun e w' => e = .returned (.tuple #[.agg #[.int .i64 0, .int .i64 0, .int .i64 0, .int .i64 0, .int .i64 0], .bool false]) ∧ Below W.heap.size W w') := fun W => civilOf_no m W h
  clear h
  go_enter Tryd.func56, Tryd.ntmps56
  go_wp2_with fail
  refine (HC.out _).mono ?_
  rintro x w1 ⟨rfl, hb1⟩
  have B1 := below_new hb1
  clear hb1
  go_wp2
  go_ret
  exact ⟨rfl, ba B1 _⟩
end Go.Proofs.YtgeimliibddhmaaDoor
