/-
  The minute of a day as the specification tells it, and the law on it: the walks.
-/
import Derived.Test.YtacfbagieefikaaMn
namespace Go.Proofs.Ytacfbagieefikaa
open Go Go.RowKit

theorem l09Year_any (y : Int) (w : World) (h0 : 1970 ≤ y) (h1 : y ≤ 3000) :
    Calls Try.prog 36 #[.int .i64 y] w fun e w' => e = .returned (.int .i64 (yearN (y - 1970))) ∧ w' = w := by
  go_enter Try.func36, Try.ntmps36
  go_wp2
  go_ret
  exact ⟨rfl, rfl⟩
set_option maxHeartbeats 1000000 in
theorem specMinute_yes (y mo d h mi : Int) (w : World) (hr : Right ⟨y, mo, d, h, mi⟩) :
    Calls Try.prog 24 #[.agg #[.int .i64 y, .int .i64 mo, .int .i64 d, .int .i64 h, .int .i64 mi]] w fun e w' => e = .returned (.tuple #[.int .i64 (minC ⟨y, mo, d, h, mi⟩), .bool true]) ∧ Below w.heap.size w w' := by
  have hO : Hid (∀ w, Calls Try.prog 18 #[.agg #[.int .i64 y, .int .i64 mo, .int .i64 d, .int .i64 h, .int .i64 mi]] w fun e w' => e = .returned (.bool true) ∧ Below w.heap.size w w') := by
    intro w; rw [← ok_yes hr]; exact specCivilOk_try y mo d h mi w
  obtain ⟨Y, HY⟩ : ∃ Y, Hid (yearN (y - 1970) = Y) := ⟨_, rfl⟩
  have hE : Hid (∀ w, Calls Try.prog 36 #[.int .i64 y] w fun e w' => e = .returned (.int .i64 Y) ∧ w' = w) := by
    intro w; rw [← HY.out]; exact l09Year_any y w hr.y0 (Int.le_trans hr.y1 (by decide))
  have hY : 0 ≤ Y ∧ Y ≤ 47482 := by
    have h0 := hr.y0
    have h1 := hr.y1
    rw [← HY.out]
    unfold yearN
    simp only at h0 h1
    omega
  have HM : Hid (minC ⟨y, mo, d, h, mi⟩ = (Y + monN (leapB y) mo + d - 1) * 1440 + h * 60 + mi) := by
    show ((yearN (y - 1970) + monN (leapB y) mo + d - 1) * 1440 + h * 60 + mi) = _
    rw [HY.out]
  have m0 : 1 ≤ mo := hr.m0
  have m1 : mo ≤ 12 := hr.m1
  have d0 : 1 ≤ d := hr.d0
  have d1 : d ≤ 31 := Int.le_trans hr.d1 daysB_bd.2
  have h0 : 0 ≤ h := hr.h0
  have h1 : h ≤ 23 := hr.h1
  have i0 : 0 ≤ mi := hr.i0
  have i1 : mi ≤ 59 := hr.i1
  clear hr
  go_enter Try.func24, Try.ntmps24
  go_wp2_with (first | (go_at_call 18; refine (hO.out _).mono ?_; rintro e w1 ⟨rfl, hb1⟩; have B1 := below_new hb1; have HC := (At5.made w ⟨y, mo, d, h, mi⟩ 26).up hb1 (by simp); have hg : w.heap.size < w1.heap.size := (Nat.lt_of_lt_of_le (by simp) hb1.size); clear hb1; have q0 := HC.c0; have q1 := HC.c1) | (go_at_call 36; refine (hE.out _).mono ?_; rintro e w2 ⟨rfl, hw⟩; have hw2 := hw.symm; subst hw2))
  clear q0 q1
  go_loopw [4, 5] (fun ds i wr => ∃ j : Nat, 1 ≤ j ∧ (j : Int) ≤ mo ∧ i = .int .i64 j ∧ ds = .int .i64 (Y + monN (leapB y) j) ∧ Below w1.heap.size w1 wr) (fun _ i _ => 20 - (intOf i).toNat)
  case atStart => exact ⟨1, by omega, by omega, rfl, by rw [show ((1 : Nat) : Int) = 1 from rfl, monN_one, Int.add_zero], Below.refl _ _⟩
  case round =>
    obtain ⟨j, hj1, hj, rfl, rfl, hbel⟩ := hrel
    have HM2 := monN_bd (b := leapB y) (m := (j : Int)) (by omega)
    have HC2 := HC.up hbel hg
    have q0 := HC2.c0
    have q1 := HC2.c1
    by_cases hlt : (j : Int) < mo
    · have HN : Hid (monN (leapB y) (j + 1 : Nat) = monN (leapB y) j + daysB y j) := monN_next (y := y) (m := (j : Int)) (by omega) (by omega)
      have HY := daysB_bd (y := y) (m := j)
      go_wp2_with (go_at_call 22; refine (specDays_any _ _ _).mono ?_; rintro e w3 ⟨rfl, hb3⟩)
      go_roundw
      case rel => exact ⟨j + 1, by omega, by omega, by go_num, by rw [HN.out]; go_num, belowOn hbel hb3⟩
      case measure => simp [intOf]; omega
    · have hj2 : (j : Int) = mo := by omega
      rw [hj2] at HM2 ⊢
      have q2 := HC2.c2
      have q3 := HC2.c3
      have q4 := HC2.c4
      go_wp2
      go_ret2
      exact ⟨by rw [HM.out]; rfl, belowOn B1 hbel⟩
set_option maxHeartbeats 1000000 in
theorem specMinute_no (y mo d h mi : Int) (w : World) (hr : ¬ Right ⟨y, mo, d, h, mi⟩) :
    Calls Try.prog 24 #[.agg #[.int .i64 y, .int .i64 mo, .int .i64 d, .int .i64 h, .int .i64 mi]] w fun e w' => e = .returned (.tuple #[.int .i64 0, .bool false]) ∧ Below w.heap.size w w' := by
  have hO : Hid (∀ w, Calls Try.prog 18 #[.agg #[.int .i64 y, .int .i64 mo, .int .i64 d, .int .i64 h, .int .i64 mi]] w fun e w' => e = .returned (.bool false) ∧ Below w.heap.size w w') := by
    intro w; rw [← ok_no hr]; exact specCivilOk_try y mo d h mi w
  clear hr
  go_enter Try.func24, Try.ntmps24
  go_wp2_with (go_at_call 18; refine (hO.out _).mono ?_; rintro e w1 ⟨rfl, hb1⟩)
  go_ret2
  exact ⟨rfl, below_new hb1⟩

theorem ret_civ {fn : Func} {p : Tmp} {w : World} {g : Nat} {c : Cv} {tmps : Array Value} (h : fn.results = #[.cell p 26]) (hp : tmps.getD p undef = .pointer (some ⟨g, 0, none⟩)) (hc : At5 w g c) :
    (results fn tmps).run Try.prog w = .ok (.agg #[.int .i64 c.y, .int .i64 c.mo, .int .i64 c.d, .int .i64 c.h, .int .i64 c.mi]) w := by
  have hp' : tmps[p]?.getD undef = .pointer (some ⟨g, 0, none⟩) := by simpa using hp
  simp [results, h, hp', hc.c0, hc.c1, hc.c2, hc.c3, hc.c4, asAddr, go_sem]
theorem ret_civ2 {fn : Func} {p u : Tmp} {w : World} {g : Nat} {c : Cv} {x : Value} {tmps : Array Value} (h : fn.results = #[.cell p 26, .tmp u]) (hp : tmps.getD p undef = .pointer (some ⟨g, 0, none⟩)) (hu : tmps.getD u undef = x) (hc : At5 w g c) :
    (results fn tmps).run Try.prog w = .ok (.tuple #[.agg #[.int .i64 c.y, .int .i64 c.mo, .int .i64 c.d, .int .i64 c.h, .int .i64 c.mi], x]) w := by
  have hp' : tmps[p]?.getD undef = .pointer (some ⟨g, 0, none⟩) := by simpa using hp
  have hu' : tmps[u]?.getD undef = x := by simpa using hu
  simp [results, h, hp', hu', hc.c0, hc.c1, hc.c2, hc.c3, hc.c4, asAddr, go_sem]
set_option maxHeartbeats 1000000 in
theorem toCivil_any (y mo d h mi : Int) (w : World) :
    Calls Try.prog 23 #[.agg #[.int .i64 y, .int .i64 mo, .int .i64 d, .int .i64 h, .int .i64 mi]] w fun e w' => e = .returned (.agg #[.int .i64 y, .int .i64 mo, .int .i64 d, .int .i64 h, .int .i64 mi]) ∧ Below w.heap.size w w' := by
  go_enter Try.func23, Try.ntmps23
  go_wp2
  refine bodyPost_ret (ret_civ (c := ⟨y, mo, d, h, mi⟩) rfl rfl ⟨by simp [go_sem], by simp [go_sem], by simp [go_sem], by simp [go_sem], by simp [go_sem]⟩) rfl ⟨rfl, ?_⟩
  exact ba (ba (ba (Below.refl _ _) _) _) _
set_option maxHeartbeats 1000000 in
theorem eqCivil_same (y mo d h mi : Int) (w : World) :
    Calls Try.prog 26 #[.agg #[.int .i64 y, .int .i64 mo, .int .i64 d, .int .i64 h, .int .i64 mi], .agg #[.int .i64 y, .int .i64 mo, .int .i64 d, .int .i64 h, .int .i64 mi]] w fun e w' => e = .returned (.bool true) ∧ Below w.heap.size w w' := by
  go_enter Try.func26, Try.ntmps26
  go_wp2
  go_ret
  exact ⟨rfl, ba (ba (Below.refl _ _) _) _⟩

set_option maxHeartbeats 1000000 in
theorem law_CivilOk (y mo d h mi : Int) (w : World) :
    Calls Try.prog 7 #[.agg #[.int .i64 y, .int .i64 mo, .int .i64 d, .int .i64 h, .int .i64 mi]] w fun e w' => e = .returned (.bool true) ∧ Below w.heap.size w w' := by
  obtain ⟨q, HQ⟩ : ∃ q, Hid (okC ⟨y, mo, d, h, mi⟩ = q) := ⟨_, rfl⟩
  have HS : Hid (∀ w, Calls Try.prog 18 #[.agg #[.int .i64 y, .int .i64 mo, .int .i64 d, .int .i64 h, .int .i64 mi]] w fun e w' => e = .returned (.bool q) ∧ Below w.heap.size w w') := by intro w; rw [← HQ.out]; exact specCivilOk_try y mo d h mi w
  have HI : Hid (∀ w, Calls Try.prog 16 #[.agg #[.int .i64 y, .int .i64 mo, .int .i64 d, .int .i64 h, .int .i64 mi]] w fun e w' => e = .returned (.bool q) ∧ Below w.heap.size w w') := by intro w; rw [← HQ.out]; exact civilOk_try y mo d h mi w
  have HT : Hid (∀ w, Calls Try.prog 23 #[.agg #[.int .i64 y, .int .i64 mo, .int .i64 d, .int .i64 h, .int .i64 mi]] w fun e w' => e = .returned (.agg #[.int .i64 y, .int .i64 mo, .int .i64 d, .int .i64 h, .int .i64 mi]) ∧ Below w.heap.size w w') := by intro w; exact toCivil_any y mo d h mi w
  clear HQ
  cases q <;>
  · go_enter Try.func7, Try.ntmps7
    go_wp2_with fail
    refine (HT.out _).mono ?_
    rintro e w1 ⟨rfl, hb1⟩
    have B1 := below_new hb1
    have HC := (At5.made w ⟨y, mo, d, h, mi⟩ 37).up hb1 (by simp)
    clear hb1
    go_wp2_with fail
    refine (HS.out _).mono ?_
    rintro e w2 ⟨rfl, hb2⟩
    have B2 := belowOn B1 hb2
    have HC2 := HC.up hb2 (World.block_lt_of_cell? _ _ HC.c0)
    have c0 := HC2.c0
    have c1 := HC2.c1
    have c2 := HC2.c2
    have c3 := HC2.c3
    have c4 := HC2.c4
    clear hb2 B1 HC HC2
    go_wp2_with fail
    refine (HT.out _).mono ?_
    rintro e w3 ⟨rfl, hb3⟩
    have B3 := belowOn B2 hb3
    clear hb3 B2
    go_wp2_with fail
    refine (HI.out _).mono ?_
    rintro e w4 ⟨rfl, hb4⟩
    have B4 := belowOn B3 hb4
    clear hb4 B3
    go_wp2
    go_ret
    exact ⟨rfl, B4⟩
set_option maxHeartbeats 1000000 in
theorem law_MinuteOf_of (y mo d h mi z : Int) (q : Bool) (w : World)
    (HS : Hid (∀ w, Calls Try.prog 24 #[.agg #[.int .i64 y, .int .i64 mo, .int .i64 d, .int .i64 h, .int .i64 mi]] w fun e w' => e = .returned (.tuple #[.int .i64 z, .bool q]) ∧ Below w.heap.size w w'))
    (HI : Hid (∀ w, Calls Try.prog 15 #[.agg #[.int .i64 y, .int .i64 mo, .int .i64 d, .int .i64 h, .int .i64 mi]] w fun e w' => e = .returned (.tuple #[.int .i64 z, .bool q]) ∧ Below w.heap.size w w')) :
    Calls Try.prog 8 #[.agg #[.int .i64 y, .int .i64 mo, .int .i64 d, .int .i64 h, .int .i64 mi]] w fun e w' => e = .returned (.bool true) ∧ Below w.heap.size w w' := by
  have HT : Hid (∀ w, Calls Try.prog 23 #[.agg #[.int .i64 y, .int .i64 mo, .int .i64 d, .int .i64 h, .int .i64 mi]] w fun e w' => e = .returned (.agg #[.int .i64 y, .int .i64 mo, .int .i64 d, .int .i64 h, .int .i64 mi]) ∧ Below w.heap.size w w') := by intro w; exact toCivil_any y mo d h mi w
  cases q <;>
  · go_enter Try.func8, Try.ntmps8
    go_wp2_with fail
    refine (HT.out _).mono ?_
    rintro e w1 ⟨rfl, hb1⟩
    have B1 := below_new hb1
    have HC := (At5.made w ⟨y, mo, d, h, mi⟩ 37).up hb1 (by simp)
    clear hb1
    go_wp2_with fail
    refine (HS.out _).mono ?_
    rintro e w2 ⟨rfl, hb2⟩
    have B2 := belowOn B1 hb2
    have HC2 := HC.up hb2 (World.block_lt_of_cell? _ _ HC.c0)
    have c0 := HC2.c0
    have c1 := HC2.c1
    have c2 := HC2.c2
    have c3 := HC2.c3
    have c4 := HC2.c4
    clear hb2 B1 HC HC2
    go_wp2_with fail
    refine (HT.out _).mono ?_
    rintro e w3 ⟨rfl, hb3⟩
    have B3 := belowOn B2 hb3
    clear hb3 B2
    go_wp2_with fail
    refine (HI.out _).mono ?_
    rintro e w4 ⟨rfl, hb4⟩
    have B4 := belowOn B3 hb4
    clear hb4 B3
    go_wp2
    go_ret
    exact ⟨rfl, B4⟩
theorem law_MinuteOf (y mo d h mi : Int) (w : World) :
    Calls Try.prog 8 #[.agg #[.int .i64 y, .int .i64 mo, .int .i64 d, .int .i64 h, .int .i64 mi]] w fun e w' => e = .returned (.bool true) ∧ Below w.heap.size w w' := by
  by_cases hr : Right ⟨y, mo, d, h, mi⟩
  · exact law_MinuteOf_of y mo d h mi _ true w (fun w => specMinute_yes y mo d h mi w hr) (fun w => minuteOf_yes y mo d h mi w hr)
  · exact law_MinuteOf_of y mo d h mi _ false w (fun w => specMinute_no y mo d h mi w hr) (fun w => minuteOf_no y mo d h mi w hr)
end Go.Proofs.Ytacfbagieefikaa
