/-
  Whether a day is right, on both sides: the walks.
-/
import Derived.Test.YtacfbagieefikaaWk
namespace Go.Proofs.Ytacfbagieefikaa
open Go Go.RowKit

theorem below_new {w w1 : World} {o : Obj} (h : Below (w.alloc o).heap.size (w.alloc o) w1) : Below w.heap.size w w1 :=
  ((Below.refl _ _).alloc (Nat.le_refl _) _).trans (h.mono (by simp))
theorem ba {w w1 : World} (h : Below w.heap.size w w1) (o : Obj) : Below w.heap.size w (w1.alloc o) := h.alloc h.size o
theorem belowOn {w w1 w2 : World} (h1 : Below w.heap.size w w1) (h2 : Below w1.heap.size w1 w2) : Below w.heap.size w w2 := h1.trans (h2.mono h1.size)
/-- Where a day lies. -/
structure At5 (w : World) (g : Nat) (c : Cv) : Prop where
  c0 : w.cell? ⟨g, 0, none⟩ = some (.int .i64 c.y)
  c1 : w.cell? ⟨g, 1, none⟩ = some (.int .i64 c.mo)
  c2 : w.cell? ⟨g, 2, none⟩ = some (.int .i64 c.d)
  c3 : w.cell? ⟨g, 3, none⟩ = some (.int .i64 c.h)
  c4 : w.cell? ⟨g, 4, none⟩ = some (.int .i64 c.mi)
theorem At5.up {w w' : World} {B g : Nat} {c : Cv} (h : At5 w g c) (hb : Below B w w') (hg : g < B) : At5 w' g c :=
  ⟨(hb.cell hg).trans h.c0, (hb.cell hg).trans h.c1, (hb.cell hg).trans h.c2, (hb.cell hg).trans h.c3, (hb.cell hg).trans h.c4⟩
theorem At5.made (w : World) (c : Cv) (t : TypeId) : At5 (w.alloc (.cells #[.int .i64 c.y, .int .i64 c.mo, .int .i64 c.d, .int .i64 c.h, .int .i64 c.mi] t)) w.heap.size c :=
  ⟨by simp [go_sem], by simp [go_sem], by simp [go_sem], by simp [go_sem], by simp [go_sem]⟩
theorem ok_no {c : Cv} (h : ¬ Right c) : okC c = false := by
  cases hq : okC c with
  | false => rfl
  | true => exact absurd ((okC_iff c).1 hq) h
theorem ok_yes {c : Cv} (h : Right c) : okC c = true := (okC_iff c).2 h
theorem month_of {y m d : Int} (h0 : 1 ≤ d) (h1 : d ≤ daysB y m) : 1 ≤ m ∧ m ≤ 12 := by
  by_cases h : 1 ≤ m ∧ m ≤ 12
  · exact h
  · rw [daysB_no h] at h1; omega

set_option maxHeartbeats 2000000 in
theorem civilOk_try (y mo d h mi : Int) (w : World) :
    Calls Try.prog 16 #[.agg #[.int .i64 y, .int .i64 mo, .int .i64 d, .int .i64 h, .int .i64 mi]] w fun e w' => e = .returned (.bool (okC ⟨y, mo, d, h, mi⟩)) ∧ Below w.heap.size w w' := by
  obtain ⟨D, hD⟩ : ∃ D, daysB y mo = D := ⟨_, rfl⟩
  have HD : Hid (∀ w, Calls Try.prog 19 #[.int .i64 y, .int .i64 mo] w fun e w' => e = .returned (.int .i64 D) ∧ w' = w) := by intro w; rw [← hD]; exact days_any y mo w
  by_cases y0' : 1970 ≤ y
  case neg =>
    rw [ok_no (c := ⟨y, mo, d, h, mi⟩) fun hr => y0' hr.y0]
    have g0 : decide (1970 ≤ y) = false := decide_eq_false y0'
    clear hD y0'
    go_enter Try.func16, Try.ntmps16
    go_wp2
    obtain ⟨W, hW⟩ : ∃ W, w.alloc (.cells #[.int .i64 y, .int .i64 mo, .int .i64 d, .int .i64 h, .int .i64 mi] 26) = W := ⟨_, rfl⟩
    have HC := At5.made w ⟨y, mo, d, h, mi⟩ 26
    have HB : Below w.heap.size w W := by rw [← hW]; exact ba (Below.refl _ _) _
    rw [hW] at HC ⊢
    clear hW
    have q0 := Wd.cell HC.c0
    have q1 := Wd.cell HC.c1
    have q2 := Wd.cell HC.c2
    have q3 := Wd.cell HC.c3
    have q4 := Wd.cell HC.c4
    clear HC
    refine wp_region_wd (by kernel_rfl) (by kernel_rfl) ?_
    repeat (go_big_quiet_step ((go_at_call 19; refine calls_wd_same (v := .int .i64 D) ?_; exact HD.out _)))
    refine wpQuiet_nil ?_
    rintro _ ⟨x, rfl⟩
    go_wp2
    go_ret
    exact ⟨rfl, belowOn HB x.ok⟩
  have g0 : decide (1970 ≤ y) = true := decide_eq_true y0'
  by_cases y1' : y ≤ 2099
  case neg =>
    rw [ok_no (c := ⟨y, mo, d, h, mi⟩) fun hr => y1' hr.y1]
    have g1 : decide (y ≤ 2099) = false := decide_eq_false y1'
    clear hD y1'
    go_enter Try.func16, Try.ntmps16
    go_wp2
    obtain ⟨W, hW⟩ : ∃ W, w.alloc (.cells #[.int .i64 y, .int .i64 mo, .int .i64 d, .int .i64 h, .int .i64 mi] 26) = W := ⟨_, rfl⟩
    have HC := At5.made w ⟨y, mo, d, h, mi⟩ 26
    have HB : Below w.heap.size w W := by rw [← hW]; exact ba (Below.refl _ _) _
    rw [hW] at HC ⊢
    clear hW
    have q0 := Wd.cell HC.c0
    have q1 := Wd.cell HC.c1
    have q2 := Wd.cell HC.c2
    have q3 := Wd.cell HC.c3
    have q4 := Wd.cell HC.c4
    clear HC
    refine wp_region_wd (by kernel_rfl) (by kernel_rfl) ?_
    repeat (go_big_quiet_step ((go_at_call 19; refine calls_wd_same (v := .int .i64 D) ?_; exact HD.out _)))
    refine wpQuiet_nil ?_
    rintro _ ⟨x, rfl⟩
    go_wp2
    go_ret
    exact ⟨rfl, belowOn HB x.ok⟩
  have g1 : decide (y ≤ 2099) = true := decide_eq_true y1'
  by_cases d0' : 1 ≤ d
  case neg =>
    rw [ok_no (c := ⟨y, mo, d, h, mi⟩) fun hr => d0' hr.d0]
    have g2 : decide (1 ≤ d) = false := decide_eq_false d0'
    clear hD d0'
    go_enter Try.func16, Try.ntmps16
    go_wp2
    obtain ⟨W, hW⟩ : ∃ W, w.alloc (.cells #[.int .i64 y, .int .i64 mo, .int .i64 d, .int .i64 h, .int .i64 mi] 26) = W := ⟨_, rfl⟩
    have HC := At5.made w ⟨y, mo, d, h, mi⟩ 26
    have HB : Below w.heap.size w W := by rw [← hW]; exact ba (Below.refl _ _) _
    rw [hW] at HC ⊢
    clear hW
    have q0 := Wd.cell HC.c0
    have q1 := Wd.cell HC.c1
    have q2 := Wd.cell HC.c2
    have q3 := Wd.cell HC.c3
    have q4 := Wd.cell HC.c4
    clear HC
    refine wp_region_wd (by kernel_rfl) (by kernel_rfl) ?_
    repeat (go_big_quiet_step ((go_at_call 19; refine calls_wd_same (v := .int .i64 D) ?_; exact HD.out _)))
    refine wpQuiet_nil ?_
    rintro _ ⟨x, rfl⟩
    go_wp2
    go_ret
    exact ⟨rfl, belowOn HB x.ok⟩
  have g2 : decide (1 ≤ d) = true := decide_eq_true d0'
  by_cases d1' : d ≤ D
  case neg =>
    rw [ok_no (c := ⟨y, mo, d, h, mi⟩) fun hr => d1' (hD ▸ hr.d1)]
    have g3 : decide (d ≤ D) = false := decide_eq_false d1'
    clear hD d1'
    go_enter Try.func16, Try.ntmps16
    go_wp2
    obtain ⟨W, hW⟩ : ∃ W, w.alloc (.cells #[.int .i64 y, .int .i64 mo, .int .i64 d, .int .i64 h, .int .i64 mi] 26) = W := ⟨_, rfl⟩
    have HC := At5.made w ⟨y, mo, d, h, mi⟩ 26
    have HB : Below w.heap.size w W := by rw [← hW]; exact ba (Below.refl _ _) _
    rw [hW] at HC ⊢
    clear hW
    have q0 := Wd.cell HC.c0
    have q1 := Wd.cell HC.c1
    have q2 := Wd.cell HC.c2
    have q3 := Wd.cell HC.c3
    have q4 := Wd.cell HC.c4
    clear HC
    refine wp_region_wd (by kernel_rfl) (by kernel_rfl) ?_
    repeat (go_big_quiet_step ((go_at_call 19; refine calls_wd_same (v := .int .i64 D) ?_; exact HD.out _)))
    refine wpQuiet_nil ?_
    rintro _ ⟨x, rfl⟩
    go_wp2
    go_ret
    exact ⟨rfl, belowOn HB x.ok⟩
  have g3 : decide (d ≤ D) = true := decide_eq_true d1'
  by_cases h0' : 0 ≤ h
  case neg =>
    rw [ok_no (c := ⟨y, mo, d, h, mi⟩) fun hr => h0' hr.h0]
    have g4 : decide (0 ≤ h) = false := decide_eq_false h0'
    clear hD h0'
    go_enter Try.func16, Try.ntmps16
    go_wp2
    obtain ⟨W, hW⟩ : ∃ W, w.alloc (.cells #[.int .i64 y, .int .i64 mo, .int .i64 d, .int .i64 h, .int .i64 mi] 26) = W := ⟨_, rfl⟩
    have HC := At5.made w ⟨y, mo, d, h, mi⟩ 26
    have HB : Below w.heap.size w W := by rw [← hW]; exact ba (Below.refl _ _) _
    rw [hW] at HC ⊢
    clear hW
    have q0 := Wd.cell HC.c0
    have q1 := Wd.cell HC.c1
    have q2 := Wd.cell HC.c2
    have q3 := Wd.cell HC.c3
    have q4 := Wd.cell HC.c4
    clear HC
    refine wp_region_wd (by kernel_rfl) (by kernel_rfl) ?_
    repeat (go_big_quiet_step ((go_at_call 19; refine calls_wd_same (v := .int .i64 D) ?_; exact HD.out _)))
    refine wpQuiet_nil ?_
    rintro _ ⟨x, rfl⟩
    go_wp2
    go_ret
    exact ⟨rfl, belowOn HB x.ok⟩
  have g4 : decide (0 ≤ h) = true := decide_eq_true h0'
  by_cases h1' : h < 24
  case neg =>
    rw [ok_no (c := ⟨y, mo, d, h, mi⟩) fun hr => h1' (Int.lt_of_le_of_lt hr.h1 (by decide))]
    have g5 : decide (h < 24) = false := decide_eq_false h1'
    clear hD h1'
    go_enter Try.func16, Try.ntmps16
    go_wp2
    obtain ⟨W, hW⟩ : ∃ W, w.alloc (.cells #[.int .i64 y, .int .i64 mo, .int .i64 d, .int .i64 h, .int .i64 mi] 26) = W := ⟨_, rfl⟩
    have HC := At5.made w ⟨y, mo, d, h, mi⟩ 26
    have HB : Below w.heap.size w W := by rw [← hW]; exact ba (Below.refl _ _) _
    rw [hW] at HC ⊢
    clear hW
    have q0 := Wd.cell HC.c0
    have q1 := Wd.cell HC.c1
    have q2 := Wd.cell HC.c2
    have q3 := Wd.cell HC.c3
    have q4 := Wd.cell HC.c4
    clear HC
    refine wp_region_wd (by kernel_rfl) (by kernel_rfl) ?_
    repeat (go_big_quiet_step ((go_at_call 19; refine calls_wd_same (v := .int .i64 D) ?_; exact HD.out _)))
    refine wpQuiet_nil ?_
    rintro _ ⟨x, rfl⟩
    go_wp2
    go_ret
    exact ⟨rfl, belowOn HB x.ok⟩
  have g5 : decide (h < 24) = true := decide_eq_true h1'
  by_cases i0' : 0 ≤ mi
  case neg =>
    rw [ok_no (c := ⟨y, mo, d, h, mi⟩) fun hr => i0' hr.i0]
    have g6 : decide (0 ≤ mi) = false := decide_eq_false i0'
    clear hD i0'
    go_enter Try.func16, Try.ntmps16
    go_wp2
    obtain ⟨W, hW⟩ : ∃ W, w.alloc (.cells #[.int .i64 y, .int .i64 mo, .int .i64 d, .int .i64 h, .int .i64 mi] 26) = W := ⟨_, rfl⟩
    have HC := At5.made w ⟨y, mo, d, h, mi⟩ 26
    have HB : Below w.heap.size w W := by rw [← hW]; exact ba (Below.refl _ _) _
    rw [hW] at HC ⊢
    clear hW
    have q0 := Wd.cell HC.c0
    have q1 := Wd.cell HC.c1
    have q2 := Wd.cell HC.c2
    have q3 := Wd.cell HC.c3
    have q4 := Wd.cell HC.c4
    clear HC
    refine wp_region_wd (by kernel_rfl) (by kernel_rfl) ?_
    repeat (go_big_quiet_step ((go_at_call 19; refine calls_wd_same (v := .int .i64 D) ?_; exact HD.out _)))
    refine wpQuiet_nil ?_
    rintro _ ⟨x, rfl⟩
    go_wp2
    go_ret
    exact ⟨rfl, belowOn HB x.ok⟩
  have g6 : decide (0 ≤ mi) = true := decide_eq_true i0'
  by_cases i1' : mi < 60
  case neg =>
    rw [ok_no (c := ⟨y, mo, d, h, mi⟩) fun hr => i1' (Int.lt_of_le_of_lt hr.i1 (by decide))]
    have g7 : decide (mi < 60) = false := decide_eq_false i1'
    clear hD i1'
    go_enter Try.func16, Try.ntmps16
    go_wp2
    obtain ⟨W, hW⟩ : ∃ W, w.alloc (.cells #[.int .i64 y, .int .i64 mo, .int .i64 d, .int .i64 h, .int .i64 mi] 26) = W := ⟨_, rfl⟩
    have HC := At5.made w ⟨y, mo, d, h, mi⟩ 26
    have HB : Below w.heap.size w W := by rw [← hW]; exact ba (Below.refl _ _) _
    rw [hW] at HC ⊢
    clear hW
    have q0 := Wd.cell HC.c0
    have q1 := Wd.cell HC.c1
    have q2 := Wd.cell HC.c2
    have q3 := Wd.cell HC.c3
    have q4 := Wd.cell HC.c4
    clear HC
    refine wp_region_wd (by kernel_rfl) (by kernel_rfl) ?_
    repeat (go_big_quiet_step ((go_at_call 19; refine calls_wd_same (v := .int .i64 D) ?_; exact HD.out _)))
    refine wpQuiet_nil ?_
    rintro _ ⟨x, rfl⟩
    go_wp2
    go_ret
    exact ⟨rfl, belowOn HB x.ok⟩
  have g7 : decide (mi < 60) = true := decide_eq_true i1'
  have hm := month_of d0' (by rw [hD]; exact d1')
  rw [ok_yes (c := ⟨y, mo, d, h, mi⟩) ⟨y0', y1', hm.1, hm.2, d0', by show d ≤ daysB y mo; rw [hD]; exact d1', h0', by show h ≤ 23; omega, i0', by show mi ≤ 59; omega⟩]
  clear hD hm y0' y1' d0' d1' h0' h1' i0' i1'
  go_enter Try.func16, Try.ntmps16
  go_wp2
  obtain ⟨W, hW⟩ : ∃ W, w.alloc (.cells #[.int .i64 y, .int .i64 mo, .int .i64 d, .int .i64 h, .int .i64 mi] 26) = W := ⟨_, rfl⟩
  have HC := At5.made w ⟨y, mo, d, h, mi⟩ 26
  have HB : Below w.heap.size w W := by rw [← hW]; exact ba (Below.refl _ _) _
  rw [hW] at HC ⊢
  clear hW
  have q0 := Wd.cell HC.c0
  have q1 := Wd.cell HC.c1
  have q2 := Wd.cell HC.c2
  have q3 := Wd.cell HC.c3
  have q4 := Wd.cell HC.c4
  clear HC
  refine wp_region_wd (by kernel_rfl) (by kernel_rfl) ?_
  repeat (go_big_quiet_step ((go_at_call 19; refine calls_wd_same (v := .int .i64 D) ?_; exact HD.out _)))
  refine wpQuiet_nil ?_
  rintro _ ⟨x, rfl⟩
  go_wp2
  go_ret
  exact ⟨rfl, belowOn HB x.ok⟩

set_option maxHeartbeats 2000000 in
theorem specCivilOk_try (y mo d h mi : Int) (w : World) :
    Calls Try.prog 18 #[.agg #[.int .i64 y, .int .i64 mo, .int .i64 d, .int .i64 h, .int .i64 mi]] w fun e w' => e = .returned (.bool (okC ⟨y, mo, d, h, mi⟩)) ∧ Below w.heap.size w w' := by
  obtain ⟨D, hD⟩ : ∃ D, daysB y mo = D := ⟨_, rfl⟩
  have HD : Hid (∀ w, Calls Try.prog 22 #[.int .i64 y, .int .i64 mo] w fun e w' => e = .returned (.int .i64 D) ∧ Below w.heap.size w w') := by intro w; rw [← hD]; exact specDays_any y mo w
  by_cases j0 : 1970 ≤ y ∧ y ≤ 2099
  case neg =>
    rw [ok_no (c := ⟨y, mo, d, h, mi⟩) fun hr => j0 ⟨hr.y0, hr.y1⟩]
    have I0 : Hid (∀ w, Calls Try.prog 35 #[.int .i64 y, .int .i64 1970, .int .i64 2099] w fun e w' => e = .returned (.bool false) ∧ w' = w) := by intro w; exact in_no j0
    clear hD j0
    go_enter Try.func18, Try.ntmps18
    go_wp2
    obtain ⟨W, hW⟩ : ∃ W, w.alloc (.cells #[.int .i64 y, .int .i64 mo, .int .i64 d, .int .i64 h, .int .i64 mi] 26) = W := ⟨_, rfl⟩
    have HC := At5.made w ⟨y, mo, d, h, mi⟩ 26
    have HB : Below w.heap.size w W := by rw [← hW]; exact ba (Below.refl _ _) _
    rw [hW] at HC ⊢
    clear hW
    have q0 := Wd.cell HC.c0
    have q1 := Wd.cell HC.c1
    have q2 := Wd.cell HC.c2
    have q3 := Wd.cell HC.c3
    have q4 := Wd.cell HC.c4
    clear HC
    refine wp_region_wd (by kernel_rfl) (by kernel_rfl) ?_
    repeat (go_big_quiet_step (first | (go_at_call 22; refine calls_wd (v := .int .i64 D) ?_; with_reducible exact HD.out _) | (go_at_call 35; refine calls_wd_same (v := .bool false) ?_; with_reducible exact I0.out _)))
    refine wpQuiet_nil ?_
    rintro _ ⟨x, rfl⟩
    go_wp2
    go_ret
    exact ⟨rfl, belowOn HB x.ok⟩
  have I0 : Hid (∀ w, Calls Try.prog 35 #[.int .i64 y, .int .i64 1970, .int .i64 2099] w fun e w' => e = .returned (.bool true) ∧ w' = w) := by intro w; exact in_yes j0.1 j0.2
  by_cases j1 : 1 ≤ mo ∧ mo ≤ 12
  case neg =>
    rw [ok_no (c := ⟨y, mo, d, h, mi⟩) fun hr => j1 ⟨hr.m0, hr.m1⟩]
    have I1 : Hid (∀ w, Calls Try.prog 35 #[.int .i64 mo, .int .i64 1, .int .i64 12] w fun e w' => e = .returned (.bool false) ∧ w' = w) := by intro w; exact in_no j1
    clear hD j1
    go_enter Try.func18, Try.ntmps18
    go_wp2
    obtain ⟨W, hW⟩ : ∃ W, w.alloc (.cells #[.int .i64 y, .int .i64 mo, .int .i64 d, .int .i64 h, .int .i64 mi] 26) = W := ⟨_, rfl⟩
    have HC := At5.made w ⟨y, mo, d, h, mi⟩ 26
    have HB : Below w.heap.size w W := by rw [← hW]; exact ba (Below.refl _ _) _
    rw [hW] at HC ⊢
    clear hW
    have q0 := Wd.cell HC.c0
    have q1 := Wd.cell HC.c1
    have q2 := Wd.cell HC.c2
    have q3 := Wd.cell HC.c3
    have q4 := Wd.cell HC.c4
    clear HC
    refine wp_region_wd (by kernel_rfl) (by kernel_rfl) ?_
    repeat (go_big_quiet_step (first | (go_at_call 22; refine calls_wd (v := .int .i64 D) ?_; with_reducible exact HD.out _) | (go_at_call 35; refine calls_wd_same (v := .bool true) ?_; with_reducible exact I0.out _) | (go_at_call 35; refine calls_wd_same (v := .bool false) ?_; with_reducible exact I1.out _)))
    refine wpQuiet_nil ?_
    rintro _ ⟨x, rfl⟩
    go_wp2
    go_ret
    exact ⟨rfl, belowOn HB x.ok⟩
  have I1 : Hid (∀ w, Calls Try.prog 35 #[.int .i64 mo, .int .i64 1, .int .i64 12] w fun e w' => e = .returned (.bool true) ∧ w' = w) := by intro w; exact in_yes j1.1 j1.2
  by_cases j2 : 1 ≤ d ∧ d ≤ D
  case neg =>
    rw [ok_no (c := ⟨y, mo, d, h, mi⟩) fun hr => j2 ⟨hr.d0, hD ▸ hr.d1⟩]
    have I2 : Hid (∀ w, Calls Try.prog 35 #[.int .i64 d, .int .i64 1, .int .i64 D] w fun e w' => e = .returned (.bool false) ∧ w' = w) := by intro w; exact in_no j2
    clear hD j2
    go_enter Try.func18, Try.ntmps18
    go_wp2
    obtain ⟨W, hW⟩ : ∃ W, w.alloc (.cells #[.int .i64 y, .int .i64 mo, .int .i64 d, .int .i64 h, .int .i64 mi] 26) = W := ⟨_, rfl⟩
    have HC := At5.made w ⟨y, mo, d, h, mi⟩ 26
    have HB : Below w.heap.size w W := by rw [← hW]; exact ba (Below.refl _ _) _
    rw [hW] at HC ⊢
    clear hW
    have q0 := Wd.cell HC.c0
    have q1 := Wd.cell HC.c1
    have q2 := Wd.cell HC.c2
    have q3 := Wd.cell HC.c3
    have q4 := Wd.cell HC.c4
    clear HC
    refine wp_region_wd (by kernel_rfl) (by kernel_rfl) ?_
    repeat (go_big_quiet_step (first | (go_at_call 22; refine calls_wd (v := .int .i64 D) ?_; with_reducible exact HD.out _) | (go_at_call 35; refine calls_wd_same (v := .bool true) ?_; with_reducible exact I0.out _) | (go_at_call 35; refine calls_wd_same (v := .bool true) ?_; with_reducible exact I1.out _) | (go_at_call 35; refine calls_wd_same (v := .bool false) ?_; with_reducible exact I2.out _)))
    refine wpQuiet_nil ?_
    rintro _ ⟨x, rfl⟩
    go_wp2
    go_ret
    exact ⟨rfl, belowOn HB x.ok⟩
  have I2 : Hid (∀ w, Calls Try.prog 35 #[.int .i64 d, .int .i64 1, .int .i64 D] w fun e w' => e = .returned (.bool true) ∧ w' = w) := by intro w; exact in_yes j2.1 j2.2
  by_cases j3 : 0 ≤ h ∧ h ≤ 23
  case neg =>
    rw [ok_no (c := ⟨y, mo, d, h, mi⟩) fun hr => j3 ⟨hr.h0, hr.h1⟩]
    have I3 : Hid (∀ w, Calls Try.prog 35 #[.int .i64 h, .int .i64 0, .int .i64 23] w fun e w' => e = .returned (.bool false) ∧ w' = w) := by intro w; exact in_no j3
    clear hD j3
    go_enter Try.func18, Try.ntmps18
    go_wp2
    obtain ⟨W, hW⟩ : ∃ W, w.alloc (.cells #[.int .i64 y, .int .i64 mo, .int .i64 d, .int .i64 h, .int .i64 mi] 26) = W := ⟨_, rfl⟩
    have HC := At5.made w ⟨y, mo, d, h, mi⟩ 26
    have HB : Below w.heap.size w W := by rw [← hW]; exact ba (Below.refl _ _) _
    rw [hW] at HC ⊢
    clear hW
    have q0 := Wd.cell HC.c0
    have q1 := Wd.cell HC.c1
    have q2 := Wd.cell HC.c2
    have q3 := Wd.cell HC.c3
    have q4 := Wd.cell HC.c4
    clear HC
    refine wp_region_wd (by kernel_rfl) (by kernel_rfl) ?_
    repeat (go_big_quiet_step (first | (go_at_call 22; refine calls_wd (v := .int .i64 D) ?_; with_reducible exact HD.out _) | (go_at_call 35; refine calls_wd_same (v := .bool true) ?_; with_reducible exact I0.out _) | (go_at_call 35; refine calls_wd_same (v := .bool true) ?_; with_reducible exact I1.out _) | (go_at_call 35; refine calls_wd_same (v := .bool true) ?_; with_reducible exact I2.out _) | (go_at_call 35; refine calls_wd_same (v := .bool false) ?_; with_reducible exact I3.out _)))
    refine wpQuiet_nil ?_
    rintro _ ⟨x, rfl⟩
    go_wp2
    go_ret
    exact ⟨rfl, belowOn HB x.ok⟩
  have I3 : Hid (∀ w, Calls Try.prog 35 #[.int .i64 h, .int .i64 0, .int .i64 23] w fun e w' => e = .returned (.bool true) ∧ w' = w) := by intro w; exact in_yes j3.1 j3.2
  by_cases j4 : 0 ≤ mi ∧ mi ≤ 59
  case neg =>
    rw [ok_no (c := ⟨y, mo, d, h, mi⟩) fun hr => j4 ⟨hr.i0, hr.i1⟩]
    have I4 : Hid (∀ w, Calls Try.prog 35 #[.int .i64 mi, .int .i64 0, .int .i64 59] w fun e w' => e = .returned (.bool false) ∧ w' = w) := by intro w; exact in_no j4
    clear hD j4
    go_enter Try.func18, Try.ntmps18
    go_wp2
    obtain ⟨W, hW⟩ : ∃ W, w.alloc (.cells #[.int .i64 y, .int .i64 mo, .int .i64 d, .int .i64 h, .int .i64 mi] 26) = W := ⟨_, rfl⟩
    have HC := At5.made w ⟨y, mo, d, h, mi⟩ 26
    have HB : Below w.heap.size w W := by rw [← hW]; exact ba (Below.refl _ _) _
    rw [hW] at HC ⊢
    clear hW
    have q0 := Wd.cell HC.c0
    have q1 := Wd.cell HC.c1
    have q2 := Wd.cell HC.c2
    have q3 := Wd.cell HC.c3
    have q4 := Wd.cell HC.c4
    clear HC
    refine wp_region_wd (by kernel_rfl) (by kernel_rfl) ?_
    repeat (go_big_quiet_step (first | (go_at_call 22; refine calls_wd (v := .int .i64 D) ?_; with_reducible exact HD.out _) | (go_at_call 35; refine calls_wd_same (v := .bool true) ?_; with_reducible exact I0.out _) | (go_at_call 35; refine calls_wd_same (v := .bool true) ?_; with_reducible exact I1.out _) | (go_at_call 35; refine calls_wd_same (v := .bool true) ?_; with_reducible exact I2.out _) | (go_at_call 35; refine calls_wd_same (v := .bool true) ?_; with_reducible exact I3.out _) | (go_at_call 35; refine calls_wd_same (v := .bool false) ?_; with_reducible exact I4.out _)))
    refine wpQuiet_nil ?_
    rintro _ ⟨x, rfl⟩
    go_wp2
    go_ret
    exact ⟨rfl, belowOn HB x.ok⟩
  have I4 : Hid (∀ w, Calls Try.prog 35 #[.int .i64 mi, .int .i64 0, .int .i64 59] w fun e w' => e = .returned (.bool true) ∧ w' = w) := by intro w; exact in_yes j4.1 j4.2
  rw [ok_yes (c := ⟨y, mo, d, h, mi⟩) ⟨j0.1, j0.2, j1.1, j1.2, j2.1, by show d ≤ daysB y mo; rw [hD]; exact j2.2, j3.1, j3.2, j4.1, j4.2⟩]
  clear hD j0 j1 j2 j3 j4
  go_enter Try.func18, Try.ntmps18
  go_wp2
  obtain ⟨W, hW⟩ : ∃ W, w.alloc (.cells #[.int .i64 y, .int .i64 mo, .int .i64 d, .int .i64 h, .int .i64 mi] 26) = W := ⟨_, rfl⟩
  have HC := At5.made w ⟨y, mo, d, h, mi⟩ 26
  have HB : Below w.heap.size w W := by rw [← hW]; exact ba (Below.refl _ _) _
  rw [hW] at HC ⊢
  clear hW
  have q0 := Wd.cell HC.c0
  have q1 := Wd.cell HC.c1
  have q2 := Wd.cell HC.c2
  have q3 := Wd.cell HC.c3
  have q4 := Wd.cell HC.c4
  clear HC
  refine wp_region_wd (by kernel_rfl) (by kernel_rfl) ?_
  repeat (go_big_quiet_step (first | (go_at_call 22; refine calls_wd (v := .int .i64 D) ?_; with_reducible exact HD.out _) | (go_at_call 35; refine calls_wd_same (v := .bool true) ?_; with_reducible exact I0.out _) | (go_at_call 35; refine calls_wd_same (v := .bool true) ?_; with_reducible exact I1.out _) | (go_at_call 35; refine calls_wd_same (v := .bool true) ?_; with_reducible exact I2.out _) | (go_at_call 35; refine calls_wd_same (v := .bool true) ?_; with_reducible exact I3.out _) | (go_at_call 35; refine calls_wd_same (v := .bool true) ?_; with_reducible exact I4.out _)))
  refine wpQuiet_nil ?_
  rintro _ ⟨x, rfl⟩
  go_wp2
  go_ret
  exact ⟨rfl, belowOn HB x.ok⟩
end Go.Proofs.Ytacfbagieefikaa
