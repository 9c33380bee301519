/-
  Whether a rule fires on the day of a minute, as the specification tells it: the walk.
-/
import Derived.Test.YtbecdaholpiaeaaDoorNfp
import Derived.Test.YtbecdaholpiaeaaDoorCs
namespace Go.Proofs.YtbecdaholpiaeaaDoor
open Go Go.RowKit

theorem specCivilOf_civ (m : Int) (w : World) (h0 : 0 ≤ m) (h1 : m ≤ 68374079) :
    Calls Tryd.prog 48 #[.int .i64 m] w fun e w' => e = .returned (.tuple #[.agg #[.int .i64 (civ m).y, .int .i64 (civ m).mo, .int .i64 (civ m).d, .int .i64 (civ m).h, .int .i64 (civ m).mi], .bool true]) ∧ Below w.heap.size w w' := by
  refine (specCivilOf_yes m w h0 h1).mono ?_
  rintro e w' ⟨c, rfl, hr, hm, hb⟩
  obtain rfl := civ_is hr hm
  exact ⟨rfl, hb⟩
theorem dayF_not {c d e : List Int} {m : Int} (h : decide ((civ m).mo ∈ d) = false) : dayF c d e m = false := by unfold dayF; rw [h]; rfl
theorem dayF_both {c d e : List Int} {m : Int} (h : decide ((civ m).mo ∈ d) = true) (hl : c.length = 31 ∨ e.length = 7) : dayF c d e m = (decide ((civ m).d ∈ c) && decide (weekN m ∈ e)) := by unfold dayF; rw [h, if_pos hl]; rfl
theorem dayF_one {c d e : List Int} {m : Int} (h : decide ((civ m).mo ∈ d) = true) (hl : ¬ (c.length = 31 ∨ e.length = 7)) : dayF c d e m = (decide ((civ m).d ∈ c) || decide (weekN m ∈ e)) := by unfold dayF; rw [h, if_neg hl]; rfl

set_option maxRecDepth 10000 in
set_option maxHeartbeats 2000000 in
theorem l10Day_any (va vb vc vd ve : Value) (c d e : List Int) (m : Int) (w : World) (h3 : Reads w vc c) (h4 : Reads w vd d) (h5 : Reads w ve e) (n3 : c.length ≤ 1048577) (n4 : d.length ≤ 1048577) (n5 : e.length ≤ 1048577) (m0 : 0 ≤ m) (m1 : m ≤ 68374079) :
    Calls Tryd.prog 36 #[.agg #[va, vb, vc, vd, ve], .int .i64 m] w fun x w' => x = .returned (.bool (dayF c d e m)) ∧ Below w.heap.size w w' := by
  obtain ⟨co, cc, rfl, -⟩ := id h3
  obtain ⟨d0, dc, rfl, -⟩ := id h4
  obtain ⟨eo, ec, rfl, -⟩ := id h5
  obtain ⟨qd, HD⟩ : ∃ q, Hid (decide ((civ m).d ∈ c) = q) := ⟨_, rfl⟩
  obtain ⟨qm, HM⟩ : ∃ q, Hid (decide ((civ m).mo ∈ d) = q) := ⟨_, rfl⟩
  obtain ⟨qw, HW⟩ : ∃ q, Hid (decide (weekN m ∈ e) = q) := ⟨_, rfl⟩
  have HF0 : Hid (qm = false → dayF c d e m = false) := fun h => dayF_not (HM.out.trans h)
  have HF1 : Hid (qm = true → (c.length = 31 ∨ e.length = 7) → dayF c d e m = (qd && qw)) := fun h hl => by rw [dayF_both (HM.out.trans h) hl, HD.out, HW.out]
  have HF2 : Hid (qm = true → ¬ (c.length = 31 ∨ e.length = 7) → dayF c d e m = (qd || qw)) := fun h hl => by rw [dayF_one (HM.out.trans h) hl, HD.out, HW.out]
  have HCV := specCivilOf_civ m
  obtain ⟨X, HX⟩ : ∃ X, Hid (civ m = X) := ⟨_, rfl⟩
  rw [HX.out] at HD HM
  have HC : Hid (∀ w, Calls Tryd.prog 48 #[.int .i64 m] w fun e w' => e = .returned (.tuple #[.agg #[.int .i64 X.y, .int .i64 X.mo, .int .i64 X.d, .int .i64 X.h, .int .i64 X.mi], .bool true]) ∧ Below w.heap.size w w') := by intro w; rw [← HX.out]; exact HCV w m0 m1
  clear HCV HX
  obtain ⟨y, mo, dd, hh, mi⟩ := X
  simp only at HD HM HC
  obtain ⟨k, HK⟩ : ∃ k, Hid (weekN m = k) := ⟨_, rfl⟩
  rw [HK.out] at HW
  have HK2 : Hid (∀ w, Calls Tryd.prog 49 #[.int .i64 m] w fun e w' => e = .returned (.int .i64 k) ∧ w' = w) := by intro w; rw [← HK.out]; exact specWeek_any m w
  have H1 : Hid (∀ W, Below w.heap.size w W → Calls Tryd.prog 37 #[.slice co c.length cc, .int .i64 dd] W fun x w' => x = .returned (.bool qd) ∧ w' = W) := by intro W hb; rw [← HD.out]; exact l10In_try co _ cc c dd W (h3.below hb) n3
  have H2 : Hid (∀ W, Below w.heap.size w W → Calls Tryd.prog 37 #[.slice d0 d.length dc, .int .i64 mo] W fun x w' => x = .returned (.bool qm) ∧ w' = W) := by intro W hb; rw [← HM.out]; exact l10In_try d0 _ dc d mo W (h4.below hb) n4
  have H3 : Hid (∀ W, Below w.heap.size w W → Calls Tryd.prog 37 #[.slice eo e.length ec, .int .i64 k] W fun x w' => x = .returned (.bool qw) ∧ w' = W) := by intro W hb; rw [← HW.out]; exact l10In_try eo _ ec e k W (h5.below hb) n5
  clear h3 h4 h5 HD HM HW HK
  obtain ⟨r, HR⟩ : ∃ r, Hid (dayF c d e m = r) := ⟨_, rfl⟩
  rw [HR.out] at HF0 HF1 HF2
  rw [HR.out]
  clear HR
  generalize c.length = lc at *
  generalize d.length = ld at *
  generalize e.length = le at *
  clear c d e
  go_enter Tryd.func36, Tryd.ntmps36
  go_wp2_with fail
  refine (HC.out _).mono ?_
  rintro x w1 ⟨rfl, hb1⟩
  have B1 := below_new hb1
  have c2 : w1.cell? ⟨w.heap.size, 2, none⟩ = some (.slice co lc cc) := (hb1.cell (by simp)).trans (by simp [go_sem])
  have c3 : w1.cell? ⟨w.heap.size, 3, none⟩ = some (.slice d0 ld dc) := (hb1.cell (by simp)).trans (by simp [go_sem])
  have c4 : w1.cell? ⟨w.heap.size, 4, none⟩ = some (.slice eo le ec) := (hb1.cell (by simp)).trans (by simp [go_sem])
  have hg : w.heap.size < w1.heap.size := World.block_lt_of_cell? _ _ c2
  clear hb1 HC
  go_wp2_with fail
  refine (H1.out _ (ba B1 _)).mono ?_
  rintro x w2 ⟨rfl, hw⟩
  subst hw
  obtain ⟨W, hW⟩ : ∃ W, w1.alloc (.cells #[.int .i64 y, .int .i64 mo, .int .i64 dd, .int .i64 hh, .int .i64 mi] 77) = W := ⟨_, rfl⟩
  have Z := At5.made w1 ⟨y, mo, dd, hh, mi⟩ 77
  have hb : Below w1.heap.size w1 W := by rw [← hW]; exact ba (Below.refl _ _) _
  have BW : Below w.heap.size w W := Below.on B1 hb
  have e2 := (hb.cell hg).trans c2
  have e3 := (hb.cell hg).trans c3
  have e4 := (hb.cell hg).trans c4
  rw [hW] at Z ⊢
  clear hW c2 c3 c4 hb H1
  have q4 := Wd.cell e4
  go_wp2_with fail
  refine wp_region_wd (by kernel_rfl) (by kernel_rfl) ?_
  repeat (go_big_quiet_step (first | (go_at_call 49; refine calls_wd_same (v := .int .i64 k) ?_; with_reducible exact HK2.out _) | (go_at_call 37; refine calls_wd_same (v := .bool qw) ?_; with_reducible exact H3.out _ (Below.on BW (Wd.ok _)))))
  refine wpQuiet_nil ?_
  rintro _ ⟨x, rfl⟩
  have BX := Below.on BW x.ok
  have p2 := Wd.cell e2 x
  have p3 := Wd.cell e3 x
  have p4 := Wd.cell e4 x
  have p1 := Wd.cell Z.c1 x
  clear q4 e2 e3 e4 Z
  go_wp2_with fail
  refine (H2.out _ BX).mono ?_
  rintro z w3 ⟨rfl, hw⟩
  have hw2 := hw.symm
  subst hw2
  clear H2 H3 HK2
  cases qm with
  | false =>
    have HF := HF0.out rfl
    go_wp2
    go_ret
    exact ⟨by rw [HF]; rfl, BX⟩
  | true =>
    by_cases h31 : lc = 31
    · have HF := HF1.out rfl (.inl h31)
      subst h31
      cases qd <;> cases qw <;>
      · go_wp2
        go_ret
        exact ⟨by rw [HF]; rfl, BX⟩
    · have b1 : ((lc : Int) == 31) = false := beq_eq_false_iff_ne.2 (by omega)
      by_cases h7 : le = 7
      · have HF := HF1.out rfl (.inr h7)
        subst h7
        cases qd <;> cases qw <;>
        · go_wp2
          go_ret
          exact ⟨by rw [HF]; rfl, BX⟩
      · have b2 : ((le : Int) == 7) = false := beq_eq_false_iff_ne.2 (by omega)
        have HF := HF2.out rfl (by rintro (h | h); exact h31 h; exact h7 h)
        cases qd <;> cases qw <;>
        · go_wp2
          go_ret
          exact ⟨by rw [HF]; rfl, BX⟩
end Go.Proofs.YtbecdaholpiaeaaDoor
