/-
  Minutes and days that are drawn: the walks.
-/
import Derived.Test.YtacfbagieefikaaLc
import Derived.Test.YtacfbagieefikaaDh
namespace Go.Proofs.Ytacfbagieefikaa
open Go Go.RowKit

set_option maxHeartbeats 1000000 in
theorem l09Minute_any (g : Nat) (w : World) (hd : Drw w g) :
    Calls Try.prog 28 #[.pointer (some ⟨g, 0, none⟩)] w fun e w' => ∃ z : Int, e = .returned (.int .i64 z) ∧ -9223372036854775808 ≤ z ∧ z ≤ 9223372036854775807 ∧ Drw w' g ∧ Save g w w' := by
  have hs := Save.refl g w
  go_enter Try.func28, Try.ntmps28
  go_wp2_with (first | (go_at_call 37; refine (below_from g _ w _ hd hs (by decide) (by decide)).mono ?_; clear hd hs; rintro e w1 ⟨x, rfl, hx0, hx1, hd, hs⟩) | (go_at_call 38; refine (pickLit_from g [0, 1439, 1440, 84960, 1051199, 1051200, 15778079, 15778080, 15865919, 68374079, 68374080, -1] w _ hd hs (by decide) (by decide) (by decide) _ rfl 12 rfl).mono ?_; clear hd hs; rintro e w1 ⟨x, rfl, hx0, hx1, hd, hs⟩))
  all_goals
    go_ret
    exact ⟨_, rfl, by omega, by omega, hd, hs⟩
set_option maxHeartbeats 1000000 in
theorem drawMin_any (v : Value) (n : Nat) (w : World) (hn : n ≤ 1048576) (hc : CodeAt w w.heap.size v n) :
    Calls Try.prog 12 #[v] w fun e w' => ∃ z : Int, e = .returned (.int .i64 z) ∧ -9223372036854775808 ≤ z ∧ z ≤ 9223372036854775807 ∧ Below w.heap.size w w' := by
  go_enter Try.func12, Try.ntmps12
  go_wp2_with (first | (go_at_call 29; refine (new_any v n _ hn hc).mono ?_; rintro e w1 ⟨g, rfl, hg0, hd, hb⟩) | (go_at_call 28; refine (l09Minute_any g _ hd).mono ?_; clear hd; rintro e w2 ⟨z, rfl, hz0, hz1, hd, hs⟩))
  go_ret
  exact ⟨z, rfl, hz0, hz1, hb.trans (hs.below hg0 hb.size)⟩

theorem blk5 {w : World} {g : Nat} {a b c d e : Value} {t : TypeId} (h : w.heap[g]? = some (.cells #[a, b, c, d, e] t)) :
    (w.cell? ⟨g, 0, none⟩ = some a ∧ w.cell? ⟨g, 1, none⟩ = some b ∧ w.cell? ⟨g, 2, none⟩ = some c ∧ w.cell? ⟨g, 3, none⟩ = some d ∧ w.cell? ⟨g, 4, none⟩ = some e) ∧ Fz5 w g := by
  refine ⟨by simp [World.cell?, h], ⟨by simp [World.frozen?, h], by simp [World.frozen?, h], by simp [World.frozen?, h], by simp [World.frozen?, h], by simp [World.frozen?, h]⟩⟩
/-- The day that is drawn, as it lies there: a cursor in block g, the day in s, the result in r. -/
structure Dd (w : World) (g r s : Nat) (a b c d e : Int) : Prop where
  dr : Drw w g
  rg : r ≠ g
  sg : s ≠ g
  rs : r < s
  sl : s < w.heap.size
  hr : w.heap[r]? = some (.cells #[.int .i64 0, .int .i64 0, .int .i64 0, .int .i64 0, .int .i64 0] 26)
  hs : w.heap[s]? = some (.cells #[.int .i64 a, .int .i64 b, .int .i64 c, .int .i64 d, .int .i64 e] 26)
theorem Dd.save {w w' : World} {g r s : Nat} {a b c d e : Int} (h : Dd w g r s a b c d e) (hs : Save g w w') (hd : Drw w' g) : Dd w' g r s a b c d e :=
  ⟨hd, h.rg, h.sg, h.rs, Nat.lt_of_lt_of_le h.sl hs.size, (hs.block r (Nat.lt_trans h.rs h.sl) h.rg).trans h.hr, (hs.block s h.sl h.sg).trans h.hs⟩


set_option maxRecDepth 10000 in
set_option maxHeartbeats 4000000 in
theorem l09Civil_any (g : Nat) (w : World) (hd : Drw w g) :
    Calls Try.prog 34 #[.pointer (some ⟨g, 0, none⟩)] w fun e w' => ∃ c : Cv, e = .returned (.agg #[.int .i64 c.y, .int .i64 c.mo, .int .i64 c.d, .int .i64 c.h, .int .i64 c.mi]) ∧ Save g w w' := by
  have hgl := hd.lt
  obtain ⟨w0, HW0⟩ : ∃ w0, Hid (w.alloc (.cells #[.int .i64 0, .int .i64 0, .int .i64 0, .int .i64 0, .int .i64 0] 26) = w0) := ⟨_, rfl⟩
  have hd0 : Drw w0 g := by rw [← HW0.out]; exact hd.keep ((Below.refl _ _).alloc (by omega) _)
  have hsz0 : w0.heap.size = w.heap.size + 1 := by rw [← HW0.out]; simp
  have hbr : w0.heap[w.heap.size]? = some (.cells #[.int .i64 0, .int .i64 0, .int .i64 0, .int .i64 0, .int .i64 0] 26) := by rw [← HW0.out]; show (w.heap.push _)[w.heap.size]? = _; rw [Array.getElem?_push, if_pos rfl]
  have HS0 : Hid (Save g w w0) := by show Save g w w0; rw [← HW0.out]; exact (Save.refl g w).alloc _
  have hs := Save.refl g w0
  clear hd
  go_enter Try.func34, Try.ntmps34
  go_wp2_with fail
  rw [HW0.out]
  refine (below_from g 130 w0 _ hd0 hs (by decide) (by decide)).mono ?_
  clear hd0 hs
  rintro e w1 ⟨x0, rfl, l0, u0, hd0, hs⟩
  go_wp2_with fail
  refine (below_from g 12 w0 _ hd0 hs (by decide) (by decide)).mono ?_
  clear hd0 hs
  rintro e w2 ⟨x1, rfl, l1, u1, hd0, hs⟩
  go_wp2_with fail
  refine (below_from g 31 w0 _ hd0 hs (by decide) (by decide)).mono ?_
  clear hd0 hs
  rintro e w3 ⟨x2, rfl, l2, u2, hd0, hs⟩
  go_wp2_with fail
  refine (below_from g 24 w0 _ hd0 hs (by decide) (by decide)).mono ?_
  clear hd0 hs
  rintro e w4 ⟨x3, rfl, l3, u3, hd0, hs⟩
  go_wp2_with fail
  refine (below_from g 60 w0 _ hd0 hs (by decide) (by decide)).mono ?_
  clear hd0 hs
  rintro e w5 ⟨x4, rfl, l4, u4, hd0, hs⟩
  go_wp2_with fail
  obtain ⟨W, HW⟩ : ∃ W, Hid (w5.alloc (.cells #[.int .i64 (1970 + x0), .int .i64 (1 + x1), .int .i64 (1 + x2), .int .i64 x3, .int .i64 x4] 26) = W) := ⟨_, rfl⟩
  have hsz5 := hs.size
  have Z : Dd W g w.heap.size w5.heap.size (1970 + x0) (1 + x1) (1 + x2) x3 x4 := by
    have hlt := hd0.lt
    rw [← HW.out]
    exact ⟨hd0.keep ((Below.refl _ _).alloc (by omega) _), by omega, by omega, by omega, by simp, (Below.heap_alloc _ _ _ (by omega)).trans ((hs.block _ (by omega) (by omega)).trans hbr), by show (w5.heap.push _)[w5.heap.size]? = _; rw [Array.getElem?_push, if_pos rfl]⟩
  have HSW : Hid (Save g w W) := by show Save g w W; rw [← HW.out]; exact (HS0.out.trans hs).alloc _
  rw [HW.out]
  clear HW hd0 hs hsz5 hbr HS0
  obtain ⟨r, hr⟩ : ∃ r, w.heap.size = r := ⟨_, rfl⟩
  obtain ⟨s, hs⟩ : ∃ s, w5.heap.size = s := ⟨_, rfl⟩
  rw [hr, hs] at Z ⊢
  have HR : Hid (w.heap.size ≤ r) := Nat.le_of_eq hr
  clear hs hr HW0 hsz0
  refine (below_any g 12 _ Z.dr (by decide) (by decide)).mono ?_
  rintro e w7 ⟨u, rfl, hu0, hu1, hd7, hs7⟩
  have HS7 : Hid (Save g w w7) := HSW.out.trans hs7
  have Y := Z.save hs7 hd7
  clear Z hd7 hs7 HSW
  generalize 1970 + x0 = y0 at Y
  generalize 1 + x1 = m0 at Y
  generalize 1 + x2 = d0 at Y
  clear l0 u0 l1 u1 l2 u2 l3 u3 l4 u4
  have sav : ∀ {a b : World} {p : Addr} (v : Value), Save g w a → (w.heap.size ≤ p.block) → b = a.setCell p v → Save g w b := by
    intro a b p v ha hp hb
    subst hb
    exact ⟨ha.os, ha.tape, ha.output, by simpa [World.setCell] using ha.size, fun k hk hg => (Below.heap_setCell _ _ _ _ (by omega)).trans (ha.block k hk hg)⟩
  by_cases e0 : u = 0
  case pos =>
    subst e0
    go_wp2_with fail
    refine (pickLit_from g [1969, 1970, 2000, 2099, 2100] w7 _ Y.dr (Save.refl g w7) (by decide) (by decide) (by decide) _ rfl 5 rfl).mono ?_
    rintro e w8 ⟨z, rfl, hz0, hz1, hd8, hs8⟩
    have HS8 : Hid (Save g w w8) := HS7.out.trans hs8
    have X := Y.save hs8 hd8
    clear Y hd8 hs8 HS7
    obtain ⟨⟨p0, p1, p2, p3, p4⟩, hF⟩ := blk5 X.hs
    obtain ⟨⟨q0, q1, q2, q3, q4⟩, hG⟩ := blk5 X.hr
    have f0 := hF.c0
    have f1 := hF.c1
    have f2 := hF.c2
    have f3 := hF.c3
    have f4 := hF.c4
    have g0 := hG.c0
    have g1 := hG.c1
    have g2 := hG.c2
    have g3 := hG.c3
    have g4 := hG.c4
    have hrs := X.rs
    have hsl := X.sl
    clear hF hG
    go_wp2
    refine bodyPost_ret (ret_civ (c := ⟨z, m0, d0, x3, x4⟩) rfl rfl ⟨by simp [go_sem, q0], by simp [go_sem, q1], by simp [go_sem, q2], by simp [go_sem, q3], by simp [go_sem, q4]⟩) rfl ⟨_, rfl, ?_⟩
    exact sav _ (sav _ (sav _ (sav _ (sav _ (sav _ HS8.out (by have := HR.out; have := hrs; simp only; omega) rfl) (by have := HR.out; simp only; omega) rfl) (by have := HR.out; simp only; omega) rfl) (by have := HR.out; simp only; omega) rfl) (by have := HR.out; simp only; omega) rfl) (by have := HR.out; simp only; omega) rfl
  by_cases e1 : u = 1
  case pos =>
    subst e1
    go_wp2_with fail
    refine (pickLit_from g [0, 2, 13] w7 _ Y.dr (Save.refl g w7) (by decide) (by decide) (by decide) _ rfl 3 rfl).mono ?_
    rintro e w8 ⟨z, rfl, hz0, hz1, hd8, hs8⟩
    have HS8 : Hid (Save g w w8) := HS7.out.trans hs8
    have X := Y.save hs8 hd8
    clear Y hd8 hs8 HS7
    obtain ⟨⟨p0, p1, p2, p3, p4⟩, hF⟩ := blk5 X.hs
    obtain ⟨⟨q0, q1, q2, q3, q4⟩, hG⟩ := blk5 X.hr
    have f0 := hF.c0
    have f1 := hF.c1
    have f2 := hF.c2
    have f3 := hF.c3
    have f4 := hF.c4
    have g0 := hG.c0
    have g1 := hG.c1
    have g2 := hG.c2
    have g3 := hG.c3
    have g4 := hG.c4
    have hrs := X.rs
    have hsl := X.sl
    clear hF hG
    go_wp2
    refine bodyPost_ret (ret_civ (c := ⟨y0, z, d0, x3, x4⟩) rfl rfl ⟨by simp [go_sem, q0], by simp [go_sem, q1], by simp [go_sem, q2], by simp [go_sem, q3], by simp [go_sem, q4]⟩) rfl ⟨_, rfl, ?_⟩
    exact sav _ (sav _ (sav _ (sav _ (sav _ (sav _ HS8.out (by have := HR.out; have := hrs; simp only; omega) rfl) (by have := HR.out; simp only; omega) rfl) (by have := HR.out; simp only; omega) rfl) (by have := HR.out; simp only; omega) rfl) (by have := HR.out; simp only; omega) rfl) (by have := HR.out; simp only; omega) rfl
  by_cases e2 : u = 2
  case pos =>
    subst e2
    go_wp2_with fail
    refine (pickLit_from g [0, 29, 32] w7 _ Y.dr (Save.refl g w7) (by decide) (by decide) (by decide) _ rfl 3 rfl).mono ?_
    rintro e w8 ⟨z, rfl, hz0, hz1, hd8, hs8⟩
    have HS8 : Hid (Save g w w8) := HS7.out.trans hs8
    have X := Y.save hs8 hd8
    clear Y hd8 hs8 HS7
    obtain ⟨⟨p0, p1, p2, p3, p4⟩, hF⟩ := blk5 X.hs
    obtain ⟨⟨q0, q1, q2, q3, q4⟩, hG⟩ := blk5 X.hr
    have f0 := hF.c0
    have f1 := hF.c1
    have f2 := hF.c2
    have f3 := hF.c3
    have f4 := hF.c4
    have g0 := hG.c0
    have g1 := hG.c1
    have g2 := hG.c2
    have g3 := hG.c3
    have g4 := hG.c4
    have hrs := X.rs
    have hsl := X.sl
    clear hF hG
    go_wp2
    refine bodyPost_ret (ret_civ (c := ⟨y0, m0, z, x3, x4⟩) rfl rfl ⟨by simp [go_sem, q0], by simp [go_sem, q1], by simp [go_sem, q2], by simp [go_sem, q3], by simp [go_sem, q4]⟩) rfl ⟨_, rfl, ?_⟩
    exact sav _ (sav _ (sav _ (sav _ (sav _ (sav _ HS8.out (by have := HR.out; have := hrs; simp only; omega) rfl) (by have := HR.out; simp only; omega) rfl) (by have := HR.out; simp only; omega) rfl) (by have := HR.out; simp only; omega) rfl) (by have := HR.out; simp only; omega) rfl) (by have := HR.out; simp only; omega) rfl
  by_cases e3 : u = 3
  case pos =>
    subst e3
    go_wp2_with fail
    refine (pickLit_from g [-1, 24] w7 _ Y.dr (Save.refl g w7) (by decide) (by decide) (by decide) _ rfl 2 rfl).mono ?_
    rintro e w8 ⟨z, rfl, hz0, hz1, hd8, hs8⟩
    have HS8 : Hid (Save g w w8) := HS7.out.trans hs8
    have X := Y.save hs8 hd8
    clear Y hd8 hs8 HS7
    obtain ⟨⟨p0, p1, p2, p3, p4⟩, hF⟩ := blk5 X.hs
    obtain ⟨⟨q0, q1, q2, q3, q4⟩, hG⟩ := blk5 X.hr
    have f0 := hF.c0
    have f1 := hF.c1
    have f2 := hF.c2
    have f3 := hF.c3
    have f4 := hF.c4
    have g0 := hG.c0
    have g1 := hG.c1
    have g2 := hG.c2
    have g3 := hG.c3
    have g4 := hG.c4
    have hrs := X.rs
    have hsl := X.sl
    clear hF hG
    go_wp2
    refine bodyPost_ret (ret_civ (c := ⟨y0, m0, d0, z, x4⟩) rfl rfl ⟨by simp [go_sem, q0], by simp [go_sem, q1], by simp [go_sem, q2], by simp [go_sem, q3], by simp [go_sem, q4]⟩) rfl ⟨_, rfl, ?_⟩
    exact sav _ (sav _ (sav _ (sav _ (sav _ (sav _ HS8.out (by have := HR.out; have := hrs; simp only; omega) rfl) (by have := HR.out; simp only; omega) rfl) (by have := HR.out; simp only; omega) rfl) (by have := HR.out; simp only; omega) rfl) (by have := HR.out; simp only; omega) rfl) (by have := HR.out; simp only; omega) rfl
  by_cases e4 : u = 4
  case pos =>
    subst e4
    go_wp2_with fail
    refine (pickLit_from g [-1, 60] w7 _ Y.dr (Save.refl g w7) (by decide) (by decide) (by decide) _ rfl 2 rfl).mono ?_
    rintro e w8 ⟨z, rfl, hz0, hz1, hd8, hs8⟩
    have HS8 : Hid (Save g w w8) := HS7.out.trans hs8
    have X := Y.save hs8 hd8
    clear Y hd8 hs8 HS7
    obtain ⟨⟨p0, p1, p2, p3, p4⟩, hF⟩ := blk5 X.hs
    obtain ⟨⟨q0, q1, q2, q3, q4⟩, hG⟩ := blk5 X.hr
    have f0 := hF.c0
    have f1 := hF.c1
    have f2 := hF.c2
    have f3 := hF.c3
    have f4 := hF.c4
    have g0 := hG.c0
    have g1 := hG.c1
    have g2 := hG.c2
    have g3 := hG.c3
    have g4 := hG.c4
    have hrs := X.rs
    have hsl := X.sl
    clear hF hG
    go_wp2
    refine bodyPost_ret (ret_civ (c := ⟨y0, m0, d0, x3, z⟩) rfl rfl ⟨by simp [go_sem, q0], by simp [go_sem, q1], by simp [go_sem, q2], by simp [go_sem, q3], by simp [go_sem, q4]⟩) rfl ⟨_, rfl, ?_⟩
    exact sav _ (sav _ (sav _ (sav _ (sav _ (sav _ HS8.out (by have := HR.out; have := hrs; simp only; omega) rfl) (by have := HR.out; simp only; omega) rfl) (by have := HR.out; simp only; omega) rfl) (by have := HR.out; simp only; omega) rfl) (by have := HR.out; simp only; omega) rfl) (by have := HR.out; simp only; omega) rfl
  by_cases e5 : u = 5
  case pos =>
    subst e5
    obtain ⟨⟨p0, p1, p2, p3, p4⟩, hF⟩ := blk5 Y.hs
    obtain ⟨⟨q0, q1, q2, q3, q4⟩, hG⟩ := blk5 Y.hr
    have f0 := hF.c0
    have f1 := hF.c1
    have f2 := hF.c2
    have f3 := hF.c3
    have f4 := hF.c4
    have g0 := hG.c0
    have g1 := hG.c1
    have g2 := hG.c2
    have g3 := hG.c3
    have g4 := hG.c4
    have hrs := Y.rs
    have hsl := Y.sl
    clear hF hG
    go_wp2
    refine bodyPost_ret (ret_civ (c := ⟨y0, 2, 29, x3, x4⟩) rfl rfl ⟨by simp [go_sem, q0], by simp [go_sem, q1], by simp [go_sem, q2], by simp [go_sem, q3], by simp [go_sem, q4]⟩) rfl ⟨_, rfl, ?_⟩
    exact sav _ (sav _ (sav _ (sav _ (sav _ (sav _ (sav _ HS7.out (by have := HR.out; have := hrs; simp only; omega) rfl) (by have := HR.out; have := hrs; simp only; omega) rfl) (by have := HR.out; simp only; omega) rfl) (by have := HR.out; simp only; omega) rfl) (by have := HR.out; simp only; omega) rfl) (by have := HR.out; simp only; omega) rfl) (by have := HR.out; simp only; omega) rfl
  obtain ⟨⟨p0, p1, p2, p3, p4⟩, hF⟩ := blk5 Y.hs
  obtain ⟨⟨q0, q1, q2, q3, q4⟩, hG⟩ := blk5 Y.hr
  have f0 := hF.c0
  have f1 := hF.c1
  have f2 := hF.c2
  have f3 := hF.c3
  have f4 := hF.c4
  have g0 := hG.c0
  have g1 := hG.c1
  have g2 := hG.c2
  have g3 := hG.c3
  have g4 := hG.c4
  have hrs := Y.rs
  have hsl := Y.sl
  clear hF hG
  go_wp2
  refine bodyPost_ret (ret_civ (c := ⟨y0, m0, d0, x3, x4⟩) rfl rfl ⟨by simp [go_sem, q0], by simp [go_sem, q1], by simp [go_sem, q2], by simp [go_sem, q3], by simp [go_sem, q4]⟩) rfl ⟨_, rfl, ?_⟩
  exact sav _ (sav _ (sav _ (sav _ (sav _ HS7.out (by have := HR.out; simp only; omega) rfl) (by have := HR.out; simp only; omega) rfl) (by have := HR.out; simp only; omega) rfl) (by have := HR.out; simp only; omega) rfl) (by have := HR.out; simp only; omega) rfl

set_option maxHeartbeats 1000000 in
theorem drawCiv_any (v : Value) (n : Nat) (w : World) (hn : n ≤ 1048576) (hc : CodeAt w w.heap.size v n) :
    Calls Try.prog 17 #[v] w fun e w' => ∃ c : Cv, e = .returned (.agg #[.int .i64 c.y, .int .i64 c.mo, .int .i64 c.d, .int .i64 c.h, .int .i64 c.mi]) ∧ Below w.heap.size w w' := by
  have hc1 := CodeAt.on hc ((Below.refl _ w).alloc (Nat.le_refl _) (.cells #[.int .i64 0, .int .i64 0, .int .i64 0, .int .i64 0, .int .i64 0] 26))
  clear hc
  go_enter Try.func17, Try.ntmps17
  go_wp2_with fail
  refine (new_any v n _ hn hc1).mono ?_
  rintro e w1 ⟨g, rfl, hg0, hd, hb⟩
  have hg1 : w.heap.size < g := Nat.lt_of_lt_of_le (by simp) hg0
  have HV := (At5.made w ⟨0, 0, 0, 0, 0⟩ 26).up hb (by simp)
  have HF := (Fz5.made w #[.int .i64 0, .int .i64 0, .int .i64 0, .int .i64 0, .int .i64 0] 26).up hb (by simp)
  have B1 := below_new hb
  have hl1 : w.heap.size < w1.heap.size := World.block_lt_of_cell? _ _ HV.c0
  clear hb hg0 hc1
  go_wp2_with fail
  refine (l09Civil_any g _ hd).mono ?_
  rintro e w2 ⟨⟨y, mo, d, h, mi⟩, rfl, hs⟩
  have hrg : w.heap.size ≠ g := by omega
  have q0 := hs.cell hrg HV.c0
  have q1 := hs.cell hrg HV.c1
  have q2 := hs.cell hrg HV.c2
  have q3 := hs.cell hrg HV.c3
  have q4 := hs.cell hrg HV.c4
  have f0 := hs.frozen hrg hl1 HF.c0
  have f1 := hs.frozen hrg hl1 HF.c1
  have f2 := hs.frozen hrg hl1 HF.c2
  have f3 := hs.frozen hrg hl1 HF.c3
  have f4 := hs.frozen hrg hl1 HF.c4
  have B2 : Below w.heap.size w w2 := B1.trans (hs.below (by omega) (by omega))
  clear HV HF hs B1 hd
  go_wp2
  refine bodyPost_ret (ret_civ (c := ⟨y, mo, d, h, mi⟩) rfl rfl ⟨by simp [go_sem, q0], by simp [go_sem, q1], by simp [go_sem, q2], by simp [go_sem, q3], by simp [go_sem, q4]⟩) rfl ⟨_, rfl, ?_⟩
  refine Below.setCell (Below.setCell (Below.setCell (Below.setCell (Below.setCell B2 ?_ _) ?_ _) ?_ _) ?_ _) ?_ _ <;> simp
end Go.Proofs.Ytacfbagieefikaa
