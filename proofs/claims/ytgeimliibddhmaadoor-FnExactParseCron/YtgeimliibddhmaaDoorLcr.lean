/-
  Rules: the law's helpers on them (sizes, copies, held against each other): the walks.
-/
import Derived.Test.YtgeimliibddhmaaDoorB5s
import Derived.Test.YtgeimliibddhmaaDoorOn
namespace Go.Proofs.YtgeimliibddhmaaDoor
open Go Go.RowKit
set_option linter.unusedVariables false

set_option maxHeartbeats 1000000 in
theorem szIntS_any (ao : Option Addr) (n c : Nat) (left : Int) (w : World) (hl : left ≤ 1048576) (h0 : 0 ≤ left) (hn : n ≤ 9223372036854775807) :
    Calls Tryd.prog 59 #[.slice ao n c, .int .i64 left] w fun e w' => ∃ r : Int, e = .returned (.int .i64 r) ∧ (r = -1 ∨ 0 ≤ r ∧ r = left - n) ∧ w' = w := by
  go_enter Tryd.func59, Tryd.ntmps59
  go_wp2
  · go_ret
    exact ⟨-1, rfl, .inl rfl, rfl⟩
  · go_ret
    exact ⟨left - n, by go_num, .inr ⟨by omega, rfl⟩, rfl⟩
/-- What szCron answers. -/
def SzP (l0 l1 l2 l3 l4 : Nat) (r : Int) : Prop := r = -1 ∨ (0 ≤ r ∧ l0 ≤ 1048576 ∧ l1 ≤ 1048576 ∧ l2 ≤ 1048576 ∧ l3 ≤ 1048576 ∧ l4 ≤ 1048576)
set_option maxRecDepth 10000 in
set_option maxHeartbeats 2000000 in
theorem szCron_try (ao bo co d0 eo : Option Addr) (l0 l1 l2 l3 l4 ac bc cc dc ec : Nat) (w : World) (h0 : l0 ≤ 9223372036854775807) (h1 : l1 ≤ 9223372036854775807) (h2 : l2 ≤ 9223372036854775807) (h3 : l3 ≤ 9223372036854775807) (h4 : l4 ≤ 9223372036854775807) :
    Calls Tryd.prog 28 #[.agg #[.slice ao l0 ac, .slice bo l1 bc, .slice co l2 cc, .slice d0 l3 dc, .slice eo l4 ec], .int .i64 1048576] w fun e w' => ∃ r : Int, e = .returned (.int .i64 r) ∧ SzP l0 l1 l2 l3 l4 r ∧ Below w.heap.size w w' := by
  go_enter Tryd.func28, Tryd.ntmps28
  go_wp2_with fail
  refine (szIntS_any ao l0 ac 1048576 _ (by decide) (by decide) h0).mono ?_
  rintro e w0 ⟨r0, rfl, g0, hw⟩
  have hw2 := hw.symm
  subst hw2
  rcases g0 with rfl | ⟨g0, k0⟩
  · go_wp2
    go_ret
    exact ⟨-1, rfl, .inl rfl, ba (Below.refl _ _) _⟩
  have hg0 : ¬ r0 < 0 := by omega
  have H0 : Hid (0 ≤ r0 ∧ r0 + l0 ≤ 1048576 ∧ l0 ≤ 1048576) := by refine ⟨g0, ?_⟩; omega
  clear k0
  go_wp2_with fail
  refine (szIntS_any bo l1 bc r0 _ (by have := H0.out; omega) H0.out.1 h1).mono ?_
  rintro e w1 ⟨r1, rfl, g1, hw⟩
  have hw2 := hw.symm
  subst hw2
  rcases g1 with rfl | ⟨g1, k1⟩
  · go_wp2
    go_ret
    exact ⟨-1, rfl, .inl rfl, ba (Below.refl _ _) _⟩
  have hg1 : ¬ r1 < 0 := by omega
  have H1 : Hid (0 ≤ r1 ∧ r1 + l1 ≤ 1048576 ∧ l0 ≤ 1048576 ∧ l1 ≤ 1048576) := by have := H0.out; refine ⟨g1, ?_⟩; omega
  clear k1 hg0
  go_wp2_with fail
  refine (szIntS_any co l2 cc r1 _ (by have := H1.out; omega) H1.out.1 h2).mono ?_
  rintro e w2 ⟨r2, rfl, g2, hw⟩
  have hw2 := hw.symm
  subst hw2
  rcases g2 with rfl | ⟨g2, k2⟩
  · go_wp2
    go_ret
    exact ⟨-1, rfl, .inl rfl, ba (Below.refl _ _) _⟩
  have hg2 : ¬ r2 < 0 := by omega
  have H2 : Hid (0 ≤ r2 ∧ r2 + l2 ≤ 1048576 ∧ l0 ≤ 1048576 ∧ l1 ≤ 1048576 ∧ l2 ≤ 1048576) := by have := H1.out; refine ⟨g2, ?_⟩; omega
  clear k2 hg1
  go_wp2_with fail
  refine (szIntS_any d0 l3 dc r2 _ (by have := H2.out; omega) H2.out.1 h3).mono ?_
  rintro e w3 ⟨r3, rfl, g3, hw⟩
  have hw2 := hw.symm
  subst hw2
  rcases g3 with rfl | ⟨g3, k3⟩
  · go_wp2
    go_ret
    exact ⟨-1, rfl, .inl rfl, ba (Below.refl _ _) _⟩
  have hg3 : ¬ r3 < 0 := by omega
  have H3 : Hid (0 ≤ r3 ∧ r3 + l3 ≤ 1048576 ∧ l0 ≤ 1048576 ∧ l1 ≤ 1048576 ∧ l2 ≤ 1048576 ∧ l3 ≤ 1048576) := by have := H2.out; refine ⟨g3, ?_⟩; omega
  clear k3 hg2
  go_wp2_with fail
  refine (szIntS_any eo l4 ec r3 _ (by have := H3.out; omega) H3.out.1 h4).mono ?_
  rintro e w4 ⟨r4, rfl, g4, hw⟩
  have hw2 := hw.symm
  subst hw2
  rcases g4 with rfl | ⟨g4, k4⟩
  · go_wp2
    go_ret
    exact ⟨-1, rfl, .inl rfl, ba (Below.refl _ _) _⟩
  have hg4 : ¬ r4 < 0 := by omega
  have H4 : Hid (0 ≤ r4 ∧ r4 + l4 ≤ 1048576 ∧ l0 ≤ 1048576 ∧ l1 ≤ 1048576 ∧ l2 ≤ 1048576 ∧ l3 ≤ 1048576 ∧ l4 ≤ 1048576) := by have := H3.out; refine ⟨g4, ?_⟩; omega
  clear k4 hg3
  go_wp2
  go_ret
  exact ⟨r4, rfl, .inr ⟨H4.out.1, by have := H4.out; omega, by have := H4.out; omega, by have := H4.out; omega, by have := H4.out; omega, by have := H4.out; omega⟩, ba (Below.refl _ _) _⟩

/-- What lies there while a rule is copied. -/
structure TcS (w : World) (B : Nat) (W : World) (s0 s1 s2 s3 s4 x0 x1 x2 x3 x4 : Value) : Prop where
  z0 : B5 41 W B s0 s1 s2 s3 s4
  z1 : B5 26 W (B + 1) (.slice none 0 0) (.slice none 0 0) (.slice none 0 0) (.slice none 0 0) (.slice none 0 0)
  z2 : B5 26 W (B + 1 + 1) x0 x1 x2 x3 x4
  be : Below B w W
section
variable {w W W' : World} {B : Nat} {s0 s1 s2 s3 s4 x0 x1 x2 x3 x4 : Value}
theorem TcS.lt (h : TcS w B W s0 s1 s2 s3 s4 x0 x1 x2 x3 x4) : B + 1 + 1 < W.heap.size := h.z2.lt
theorem TcS.up (h : TcS w B W s0 s1 s2 s3 s4 x0 x1 x2 x3 x4) (hb : Below W.heap.size W W') : TcS w B W' s0 s1 s2 s3 s4 x0 x1 x2 x3 x4 := ⟨h.z0.up hb, h.z1.up hb, h.z2.up hb, h.be.trans (hb.mono (by have := h.lt; omega))⟩
theorem TcS.p0 (h : TcS w B W s0 s1 s2 s3 s4 x0 x1 x2 x3 x4) (u : Value) : TcS w B (W.setCell ⟨B + 1 + 1, 0, none⟩ u) s0 s1 s2 s3 s4 u x1 x2 x3 x4 := ⟨h.z0.far (by show B + 1 + 1 ≠ B; omega) _, h.z1.far (by show B + 1 + 1 ≠ B + 1; omega) _, h.z2.s0 u, Below.setCell h.be (by show B ≤ B + 1 + 1; omega) _⟩
theorem TcS.p1 (h : TcS w B W s0 s1 s2 s3 s4 x0 x1 x2 x3 x4) (u : Value) : TcS w B (W.setCell ⟨B + 1 + 1, 1, none⟩ u) s0 s1 s2 s3 s4 x0 u x2 x3 x4 := ⟨h.z0.far (by show B + 1 + 1 ≠ B; omega) _, h.z1.far (by show B + 1 + 1 ≠ B + 1; omega) _, h.z2.s1 u, Below.setCell h.be (by show B ≤ B + 1 + 1; omega) _⟩
theorem TcS.p2 (h : TcS w B W s0 s1 s2 s3 s4 x0 x1 x2 x3 x4) (u : Value) : TcS w B (W.setCell ⟨B + 1 + 1, 2, none⟩ u) s0 s1 s2 s3 s4 x0 x1 u x3 x4 := ⟨h.z0.far (by show B + 1 + 1 ≠ B; omega) _, h.z1.far (by show B + 1 + 1 ≠ B + 1; omega) _, h.z2.s2 u, Below.setCell h.be (by show B ≤ B + 1 + 1; omega) _⟩
theorem TcS.p3 (h : TcS w B W s0 s1 s2 s3 s4 x0 x1 x2 x3 x4) (u : Value) : TcS w B (W.setCell ⟨B + 1 + 1, 3, none⟩ u) s0 s1 s2 s3 s4 x0 x1 x2 u x4 := ⟨h.z0.far (by show B + 1 + 1 ≠ B; omega) _, h.z1.far (by show B + 1 + 1 ≠ B + 1; omega) _, h.z2.s3 u, Below.setCell h.be (by show B ≤ B + 1 + 1; omega) _⟩
theorem TcS.p4 (h : TcS w B W s0 s1 s2 s3 s4 x0 x1 x2 x3 x4) (u : Value) : TcS w B (W.setCell ⟨B + 1 + 1, 4, none⟩ u) s0 s1 s2 s3 s4 x0 x1 x2 x3 u := ⟨h.z0.far (by show B + 1 + 1 ≠ B; omega) _, h.z1.far (by show B + 1 + 1 ≠ B + 1; omega) _, h.z2.s4 u, Below.setCell h.be (by show B ≤ B + 1 + 1; omega) _⟩
end
/-- What toCron answers. -/
def TcP (a b c d e : List Int) (w : World) (x : Ending) (w' : World) : Prop :=
  ∃ v0 v1 v2 v3 v4, x = .returned (.agg #[v0, v1, v2, v3, v4]) ∧ ownsR w' w.heap.size 3 v0 a ∧ ownsR w' w.heap.size 3 v1 b ∧ ownsR w' w.heap.size 3 v2 c ∧ ownsR w' w.heap.size 3 v3 d ∧ ownsR w' w.heap.size 3 v4 e ∧ Below w.heap.size w w'
set_option maxRecDepth 10000 in
set_option maxHeartbeats 4000000 in
theorem toCron_any (va vb vc vd ve : Value) (a b c d e : List Int) (w : World) (h0 : Reads w va a) (h1 : Reads w vb b) (h2 : Reads w vc c) (h3 : Reads w vd d) (h4 : Reads w ve e)
    (n0 : a.length ≤ 1048576) (n1 : b.length ≤ 1048576) (n2 : c.length ≤ 1048576) (n3 : d.length ≤ 1048576) (n4 : e.length ≤ 1048576) :
    Calls Tryd.prog 29 #[.agg #[va, vb, vc, vd, ve]] w (TcP a b c d e w) := by
  obtain ⟨ao, ac, rfl, _⟩ := id h0
  obtain ⟨bo, bc, rfl, _⟩ := id h1
  obtain ⟨co, cc, rfl, _⟩ := id h2
  obtain ⟨d0, dc, rfl, _⟩ := id h3
  obtain ⟨eo, ec, rfl, _⟩ := id h4
  have H0 : Hid (∀ W, Below w.heap.size w W → Calls Tryd.prog 60 #[.slice ao a.length ac] W fun x w' => ∃ v, x = .returned v ∧ ownsR w' W.heap.size 3 v a ∧ Below W.heap.size W w') := fun W hb => toIntS_any ao _ ac a W (h0.below hb) n0
  have H1 : Hid (∀ W, Below w.heap.size w W → Calls Tryd.prog 60 #[.slice bo b.length bc] W fun x w' => ∃ v, x = .returned v ∧ ownsR w' W.heap.size 3 v b ∧ Below W.heap.size W w') := fun W hb => toIntS_any bo _ bc b W (h1.below hb) n1
  have H2 : Hid (∀ W, Below w.heap.size w W → Calls Tryd.prog 60 #[.slice co c.length cc] W fun x w' => ∃ v, x = .returned v ∧ ownsR w' W.heap.size 3 v c ∧ Below W.heap.size W w') := fun W hb => toIntS_any co _ cc c W (h2.below hb) n2
  have H3 : Hid (∀ W, Below w.heap.size w W → Calls Tryd.prog 60 #[.slice d0 d.length dc] W fun x w' => ∃ v, x = .returned v ∧ ownsR w' W.heap.size 3 v d ∧ Below W.heap.size W w') := fun W hb => toIntS_any d0 _ dc d W (h3.below hb) n3
  have H4 : Hid (∀ W, Below w.heap.size w W → Calls Tryd.prog 60 #[.slice eo e.length ec] W fun x w' => ∃ v, x = .returned v ∧ ownsR w' W.heap.size 3 v e ∧ Below W.heap.size W w') := fun W hb => toIntS_any eo _ ec e W (h4.below hb) n4
  clear h0 h1 h2 h3 h4 n0 n1 n2 n3 n4
  generalize hl0 : a.length = l0 at *
  generalize hl1 : b.length = l1 at *
  generalize hl2 : c.length = l2 at *
  generalize hl3 : d.length = l3 at *
  generalize hl4 : e.length = l4 at *
  go_enter Tryd.func29, Tryd.ntmps29
  go_wp2_with fail
  obtain ⟨W0, hW⟩ : ∃ W, ((w.alloc (.cells #[.slice ao l0 ac, .slice bo l1 bc, .slice co l2 cc, .slice d0 l3 dc, .slice eo l4 ec] 41)).alloc (.cells #[.slice none 0 0, .slice none 0 0, .slice none 0 0, .slice none 0 0, .slice none 0 0] 26)).alloc (.cells #[.slice none 0 0, .slice none 0 0, .slice none 0 0, .slice none 0 0, .slice none 0 0] 26) = W := ⟨_, rfl⟩
  obtain ⟨B, hB⟩ : ∃ B, w.heap.size = B := ⟨_, rfl⟩
  have T0 : TcS w B W0 (.slice ao l0 ac) (.slice bo l1 bc) (.slice co l2 cc) (.slice d0 l3 dc) (.slice eo l4 ec) (.slice none 0 0) (.slice none 0 0) (.slice none 0 0) (.slice none 0 0) (.slice none 0 0) := by
    subst hB
    rw [← hW]
    refine ⟨((B5.new 41 w _ _ _ _ _).alloc _).alloc _, ?_, ?_, ba (ba (ba (Below.refl _ _) _) _) _⟩
    · have := (B5.new 26 (w.alloc (.cells #[.slice ao l0 ac, .slice bo l1 bc, .slice co l2 cc, .slice d0 l3 dc, .slice eo l4 ec] 41)) (.slice none 0 0) (.slice none 0 0) (.slice none 0 0) (.slice none 0 0) (.slice none 0 0)).alloc (.cells #[.slice none 0 0, .slice none 0 0, .slice none 0 0, .slice none 0 0, .slice none 0 0] 26)
      simpa using this
    · have := B5.new 26 ((w.alloc (.cells #[.slice ao l0 ac, .slice bo l1 bc, .slice co l2 cc, .slice d0 l3 dc, .slice eo l4 ec] 41)).alloc (.cells #[.slice none 0 0, .slice none 0 0, .slice none 0 0, .slice none 0 0, .slice none 0 0] 26)) (.slice none 0 0) (.slice none 0 0) (.slice none 0 0) (.slice none 0 0) (.slice none 0 0)
      simpa using this
  rw [hW]
  have HB : Hid (w.heap.size = B) := hB
  rw [hB]
  clear hW hB
  refine (H0.out W0 (by rw [HB.out]; exact T0.be)).mono ?_
  rintro x y0 ⟨v0, rfl, ho0, hb0⟩
  obtain ⟨a0, m0, k0, rfl⟩ := ho0.slice3
  have P0_0 : Hid (ownsR y0 (B + 1 + 1 + 1) 3 (.slice a0 m0 k0) a) := ho0.mono T0.lt
  have U0 := T0.up hb0
  clear T0 ho0 hb0 H0
  have HU0 : Hid (TcS w B y0 (.slice ao l0 ac) (.slice bo l1 bc) (.slice co l2 cc) (.slice d0 l3 dc) (.slice eo l4 ec) (.slice none 0 0) (.slice none 0 0) (.slice none 0 0) (.slice none 0 0) (.slice none 0 0)) := U0
  have q1 := U0.z2.c0
  have q2 := U0.z2.fr 0
  have q0 := U0.z0.c1
  have q3 : (y0.setCell ⟨B + 1 + 1, 0, none⟩ (.slice a0 m0 k0)).cell? ⟨B, 1, none⟩ = some (.slice bo l1 bc) := (U0.p0 _).z0.c1
  clear U0
  go_wp2_with fail
  clear q0 q1 q2 q3
  have T1' := HU0.out.p0 (.slice a0 m0 k0)
  have R0_0 : Hid (ownsR (y0.setCell ⟨B + 1 + 1, 0, none⟩ (.slice a0 m0 k0)) (B + 1 + 1 + 1) 3 (.slice a0 m0 k0) a) := P0_0.out.setB (by show B + 1 + 1 < B + 1 + 1 + 1; omega) _
  obtain ⟨W1, hW⟩ : ∃ W, y0.setCell ⟨B + 1 + 1, 0, none⟩ (.slice a0 m0 k0) = W := ⟨_, rfl⟩
  rw [hW] at T1' R0_0
  rw [hW]
  clear hW
  have T1 : TcS w B W1 (.slice ao l0 ac) (.slice bo l1 bc) (.slice co l2 cc) (.slice d0 l3 dc) (.slice eo l4 ec) (.slice a0 m0 k0) (.slice none 0 0) (.slice none 0 0) (.slice none 0 0) (.slice none 0 0) := T1'
  have Q0_0 : Hid (ownsR W1 (B + 1 + 1 + 1) 3 (.slice a0 m0 k0) a) := R0_0.out
  clear T1' HU0 R0_0 P0_0
  refine (H1.out W1 (by rw [HB.out]; exact T1.be)).mono ?_
  rintro x y1 ⟨v1, rfl, ho1, hb1⟩
  obtain ⟨a1, m1, k1, rfl⟩ := ho1.slice3
  have P0_1 : Hid (ownsR y1 (B + 1 + 1 + 1) 3 (.slice a0 m0 k0) a) := Q0_0.out.all hb1
  have P1_1 : Hid (ownsR y1 (B + 1 + 1 + 1) 3 (.slice a1 m1 k1) b) := ho1.mono T1.lt
  have U1 := T1.up hb1
  clear T1 ho1 hb1 H1
  have HU1 : Hid (TcS w B y1 (.slice ao l0 ac) (.slice bo l1 bc) (.slice co l2 cc) (.slice d0 l3 dc) (.slice eo l4 ec) (.slice a0 m0 k0) (.slice none 0 0) (.slice none 0 0) (.slice none 0 0) (.slice none 0 0)) := U1
  have q1 := U1.z2.c1
  have q2 := U1.z2.fr 1
  have q0 := U1.z0.c2
  have q3 : (y1.setCell ⟨B + 1 + 1, 1, none⟩ (.slice a1 m1 k1)).cell? ⟨B, 2, none⟩ = some (.slice co l2 cc) := (U1.p1 _).z0.c2
  clear U1
  go_wp2_with fail
  clear q0 q1 q2 q3
  have T2' := HU1.out.p1 (.slice a1 m1 k1)
  have R0_1 : Hid (ownsR (y1.setCell ⟨B + 1 + 1, 1, none⟩ (.slice a1 m1 k1)) (B + 1 + 1 + 1) 3 (.slice a0 m0 k0) a) := P0_1.out.setB (by show B + 1 + 1 < B + 1 + 1 + 1; omega) _
  have R1_1 : Hid (ownsR (y1.setCell ⟨B + 1 + 1, 1, none⟩ (.slice a1 m1 k1)) (B + 1 + 1 + 1) 3 (.slice a1 m1 k1) b) := P1_1.out.setB (by show B + 1 + 1 < B + 1 + 1 + 1; omega) _
  obtain ⟨W2, hW⟩ : ∃ W, y1.setCell ⟨B + 1 + 1, 1, none⟩ (.slice a1 m1 k1) = W := ⟨_, rfl⟩
  rw [hW] at T2' R0_1 R1_1
  rw [hW]
  clear hW
  have T2 : TcS w B W2 (.slice ao l0 ac) (.slice bo l1 bc) (.slice co l2 cc) (.slice d0 l3 dc) (.slice eo l4 ec) (.slice a0 m0 k0) (.slice a1 m1 k1) (.slice none 0 0) (.slice none 0 0) (.slice none 0 0) := T2'
  have Q0_1 : Hid (ownsR W2 (B + 1 + 1 + 1) 3 (.slice a0 m0 k0) a) := R0_1.out
  have Q1_1 : Hid (ownsR W2 (B + 1 + 1 + 1) 3 (.slice a1 m1 k1) b) := R1_1.out
  clear T2' HU1 R0_1 P0_1 R1_1 P1_1
  refine (H2.out W2 (by rw [HB.out]; exact T2.be)).mono ?_
  rintro x y2 ⟨v2, rfl, ho2, hb2⟩
  obtain ⟨a2, m2, k2, rfl⟩ := ho2.slice3
  have P0_2 : Hid (ownsR y2 (B + 1 + 1 + 1) 3 (.slice a0 m0 k0) a) := Q0_1.out.all hb2
  have P1_2 : Hid (ownsR y2 (B + 1 + 1 + 1) 3 (.slice a1 m1 k1) b) := Q1_1.out.all hb2
  have P2_2 : Hid (ownsR y2 (B + 1 + 1 + 1) 3 (.slice a2 m2 k2) c) := ho2.mono T2.lt
  have U2 := T2.up hb2
  clear T2 ho2 hb2 H2
  have HU2 : Hid (TcS w B y2 (.slice ao l0 ac) (.slice bo l1 bc) (.slice co l2 cc) (.slice d0 l3 dc) (.slice eo l4 ec) (.slice a0 m0 k0) (.slice a1 m1 k1) (.slice none 0 0) (.slice none 0 0) (.slice none 0 0)) := U2
  have q1 := U2.z2.c2
  have q2 := U2.z2.fr 2
  have q0 := U2.z0.c3
  have q3 : (y2.setCell ⟨B + 1 + 1, 2, none⟩ (.slice a2 m2 k2)).cell? ⟨B, 3, none⟩ = some (.slice d0 l3 dc) := (U2.p2 _).z0.c3
  clear U2
  go_wp2_with fail
  clear q0 q1 q2 q3
  have T3' := HU2.out.p2 (.slice a2 m2 k2)
  have R0_2 : Hid (ownsR (y2.setCell ⟨B + 1 + 1, 2, none⟩ (.slice a2 m2 k2)) (B + 1 + 1 + 1) 3 (.slice a0 m0 k0) a) := P0_2.out.setB (by show B + 1 + 1 < B + 1 + 1 + 1; omega) _
  have R1_2 : Hid (ownsR (y2.setCell ⟨B + 1 + 1, 2, none⟩ (.slice a2 m2 k2)) (B + 1 + 1 + 1) 3 (.slice a1 m1 k1) b) := P1_2.out.setB (by show B + 1 + 1 < B + 1 + 1 + 1; omega) _
  have R2_2 : Hid (ownsR (y2.setCell ⟨B + 1 + 1, 2, none⟩ (.slice a2 m2 k2)) (B + 1 + 1 + 1) 3 (.slice a2 m2 k2) c) := P2_2.out.setB (by show B + 1 + 1 < B + 1 + 1 + 1; omega) _
  obtain ⟨W3, hW⟩ : ∃ W, y2.setCell ⟨B + 1 + 1, 2, none⟩ (.slice a2 m2 k2) = W := ⟨_, rfl⟩
  rw [hW] at T3' R0_2 R1_2 R2_2
  rw [hW]
  clear hW
  have T3 : TcS w B W3 (.slice ao l0 ac) (.slice bo l1 bc) (.slice co l2 cc) (.slice d0 l3 dc) (.slice eo l4 ec) (.slice a0 m0 k0) (.slice a1 m1 k1) (.slice a2 m2 k2) (.slice none 0 0) (.slice none 0 0) := T3'
  have Q0_2 : Hid (ownsR W3 (B + 1 + 1 + 1) 3 (.slice a0 m0 k0) a) := R0_2.out
  have Q1_2 : Hid (ownsR W3 (B + 1 + 1 + 1) 3 (.slice a1 m1 k1) b) := R1_2.out
  have Q2_2 : Hid (ownsR W3 (B + 1 + 1 + 1) 3 (.slice a2 m2 k2) c) := R2_2.out
  clear T3' HU2 R0_2 P0_2 R1_2 P1_2 R2_2 P2_2
  refine (H3.out W3 (by rw [HB.out]; exact T3.be)).mono ?_
  rintro x y3 ⟨v3, rfl, ho3, hb3⟩
  obtain ⟨a3, m3, k3, rfl⟩ := ho3.slice3
  have P0_3 : Hid (ownsR y3 (B + 1 + 1 + 1) 3 (.slice a0 m0 k0) a) := Q0_2.out.all hb3
  have P1_3 : Hid (ownsR y3 (B + 1 + 1 + 1) 3 (.slice a1 m1 k1) b) := Q1_2.out.all hb3
  have P2_3 : Hid (ownsR y3 (B + 1 + 1 + 1) 3 (.slice a2 m2 k2) c) := Q2_2.out.all hb3
  have P3_3 : Hid (ownsR y3 (B + 1 + 1 + 1) 3 (.slice a3 m3 k3) d) := ho3.mono T3.lt
  have U3 := T3.up hb3
  clear T3 ho3 hb3 H3
  have HU3 : Hid (TcS w B y3 (.slice ao l0 ac) (.slice bo l1 bc) (.slice co l2 cc) (.slice d0 l3 dc) (.slice eo l4 ec) (.slice a0 m0 k0) (.slice a1 m1 k1) (.slice a2 m2 k2) (.slice none 0 0) (.slice none 0 0)) := U3
  have q1 := U3.z2.c3
  have q2 := U3.z2.fr 3
  have q0 := U3.z0.c4
  have q3 : (y3.setCell ⟨B + 1 + 1, 3, none⟩ (.slice a3 m3 k3)).cell? ⟨B, 4, none⟩ = some (.slice eo l4 ec) := (U3.p3 _).z0.c4
  clear U3
  go_wp2_with fail
  clear q0 q1 q2 q3
  have T4' := HU3.out.p3 (.slice a3 m3 k3)
  have R0_3 : Hid (ownsR (y3.setCell ⟨B + 1 + 1, 3, none⟩ (.slice a3 m3 k3)) (B + 1 + 1 + 1) 3 (.slice a0 m0 k0) a) := P0_3.out.setB (by show B + 1 + 1 < B + 1 + 1 + 1; omega) _
  have R1_3 : Hid (ownsR (y3.setCell ⟨B + 1 + 1, 3, none⟩ (.slice a3 m3 k3)) (B + 1 + 1 + 1) 3 (.slice a1 m1 k1) b) := P1_3.out.setB (by show B + 1 + 1 < B + 1 + 1 + 1; omega) _
  have R2_3 : Hid (ownsR (y3.setCell ⟨B + 1 + 1, 3, none⟩ (.slice a3 m3 k3)) (B + 1 + 1 + 1) 3 (.slice a2 m2 k2) c) := P2_3.out.setB (by show B + 1 + 1 < B + 1 + 1 + 1; omega) _
  have R3_3 : Hid (ownsR (y3.setCell ⟨B + 1 + 1, 3, none⟩ (.slice a3 m3 k3)) (B + 1 + 1 + 1) 3 (.slice a3 m3 k3) d) := P3_3.out.setB (by show B + 1 + 1 < B + 1 + 1 + 1; omega) _
  obtain ⟨W4, hW⟩ : ∃ W, y3.setCell ⟨B + 1 + 1, 3, none⟩ (.slice a3 m3 k3) = W := ⟨_, rfl⟩
  rw [hW] at T4' R0_3 R1_3 R2_3 R3_3
  rw [hW]
  clear hW
  have T4 : TcS w B W4 (.slice ao l0 ac) (.slice bo l1 bc) (.slice co l2 cc) (.slice d0 l3 dc) (.slice eo l4 ec) (.slice a0 m0 k0) (.slice a1 m1 k1) (.slice a2 m2 k2) (.slice a3 m3 k3) (.slice none 0 0) := T4'
  have Q0_3 : Hid (ownsR W4 (B + 1 + 1 + 1) 3 (.slice a0 m0 k0) a) := R0_3.out
  have Q1_3 : Hid (ownsR W4 (B + 1 + 1 + 1) 3 (.slice a1 m1 k1) b) := R1_3.out
  have Q2_3 : Hid (ownsR W4 (B + 1 + 1 + 1) 3 (.slice a2 m2 k2) c) := R2_3.out
  have Q3_3 : Hid (ownsR W4 (B + 1 + 1 + 1) 3 (.slice a3 m3 k3) d) := R3_3.out
  clear T4' HU3 R0_3 P0_3 R1_3 P1_3 R2_3 P2_3 R3_3 P3_3
  refine (H4.out W4 (by rw [HB.out]; exact T4.be)).mono ?_
  rintro x y4 ⟨v4, rfl, ho4, hb4⟩
  obtain ⟨a4, m4, k4, rfl⟩ := ho4.slice3
  have P0_4 : Hid (ownsR y4 (B + 1 + 1 + 1) 3 (.slice a0 m0 k0) a) := Q0_3.out.all hb4
  have P1_4 : Hid (ownsR y4 (B + 1 + 1 + 1) 3 (.slice a1 m1 k1) b) := Q1_3.out.all hb4
  have P2_4 : Hid (ownsR y4 (B + 1 + 1 + 1) 3 (.slice a2 m2 k2) c) := Q2_3.out.all hb4
  have P3_4 : Hid (ownsR y4 (B + 1 + 1 + 1) 3 (.slice a3 m3 k3) d) := Q3_3.out.all hb4
  have P4_4 : Hid (ownsR y4 (B + 1 + 1 + 1) 3 (.slice a4 m4 k4) e) := ho4.mono T4.lt
  have U4 := T4.up hb4
  clear T4 ho4 hb4 H4
  have HU4 : Hid (TcS w B y4 (.slice ao l0 ac) (.slice bo l1 bc) (.slice co l2 cc) (.slice d0 l3 dc) (.slice eo l4 ec) (.slice a0 m0 k0) (.slice a1 m1 k1) (.slice a2 m2 k2) (.slice a3 m3 k3) (.slice none 0 0)) := U4
  have q1 := U4.z2.c4
  have q2 := U4.z2.fr 4
  clear U4 q1 q2
  have T5 := HU4.out.p4 (.slice a4 m4 k4)
  have e0 := HU4.out.z2.c4
  have e1 := HU4.out.z2.fr 4
  have HT5 : Hid (TcS w B (y4.setCell ⟨B + 1 + 1, 4, none⟩ (.slice a4 m4 k4)) (.slice ao l0 ac) (.slice bo l1 bc) (.slice co l2 cc) (.slice d0 l3 dc) (.slice eo l4 ec) (.slice a0 m0 k0) (.slice a1 m1 k1) (.slice a2 m2 k2) (.slice a3 m3 k3) (.slice a4 m4 k4)) := T5
  have r0 := T5.z2.c0
  have s0 := T5.z1.c0
  have f0 := T5.z1.fr 0
  have r1 := T5.z2.c1
  have s1 := T5.z1.c1
  have f1 := T5.z1.fr 1
  have r2 := T5.z2.c2
  have s2 := T5.z1.c2
  have f2 := T5.z1.fr 2
  have r3 := T5.z2.c3
  have s3 := T5.z1.c3
  have f3 := T5.z1.fr 3
  have r4 := T5.z2.c4
  have s4 := T5.z1.c4
  have f4 := T5.z1.fr 4
  clear T5
  obtain ⟨V, HV⟩ : ∃ V, Hid (y4.setCell ⟨B + 1 + 1, 4, none⟩ (.slice a4 m4 k4) = V) := ⟨_, rfl⟩
  rw [HV.out] at HT5 r0 s0 f0 r1 s1 f1 r2 s2 f2 r3 s3 f3 r4 s4 f4
  go_wp2_with (rw [HV.out])
  have HE : Hid (B5 26 (set5 V (B + 1) (.slice a0 m0 k0) (.slice a1 m1 k1) (.slice a2 m2 k2) (.slice a3 m3 k3) (.slice a4 m4 k4)) (B + 1) (.slice a0 m0 k0) (.slice a1 m1 k1) (.slice a2 m2 k2) (.slice a3 m3 k3) (.slice a4 m4 k4)) := HT5.out.z1.set _ _ _ _ _
  refine bodyPost_ret (ret_c1 rfl rfl HE.out) rfl ?_
  have HW : ∀ (v : Value) (l : List Int), ownsR y4 (B + 1 + 1 + 1) 3 v l → ownsR (set5 V (B + 1) (.slice a0 m0 k0) (.slice a1 m1 k1) (.slice a2 m2 k2) (.slice a3 m3 k3) (.slice a4 m4 k4)) w.heap.size 3 v l := fun v l h => by
    rw [← HV.out, HB.out]
    exact (ownsR_set5 (h.setB (by show B + 1 + 1 < B + 1 + 1 + 1; omega) _) (by omega) _ _ _ _ _).mono (by omega)
  refine ⟨_, _, _, _, _, rfl, HW _ _ P0_4.out, HW _ _ P1_4.out, HW _ _ P2_4.out, HW _ _ P3_4.out, HW _ _ P4_4.out, ?_⟩
  rw [HB.out]
  exact below_set5 HT5.out.be (by omega) _ _ _ _ _

set_option maxRecDepth 10000 in
set_option maxHeartbeats 4000000 in
theorem eqCron_any (va vb vc vd ve ua ub uc ud ue : Value) (a b c d e : List Int) (w : World) (h0 : Reads w va a) (h1 : Reads w vb b) (h2 : Reads w vc c) (h3 : Reads w vd d) (h4 : Reads w ve e) (g0 : Reads w ua a) (g1 : Reads w ub b) (g2 : Reads w uc c) (g3 : Reads w ud d) (g4 : Reads w ue e)
    (n0 : a.length ≤ 1048577) (n1 : b.length ≤ 1048577) (n2 : c.length ≤ 1048577) (n3 : d.length ≤ 1048577) (n4 : e.length ≤ 1048577) :
    Calls Tryd.prog 30 #[.agg #[va, vb, vc, vd, ve], .agg #[ua, ub, uc, ud, ue]] w fun x w' => x = .returned (.bool true) ∧ Below w.heap.size w w' := by
  obtain ⟨ao, ac, rfl, _⟩ := id h0
  obtain ⟨bo, bc, rfl, _⟩ := id h1
  obtain ⟨co, cc, rfl, _⟩ := id h2
  obtain ⟨d0, dc, rfl, _⟩ := id h3
  obtain ⟨eo, ec, rfl, _⟩ := id h4
  obtain ⟨a2, ad, rfl, _⟩ := id g0
  obtain ⟨b2, bd, rfl, _⟩ := id g1
  obtain ⟨c2, cd, rfl, _⟩ := id g2
  obtain ⟨d2, dd, rfl, _⟩ := id g3
  obtain ⟨e2, ed, rfl, _⟩ := id g4
  have H0 : Hid (∀ W, Below w.heap.size w W → Calls Tryd.prog 61 #[.slice ao a.length ac, .slice a2 a.length ad] W fun e w' => e = .returned (.bool true) ∧ Below W.heap.size W w') := fun W hb => eqIntS_any ao a2 _ ac ad a W (h0.below hb) (g0.below hb) n0
  have H1 : Hid (∀ W, Below w.heap.size w W → Calls Tryd.prog 61 #[.slice bo b.length bc, .slice b2 b.length bd] W fun e w' => e = .returned (.bool true) ∧ Below W.heap.size W w') := fun W hb => eqIntS_any bo b2 _ bc bd b W (h1.below hb) (g1.below hb) n1
  have H2 : Hid (∀ W, Below w.heap.size w W → Calls Tryd.prog 61 #[.slice co c.length cc, .slice c2 c.length cd] W fun e w' => e = .returned (.bool true) ∧ Below W.heap.size W w') := fun W hb => eqIntS_any co c2 _ cc cd c W (h2.below hb) (g2.below hb) n2
  have H3 : Hid (∀ W, Below w.heap.size w W → Calls Tryd.prog 61 #[.slice d0 d.length dc, .slice d2 d.length dd] W fun e w' => e = .returned (.bool true) ∧ Below W.heap.size W w') := fun W hb => eqIntS_any d0 d2 _ dc dd d W (h3.below hb) (g3.below hb) n3
  have H4 : Hid (∀ W, Below w.heap.size w W → Calls Tryd.prog 61 #[.slice eo e.length ec, .slice e2 e.length ed] W fun e w' => e = .returned (.bool true) ∧ Below W.heap.size W w') := fun W hb => eqIntS_any eo e2 _ ec ed e W (h4.below hb) (g4.below hb) n4
  clear h0 h1 h2 h3 h4 g0 g1 g2 g3 g4 n0 n1 n2 n3 n4
  generalize a.length = l0 at *
  generalize b.length = l1 at *
  generalize c.length = l2 at *
  generalize d.length = l3 at *
  generalize e.length = l4 at *
  go_enter Tryd.func30, Tryd.ntmps30
  go_wp2_with fail
  obtain ⟨W0, hW⟩ : ∃ W, (w.alloc (.cells #[.slice ao l0 ac, .slice bo l1 bc, .slice co l2 cc, .slice d0 l3 dc, .slice eo l4 ec] 26)).alloc (.cells #[.slice a2 l0 ad, .slice b2 l1 bd, .slice c2 l2 cd, .slice d2 l3 dd, .slice e2 l4 ed] 26) = W := ⟨_, rfl⟩
  have Z1_0 : B5 26 W0 w.heap.size (.slice ao l0 ac) (.slice bo l1 bc) (.slice co l2 cc) (.slice d0 l3 dc) (.slice eo l4 ec) := by rw [← hW]; exact (B5.new 26 w _ _ _ _ _).alloc _
  have Z2_0 : B5 26 W0 (w.heap.size + 1) (.slice a2 l0 ad) (.slice b2 l1 bd) (.slice c2 l2 cd) (.slice d2 l3 dd) (.slice e2 l4 ed) := by
    rw [← hW]
    have := B5.new 26 (w.alloc (.cells #[.slice ao l0 ac, .slice bo l1 bc, .slice co l2 cc, .slice d0 l3 dc, .slice eo l4 ec] 26)) (.slice a2 l0 ad) (.slice b2 l1 bd) (.slice c2 l2 cd) (.slice d2 l3 dd) (.slice e2 l4 ed)
    simpa using this
  have B0 : Below w.heap.size w W0 := by rw [← hW]; exact ba (ba (Below.refl _ _) _) _
  rw [hW]
  clear hW
  refine (H0.out W0 B0).mono ?_
  rintro x W1 ⟨rfl, hb0⟩
  have B1 := Below.on B0 hb0
  have Z1_1 := Z1_0.up hb0
  have Z2_1 := Z2_0.up hb0
  clear hb0 B0 Z1_0 Z2_0 H0
  have q1 := Z1_1.c1
  have q2 := Z2_1.c1
  go_wp2_with fail
  clear q1 q2
  refine (H1.out W1 B1).mono ?_
  rintro x W2 ⟨rfl, hb1⟩
  have B2 := Below.on B1 hb1
  have Z1_2 := Z1_1.up hb1
  have Z2_2 := Z2_1.up hb1
  clear hb1 B1 Z1_1 Z2_1 H1
  have q1 := Z1_2.c2
  have q2 := Z2_2.c2
  go_wp2_with fail
  clear q1 q2
  refine (H2.out W2 B2).mono ?_
  rintro x W3 ⟨rfl, hb2⟩
  have B3 := Below.on B2 hb2
  have Z1_3 := Z1_2.up hb2
  have Z2_3 := Z2_2.up hb2
  clear hb2 B2 Z1_2 Z2_2 H2
  have q1 := Z1_3.c3
  have q2 := Z2_3.c3
  go_wp2_with fail
  clear q1 q2
  refine (H3.out W3 B3).mono ?_
  rintro x W4 ⟨rfl, hb3⟩
  have B4 := Below.on B3 hb3
  have Z1_4 := Z1_3.up hb3
  have Z2_4 := Z2_3.up hb3
  clear hb3 B3 Z1_3 Z2_3 H3
  have q1 := Z1_4.c4
  have q2 := Z2_4.c4
  go_wp2_with fail
  clear q1 q2
  refine (H4.out W4 B4).mono ?_
  rintro x W5 ⟨rfl, hb4⟩
  have B5 := Below.on B4 hb4
  have Z1_5 := Z1_4.up hb4
  have Z2_5 := Z2_4.up hb4
  clear hb4 B4 Z1_4 Z2_4 H4
  go_wp2
  go_ret
  exact ⟨rfl, B5⟩
end Go.Proofs.YtgeimliibddhmaaDoor
