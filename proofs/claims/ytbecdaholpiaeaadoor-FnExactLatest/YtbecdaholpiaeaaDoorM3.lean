/-
  The law on the latest of spans: the walk.
-/
import Derived.Test.YtbecdaholpiaeaaDoorM1
import Derived.Test.YtbecdaholpiaeaaDoorM2
import Derived.Test.YtbecdaholpiaeaaDoorSpm
namespace Go.Proofs.YtbecdaholpiaeaaDoor
open Go Go.RowKit
set_option linter.unusedVariables false

set_option maxHeartbeats 1000000 in
theorem eqSpan_one (x y : Int) (w : World) : Calls Tryd.prog 27 #[.agg #[.int .i64 x, .int .i64 y], .agg #[.int .i64 x, .int .i64 y]] w fun e w' => e = .returned (.bool true) ∧ Below w.heap.size w w' := eqSpan_any x y w
set_option maxRecDepth 10000 in
set_option maxHeartbeats 4000000 in
theorem law_Latest (ao : Option Addr) (bo : Option Addr) (co : Option Addr) (d0 : Option Addr) (eo : Option Addr) (l0 l1 l2 l3 l4 ac bc cc dc ec : Nat) (a b c d e : List Int) (fr : Int) (up : Int) (w : World) (h0 : Reads w (.slice ao l0 ac) a) (h1 : Reads w (.slice bo l1 bc) b) (h2 : Reads w (.slice co l2 cc) c) (h3 : Reads w (.slice d0 l3 dc) d) (h4 : Reads w (.slice eo l4 ec) e) (n0 : l0 ≤ 9223372036854775807) (n1 : l1 ≤ 9223372036854775807) (n2 : l2 ≤ 9223372036854775807) (n3 : l3 ≤ 9223372036854775807) (n4 : l4 ≤ 9223372036854775807) (hg : RchIs w) :
    Calls Tryd.prog 6 #[.agg #[.slice ao l0 ac, .slice bo l1 bc, .slice co l2 cc, .slice d0 l3 dc, .slice eo l4 ec], .int .i64 fr, .int .i64 up] w fun x w' => x = .returned (.bool true) ∧ Below w.heap.size w w' := by
  have HLN : Hid (l0 = a.length ∧ l1 = b.length ∧ l2 = c.length ∧ l3 = d.length ∧ l4 = e.length) := ⟨h0.len, h1.len, h2.len, h3.len, h4.len⟩
  have HG : Hid (∀ W, Below w.heap.size w W → RchIs W) := fun W hb => hg.up hb
  obtain ⟨z, hz⟩ : ∃ z, ((lastO (spansL (fun m => nfO a b c d e m 400) fr up 200)).getD ⟨0, 0⟩).fr = z := ⟨_, rfl⟩
  obtain ⟨y, hy⟩ : ∃ z, ((lastO (spansL (fun m => nfO a b c d e m 400) fr up 200)).getD ⟨0, 0⟩).up = z := ⟨_, rfl⟩
  obtain ⟨q, hq⟩ : ∃ q, (lastO (spansL (fun m => nfO a b c d e m 400) fr up 200)).isSome = q := ⟨_, rfl⟩
  have HS : Hid (∀ (va vb vc vd ve : Value) (W : World), Below w.heap.size w W → Reads W va a → Reads W vb b → Reads W vc c → Reads W vd d → Reads W ve e → (a.length ≤ 1048577 ∧ b.length ≤ 1048577 ∧ c.length ≤ 1048577 ∧ d.length ≤ 1048577 ∧ e.length ≤ 1048577) → Calls Tryd.prog 19 #[.agg #[va, vb, vc, vd, ve], .int .i64 fr, .int .i64 up] W fun x w' => x = .returned (.tuple #[.agg #[.int .i64 z, .int .i64 y], .bool q]) ∧ Below W.heap.size W w') := fun va vb vc vd ve W hb r0 r1 r2 r3 r4 hl => by
    rw [← hz, ← hy, ← hq]; exact latest_any _ _ _ _ _ a b c d e fr up W r0 r1 r2 r3 r4 hl.1 hl.2.1 hl.2.2.1 hl.2.2.2.1 hl.2.2.2.2
  have HM : Hid (∀ (va vb vc vd ve : Value) (W : World), Below w.heap.size w W → Reads W va a → Reads W vb b → Reads W vc c → Reads W vd d → Reads W ve e → (a.length ≤ 1048577 ∧ b.length ≤ 1048577 ∧ c.length ≤ 1048577 ∧ d.length ≤ 1048577 ∧ e.length ≤ 1048577) → Calls Tryd.prog 18 #[.agg #[va, vb, vc, vd, ve], .int .i64 fr, .int .i64 up] W fun x w' => x = .returned (.tuple #[.agg #[.int .i64 z, .int .i64 y], .bool q]) ∧ Below W.heap.size W w') := fun va vb vc vd ve W hb r0 r1 r2 r3 r4 hl => by
    rw [← hz, ← hy, ← hq]; exact implLatest_any _ _ _ _ _ a b c d e fr up W r0 r1 r2 r3 r4 hl.1 hl.2.1 hl.2.2.1 hl.2.2.2.1 hl.2.2.2.2 (HG.out W hb)
  have HT : Hid ((a.length ≤ 1048576 ∧ b.length ≤ 1048576 ∧ c.length ≤ 1048576 ∧ d.length ≤ 1048576 ∧ e.length ≤ 1048576) → ∀ W, Below w.heap.size w W → Calls Tryd.prog 21 #[.agg #[.slice ao l0 ac, .slice bo l1 bc, .slice co l2 cc, .slice d0 l3 dc, .slice eo l4 ec]] W (TcP a b c d e W)) := fun hl W hb => toCron_any _ _ _ _ _ a b c d e W (h0.below hb) (h1.below hb) (h2.below hb) (h3.below hb) (h4.below hb) hl.1 hl.2.1 hl.2.2.1 hl.2.2.2.1 hl.2.2.2.2
  clear h0 h1 h2 h3 h4 hg
  clear hz hy hq
  go_enter Tryd.func6, Tryd.ntmps6
  go_wp2_with fail
  refine (szCron_try ao bo co d0 eo l0 l1 l2 l3 l4 ac bc cc dc ec _ n0 n1 n2 n3 n4).mono ?_
  rintro x w0 ⟨r, rfl, hr, hb0⟩
  have Z0 := (B5.new 44 w (.slice ao l0 ac) (.slice bo l1 bc) (.slice co l2 cc) (.slice d0 l3 dc) (.slice eo l4 ec)).up hb0
  have B0 := below_new hb0
  clear hb0 n0 n1 n2 n3 n4
  rcases hr with rfl | ⟨hr0, k0, k1, k2, k3, k4⟩
  · go_wp2
    go_ret
    exact ⟨rfl, B0⟩
  have HK : Hid (a.length ≤ 1048576 ∧ b.length ≤ 1048576 ∧ c.length ≤ 1048576 ∧ d.length ≤ 1048576 ∧ e.length ≤ 1048576) := by have := HLN.out; exact ⟨by omega, by omega, by omega, by omega, by omega⟩
  have HK1 : Hid (a.length ≤ 1048577 ∧ b.length ≤ 1048577 ∧ c.length ≤ 1048577 ∧ d.length ≤ 1048577 ∧ e.length ≤ 1048577) := by have := HK.out; exact ⟨by omega, by omega, by omega, by omega, by omega⟩
  have HT1 : Hid (∀ W, Below w.heap.size w W → Calls Tryd.prog 21 #[.agg #[.slice ao l0 ac, .slice bo l1 bc, .slice co l2 cc, .slice d0 l3 dc, .slice eo l4 ec]] W (TcP a b c d e W)) := HT.out HK.out
  clear k0 k1 k2 k3 k4 HT HLN
  have c0 := Z0.c0
  have c1 := Z0.c1
  have c2 := Z0.c2
  have c3 := Z0.c3
  have c4 := Z0.c4
  go_wp2_with fail
  refine (HT1.out _ B0).mono ?_
  rintro x w1 ⟨v0, v1, v2, v3, v4, rfl, o0, o1, o2, o3, o4, hb1⟩
  obtain ⟨x0, y0, z0, rfl⟩ := o0.slice3
  obtain ⟨x1, y1, z1, rfl⟩ := o1.slice3
  obtain ⟨x2, y2, z2, rfl⟩ := o2.slice3
  obtain ⟨x3, y3, z3, rfl⟩ := o3.slice3
  obtain ⟨x4, y4, z4, rfl⟩ := o4.slice3
  have Z1 := Z0.up hb1
  have B1 := Below.on B0 hb1
  have HO : Hid (Reads w1 (.slice x0 y0 z0) a ∧ Reads w1 (.slice x1 y1 z1) b ∧ Reads w1 (.slice x2 y2 z2) c ∧ Reads w1 (.slice x3 y3 z3) d ∧ Reads w1 (.slice x4 y4 z4) e) := ⟨o0.reads, o1.reads, o2.reads, o3.reads, o4.reads⟩
  clear c0 c1 c2 c3 c4 Z0 B0 hb1 o0 o1 o2 o3 o4
  go_wp2_with fail
  refine (HS.out _ _ _ _ _ _ B1 HO.out.1 HO.out.2.1 HO.out.2.2.1 HO.out.2.2.2.1 HO.out.2.2.2.2 HK1.out).mono ?_
  rintro x w2 ⟨rfl, hb2⟩
  have Z2 := (Z1.up hb2).alloc (.cells #[.int .i64 z, .int .i64 y] 34)
  have B2 : Below w.heap.size w (w2.alloc (.cells #[.int .i64 z, .int .i64 y] 34)) := ba (Below.on B1 hb2) _
  have A2 := C2.new 34 w2 (.int .i64 z) (.int .i64 y)
  clear Z1 B1 hb2 HO HS
  have c0 := Z2.c0
  have c1 := Z2.c1
  have c2 := Z2.c2
  have c3 := Z2.c3
  have c4 := Z2.c4
  go_wp2_with fail
  refine (HT1.out _ B2).mono ?_
  rintro x w3 ⟨u0, u1, u2, u3, u4, rfl, o0, o1, o2, o3, o4, hb3⟩
  obtain ⟨p0, q0, s0, rfl⟩ := o0.slice3
  obtain ⟨p1, q1, s1, rfl⟩ := o1.slice3
  obtain ⟨p2, q2, s2, rfl⟩ := o2.slice3
  obtain ⟨p3, q3, s3, rfl⟩ := o3.slice3
  obtain ⟨p4, q4, s4, rfl⟩ := o4.slice3
  have Z3 := Z2.up hb3
  have A3 := A2.up hb3
  have B3 := Below.on B2 hb3
  have HO : Hid (Reads (w3.alloc (.cells #[.slice p0 q0 s0, .slice p1 q1 s1, .slice p2 q2 s2, .slice p3 q3 s3, .slice p4 q4 s4] 26)) (.slice p0 q0 s0) a ∧ Reads (w3.alloc (.cells #[.slice p0 q0 s0, .slice p1 q1 s1, .slice p2 q2 s2, .slice p3 q3 s3, .slice p4 q4 s4] 26)) (.slice p1 q1 s1) b ∧ Reads (w3.alloc (.cells #[.slice p0 q0 s0, .slice p1 q1 s1, .slice p2 q2 s2, .slice p3 q3 s3, .slice p4 q4 s4] 26)) (.slice p2 q2 s2) c ∧ Reads (w3.alloc (.cells #[.slice p0 q0 s0, .slice p1 q1 s1, .slice p2 q2 s2, .slice p3 q3 s3, .slice p4 q4 s4] 26)) (.slice p3 q3 s3) d ∧ Reads (w3.alloc (.cells #[.slice p0 q0 s0, .slice p1 q1 s1, .slice p2 q2 s2, .slice p3 q3 s3, .slice p4 q4 s4] 26)) (.slice p4 q4 s4) e) := ⟨o0.reads.alloc _, o1.reads.alloc _, o2.reads.alloc _, o3.reads.alloc _, o4.reads.alloc _⟩
  have B4 : Below w.heap.size w (w3.alloc (.cells #[.slice p0 q0 s0, .slice p1 q1 s1, .slice p2 q2 s2, .slice p3 q3 s3, .slice p4 q4 s4] 26)) := ba B3 _
  have Z4 := Z3.alloc (.cells #[.slice p0 q0 s0, .slice p1 q1 s1, .slice p2 q2 s2, .slice p3 q3 s3, .slice p4 q4 s4] 26)
  have A4 := A3.up (ba (Below.refl _ _) (.cells #[.slice p0 q0 s0, .slice p1 q1 s1, .slice p2 q2 s2, .slice p3 q3 s3, .slice p4 q4 s4] 26))
  have X4 := B5.new 26 w3 (.slice p0 q0 s0) (.slice p1 q1 s1) (.slice p2 q2 s2) (.slice p3 q3 s3) (.slice p4 q4 s4)
  clear c0 c1 c2 c3 c4 Z2 Z3 B2 B3 A2 A3 hb3 o0 o1 o2 o3 o4
  go_wp2_with fail
  refine (HM.out _ _ _ _ _ _ B4 HO.out.1 HO.out.2.1 HO.out.2.2.1 HO.out.2.2.2.1 HO.out.2.2.2.2 HK1.out).mono ?_
  rintro x w5' ⟨rfl, hb5⟩
  have Z5 := (Z4.up hb5).alloc (.cells #[.int .i64 z, .int .i64 y] 34)
  have X5 := (X4.up hb5).alloc (.cells #[.int .i64 z, .int .i64 y] 34)
  have A5 := (A4.up hb5).up (ba (Below.refl _ _) (.cells #[.int .i64 z, .int .i64 y] 34))
  have D5 := C2.new 34 w5' (.int .i64 z) (.int .i64 y)
  have B5' : Below w.heap.size w (w5'.alloc (.cells #[.int .i64 z, .int .i64 y] 34)) := ba (Below.on B4 hb5) _
  have HR0 : Hid (Reads (w5'.alloc (.cells #[.int .i64 z, .int .i64 y] 34)) (.slice p0 q0 s0) a ∧ Reads (w5'.alloc (.cells #[.int .i64 z, .int .i64 y] 34)) (.slice p1 q1 s1) b ∧ Reads (w5'.alloc (.cells #[.int .i64 z, .int .i64 y] 34)) (.slice p2 q2 s2) c ∧ Reads (w5'.alloc (.cells #[.int .i64 z, .int .i64 y] 34)) (.slice p3 q3 s3) d ∧ Reads (w5'.alloc (.cells #[.int .i64 z, .int .i64 y] 34)) (.slice p4 q4 s4) e) := ⟨(HO.out.1.below hb5).alloc _, (HO.out.2.1.below hb5).alloc _, (HO.out.2.2.1.below hb5).alloc _, (HO.out.2.2.2.1.below hb5).alloc _, (HO.out.2.2.2.2.below hb5).alloc _⟩
  clear Z4 X4 B4 A4 hb5 HO HM
  have a0 := A5.c0
  have a1 := A5.c1
  have d0' := D5.c0
  have d1' := D5.c1
  go_wp2_with (go_at_call 27; refine (eqSpan_one _ _ _).mono ?_; rintro e w5 ⟨rfl, hb5⟩; have Z6 := Z5.up hb5; have X6 := X5.up hb5; have B6 := Below.on B5' hb5; have HR : Hid (Reads w5 (.slice p0 q0 s0) a ∧ Reads w5 (.slice p1 q1 s1) b ∧ Reads w5 (.slice p2 q2 s2) c ∧ Reads w5 (.slice p3 q3 s3) d ∧ Reads w5 (.slice p4 q4 s4) e) := ⟨HR0.out.1.below hb5, HR0.out.2.1.below hb5, HR0.out.2.2.1.below hb5, HR0.out.2.2.2.1.below hb5, HR0.out.2.2.2.2.below hb5⟩; clear Z5 X5 B5' HR0 A5 D5 a0 a1 d0' d1' hb5)
  have K0 := Below.cellOf (B := w5.heap.size) (W := w5) (p := ⟨w.heap.size, 0, none⟩) Z6.lt Z6.c0
  have J0 := Below.cellOf (B := w5.heap.size) (W := w5) (p := ⟨w3.heap.size, 0, none⟩) X6.lt X6.c0
  have K1 := Below.cellOf (B := w5.heap.size) (W := w5) (p := ⟨w.heap.size, 1, none⟩) Z6.lt Z6.c1
  have J1 := Below.cellOf (B := w5.heap.size) (W := w5) (p := ⟨w3.heap.size, 1, none⟩) X6.lt X6.c1
  have K2 := Below.cellOf (B := w5.heap.size) (W := w5) (p := ⟨w.heap.size, 2, none⟩) Z6.lt Z6.c2
  have J2 := Below.cellOf (B := w5.heap.size) (W := w5) (p := ⟨w3.heap.size, 2, none⟩) X6.lt X6.c2
  have K3 := Below.cellOf (B := w5.heap.size) (W := w5) (p := ⟨w.heap.size, 3, none⟩) Z6.lt Z6.c3
  have J3 := Below.cellOf (B := w5.heap.size) (W := w5) (p := ⟨w3.heap.size, 3, none⟩) X6.lt X6.c3
  have K4 := Below.cellOf (B := w5.heap.size) (W := w5) (p := ⟨w.heap.size, 4, none⟩) Z6.lt Z6.c4
  have J4 := Below.cellOf (B := w5.heap.size) (W := w5) (p := ⟨w3.heap.size, 4, none⟩) X6.lt X6.c4
  clear Z6 X6
  go_region_held3 (fun w' => Below w5.heap.size w5 w') ((first | exact (Below.refl _ _).drew | exact hS6 | exact hS7)) ((first | (go_at_call 21; refine (HT1.out _ (Below.on B6 (by assumption))).mono ?_; rintro x w6 ⟨t0, t1, t2, t3, t4, rfl, o0, o1, o2, o3, o4, hb6⟩; obtain ⟨e0, f0, g0, rfl⟩ := o0.slice3; obtain ⟨e1, f1, g1, rfl⟩ := o1.slice3; obtain ⟨e2, f2, g2, rfl⟩ := o2.slice3; obtain ⟨e3, f3, g3, rfl⟩ := o3.slice3; obtain ⟨e4, f4, g4, rfl⟩ := o4.slice3; have hS6 := keep_on (B := w5.heap.size) (W := w5) hb6 (by assumption) (Nat.le_refl _)) | (go_at_call 23; refine (eqCron_any _ _ _ _ _ _ _ _ _ _ a b c d e _ (HR.out.1.below hS6) (HR.out.2.1.below hS6) (HR.out.2.2.1.below hS6) (HR.out.2.2.2.1.below hS6) (HR.out.2.2.2.2.below hS6) o0.reads o1.reads o2.reads o3.reads o4.reads HK1.out.1 HK1.out.2.1 HK1.out.2.2.1 HK1.out.2.2.2.1 HK1.out.2.2.2.2).mono ?_; rintro x w7 ⟨rfl, hb7⟩; have hS7 := keep_on (B := w5.heap.size) (W := w5) hb7 hS6 (Nat.le_refl _))))
  clear o0 o1 o2 o3 o4 hb6 hb7 hS6 K0 K1 K2 K3 K4 J0 J1 J2 J3 J4
  have B7 := Below.on B6 hS7
  go_wp2
  go_ret
  exact ⟨rfl, B7⟩
end Go.Proofs.YtbecdaholpiaeaaDoor
