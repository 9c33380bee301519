/- Hd1 -/
import Derived.Test.YtpjpheicldegkaaGreatDoorHd
import Derived.Test.YtpjpheicldegkaaGreatDoorLiy
import Derived.Test.YtpjpheicldegkaaGreatDoorGM13
namespace Go.Proofs.YtpjpheicldegkaaGreatDoor
open Go Go.RowKit

def moreB2 (ops : Array Oper) (L listed : Array Bool) (ts : List Nat) (m : Nat) : Bool :=
  Region.noSelect ops && (Region.ready .any ops L).all (· == m) && qfe .any ops m && takesB .any ops ts listed && ts.all (fun k => decide (k < m))
theorem qzb {P : Program} {l : List Oper} {Q : Exit → Act → World → Prop} {C : World → Prop} {R : Act → World → Prop} {L listed : Array Bool} {a : Act} {w : World} (ts : List Nat) (m fuel : Nat) (hw : C w) (hB : moreB2 l.toArray L listed ts m = true) (hQ : ∀ c a d v w, Q (.panic c) (Act.put a d v) w → Q (.panic c) a w)
    (h : wpTakes P l.toArray C (fun a' => qhb P .any l.toArray Q C L R fuel (takesL ts listed) a' w) ts a) : qhb P .any l.toArray Q C L R (fuel + ts.length) listed a w := by
  simp only [moreB2, Bool.and_eq_true] at hB
  obtain ⟨⟨⟨⟨h1, h2⟩, h3⟩, h4⟩, h6⟩ := hB
  exact wpAnyU_takes (P := P) (Q := Q) (C := C) (md := .any) hw h1 hQ (fun j hj => by
    rw [List.all_eq_true] at h2
    simpa using h2 j hj) h3 fuel ts listed a (fun k hk => by
      rw [List.all_eq_true] at h6
      simpa using h6 k hk) h4 h
def joinC (p1 p2 p3 p4 p5 : ByteArray) : ByteArray := p1 ++ ⟨#[32]⟩ ++ p2 ++ ⟨#[32]⟩ ++ p3 ++ ⟨#[32]⟩ ++ p4 ++ ⟨#[32]⟩ ++ p5

set_option maxRecDepth 10000 in
set_option maxHeartbeats 8000000 in
theorem head1_no (g : Nat) (pv : Value) (ln : ByteArray) (p : List ByteArray) (k : Nat) (w : World) (hp : Reads w pv p) (hk : p.length = k + 1) (h2 : k ≠ 5) :
    Calls Tryz.prog 112 #[.pointer (some ⟨g, 0, none⟩), .int .i64 1, .string ln, pv] w fun e w' => e = .returned (.bool false) ∧ Save g w w' := by
  obtain ⟨po, pc, rfl, -⟩ := id hp
  rw [hk]
  have e2 : ((k : Int) + 1 == 6) = false := beq_eq_false_iff_ne.2 (by omega)
  clear hp hk
  go_enter Tryz.func112, Tryz.ntmps112
  go_wp2
  go_ret
  exact ⟨rfl, Save.of_below (Below.refl _ _)⟩

set_option maxRecDepth 10000 in
set_option maxHeartbeats 8000000 in
theorem head1_bad (g : Nat) (pv : Value) (ln : ByteArray) (p0 p1 p2 p3 p4 p5 : ByteArray) (w : World) (hp : Reads w pv [p0, p1, p2, p3, p4, p5]) (h0 : (p0.toList == [99, 114, 111, 110]) = false) :
    Calls Tryz.prog 112 #[.pointer (some ⟨g, 0, none⟩), .int .i64 1, .string ln, pv] w fun e w' => e = .returned (.bool false) ∧ Save g w w' := by
  obtain ⟨po, pc, rfl, -⟩ := id hp
  obtain ⟨pb0, pp0, hq0, hlt0, c0⟩ := qka hp (k := 0) rfl
  subst hq0
  rw [Nat.add_zero] at c0
  clear hp
  go_enter Tryz.func112, Tryz.ntmps112
  go_wp2
  go_ret
  exact ⟨rfl, Save.of_below (Below.refl _ _)⟩

set_option maxRecDepth 10000 in
set_option maxHeartbeats 8000000 in
theorem head1_six (g : Nat) (pv tv : Value) (nm cr ln : ByteArray) (fr up : Int) (cu : Bool) (p0 p1 p2 p3 p4 p5 : ByteArray) (w : World) (hp : Reads w pv [p0, p1, p2, p3, p4, p5]) (hd : D6 w g nm cr fr up cu tv) (hs : p1.size + p2.size + p3.size + p4.size + p5.size ≤ 100000) (h0 : (p0.toList == [99, 114, 111, 110]) = true) :
    Calls Tryz.prog 112 #[.pointer (some ⟨g, 0, none⟩), .int .i64 1, .string ln, pv] w fun e w' => e = .returned (.bool (pcO (joinC p1 p2 p3 p4 p5)).isSome) ∧ D6 w' g nm (againS (joinC p1 p2 p3 p4 p5)) fr up cu tv ∧ Save g w w' := by
  obtain ⟨po, pc, rfl, -⟩ := id hp
  obtain ⟨pb0, pp0, hq0, hlt0, c0⟩ := qka hp (k := 0) rfl
  subst hq0
  rw [Nat.add_zero] at c0
  obtain ⟨pb1, pp1, hq1, hlt1, c1⟩ := qka hp (k := 1) rfl
  simp only [Option.some.injEq, Addr.mk.injEq, and_true] at hq1
  obtain ⟨e1, e2⟩ := hq1
  subst e1 e2
  obtain ⟨pb2, pp2, hq2, hlt2, c2⟩ := qka hp (k := 2) rfl
  simp only [Option.some.injEq, Addr.mk.injEq, and_true] at hq2
  obtain ⟨e1, e2⟩ := hq2
  subst e1 e2
  obtain ⟨pb3, pp3, hq3, hlt3, c3⟩ := qka hp (k := 3) rfl
  simp only [Option.some.injEq, Addr.mk.injEq, and_true] at hq3
  obtain ⟨e1, e2⟩ := hq3
  subst e1 e2
  obtain ⟨pb4, pp4, hq4, hlt4, c4⟩ := qka hp (k := 4) rfl
  simp only [Option.some.injEq, Addr.mk.injEq, and_true] at hq4
  obtain ⟨e1, e2⟩ := hq4
  subst e1 e2
  obtain ⟨pb5, pp5, hq5, hlt5, c5⟩ := qka hp (k := 5) rfl
  simp only [Option.some.injEq, Addr.mk.injEq, and_true] at hq5
  obtain ⟨e1, e2⟩ := hq5
  subst e1 e2
  have one : (ByteArray.mk #[32]).size = 1 := rfl
  have z1 : (p1 ++ ⟨#[32]⟩).size = p1.size + 1 := by rw [ByteArray.size_append, one]
  have v1 : (p1 ++ ⟨#[32]⟩ ++ p2).size = p1.size+p2.size + 1 := by rw [ByteArray.size_append, z1]; omega
  have z2 : (p1 ++ ⟨#[32]⟩ ++ p2 ++ ⟨#[32]⟩).size = p1.size+p2.size + 2 := by rw [ByteArray.size_append, one]; omega
  have v2 : (p1 ++ ⟨#[32]⟩ ++ p2 ++ ⟨#[32]⟩ ++ p3).size = p1.size+p2.size+p3.size + 2 := by rw [ByteArray.size_append, z2]; omega
  have z3 : (p1 ++ ⟨#[32]⟩ ++ p2 ++ ⟨#[32]⟩ ++ p3 ++ ⟨#[32]⟩).size = p1.size+p2.size+p3.size + 3 := by rw [ByteArray.size_append, one]; omega
  have v3 : (p1 ++ ⟨#[32]⟩ ++ p2 ++ ⟨#[32]⟩ ++ p3 ++ ⟨#[32]⟩ ++ p4).size = p1.size+p2.size+p3.size+p4.size + 3 := by rw [ByteArray.size_append, z3]; omega
  have z4 : (p1 ++ ⟨#[32]⟩ ++ p2 ++ ⟨#[32]⟩ ++ p3 ++ ⟨#[32]⟩ ++ p4 ++ ⟨#[32]⟩).size = p1.size+p2.size+p3.size+p4.size + 4 := by rw [ByteArray.size_append, one]; omega
  have v4 : (p1 ++ ⟨#[32]⟩ ++ p2 ++ ⟨#[32]⟩ ++ p3 ++ ⟨#[32]⟩ ++ p4 ++ ⟨#[32]⟩ ++ p5).size = p1.size+p2.size+p3.size+p4.size+p5.size + 4 := by rw [ByteArray.size_append, z4]; omega
  have HPC : Hid (∀ W, Calls Tryz.prog 120 #[.string (p1 ++ ⟨#[32]⟩ ++ p2 ++ ⟨#[32]⟩ ++ p3 ++ ⟨#[32]⟩ ++ p4 ++ ⟨#[32]⟩ ++ p5)] W (PcP (joinC p1 p2 p3 p4 p5) W)) := fun W => parseCron_any (joinC p1 p2 p3 p4 p5) W (by show (p1 ++ ⟨#[32]⟩ ++ p2 ++ ⟨#[32]⟩ ++ p3 ++ ⟨#[32]⟩ ++ p4 ++ ⟨#[32]⟩ ++ p5).size ≤ _; rw [v4]; omega)
  clear one
  have hgl := hd.lt
  have HD : Hid (D6 w g nm cr fr up cu tv) := hd
  generalize joinC p1 p2 p3 p4 p5 = js at *
  obtain ⟨tx, HTX⟩ : ∃ x, Hid (againS js = x) := ⟨_, rfl⟩
  obtain ⟨q2, HQ2⟩ : ∃ q, Hid ((pcO js).isSome = q) := ⟨_, rfl⟩
  rw [HTX.out, HQ2.out]
  have j1 := Wd.cell c1
  have j2 := Wd.cell c2
  have j3 := Wd.cell c3
  have j4 := Wd.cell c4
  have j5 := Wd.cell c5
  clear hp hd
  go_enter Tryz.func112, Tryz.ntmps112
  go_wp2
  have BD : Below w.heap.size w w.drew := (Below.refl _ _).drew
  refine qha (fun w' => ∃ x : Wd w, w' = x.at') [0, 1, 2, 3, 4, 5, 6, 7, 8, 9, 10, 11, 12, 13, 14, 15, 16, 17, 18, 19, 20, 21, 22] 29 6 (by kernel_rfl) (by decide) (by decide) (by kernel_rfl) (fun _ _ d _ _ h => by cases d <;> exact h) ⟨⟨w.drew, BD⟩, rfl⟩ ?_
  repeat (refine qea rfl (by first | (intro x h; cases h; done) | (intro x h; cases h; exact ⟨_, rfl⟩)) ?_; go_big_quiet_step (fail); refine wpQuiet_nil ?_)
  refine qda ?_
  clear j1 j2 j3 j4 j5 c0 c1 c2 c3 c4 c5 z1 v1 z2 v2 z3 v3 z4 v4
  refine qod (fuel := 5) (i := 23) (j := 27) (by kernel_rfl) rfl rfl rfl rfl ?_ ?_
  · intro K hK
    go_wp2_with fail
    refine (HPC.out _).mono ?_
    rintro e V1 ⟨v0, v1, v2, v3, v4, rfl, o0, o1, o2, o3, o4, hb1⟩
    have BV1 : Below w.heap.size w V1 := Below.on BD hb1
    rw [HQ2.out]
    obtain ⟨a0, k0, rfl⟩ := o0.slice
    obtain ⟨a1, k1, rfl⟩ := o1.slice
    obtain ⟨a2, k2, rfl⟩ := o2.slice
    obtain ⟨a3, k3, rfl⟩ := o3.slice
    obtain ⟨a4, k4, rfl⟩ := o4.slice
    have HCT : Hid (∀ W, Reads W (.slice a0 (pcN (pcO js) 0).length k0) (pcN (pcO js) 0) ∧ Reads W (.slice a1 (pcN (pcO js) 1).length k1) (pcN (pcO js) 1) ∧ Reads W (.slice a2 (pcN (pcO js) 2).length k2) (pcN (pcO js) 2) ∧ Reads W (.slice a3 (pcN (pcO js) 3).length k3) (pcN (pcO js) 3) ∧ Reads W (.slice a4 (pcN (pcO js) 4).length k4) (pcN (pcO js) 4) → Calls Tryz.prog 121 #[.agg #[.slice a0 (pcN (pcO js) 0).length k0, .slice a1 (pcN (pcO js) 1).length k1, .slice a2 (pcN (pcO js) 2).length k2, .slice a3 (pcN (pcO js) 3).length k3, .slice a4 (pcN (pcO js) 4).length k4]] W fun x w' => ∃ b, x = .returned (.tuple #[.string tx, .bool b]) ∧ Below W.heap.size W w') := by
      rintro W ⟨r0, r1, r2, r3, r4⟩
      have := cronText_any _ _ _ _ _ _ _ _ _ _ W r0 r1 r2 r3 r4 (by have := qbd js 0; omega) (by have := qbd js 1; omega) (by have := qbd js 2; omega) (by have := qbd js 3; omega) (by have := qbd js 4; omega)
      rw [show cronX _ _ _ _ _ = tx from HTX.out] at this
      exact this.mono fun _ _ h => ⟨_, h⟩
    have HRR : Hid (∀ W, Below V1.heap.size V1 W → Reads W (.slice a0 (pcN (pcO js) 0).length k0) (pcN (pcO js) 0) ∧ Reads W (.slice a1 (pcN (pcO js) 1).length k1) (pcN (pcO js) 1) ∧ Reads W (.slice a2 (pcN (pcO js) 2).length k2) (pcN (pcO js) 2) ∧ Reads W (.slice a3 (pcN (pcO js) 3).length k3) (pcN (pcO js) 3) ∧ Reads W (.slice a4 (pcN (pcO js) 4).length k4) (pcN (pcO js) 4)) := fun W hb => ⟨o0.reads.below hb, o1.reads.below hb, o2.reads.below hb, o3.reads.below hb, o4.reads.below hb⟩
    clear o0 o1 o2 o3 o4 hb1 HPC
    generalize (pcN (pcO js) 0).length = l0 at *
    generalize (pcN (pcO js) 1).length = l1 at *
    generalize (pcN (pcO js) 2).length = l2 at *
    generalize (pcN (pcO js) 3).length = l3 at *
    generalize (pcN (pcO js) 4).length = l4 at *
    go_wp2
    refine hK.out _ _ ⟨⟨V1, BV1⟩, rfl⟩ ?_
    clear hK K
    refine qzb [24, 25, 26] 29 2 ⟨⟨V1, BV1⟩, rfl⟩ (by kernel_rfl) (fun _ _ d _ _ h => by cases d <;> exact h) ?_
    repeat (refine qea rfl (by first | (intro x h; cases h; done) | (intro x h; cases h; exact ⟨_, rfl⟩)) ?_; go_big_quiet_step (fail); refine wpQuiet_nil ?_)
    refine qda ?_
    refine qfa (fuel := 1) (i := 27) (by kernel_rfl) rfl rfl ?_
    intro K hK
    go_wp2
    refine hK.out _ _ ⟨⟨_, ba BV1 _⟩, rfl⟩ ?_
    clear hK K
    refine qfa (fuel := 0) (i := 28) (by kernel_rfl) rfl rfl ?_
    intro K hK
    go_wp2
    refine hK.out _ _ ⟨⟨_, ba BV1 _⟩, rfl⟩ ?_
    clear hK K
    refine qoa (by kernel_rfl) ?_
    simp only [List.drop_succ_cons, List.drop_zero]
    go_wp2_with fail
    refine (HCT.out _ (HRR.out _ (ba (Below.refl _ _) _))).mono ?_
    rintro e V2 ⟨bb, rfl, hb2⟩
    have BV2 : Below w.heap.size w V2 := Below.on (ba BV1 _) hb2
    have HD2 := HD.out.on BV2 hgl
    have HEND : Hid (D6 (V2.setCell ⟨g, 1, none⟩ (.string tx)) g nm tx fr up cu tv) := HD2.s1 tx
    have gc := HD2.c1
    have gf := HD2.fz 1
    clear HD2 HCT HRR hb2
    go_wp2
    go_ret
    exact ⟨rfl, HEND.out, qec BV2 1 _⟩
  · intro K hK
    go_wp2
    obtain ⟨V1, hV1⟩ : ∃ V, (w.alloc (.cells #[.slice none 0 0, .slice none 0 0, .slice none 0 0, .slice none 0 0, .slice none 0 0] 194)).drew = V := ⟨_, rfl⟩
    have BV1 : Below w.heap.size w V1 := by rw [← hV1]; exact (ba (Below.refl _ _) _).drew
    have Z1 : Hid (B5 194 V1 w.heap.size (.slice none 0 0) (.slice none 0 0) (.slice none 0 0) (.slice none 0 0) (.slice none 0 0)) := by show B5 194 V1 w.heap.size _ _ _ _ _; rw [← hV1]; exact B5.new 194 w _ _ _ _ _
    rw [hV1]
    clear hV1
    refine hK.out _ _ ⟨⟨V1, BV1⟩, rfl⟩ ?_
    clear hK K
    refine qfa (fuel := 4) (i := 23) (by kernel_rfl) rfl rfl ?_
    intro K hK
    go_wp2_with fail
    refine (HPC.out _).mono ?_
    rintro e V2 ⟨v0, v1, v2, v3, v4, rfl, o0, o1, o2, o3, o4, hb1⟩
    have BV2 : Below w.heap.size w V2 := Below.on BV1 hb1
    have hbl := Z1.out.lt
    rw [HQ2.out]
    obtain ⟨a0, k0, rfl⟩ := o0.slice
    obtain ⟨a1, k1, rfl⟩ := o1.slice
    obtain ⟨a2, k2, rfl⟩ := o2.slice
    obtain ⟨a3, k3, rfl⟩ := o3.slice
    obtain ⟨a4, k4, rfl⟩ := o4.slice
    have HCT : Hid (∀ W, Reads W (.slice a0 (pcN (pcO js) 0).length k0) (pcN (pcO js) 0) ∧ Reads W (.slice a1 (pcN (pcO js) 1).length k1) (pcN (pcO js) 1) ∧ Reads W (.slice a2 (pcN (pcO js) 2).length k2) (pcN (pcO js) 2) ∧ Reads W (.slice a3 (pcN (pcO js) 3).length k3) (pcN (pcO js) 3) ∧ Reads W (.slice a4 (pcN (pcO js) 4).length k4) (pcN (pcO js) 4) → Calls Tryz.prog 121 #[.agg #[.slice a0 (pcN (pcO js) 0).length k0, .slice a1 (pcN (pcO js) 1).length k1, .slice a2 (pcN (pcO js) 2).length k2, .slice a3 (pcN (pcO js) 3).length k3, .slice a4 (pcN (pcO js) 4).length k4]] W fun x w' => ∃ b, x = .returned (.tuple #[.string tx, .bool b]) ∧ Below W.heap.size W w') := by
      rintro W ⟨r0, r1, r2, r3, r4⟩
      have := cronText_any _ _ _ _ _ _ _ _ _ _ W r0 r1 r2 r3 r4 (by have := qbd js 0; omega) (by have := qbd js 1; omega) (by have := qbd js 2; omega) (by have := qbd js 3; omega) (by have := qbd js 4; omega)
      rw [show cronX _ _ _ _ _ = tx from HTX.out] at this
      exact this.mono fun _ _ h => ⟨_, h⟩
    have Z2 := Z1.out.up hb1
    have HRR : Hid (∀ u0 u1 u2 u3 u4 : Value, Reads (set5 V2 w.heap.size u0 u1 u2 u3 u4) (.slice a0 (pcN (pcO js) 0).length k0) (pcN (pcO js) 0) ∧ Reads (set5 V2 w.heap.size u0 u1 u2 u3 u4) (.slice a1 (pcN (pcO js) 1).length k1) (pcN (pcO js) 1) ∧ Reads (set5 V2 w.heap.size u0 u1 u2 u3 u4) (.slice a2 (pcN (pcO js) 2).length k2) (pcN (pcO js) 2) ∧ Reads (set5 V2 w.heap.size u0 u1 u2 u3 u4) (.slice a3 (pcN (pcO js) 3).length k3) (pcN (pcO js) 3) ∧ Reads (set5 V2 w.heap.size u0 u1 u2 u3 u4) (.slice a4 (pcN (pcO js) 4).length k4) (pcN (pcO js) 4)) := fun u0 u1 u2 u3 u4 => ⟨(qbc o0 hbl u0 u1 u2 u3 u4).reads, (qbc o1 hbl u0 u1 u2 u3 u4).reads, (qbc o2 hbl u0 u1 u2 u3 u4).reads, (qbc o3 hbl u0 u1 u2 u3 u4).reads, (qbc o4 hbl u0 u1 u2 u3 u4).reads⟩
    clear o0 o1 o2 o3 o4 hb1 HPC Z1
    generalize (pcN (pcO js) 0).length = l0 at *
    generalize (pcN (pcO js) 1).length = l1 at *
    generalize (pcN (pcO js) 2).length = l2 at *
    generalize (pcN (pcO js) 3).length = l3 at *
    generalize (pcN (pcO js) 4).length = l4 at *
    have Z3 := Z2.set (.slice a0 l0 k0) (.slice a1 l1 k1) (.slice a2 l2 k2) (.slice a3 l3 k3) (.slice a4 l4 k4)
    go_wp2
    refine hK.out _ _ ⟨⟨V2, BV2⟩, rfl⟩ ?_
    clear hK K
    refine qzb [24, 25, 26] 29 1 ⟨⟨V2, BV2⟩, rfl⟩ (by kernel_rfl) (fun _ _ d _ _ h => by cases d <;> exact h) ?_
    repeat (refine qea rfl (by first | (intro x h; cases h; done) | (intro x h; cases h; exact ⟨_, rfl⟩)) ?_; go_big_quiet_step (fail); refine wpQuiet_nil ?_)
    refine qda ?_
    refine qfa (fuel := 0) (i := 28) (by kernel_rfl) rfl rfl ?_
    intro K hK
    have q0 := Z2.c0
    have q1 := Z2.c1
    have q3 := Z2.c2
    have q4 := Z2.c3
    have q5 := Z2.c4
    have f0 := Z2.fr 0
    have f1 := Z2.fr 1
    have f2 := Z2.fr 2
    have f3 := Z2.fr 3
    have f4 := Z2.fr 4
    have y0 := Z3.c0
    have y1 := Z3.c1
    have y2 := Z3.c2
    have y3 := Z3.c3
    have y4 := Z3.c4
    have hb5 : Hid (Below w.heap.size w (set5 V2 w.heap.size (.slice a0 l0 k0) (.slice a1 l1 k1) (.slice a2 l2 k2) (.slice a3 l3 k3) (.slice a4 l4 k4))) := qrc BV2 (Nat.le_refl _) _ _ _ _ _
    clear Z2 Z3
    go_wp2
    refine hK.out _ _ ⟨⟨_, hb5.out⟩, rfl⟩ ?_
    clear hK K
    refine qoa (by kernel_rfl) ?_
    simp only [List.drop_succ_cons, List.drop_zero]
    go_wp2_with fail
    refine (HCT.out _ (HRR.out _ _ _ _ _)).mono ?_
    rintro e V3 ⟨bb, rfl, hb2⟩
    have BV3 : Below w.heap.size w V3 := Below.on hb5.out hb2
    have HD2 := HD.out.on BV3 hgl
    have HEND : Hid (D6 (V3.setCell ⟨g, 1, none⟩ (.string tx)) g nm tx fr up cu tv) := HD2.s1 tx
    have gc := HD2.c1
    have gf := HD2.fz 1
    clear HD2 HCT HRR hb2 q0 q1 q3 q4 q5 f0 f1 f2 f3 f4 y0 y1 y2 y3 y4 hb5
    go_wp2
    go_ret
    exact ⟨rfl, HEND.out, qec BV3 1 _⟩

end Go.Proofs.YtpjpheicldegkaaGreatDoor
