/- Hd -/
import Derived.Test.YtpjpheicldegkaaGreatDoorLin
namespace Go.Proofs.YtpjpheicldegkaaGreatDoor
open Go Go.RowKit

section
variable {w : World} {g : Nat} {nm cr : ByteArray} {fr up : Int} {cu : Bool} {tv : Value}
theorem D6.c0 (h : D6 w g nm cr fr up cu tv) : w.cell? ⟨g, 0, none⟩ = some (.string nm) := by simp [World.cell?, show w.heap[g]? = _ from h]
theorem D6.c1 (h : D6 w g nm cr fr up cu tv) : w.cell? ⟨g, 1, none⟩ = some (.string cr) := by simp [World.cell?, show w.heap[g]? = _ from h]
theorem D6.c2 (h : D6 w g nm cr fr up cu tv) : w.cell? ⟨g, 2, none⟩ = some (.int .i64 fr) := by simp [World.cell?, show w.heap[g]? = _ from h]
theorem D6.c3 (h : D6 w g nm cr fr up cu tv) : w.cell? ⟨g, 3, none⟩ = some (.int .i64 up) := by simp [World.cell?, show w.heap[g]? = _ from h]
theorem D6.c4 (h : D6 w g nm cr fr up cu tv) : w.cell? ⟨g, 4, none⟩ = some (.bool cu) := by simp [World.cell?, show w.heap[g]? = _ from h]
theorem D6.s0 (h : D6 w g nm cr fr up cu tv) (u : ByteArray) : D6 (w.setCell ⟨g, 0, none⟩ (.string u)) g u cr fr up cu tv := by simp [D6, World.setCell, Array.getElem?_modify, show w.heap[g]? = _ from h]
theorem D6.s1 (h : D6 w g nm cr fr up cu tv) (u : ByteArray) : D6 (w.setCell ⟨g, 1, none⟩ (.string u)) g nm u fr up cu tv := by simp [D6, World.setCell, Array.getElem?_modify, show w.heap[g]? = _ from h]
theorem D6.s2 (h : D6 w g nm cr fr up cu tv) (u : Int) : D6 (w.setCell ⟨g, 2, none⟩ (.int .i64 u)) g nm cr u up cu tv := by simp [D6, World.setCell, Array.getElem?_modify, show w.heap[g]? = _ from h]
theorem D6.s3 (h : D6 w g nm cr fr up cu tv) (u : Int) : D6 (w.setCell ⟨g, 3, none⟩ (.int .i64 u)) g nm cr fr u cu tv := by simp [D6, World.setCell, Array.getElem?_modify, show w.heap[g]? = _ from h]
theorem D6.s4 (h : D6 w g nm cr fr up cu tv) (u : Bool) : D6 (w.setCell ⟨g, 4, none⟩ (.bool u)) g nm cr fr up u tv := by simp [D6, World.setCell, Array.getElem?_modify, show w.heap[g]? = _ from h]
end
theorem qec {w w' : World} {g : Nat} (h : Below w.heap.size w w') (k : Nat) (u : Value) : Save g w (w'.setCell ⟨g, k, none⟩ u) := Save.setCell (p := ⟨g, k, none⟩) (Save.of_below h) rfl _

set_option maxRecDepth 10000 in
set_option maxHeartbeats 4000000 in
theorem head0_no (g : Nat) (pv tv : Value) (nm cr ln : ByteArray) (fr up : Int) (cu : Bool) (p : List ByteArray) (x : ByteArray) (k : Nat) (w : World) (hp : Reads w pv p) (hd : D6 w g nm cr fr up cu tv) (hk : p.length = k + 1) (hx : p[k]? = some x) (h2 : k ≠ 1) (hn : k ≤ 1048577) :
    Calls Tryz.prog 112 #[.pointer (some ⟨g, 0, none⟩), .int .i64 0, .string ln, pv] w fun e w' => e = .returned (.bool false) ∧ Save g w w' := by
  obtain ⟨po, pc, rfl, -⟩ := id hp
  obtain ⟨pb, pp, rfl, hlt, ck⟩ := qka hp hx
  rw [hk]
  have c0 := hd.c0
  have f0 := hd.fz 0
  have hgl := hd.lt
  have e2 : ((k : Int) + 1 == 2) = false := beq_eq_false_iff_ne.2 (by omega)
  have wk : IntKind.i64.wrap (k : Int) = k := by go_arith
  clear hp hd hx hk h2
  go_enter Tryz.func112, Tryz.ntmps112
  go_wp2
  go_ret
  exact ⟨rfl, qec (Below.refl _ _) 0 _⟩

set_option maxRecDepth 10000 in
set_option maxHeartbeats 4000000 in
theorem head0_two (g : Nat) (pv tv : Value) (nm cr ln : ByteArray) (fr up : Int) (cu : Bool) (p0 p1 : ByteArray) (w : World) (hp : Reads w pv [p0, p1]) (hd : D6 w g nm cr fr up cu tv) (hs : p1.size ≤ 100000) (hpg : ∀ b o n c, pv = .slice (some ⟨b, o, none⟩) n c → b ≠ g) :
    Calls Tryz.prog 112 #[.pointer (some ⟨g, 0, none⟩), .int .i64 0, .string ln, pv] w fun e w' => e = .returned (.bool (p0.toList == [100, 97, 103] && nameB p1)) ∧ D6 w' g p1 cr fr up cu tv ∧ Save g w w' := by
  obtain ⟨po, pc, rfl, -⟩ := id hp
  obtain ⟨pb, pp, hq, hlt, c0⟩ := qka hp (k := 0) rfl
  subst hq
  rw [Nat.add_zero] at c0
  obtain ⟨pb1, pp1, hq, hlt1, c1⟩ := qka hp (k := 1) rfl
  simp only [Option.some.injEq, Addr.mk.injEq, and_true] at hq
  obtain ⟨e1, e2⟩ := hq
  subst e1 e2
  have g0 := hd.c0
  have f0 := hd.fz 0
  have hgl := hd.lt
  have HEND : Hid (D6 (w.setCell ⟨g, 0, none⟩ (.string p1)) g p1 cr fr up cu tv) := hd.s0 p1
  obtain ⟨b, HB⟩ : ∃ b, Hid (nameB p1 = b) := ⟨_, rfl⟩
  have HNA : Hid (∀ W, Calls Tryz.prog 102 #[.string p1] W fun e w' => e = .returned (.bool b) ∧ w' = W) := by intro W; rw [← HB.out]; exact qib p1 W (by omega)
  rw [HB.out]
  have d0 : (w.setCell ⟨g, 0, none⟩ (.string p1)).cell? ⟨pb, pp, none⟩ = some (.string p0) := by
    rw [World.cell?_setCell_other _ _ _ _ (fun e => hpg pb pp _ _ rfl (congrArg Addr.block e).symm)]
    exact c0
  clear hp hd
  cases e0 : (p0.toList == [100, 97, 103])
  · go_enter Tryz.func112, Tryz.ntmps112
    go_wp2
    go_ret
    exact ⟨rfl, HEND.out, qec (Below.refl _ _) 0 _⟩
  · go_enter Tryz.func112, Tryz.ntmps112
    go_wp2_with (go_at_call 102; refine (HNA.out _).mono ?_; rintro e w' ⟨rfl, hw⟩; have hw2 := hw.symm; subst hw2)
    go_ret
    exact ⟨by simp, HEND.out, qec (Below.refl _ _) 0 _⟩

set_option maxRecDepth 10000 in
set_option maxHeartbeats 4000000 in
theorem head2_no (g : Nat) (pv : Value) (ln : ByteArray) (p : List ByteArray) (x : ByteArray) (k : Nat) (w : World) (hp : Reads w pv p) (hk : p.length = k + 1) (hx : p[k]? = some x) (h2 : k ≠ 1) (hn : k ≤ 1048577) (hs : x.size ≤ 100000) :
    Calls Tryz.prog 112 #[.pointer (some ⟨g, 0, none⟩), .int .i64 2, .string ln, pv] w fun e w' => e = .returned (.bool false) ∧ Save g w w' := by
  obtain ⟨po, pc, rfl, -⟩ := id hp
  obtain ⟨pb, pp, rfl, hlt, ck⟩ := qka hp hx
  rw [hk]
  have e2 : ¬ ((k : Int) + 1 = 2) := by omega
  have wk : IntKind.i64.wrap (k : Int) = k := by go_arith
  have HRD : Hid (∀ W, Calls Tryz.prog 122 #[.string x] W fun e w' => e = .returned (.tuple #[.int .i64 (rd x).1, .bool (rd x).2]) ∧ Below W.heap.size W w') := fun W => qla x W (by omega)
  generalize (rd x).1 = rn at HRD
  generalize (rd x).2 = ro at HRD
  clear hp hx hk h2
  go_enter Tryz.func112, Tryz.ntmps112
  go_wp2_with fail
  refine (HRD.out _).mono ?_
  rintro e w2 ⟨rfl, hb⟩
  go_wp2
  go_ret
  exact ⟨rfl, Save.of_below hb⟩

set_option maxRecDepth 10000 in
set_option maxHeartbeats 4000000 in
theorem head2_bad (g : Nat) (pv : Value) (ln : ByteArray) (p0 p1 : ByteArray) (w : World) (hp : Reads w pv [p0, p1]) (hs : p1.size ≤ 100000) (hbad : ((rd p1).2 && decide ((rd p1).1 ≤ 68374079)) = false) :
    Calls Tryz.prog 112 #[.pointer (some ⟨g, 0, none⟩), .int .i64 2, .string ln, pv] w fun e w' => e = .returned (.bool false) ∧ Save g w w' := by
  obtain ⟨po, pc, rfl, -⟩ := id hp
  obtain ⟨pb, pp, hq, hlt, c0⟩ := qka hp (k := 0) rfl
  subst hq
  rw [Nat.add_zero] at c0
  obtain ⟨pb1, pp1, hq, hlt1, c1⟩ := qka hp (k := 1) rfl
  simp only [Option.some.injEq, Addr.mk.injEq, and_true] at hq
  obtain ⟨e1, e2⟩ := hq
  subst e1 e2
  have HRD : Hid (∀ W, Calls Tryz.prog 122 #[.string p1] W fun e w' => e = .returned (.tuple #[.int .i64 (rd p1).1, .bool (rd p1).2]) ∧ Below W.heap.size W w') := fun W => qla p1 W (by omega)
  generalize (rd p1).1 = rn at HRD hbad
  generalize (rd p1).2 = ro at HRD hbad
  clear hp
  cases ro
  · clear hbad
    go_enter Tryz.func112, Tryz.ntmps112
    go_wp2_with fail
    refine (HRD.out _).mono ?_
    rintro e w2 ⟨rfl, hb⟩
    go_wp2
    go_ret
    exact ⟨rfl, Save.of_below hb⟩
  · simp only [Bool.true_and, decide_eq_false_iff_not] at hbad
    have hb1 : decide (68374079 < rn) = true := decide_eq_true (by omega)
    have hb2 : 68374079 < rn := by omega
    clear hbad
    go_enter Tryz.func112, Tryz.ntmps112
    go_wp2_with fail
    refine (HRD.out _).mono ?_
    rintro e w2 ⟨rfl, hb⟩
    go_wp2
    go_ret
    exact ⟨rfl, Save.of_below hb⟩

set_option maxRecDepth 10000 in
set_option maxHeartbeats 4000000 in
theorem head2_two (g : Nat) (pv tv : Value) (nm cr ln : ByteArray) (fr up : Int) (cu : Bool) (p0 p1 : ByteArray) (rn : Int) (w : World) (hp : Reads w pv [p0, p1]) (hd : D6 w g nm cr fr up cu tv) (hs : p1.size ≤ 100000) (hpg : ∀ b o n c, pv = .slice (some ⟨b, o, none⟩) n c → b ≠ g) (hok : rd p1 = (rn, true)) (hrn : rn ≤ 68374079) :
    Calls Tryz.prog 112 #[.pointer (some ⟨g, 0, none⟩), .int .i64 2, .string ln, pv] w fun e w' => e = .returned (.bool (p0.toList == [102, 114, 111, 109])) ∧ D6 w' g nm cr rn up cu tv ∧ Save g w w' := by
  obtain ⟨po, pc, rfl, -⟩ := id hp
  obtain ⟨pb, pp, hq, hlt, c0⟩ := qka hp (k := 0) rfl
  subst hq
  rw [Nat.add_zero] at c0
  obtain ⟨pb1, pp1, hq, hlt1, c1⟩ := qka hp (k := 1) rfl
  simp only [Option.some.injEq, Addr.mk.injEq, and_true] at hq
  obtain ⟨e1, e2⟩ := hq
  subst e1 e2
  have HRD : Hid (∀ W, Calls Tryz.prog 122 #[.string p1] W fun e w' => e = .returned (.tuple #[.int .i64 rn, .bool true]) ∧ Below W.heap.size W w') := by intro W; have := qla p1 W (by omega); rw [hok] at this; exact this
  have hr1 : decide (68374079 < rn) = false := decide_eq_false (by omega)
  have hgl := hd.lt
  have HD : Hid (D6 w g nm cr fr up cu tv) := hd
  clear hp hd hok
  cases e0 : (p0.toList == [102, 114, 111, 109])
  · go_enter Tryz.func112, Tryz.ntmps112
    go_wp2_with fail
    refine (HRD.out _).mono ?_
    rintro e w2 ⟨rfl, hb⟩
    have d0 : (w2.setCell ⟨g, 2, none⟩ (.int .i64 rn)).cell? ⟨pb, pp, none⟩ = some (.string p0) := by
      rw [World.cell?_setCell_other _ _ _ _ (fun e => hpg pb pp _ _ rfl (congrArg Addr.block e).symm)]
      exact (hb.cell hlt).trans c0
    have HD2 := HD.out.on hb hgl
    have HEND : Hid (D6 (w2.setCell ⟨g, 2, none⟩ (.int .i64 rn)) g nm cr rn up cu tv) := HD2.s2 rn
    have gc := HD2.c2
    have gf := HD2.fz 2
    have hnone := True.intro
    clear HD2
    go_wp2
    go_ret
    exact ⟨rfl, HEND.out, qec hb 2 _⟩
  · go_enter Tryz.func112, Tryz.ntmps112
    go_wp2_with fail
    refine (HRD.out _).mono ?_
    rintro e w2 ⟨rfl, hb⟩
    have d0 : (w2.setCell ⟨g, 2, none⟩ (.int .i64 rn)).cell? ⟨pb, pp, none⟩ = some (.string p0) := by
      rw [World.cell?_setCell_other _ _ _ _ (fun e => hpg pb pp _ _ rfl (congrArg Addr.block e).symm)]
      exact (hb.cell hlt).trans c0
    have HD2 := HD.out.on hb hgl
    have HEND : Hid (D6 (w2.setCell ⟨g, 2, none⟩ (.int .i64 rn)) g nm cr rn up cu tv) := HD2.s2 rn
    have gc := HD2.c2
    have gf := HD2.fz 2
    have hnone := True.intro
    clear HD2
    go_wp2
    go_ret
    exact ⟨rfl, HEND.out, qec hb 2 _⟩

set_option maxRecDepth 10000 in
set_option maxHeartbeats 4000000 in
theorem head3_no (g : Nat) (pv : Value) (ln : ByteArray) (p : List ByteArray) (x : ByteArray) (k : Nat) (w : World) (hp : Reads w pv p) (hk : p.length = k + 1) (hx : p[k]? = some x) (h2 : k ≠ 1) (hn : k ≤ 1048577) (hs : x.size ≤ 100000) :
    Calls Tryz.prog 112 #[.pointer (some ⟨g, 0, none⟩), .int .i64 3, .string ln, pv] w fun e w' => e = .returned (.bool false) ∧ Save g w w' := by
  obtain ⟨po, pc, rfl, -⟩ := id hp
  obtain ⟨pb, pp, rfl, hlt, ck⟩ := qka hp hx
  rw [hk]
  have e2 : ¬ ((k : Int) + 1 = 2) := by omega
  have wk : IntKind.i64.wrap (k : Int) = k := by go_arith
  have HRD : Hid (∀ W, Calls Tryz.prog 122 #[.string x] W fun e w' => e = .returned (.tuple #[.int .i64 (rd x).1, .bool (rd x).2]) ∧ Below W.heap.size W w') := fun W => qla x W (by omega)
  generalize (rd x).1 = rn at HRD
  generalize (rd x).2 = ro at HRD
  clear hp hx hk h2
  go_enter Tryz.func112, Tryz.ntmps112
  go_wp2_with fail
  refine (HRD.out _).mono ?_
  rintro e w2 ⟨rfl, hb⟩
  go_wp2
  go_ret
  exact ⟨rfl, Save.of_below hb⟩

set_option maxRecDepth 10000 in
set_option maxHeartbeats 4000000 in
theorem head3_bad (g : Nat) (pv : Value) (ln : ByteArray) (p0 p1 : ByteArray) (w : World) (hp : Reads w pv [p0, p1]) (hs : p1.size ≤ 100000) (hbad : ((rd p1).2 && decide ((rd p1).1 ≤ 68374079)) = false) :
    Calls Tryz.prog 112 #[.pointer (some ⟨g, 0, none⟩), .int .i64 3, .string ln, pv] w fun e w' => e = .returned (.bool false) ∧ Save g w w' := by
  obtain ⟨po, pc, rfl, -⟩ := id hp
  obtain ⟨pb, pp, hq, hlt, c0⟩ := qka hp (k := 0) rfl
  subst hq
  rw [Nat.add_zero] at c0
  obtain ⟨pb1, pp1, hq, hlt1, c1⟩ := qka hp (k := 1) rfl
  simp only [Option.some.injEq, Addr.mk.injEq, and_true] at hq
  obtain ⟨e1, e2⟩ := hq
  subst e1 e2
  have HRD : Hid (∀ W, Calls Tryz.prog 122 #[.string p1] W fun e w' => e = .returned (.tuple #[.int .i64 (rd p1).1, .bool (rd p1).2]) ∧ Below W.heap.size W w') := fun W => qla p1 W (by omega)
  generalize (rd p1).1 = rn at HRD hbad
  generalize (rd p1).2 = ro at HRD hbad
  clear hp
  cases ro
  · clear hbad
    go_enter Tryz.func112, Tryz.ntmps112
    go_wp2_with fail
    refine (HRD.out _).mono ?_
    rintro e w2 ⟨rfl, hb⟩
    go_wp2
    go_ret
    exact ⟨rfl, Save.of_below hb⟩
  · simp only [Bool.true_and, decide_eq_false_iff_not] at hbad
    have hb1 : decide (68374079 < rn) = true := decide_eq_true (by omega)
    have hb2 : 68374079 < rn := by omega
    clear hbad
    go_enter Tryz.func112, Tryz.ntmps112
    go_wp2_with fail
    refine (HRD.out _).mono ?_
    rintro e w2 ⟨rfl, hb⟩
    go_wp2
    go_ret
    exact ⟨rfl, Save.of_below hb⟩

set_option maxRecDepth 10000 in
set_option maxHeartbeats 4000000 in
theorem head3_two (g : Nat) (pv tv : Value) (nm cr ln : ByteArray) (fr up : Int) (cu : Bool) (p0 p1 : ByteArray) (rn : Int) (w : World) (hp : Reads w pv [p0, p1]) (hd : D6 w g nm cr fr up cu tv) (hs : p1.size ≤ 100000) (hpg : ∀ b o n c, pv = .slice (some ⟨b, o, none⟩) n c → b ≠ g) (hok : rd p1 = (rn, true)) (hrn : rn ≤ 68374079) :
    Calls Tryz.prog 112 #[.pointer (some ⟨g, 0, none⟩), .int .i64 3, .string ln, pv] w fun e w' => e = .returned (.bool (p0.toList == [116, 111] && decide (fr ≤ rn))) ∧ D6 w' g nm cr fr rn cu tv ∧ Save g w w' := by
  obtain ⟨po, pc, rfl, -⟩ := id hp
  obtain ⟨pb, pp, hq, hlt, c0⟩ := qka hp (k := 0) rfl
  subst hq
  rw [Nat.add_zero] at c0
  obtain ⟨pb1, pp1, hq, hlt1, c1⟩ := qka hp (k := 1) rfl
  simp only [Option.some.injEq, Addr.mk.injEq, and_true] at hq
  obtain ⟨e1, e2⟩ := hq
  subst e1 e2
  have HRD : Hid (∀ W, Calls Tryz.prog 122 #[.string p1] W fun e w' => e = .returned (.tuple #[.int .i64 rn, .bool true]) ∧ Below W.heap.size W w') := by intro W; have := qla p1 W (by omega); rw [hok] at this; exact this
  have hr1 : decide (68374079 < rn) = false := decide_eq_false (by omega)
  have hgl := hd.lt
  have HD : Hid (D6 w g nm cr fr up cu tv) := hd
  clear hp hd hok
  cases e0 : (p0.toList == [116, 111])
  · go_enter Tryz.func112, Tryz.ntmps112
    go_wp2_with fail
    refine (HRD.out _).mono ?_
    rintro e w2 ⟨rfl, hb⟩
    have d0 : (w2.setCell ⟨g, 3, none⟩ (.int .i64 rn)).cell? ⟨pb, pp, none⟩ = some (.string p0) := by
      rw [World.cell?_setCell_other _ _ _ _ (fun e => hpg pb pp _ _ rfl (congrArg Addr.block e).symm)]
      exact (hb.cell hlt).trans c0
    have HD2 := HD.out.on hb hgl
    have HEND : Hid (D6 (w2.setCell ⟨g, 3, none⟩ (.int .i64 rn)) g nm cr fr rn cu tv) := HD2.s3 rn
    have gc := HD2.c3
    have gf := HD2.fz 3
    have gr : (w2.setCell ⟨g, 3, none⟩ (.int .i64 rn)).cell? ⟨g, 2, none⟩ = some (.int .i64 fr) := HEND.out.c2
    clear HD2
    go_wp2
    go_ret
    exact ⟨rfl, HEND.out, qec hb 3 _⟩
  · cases e9 : decide (fr ≤ rn)
    · go_enter Tryz.func112, Tryz.ntmps112
      go_wp2_with fail
      refine (HRD.out _).mono ?_
      rintro e w2 ⟨rfl, hb⟩
      have d0 : (w2.setCell ⟨g, 3, none⟩ (.int .i64 rn)).cell? ⟨pb, pp, none⟩ = some (.string p0) := by
        rw [World.cell?_setCell_other _ _ _ _ (fun e => hpg pb pp _ _ rfl (congrArg Addr.block e).symm)]
        exact (hb.cell hlt).trans c0
      have HD2 := HD.out.on hb hgl
      have HEND : Hid (D6 (w2.setCell ⟨g, 3, none⟩ (.int .i64 rn)) g nm cr fr rn cu tv) := HD2.s3 rn
      have gc := HD2.c3
      have gf := HD2.fz 3
      have gr : (w2.setCell ⟨g, 3, none⟩ (.int .i64 rn)).cell? ⟨g, 2, none⟩ = some (.int .i64 fr) := HEND.out.c2
      clear HD2
      go_wp2
      go_ret
      exact ⟨rfl, HEND.out, qec hb 3 _⟩
    · go_enter Tryz.func112, Tryz.ntmps112
      go_wp2_with fail
      refine (HRD.out _).mono ?_
      rintro e w2 ⟨rfl, hb⟩
      have d0 : (w2.setCell ⟨g, 3, none⟩ (.int .i64 rn)).cell? ⟨pb, pp, none⟩ = some (.string p0) := by
        rw [World.cell?_setCell_other _ _ _ _ (fun e => hpg pb pp _ _ rfl (congrArg Addr.block e).symm)]
        exact (hb.cell hlt).trans c0
      have HD2 := HD.out.on hb hgl
      have HEND : Hid (D6 (w2.setCell ⟨g, 3, none⟩ (.int .i64 rn)) g nm cr fr rn cu tv) := HD2.s3 rn
      have gc := HD2.c3
      have gf := HD2.fz 3
      have gr : (w2.setCell ⟨g, 3, none⟩ (.int .i64 rn)).cell? ⟨g, 2, none⟩ = some (.int .i64 fr) := HEND.out.c2
      clear HD2
      go_wp2
      go_ret
      exact ⟨rfl, HEND.out, qec hb 3 _⟩

set_option maxRecDepth 10000 in
set_option maxHeartbeats 4000000 in
theorem head4_no (g : Nat) (pv tv : Value) (nm cr ln : ByteArray) (fr up : Int) (cu : Bool) (p : List ByteArray) (x : ByteArray) (k : Nat) (w : World) (hp : Reads w pv p) (hd : D6 w g nm cr fr up cu tv) (hk : p.length = k + 1) (hx : p[0]? = some x) (h2 : k ≠ 0) :
    Calls Tryz.prog 112 #[.pointer (some ⟨g, 0, none⟩), .int .i64 4, .string ln, pv] w fun e w' => e = .returned (.bool false) ∧ Save g w w' := by
  obtain ⟨po, pc, rfl, -⟩ := id hp
  obtain ⟨pb, pp, rfl, hlt, ck⟩ := qka hp hx
  rw [hk]
  rw [Nat.add_zero] at ck
  have e2 : ((k : Int) + 1 == 1) = false := beq_eq_false_iff_ne.2 (by omega)
  have c4 := hd.c4
  have f4 := hd.fz 4
  have hgl := hd.lt
  clear hp hd hx hk
  go_enter Tryz.func112, Tryz.ntmps112
  go_wp2
  go_ret
  exact ⟨rfl, qec (Below.refl _ _) 4 _⟩

set_option maxRecDepth 10000 in
set_option maxHeartbeats 4000000 in
theorem head4_one (g : Nat) (pv tv : Value) (nm cr ln : ByteArray) (fr up : Int) (cu : Bool) (p0 : ByteArray) (w : World) (hp : Reads w pv [p0]) (hd : D6 w g nm cr fr up cu tv) (hpg : ∀ b o n c, pv = .slice (some ⟨b, o, none⟩) n c → b ≠ g) :
    Calls Tryz.prog 112 #[.pointer (some ⟨g, 0, none⟩), .int .i64 4, .string ln, pv] w fun e w' => e = .returned (.bool (p0.toList == [99, 97, 116, 99, 104, 117, 112] || p0.toList == [108, 97, 116, 101, 115, 116])) ∧ D6 w' g nm cr fr up (p0.toList == [99, 97, 116, 99, 104, 117, 112]) tv ∧ Save g w w' := by
  obtain ⟨po, pc, rfl, -⟩ := id hp
  obtain ⟨pb, pp, hq, hlt, c0⟩ := qka hp (k := 0) rfl
  subst hq
  rw [Nat.add_zero] at c0
  have hgl := hd.lt
  have c4 := hd.c4
  have f4 := hd.fz 4
  have HD : Hid (D6 w g nm cr fr up cu tv) := hd
  clear hp hd
  cases e0 : (p0.toList == [99, 97, 116, 99, 104, 117, 112])
  · cases e1 : (p0.toList == [108, 97, 116, 101, 115, 116])
    · have HEND : Hid (D6 (w.setCell ⟨g, 4, none⟩ (.bool false)) g nm cr fr up false tv) := HD.out.s4 _
      have d4 := HEND.out.c4
      have d0 : (w.setCell ⟨g, 4, none⟩ (.bool false)).cell? ⟨pb, pp, none⟩ = some (.string p0) := by
        rw [World.cell?_setCell_other _ _ _ _ (fun e => hpg pb pp _ _ rfl (congrArg Addr.block e).symm)]
        exact c0
      go_enter Tryz.func112, Tryz.ntmps112
      go_wp2
      go_ret
      exact ⟨rfl, HEND.out, qec (Below.refl _ _) 4 _⟩
    · have HEND : Hid (D6 (w.setCell ⟨g, 4, none⟩ (.bool false)) g nm cr fr up false tv) := HD.out.s4 _
      have d4 := HEND.out.c4
      have d0 : (w.setCell ⟨g, 4, none⟩ (.bool false)).cell? ⟨pb, pp, none⟩ = some (.string p0) := by
        rw [World.cell?_setCell_other _ _ _ _ (fun e => hpg pb pp _ _ rfl (congrArg Addr.block e).symm)]
        exact c0
      go_enter Tryz.func112, Tryz.ntmps112
      go_wp2
      go_ret
      exact ⟨rfl, HEND.out, qec (Below.refl _ _) 4 _⟩
  · rw [Bool.true_or]
    have HEND : Hid (D6 (w.setCell ⟨g, 4, none⟩ (.bool true)) g nm cr fr up true tv) := HD.out.s4 _
    have d4 := HEND.out.c4
    have d0 : (w.setCell ⟨g, 4, none⟩ (.bool true)).cell? ⟨pb, pp, none⟩ = some (.string p0) := by
      rw [World.cell?_setCell_other _ _ _ _ (fun e => hpg pb pp _ _ rfl (congrArg Addr.block e).symm)]
      exact c0
    go_enter Tryz.func112, Tryz.ntmps112
    go_wp2
    go_ret
    exact ⟨rfl, HEND.out, qec (Below.refl _ _) 4 _⟩

end Go.Proofs.YtpjpheicldegkaaGreatDoor
