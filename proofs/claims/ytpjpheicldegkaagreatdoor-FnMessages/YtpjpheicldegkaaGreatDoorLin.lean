/- Lin -/
import Derived.Test.YtpjpheicldegkaaGreatDoorGM10
import Derived.Test.YtpjpheicldegkaaGreatDoorGM6
import Derived.Test.YtpjpheicldegkaaGreatDoorGM1
import Derived.Test.YtpjpheicldegkaaGreatDoorPi
namespace Go.Proofs.YtpjpheicldegkaaGreatDoor
open Go Go.RowKit

theorem qie : (⟨#[116, 97, 115, 107]⟩ : ByteArray).toList = [116, 97, 115, 107] := (ByteArray.toList_eq _).trans rfl
theorem qtc : (⟨#[102, 114, 101, 101]⟩ : ByteArray).toList = [102, 114, 101, 101] := (ByteArray.toList_eq _).trans rfl
theorem qyb : (⟨#[112, 97, 115, 116]⟩ : ByteArray).toList = [112, 97, 115, 116] := (ByteArray.toList_eq _).trans rfl
def D6 (w : World) (g : Nat) (nm cr : ByteArray) (fr up : Int) (cu : Bool) (tv : Value) : Prop := w.heap[g]? = some (.cells #[.string nm, .string cr, .int .i64 fr, .int .i64 up, .bool cu, tv] 163)
section
variable {w : World} {g : Nat} {nm cr : ByteArray} {fr up : Int} {cu : Bool} {tv : Value}
theorem D6.lt (h : D6 w g nm cr fr up cu tv) : g < w.heap.size := (Array.getElem?_eq_some_iff.1 h).1
theorem D6.c5 (h : D6 w g nm cr fr up cu tv) : w.cell? ⟨g, 5, none⟩ = some tv := by simp [World.cell?, show w.heap[g]? = _ from h]
theorem D6.fz (h : D6 w g nm cr fr up cu tv) (k : Nat) : w.frozen? ⟨g, k, none⟩ = false := by simp [World.frozen?, show w.heap[g]? = _ from h]
theorem D6.s5 (h : D6 w g nm cr fr up cu tv) (u : Value) : D6 (w.setCell ⟨g, 5, none⟩ u) g nm cr fr up cu u := by simp [D6, World.setCell, Array.getElem?_modify, show w.heap[g]? = _ from h]
theorem D6.on {w' : World} {B : Nat} (h : D6 w g nm cr fr up cu tv) (hb : Below B w w') (hg : g < B) : D6 w' g nm cr fr up cu tv := (hb.block _ hg).trans h
end
def lineT (ts : List Ta) (p0 p1 p2 p3 p4 : ByteArray) : Bool := decide (p0 = ⟨#[116, 97, 115, 107]⟩) && (!decide (ts.length = 4) && ((decide (p4 = ⟨#[102, 114, 101, 101]⟩) || decide (p4 = ⟨#[112, 97, 115, 116]⟩)) && (nameB p1 && (decide (atN ts p1 < 0) && (!decide (poolN p2 = 0) && ((rd p3).2 && decide ((rd p3).1 ≤ 3)))))))

set_option maxRecDepth 10000 in
set_option maxHeartbeats 8000000 in
theorem line_no5 (g : Nat) (pv tv : Value) (nm cr : ByteArray) (fr up : Int) (cu : Bool) (ts : List Ta) (p0 p1 p2 p3 p4 : ByteArray) (w : World) (hp : Reads w pv [p0, p1, p2, p3, p4]) (hd : D6 w g nm cr fr up cu tv) (ht : Tasks w tv ts) (hn : ts.length ≤ 100000) (hs : ∀ s ∈ [p0, p1, p2, p3, p4], s.size ≤ 100000) (hno : lineT ts p0 p1 p2 p3 p4 = false) :
    Calls Tryz.prog 113 #[.pointer (some ⟨g, 0, none⟩), pv] w fun e w' => e = .returned (.bool false) ∧ Below w.heap.size w w' := by
  obtain ⟨po, pc, rfl, -⟩ := id hp
  obtain ⟨ao, cap, rfl⟩ := ht.slice
  obtain ⟨pb0, pp0, hq0, hlt0, c0⟩ := qka hp (k := 0) rfl
  subst hq0
  rw [Nat.add_zero] at c0
  obtain ⟨pb1, pp1, hq1, hlt1, c1⟩ := qka hp (k := 1) rfl
  simp only [Option.some.injEq, Addr.mk.injEq, and_true] at hq1
  obtain ⟨e1, e2⟩ := hq1
  subst e1 e2
  obtain ⟨pb2, pp2, hq2, hlt2, c2⟩ := qka hp (k := 2) rfl
  simp only [Option.some.injEq, Addr.mk.injEq, and_true] at hq2
  obtain ⟨e1, e2⟩ := hq2
  subst e1 e2
  obtain ⟨pb3, pp3, hq3, hlt3, c3⟩ := qka hp (k := 3) rfl
  simp only [Option.some.injEq, Addr.mk.injEq, and_true] at hq3
  obtain ⟨e1, e2⟩ := hq3
  subst e1 e2
  obtain ⟨pb4, pp4, hq4, hlt4, c4⟩ := qka hp (k := 4) rfl
  simp only [Option.some.injEq, Addr.mk.injEq, and_true] at hq4
  obtain ⟨e1, e2⟩ := hq4
  subst e1 e2
  have c5g := hd.c5
  have hgl := hd.lt
  have HNA : Hid (∀ W, Calls Tryz.prog 102 #[.string p1] W fun e w' => e = .returned (.bool (nameB p1)) ∧ w' = W) := fun W => qib p1 W (by have := hs p1 (by simp); omega)
  have HAT : Hid (∀ x : Wd w, Calls Tryz.prog 123 #[.slice ao ts.length cap, .string p1] x.at' fun e w' => e = .returned (.int .i64 (atN ts p1)) ∧ w' = x.at') := fun x => qzd p1 (ht.below x.ok) (by omega)
  have HPO : Hid (∀ W, Calls Tryz.prog 124 #[.string p2] W fun e w' => e = .returned (.int .i64 (poolN p2)) ∧ w' = W) := fun W => qcd p2 W
  have HRD : Hid (∀ W, Calls Tryz.prog 122 #[.string p3] W fun e w' => e = .returned (.tuple #[.int .i64 (rd p3).1, .bool (rd p3).2]) ∧ Below W.heap.size W w') := fun W => qla p3 W (by have := hs p3 (by simp); omega)
  have HNO : Hid (lineT ts p0 p1 p2 p3 p4 = false) := hno
  unfold lineT at HNO
  obtain ⟨A, HA⟩ : ∃ A, Hid (atN ts p1 = A) := ⟨_, rfl⟩
  obtain ⟨PN, HPN⟩ : ∃ A, Hid (poolN p2 = A) := ⟨_, rfl⟩
  obtain ⟨q1, HQ1⟩ : ∃ A, Hid (nameB p1 = A) := ⟨_, rfl⟩
  obtain ⟨rn, rb, HRR⟩ : ∃ A B, Hid (rd p3 = (A, B)) := ⟨_, _, rfl⟩
  rw [HA.out] at HAT HNO
  rw [HPN.out] at HPO HNO
  rw [HQ1.out] at HNA HNO
  rw [HRR.out] at HRD HNO
  clear HA HPN HQ1 HRR hno hs hp ht
  obtain ⟨nt, HNT⟩ : ∃ nt, Hid (ts.length = nt) := ⟨_, rfl⟩
  rw [HNT.out] at HAT HNO hn c5g hd
  clear HNT hd
  have q5 := Wd.cell c5g
  have k0 := Wd.cell c0
  have k1 := Wd.cell c1
  have k2 := Wd.cell c2
  have k3 := Wd.cell c3
  have k4 := Wd.cell c4
  by_cases h0 : p0 = ⟨#[116, 97, 115, 107]⟩
  case neg =>
    have e0 : (p0.toList == [116, 97, 115, 107]) = false := by rw [← qie]; exact qab h0
    go_enter Tryz.func113, Tryz.ntmps113
    go_wp2
    refine qba (by kernel_rfl) (by kernel_rfl) ?_
    repeat (go_big_quiet_step (first | (go_at_call 102; refine qaa (v := .bool q1) ?_; with_reducible exact HNA.out _) | (go_at_call 123; refine qaa (v := .int .i64 A) ?_; with_reducible exact HAT.out _) | (go_at_call 124; refine qaa (v := .int .i64 PN) ?_; with_reducible exact HPO.out _)))
    refine wpQuiet_nil ?_
    rintro _ ⟨x, rfl⟩
    go_wp2
    go_ret
    exact ⟨rfl, x.ok⟩
  have e0 : (p0.toList == [116, 97, 115, 107]) = true := by rw [← qie]; exact eq_list h0
  by_cases h1 : nt = 4
  case pos =>
    subst h1
    go_enter Tryz.func113, Tryz.ntmps113
    go_wp2
    refine qba (by kernel_rfl) (by kernel_rfl) ?_
    repeat (go_big_quiet_step (first | (go_at_call 102; refine qaa (v := .bool q1) ?_; with_reducible exact HNA.out _) | (go_at_call 123; refine qaa (v := .int .i64 A) ?_; with_reducible exact HAT.out _) | (go_at_call 124; refine qaa (v := .int .i64 PN) ?_; with_reducible exact HPO.out _)))
    refine wpQuiet_nil ?_
    rintro _ ⟨x, rfl⟩
    go_wp2
    go_ret
    exact ⟨rfl, x.ok⟩
  have e1 : ((nt : Int) == 4) = false := beq_eq_false_iff_ne.2 (by omega)
  by_cases h2 : p4 = ⟨#[102, 114, 101, 101]⟩ ∨ p4 = ⟨#[112, 97, 115, 116]⟩
  case neg =>
    have e2 : (p4.toList == [102, 114, 101, 101]) = false := by rw [← qtc]; exact qab fun e => h2 (.inl e)
    have e3 : (p4.toList == [112, 97, 115, 116]) = false := by rw [← qyb]; exact qab fun e => h2 (.inr e)
    go_enter Tryz.func113, Tryz.ntmps113
    go_wp2
    refine qba (by kernel_rfl) (by kernel_rfl) ?_
    repeat (go_big_quiet_step (first | (go_at_call 102; refine qaa (v := .bool q1) ?_; with_reducible exact HNA.out _) | (go_at_call 123; refine qaa (v := .int .i64 A) ?_; with_reducible exact HAT.out _) | (go_at_call 124; refine qaa (v := .int .i64 PN) ?_; with_reducible exact HPO.out _)))
    refine wpQuiet_nil ?_
    rintro _ ⟨x, rfl⟩
    go_wp2
    go_ret
    exact ⟨rfl, x.ok⟩
  have hfp : (p4.toList == [102, 114, 101, 101]) = true ∨ ((p4.toList == [102, 114, 101, 101]) = false ∧ (p4.toList == [112, 97, 115, 116]) = true) := by
    rcases h2 with e | e
    · left; rw [← qtc]; exact eq_list e
    · right; subst e; exact ⟨by rw [qyb]; rfl, by rw [qyb]; rfl⟩
  have HN2 : Hid ((q1 && (decide (A < 0) && (!decide (PN = 0) && (rb && decide (rn ≤ 3))))) = false) := by
    have h := HNO.out
    rw [decide_eq_true h0, decide_eq_false h1] at h
    have h3 : (decide (p4 = ⟨#[102, 114, 101, 101]⟩) || decide (p4 = ⟨#[112, 97, 115, 116]⟩)) = true := by rcases h2 with e | e <;> simp [e]
    rw [h3] at h
    exact h
  clear HNO h2 h0
  rcases hfp with e2 | ⟨e2, e3⟩
  · cases q1
    case false =>
      go_enter Tryz.func113, Tryz.ntmps113
      go_wp2
      refine qba (by kernel_rfl) (by kernel_rfl) ?_
      repeat (go_big_quiet_step (first | (go_at_call 102; refine qaa (v := .bool false) ?_; with_reducible exact HNA.out _) | (go_at_call 123; refine qaa (v := .int .i64 A) ?_; with_reducible exact HAT.out _) | (go_at_call 124; refine qaa (v := .int .i64 PN) ?_; with_reducible exact HPO.out _)))
      refine wpQuiet_nil ?_
      rintro _ ⟨x, rfl⟩
      go_wp2
      go_ret
      exact ⟨rfl, x.ok⟩
    by_cases h4 : A < 0
    case neg =>
      have g4 : decide (0 ≤ A) = true := decide_eq_true (by omega)
      go_enter Tryz.func113, Tryz.ntmps113
      go_wp2
      refine qba (by kernel_rfl) (by kernel_rfl) ?_
      repeat (go_big_quiet_step (first | (go_at_call 102; refine qaa (v := .bool true) ?_; with_reducible exact HNA.out _) | (go_at_call 123; refine qaa (v := .int .i64 A) ?_; with_reducible exact HAT.out _) | (go_at_call 124; refine qaa (v := .int .i64 PN) ?_; with_reducible exact HPO.out _)))
      refine wpQuiet_nil ?_
      rintro _ ⟨x, rfl⟩
      go_wp2
      go_ret
      exact ⟨rfl, x.ok⟩
    have g4 : decide (0 ≤ A) = false := decide_eq_false (by omega)
    by_cases h5 : PN = 0
    case pos =>
      subst h5
      go_enter Tryz.func113, Tryz.ntmps113
      go_wp2
      refine qba (by kernel_rfl) (by kernel_rfl) ?_
      repeat (go_big_quiet_step (first | (go_at_call 102; refine qaa (v := .bool true) ?_; with_reducible exact HNA.out _) | (go_at_call 123; refine qaa (v := .int .i64 A) ?_; with_reducible exact HAT.out _) | (go_at_call 124; refine qaa (v := .int .i64 0) ?_; with_reducible exact HPO.out _)))
      refine wpQuiet_nil ?_
      rintro _ ⟨x, rfl⟩
      go_wp2
      go_ret
      exact ⟨rfl, x.ok⟩
    have e5 : (PN == 0) = false := beq_eq_false_iff_ne.2 h5
    have HN3 : Hid ((rb && decide (rn ≤ 3)) = false) := by
      have h := HN2.out
      rw [decide_eq_true h4, decide_eq_false h5] at h
      exact h
    clear HN2
    go_enter Tryz.func113, Tryz.ntmps113
    go_wp2
    refine qba (by kernel_rfl) (by kernel_rfl) ?_
    repeat (go_big_quiet_step (first | (go_at_call 102; refine qaa (v := .bool true) ?_; with_reducible exact HNA.out _) | (go_at_call 123; refine qaa (v := .int .i64 A) ?_; with_reducible exact HAT.out _) | (go_at_call 124; refine qaa (v := .int .i64 PN) ?_; with_reducible exact HPO.out _)))
    refine wpQuiet_nil ?_
    rintro _ ⟨x, rfl⟩

    have m3 := Wd.cell c3 x
    clear q5 k0 k1 k2 k3 k4
    cases rb
    · go_wp2_with (go_at_call 122; refine (HRD.out _).mono ?_; rintro e w2 ⟨rfl, hb2⟩)
      go_ret
      exact ⟨rfl, Below.on x.ok hb2⟩
    · have h6 : ¬ rn ≤ 3 := fun e => by have := HN3.out; rw [decide_eq_true e] at this; cases this
      go_wp2_with (go_at_call 122; refine (HRD.out _).mono ?_; rintro e w2 ⟨rfl, hb2⟩)
      go_ret
      exact ⟨rfl, Below.on x.ok hb2⟩
  · cases q1
    case false =>
      go_enter Tryz.func113, Tryz.ntmps113
      go_wp2
      refine qba (by kernel_rfl) (by kernel_rfl) ?_
      repeat (go_big_quiet_step (first | (go_at_call 102; refine qaa (v := .bool false) ?_; with_reducible exact HNA.out _) | (go_at_call 123; refine qaa (v := .int .i64 A) ?_; with_reducible exact HAT.out _) | (go_at_call 124; refine qaa (v := .int .i64 PN) ?_; with_reducible exact HPO.out _)))
      refine wpQuiet_nil ?_
      rintro _ ⟨x, rfl⟩
      go_wp2
      go_ret
      exact ⟨rfl, x.ok⟩
    by_cases h4 : A < 0
    case neg =>
      have g4 : decide (0 ≤ A) = true := decide_eq_true (by omega)
      go_enter Tryz.func113, Tryz.ntmps113
      go_wp2
      refine qba (by kernel_rfl) (by kernel_rfl) ?_
      repeat (go_big_quiet_step (first | (go_at_call 102; refine qaa (v := .bool true) ?_; with_reducible exact HNA.out _) | (go_at_call 123; refine qaa (v := .int .i64 A) ?_; with_reducible exact HAT.out _) | (go_at_call 124; refine qaa (v := .int .i64 PN) ?_; with_reducible exact HPO.out _)))
      refine wpQuiet_nil ?_
      rintro _ ⟨x, rfl⟩
      go_wp2
      go_ret
      exact ⟨rfl, x.ok⟩
    have g4 : decide (0 ≤ A) = false := decide_eq_false (by omega)
    by_cases h5 : PN = 0
    case pos =>
      subst h5
      go_enter Tryz.func113, Tryz.ntmps113
      go_wp2
      refine qba (by kernel_rfl) (by kernel_rfl) ?_
      repeat (go_big_quiet_step (first | (go_at_call 102; refine qaa (v := .bool true) ?_; with_reducible exact HNA.out _) | (go_at_call 123; refine qaa (v := .int .i64 A) ?_; with_reducible exact HAT.out _) | (go_at_call 124; refine qaa (v := .int .i64 0) ?_; with_reducible exact HPO.out _)))
      refine wpQuiet_nil ?_
      rintro _ ⟨x, rfl⟩
      go_wp2
      go_ret
      exact ⟨rfl, x.ok⟩
    have e5 : (PN == 0) = false := beq_eq_false_iff_ne.2 h5
    have HN3 : Hid ((rb && decide (rn ≤ 3)) = false) := by
      have h := HN2.out
      rw [decide_eq_true h4, decide_eq_false h5] at h
      exact h
    clear HN2
    go_enter Tryz.func113, Tryz.ntmps113
    go_wp2
    refine qba (by kernel_rfl) (by kernel_rfl) ?_
    repeat (go_big_quiet_step (first | (go_at_call 102; refine qaa (v := .bool true) ?_; with_reducible exact HNA.out _) | (go_at_call 123; refine qaa (v := .int .i64 A) ?_; with_reducible exact HAT.out _) | (go_at_call 124; refine qaa (v := .int .i64 PN) ?_; with_reducible exact HPO.out _)))
    refine wpQuiet_nil ?_
    rintro _ ⟨x, rfl⟩

    have m3 := Wd.cell c3 x
    clear q5 k0 k1 k2 k3 k4
    cases rb
    · go_wp2_with (go_at_call 122; refine (HRD.out _).mono ?_; rintro e w2 ⟨rfl, hb2⟩)
      go_ret
      exact ⟨rfl, Below.on x.ok hb2⟩
    · have h6 : ¬ rn ≤ 3 := fun e => by have := HN3.out; rw [decide_eq_true e] at this; cases this
      go_wp2_with (go_at_call 122; refine (HRD.out _).mono ?_; rintro e w2 ⟨rfl, hb2⟩)
      go_ret
      exact ⟨rfl, Below.on x.ok hb2⟩

set_option maxRecDepth 10000 in
set_option maxHeartbeats 8000000 in
theorem line_no6 (g : Nat) (pv tv : Value) (nm cr : ByteArray) (fr up : Int) (cu : Bool) (ts : List Ta) (p0 p1 p2 p3 p4 p5 : ByteArray) (w : World) (hp : Reads w pv [p0, p1, p2, p3, p4, p5]) (hd : D6 w g nm cr fr up cu tv) (ht : Tasks w tv ts) (hn : ts.length ≤ 100000) (hs : ∀ s ∈ [p0, p1, p2, p3, p4, p5], s.size ≤ 100000) (hno : lineT ts p0 p1 p2 p3 p4 = false) :
    Calls Tryz.prog 113 #[.pointer (some ⟨g, 0, none⟩), pv] w fun e w' => e = .returned (.bool false) ∧ Below w.heap.size w w' := by
  obtain ⟨po, pc, rfl, -⟩ := id hp
  obtain ⟨ao, cap, rfl⟩ := ht.slice
  obtain ⟨pb0, pp0, hq0, hlt0, c0⟩ := qka hp (k := 0) rfl
  subst hq0
  rw [Nat.add_zero] at c0
  obtain ⟨pb1, pp1, hq1, hlt1, c1⟩ := qka hp (k := 1) rfl
  simp only [Option.some.injEq, Addr.mk.injEq, and_true] at hq1
  obtain ⟨e1, e2⟩ := hq1
  subst e1 e2
  obtain ⟨pb2, pp2, hq2, hlt2, c2⟩ := qka hp (k := 2) rfl
  simp only [Option.some.injEq, Addr.mk.injEq, and_true] at hq2
  obtain ⟨e1, e2⟩ := hq2
  subst e1 e2
  obtain ⟨pb3, pp3, hq3, hlt3, c3⟩ := qka hp (k := 3) rfl
  simp only [Option.some.injEq, Addr.mk.injEq, and_true] at hq3
  obtain ⟨e1, e2⟩ := hq3
  subst e1 e2
  obtain ⟨pb4, pp4, hq4, hlt4, c4⟩ := qka hp (k := 4) rfl
  simp only [Option.some.injEq, Addr.mk.injEq, and_true] at hq4
  obtain ⟨e1, e2⟩ := hq4
  subst e1 e2
  obtain ⟨pb5, pp5, hq5, hlt5, c5⟩ := qka hp (k := 5) rfl
  simp only [Option.some.injEq, Addr.mk.injEq, and_true] at hq5
  obtain ⟨e1, e2⟩ := hq5
  subst e1 e2
  have c5g := hd.c5
  have hgl := hd.lt
  have HNA : Hid (∀ W, Calls Tryz.prog 102 #[.string p1] W fun e w' => e = .returned (.bool (nameB p1)) ∧ w' = W) := fun W => qib p1 W (by have := hs p1 (by simp); omega)
  have HAT : Hid (∀ x : Wd w, Calls Tryz.prog 123 #[.slice ao ts.length cap, .string p1] x.at' fun e w' => e = .returned (.int .i64 (atN ts p1)) ∧ w' = x.at') := fun x => qzd p1 (ht.below x.ok) (by omega)
  have HPO : Hid (∀ W, Calls Tryz.prog 124 #[.string p2] W fun e w' => e = .returned (.int .i64 (poolN p2)) ∧ w' = W) := fun W => qcd p2 W
  have HRD : Hid (∀ W, Calls Tryz.prog 122 #[.string p3] W fun e w' => e = .returned (.tuple #[.int .i64 (rd p3).1, .bool (rd p3).2]) ∧ Below W.heap.size W w') := fun W => qla p3 W (by have := hs p3 (by simp); omega)
  have HNO : Hid (lineT ts p0 p1 p2 p3 p4 = false) := hno
  unfold lineT at HNO
  obtain ⟨A, HA⟩ : ∃ A, Hid (atN ts p1 = A) := ⟨_, rfl⟩
  obtain ⟨PN, HPN⟩ : ∃ A, Hid (poolN p2 = A) := ⟨_, rfl⟩
  obtain ⟨q1, HQ1⟩ : ∃ A, Hid (nameB p1 = A) := ⟨_, rfl⟩
  obtain ⟨rn, rb, HRR⟩ : ∃ A B, Hid (rd p3 = (A, B)) := ⟨_, _, rfl⟩
  rw [HA.out] at HAT HNO
  rw [HPN.out] at HPO HNO
  rw [HQ1.out] at HNA HNO
  rw [HRR.out] at HRD HNO
  clear HA HPN HQ1 HRR hno hs hp ht
  obtain ⟨nt, HNT⟩ : ∃ nt, Hid (ts.length = nt) := ⟨_, rfl⟩
  rw [HNT.out] at HAT HNO hn c5g hd
  clear HNT hd
  have q5 := Wd.cell c5g
  have k0 := Wd.cell c0
  have k1 := Wd.cell c1
  have k2 := Wd.cell c2
  have k3 := Wd.cell c3
  have k4 := Wd.cell c4
  have k5 := Wd.cell c5
  by_cases h0 : p0 = ⟨#[116, 97, 115, 107]⟩
  case neg =>
    have e0 : (p0.toList == [116, 97, 115, 107]) = false := by rw [← qie]; exact qab h0
    go_enter Tryz.func113, Tryz.ntmps113
    go_wp2
    refine qba (by kernel_rfl) (by kernel_rfl) ?_
    repeat (go_big_quiet_step (first | (go_at_call 102; refine qaa (v := .bool q1) ?_; with_reducible exact HNA.out _) | (go_at_call 123; refine qaa (v := .int .i64 A) ?_; with_reducible exact HAT.out _) | (go_at_call 124; refine qaa (v := .int .i64 PN) ?_; with_reducible exact HPO.out _)))
    refine wpQuiet_nil ?_
    rintro _ ⟨x, rfl⟩
    go_wp2
    go_ret
    exact ⟨rfl, x.ok⟩
  have e0 : (p0.toList == [116, 97, 115, 107]) = true := by rw [← qie]; exact eq_list h0
  by_cases h1 : nt = 4
  case pos =>
    subst h1
    go_enter Tryz.func113, Tryz.ntmps113
    go_wp2
    refine qba (by kernel_rfl) (by kernel_rfl) ?_
    repeat (go_big_quiet_step (first | (go_at_call 102; refine qaa (v := .bool q1) ?_; with_reducible exact HNA.out _) | (go_at_call 123; refine qaa (v := .int .i64 A) ?_; with_reducible exact HAT.out _) | (go_at_call 124; refine qaa (v := .int .i64 PN) ?_; with_reducible exact HPO.out _)))
    refine wpQuiet_nil ?_
    rintro _ ⟨x, rfl⟩
    go_wp2
    go_ret
    exact ⟨rfl, x.ok⟩
  have e1 : ((nt : Int) == 4) = false := beq_eq_false_iff_ne.2 (by omega)
  by_cases h2 : p4 = ⟨#[102, 114, 101, 101]⟩ ∨ p4 = ⟨#[112, 97, 115, 116]⟩
  case neg =>
    have e2 : (p4.toList == [102, 114, 101, 101]) = false := by rw [← qtc]; exact qab fun e => h2 (.inl e)
    have e3 : (p4.toList == [112, 97, 115, 116]) = false := by rw [← qyb]; exact qab fun e => h2 (.inr e)
    go_enter Tryz.func113, Tryz.ntmps113
    go_wp2
    refine qba (by kernel_rfl) (by kernel_rfl) ?_
    repeat (go_big_quiet_step (first | (go_at_call 102; refine qaa (v := .bool q1) ?_; with_reducible exact HNA.out _) | (go_at_call 123; refine qaa (v := .int .i64 A) ?_; with_reducible exact HAT.out _) | (go_at_call 124; refine qaa (v := .int .i64 PN) ?_; with_reducible exact HPO.out _)))
    refine wpQuiet_nil ?_
    rintro _ ⟨x, rfl⟩
    go_wp2
    go_ret
    exact ⟨rfl, x.ok⟩
  have hfp : (p4.toList == [102, 114, 101, 101]) = true ∨ ((p4.toList == [102, 114, 101, 101]) = false ∧ (p4.toList == [112, 97, 115, 116]) = true) := by
    rcases h2 with e | e
    · left; rw [← qtc]; exact eq_list e
    · right; subst e; exact ⟨by rw [qyb]; rfl, by rw [qyb]; rfl⟩
  have HN2 : Hid ((q1 && (decide (A < 0) && (!decide (PN = 0) && (rb && decide (rn ≤ 3))))) = false) := by
    have h := HNO.out
    rw [decide_eq_true h0, decide_eq_false h1] at h
    have h3 : (decide (p4 = ⟨#[102, 114, 101, 101]⟩) || decide (p4 = ⟨#[112, 97, 115, 116]⟩)) = true := by rcases h2 with e | e <;> simp [e]
    rw [h3] at h
    exact h
  clear HNO h2 h0
  rcases hfp with e2 | ⟨e2, e3⟩
  · cases q1
    case false =>
      go_enter Tryz.func113, Tryz.ntmps113
      go_wp2
      refine qba (by kernel_rfl) (by kernel_rfl) ?_
      repeat (go_big_quiet_step (first | (go_at_call 102; refine qaa (v := .bool false) ?_; with_reducible exact HNA.out _) | (go_at_call 123; refine qaa (v := .int .i64 A) ?_; with_reducible exact HAT.out _) | (go_at_call 124; refine qaa (v := .int .i64 PN) ?_; with_reducible exact HPO.out _)))
      refine wpQuiet_nil ?_
      rintro _ ⟨x, rfl⟩
      go_wp2
      go_ret
      exact ⟨rfl, x.ok⟩
    by_cases h4 : A < 0
    case neg =>
      have g4 : decide (0 ≤ A) = true := decide_eq_true (by omega)
      go_enter Tryz.func113, Tryz.ntmps113
      go_wp2
      refine qba (by kernel_rfl) (by kernel_rfl) ?_
      repeat (go_big_quiet_step (first | (go_at_call 102; refine qaa (v := .bool true) ?_; with_reducible exact HNA.out _) | (go_at_call 123; refine qaa (v := .int .i64 A) ?_; with_reducible exact HAT.out _) | (go_at_call 124; refine qaa (v := .int .i64 PN) ?_; with_reducible exact HPO.out _)))
      refine wpQuiet_nil ?_
      rintro _ ⟨x, rfl⟩
      go_wp2
      go_ret
      exact ⟨rfl, x.ok⟩
    have g4 : decide (0 ≤ A) = false := decide_eq_false (by omega)
    by_cases h5 : PN = 0
    case pos =>
      subst h5
      go_enter Tryz.func113, Tryz.ntmps113
      go_wp2
      refine qba (by kernel_rfl) (by kernel_rfl) ?_
      repeat (go_big_quiet_step (first | (go_at_call 102; refine qaa (v := .bool true) ?_; with_reducible exact HNA.out _) | (go_at_call 123; refine qaa (v := .int .i64 A) ?_; with_reducible exact HAT.out _) | (go_at_call 124; refine qaa (v := .int .i64 0) ?_; with_reducible exact HPO.out _)))
      refine wpQuiet_nil ?_
      rintro _ ⟨x, rfl⟩
      go_wp2
      go_ret
      exact ⟨rfl, x.ok⟩
    have e5 : (PN == 0) = false := beq_eq_false_iff_ne.2 h5
    have HN3 : Hid ((rb && decide (rn ≤ 3)) = false) := by
      have h := HN2.out
      rw [decide_eq_true h4, decide_eq_false h5] at h
      exact h
    clear HN2
    go_enter Tryz.func113, Tryz.ntmps113
    go_wp2
    refine qba (by kernel_rfl) (by kernel_rfl) ?_
    repeat (go_big_quiet_step (first | (go_at_call 102; refine qaa (v := .bool true) ?_; with_reducible exact HNA.out _) | (go_at_call 123; refine qaa (v := .int .i64 A) ?_; with_reducible exact HAT.out _) | (go_at_call 124; refine qaa (v := .int .i64 PN) ?_; with_reducible exact HPO.out _)))
    refine wpQuiet_nil ?_
    rintro _ ⟨x, rfl⟩

    have m3 := Wd.cell c3 x
    clear q5 k0 k1 k2 k3 k4 k5
    cases rb
    · go_wp2_with (go_at_call 122; refine (HRD.out _).mono ?_; rintro e w2 ⟨rfl, hb2⟩)
      go_ret
      exact ⟨rfl, Below.on x.ok hb2⟩
    · have h6 : ¬ rn ≤ 3 := fun e => by have := HN3.out; rw [decide_eq_true e] at this; cases this
      go_wp2_with (go_at_call 122; refine (HRD.out _).mono ?_; rintro e w2 ⟨rfl, hb2⟩)
      go_ret
      exact ⟨rfl, Below.on x.ok hb2⟩
  · cases q1
    case false =>
      go_enter Tryz.func113, Tryz.ntmps113
      go_wp2
      refine qba (by kernel_rfl) (by kernel_rfl) ?_
      repeat (go_big_quiet_step (first | (go_at_call 102; refine qaa (v := .bool false) ?_; with_reducible exact HNA.out _) | (go_at_call 123; refine qaa (v := .int .i64 A) ?_; with_reducible exact HAT.out _) | (go_at_call 124; refine qaa (v := .int .i64 PN) ?_; with_reducible exact HPO.out _)))
      refine wpQuiet_nil ?_
      rintro _ ⟨x, rfl⟩
      go_wp2
      go_ret
      exact ⟨rfl, x.ok⟩
    by_cases h4 : A < 0
    case neg =>
      have g4 : decide (0 ≤ A) = true := decide_eq_true (by omega)
      go_enter Tryz.func113, Tryz.ntmps113
      go_wp2
      refine qba (by kernel_rfl) (by kernel_rfl) ?_
      repeat (go_big_quiet_step (first | (go_at_call 102; refine qaa (v := .bool true) ?_; with_reducible exact HNA.out _) | (go_at_call 123; refine qaa (v := .int .i64 A) ?_; with_reducible exact HAT.out _) | (go_at_call 124; refine qaa (v := .int .i64 PN) ?_; with_reducible exact HPO.out _)))
      refine wpQuiet_nil ?_
      rintro _ ⟨x, rfl⟩
      go_wp2
      go_ret
      exact ⟨rfl, x.ok⟩
    have g4 : decide (0 ≤ A) = false := decide_eq_false (by omega)
    by_cases h5 : PN = 0
    case pos =>
      subst h5
      go_enter Tryz.func113, Tryz.ntmps113
      go_wp2
      refine qba (by kernel_rfl) (by kernel_rfl) ?_
      repeat (go_big_quiet_step (first | (go_at_call 102; refine qaa (v := .bool true) ?_; with_reducible exact HNA.out _) | (go_at_call 123; refine qaa (v := .int .i64 A) ?_; with_reducible exact HAT.out _) | (go_at_call 124; refine qaa (v := .int .i64 0) ?_; with_reducible exact HPO.out _)))
      refine wpQuiet_nil ?_
      rintro _ ⟨x, rfl⟩
      go_wp2
      go_ret
      exact ⟨rfl, x.ok⟩
    have e5 : (PN == 0) = false := beq_eq_false_iff_ne.2 h5
    have HN3 : Hid ((rb && decide (rn ≤ 3)) = false) := by
      have h := HN2.out
      rw [decide_eq_true h4, decide_eq_false h5] at h
      exact h
    clear HN2
    go_enter Tryz.func113, Tryz.ntmps113
    go_wp2
    refine qba (by kernel_rfl) (by kernel_rfl) ?_
    repeat (go_big_quiet_step (first | (go_at_call 102; refine qaa (v := .bool true) ?_; with_reducible exact HNA.out _) | (go_at_call 123; refine qaa (v := .int .i64 A) ?_; with_reducible exact HAT.out _) | (go_at_call 124; refine qaa (v := .int .i64 PN) ?_; with_reducible exact HPO.out _)))
    refine wpQuiet_nil ?_
    rintro _ ⟨x, rfl⟩

    have m3 := Wd.cell c3 x
    clear q5 k0 k1 k2 k3 k4 k5
    cases rb
    · go_wp2_with (go_at_call 122; refine (HRD.out _).mono ?_; rintro e w2 ⟨rfl, hb2⟩)
      go_ret
      exact ⟨rfl, Below.on x.ok hb2⟩
    · have h6 : ¬ rn ≤ 3 := fun e => by have := HN3.out; rw [decide_eq_true e] at this; cases this
      go_wp2_with (go_at_call 122; refine (HRD.out _).mono ?_; rintro e w2 ⟨rfl, hb2⟩)
      go_ret
      exact ⟨rfl, Below.on x.ok hb2⟩

end Go.Proofs.YtpjpheicldegkaaGreatDoor
