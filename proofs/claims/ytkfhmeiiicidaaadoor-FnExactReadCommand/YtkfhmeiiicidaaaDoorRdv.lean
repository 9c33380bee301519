/-
  The whole of a text read by the program; what a reader's panic comes to: the deferred closure.
-/
import Derived.Test.YtkfhmeiiicidaaaDoorRdw
namespace Go.Proofs.YtkfhmeiiicidaaaDoor
open Go Go.RowKit
set_option linter.unusedVariables false

theorem one_cell {w : World} {g : Nat} {a : Value} {t : TypeId} (h : w.heap[g]? = some (.cells #[a] t)) : w.cell? ⟨g, 0, none⟩ = some a := by
  simp [World.cell?, h]
theorem one_fz {w : World} {g : Nat} {a : Value} {t : TypeId} (h : w.heap[g]? = some (.cells #[a] t)) (o : Nat) : w.frozen? ⟨g, o, none⟩ = false := by
  simp [World.frozen?, h]
theorem one_set {w : World} {g : Nat} {a : Value} {t : TypeId} (h : w.heap[g]? = some (.cells #[a] t)) (u : Value) : (w.setCell ⟨g, 0, none⟩ u).heap[g]? = some (.cells #[u] t) := by
  simp [World.setCell, Array.getElem?_modify, h]
theorem heap_set8 {W : World} {b q : Nat} {o : Obj} (h : W.heap[q]? = some o) (hb : b ≠ q) (u0 u1 u2 u3 u4 u5 u6 u7 : Value) : (set8 W b u0 u1 u2 u3 u4 u5 u6 u7).heap[q]? = some o := heap_far (heap_far (heap_far (heap_far (heap_far (heap_far (heap_far (heap_far h (p := ⟨b, 0, none⟩) hb u0) (p := ⟨b, 1, none⟩) hb u1) (p := ⟨b, 2, none⟩) hb u2) (p := ⟨b, 3, none⟩) hb u3) (p := ⟨b, 4, none⟩) hb u4) (p := ⟨b, 5, none⟩) hb u5) (p := ⟨b, 6, none⟩) hb u6) (p := ⟨b, 7, none⟩) hb u7
theorem below_set8 {B b : Nat} {V W : World} (h : Below B V W) (hb : B ≤ b) (u0 u1 u2 u3 u4 u5 u6 u7 : Value) : Below B V (set8 W b u0 u1 u2 u3 u4 u5 u6 u7) := Below.setCell (Below.setCell (Below.setCell (Below.setCell (Below.setCell (Below.setCell (Below.setCell (Below.setCell h (p := ⟨b, 0, none⟩) hb u0) (p := ⟨b, 1, none⟩) hb u1) (p := ⟨b, 2, none⟩) hb u2) (p := ⟨b, 3, none⟩) hb u3) (p := ⟨b, 4, none⟩) hb u4) (p := ⟨b, 5, none⟩) hb u5) (p := ⟨b, 6, none⟩) hb u6) (p := ⟨b, 7, none⟩) hb u7
theorem assert_torn (w : World) : (Instr.typeAssert (.iface 84 (.agg #[])) 20 84 true).run Tryd.prog w = .ok (.tuple #[.agg #[], .bool true]) w := by kernel_rfl
theorem assert_nil (w : World) : (Instr.typeAssert .nilIface 20 84 true).run Tryd.prog w = .ok (.tuple #[.agg #[], .bool false]) w := by kernel_rfl
theorem frame47 (p q : Value) : (#[p, q] ++ Array.replicate (Tryd.f47.ntmps - (#[p, q] : Array Value).size) undef) = #[p, q, undef, undef, undef, undef, undef, undef, undef, undef, undef, undef] := by kernel_rfl

set_option maxRecDepth 10000 in
set_option maxHeartbeats 1000000 in
theorem catch_torn (p q : Nat) (x0 x1 x2 x3 x4 x5 x6 x7 y : Value) (older : List PanicEntry) (w : World) (hp : Kc8 27 w p x0 x1 x2 x3 x4 x5 x6 x7) (hq : w.heap[q]? = some (.cells #[y] 4)) (hpq : p ≠ q) (B : Nat) (h1 : B ≤ p) (h2 : B ≤ q) :
    CallsD Tryd.prog 47 #[.pointer (some ⟨p, 0, none⟩), .pointer (some ⟨q, 0, none⟩)] (.panicking ({ v := tornV, recovered := false } :: older)) w fun e u' w' =>
      e = .returned (.tuple #[]) ∧ u' = .panicking ({ v := tornV, recovered := true } :: older) ∧ Kc8 27 w' p (.int .i64 0) (.int .i64 0) (.int .i64 0) (.string { data := #[] }) (.string { data := #[] }) (.int .i64 0) (.int .i64 0) (.bool false) ∧ w'.heap[q]? = some (.cells #[.bool false] 4) ∧ Below B w w' := by
  refine callsD_of_wpS Tryd.func47 rfl fun c₀ cs hu => ?_
  apply wpS_seq
  rw [frame47]
  have a1 := assert_torn
  apply wpS_region
  simp only [tornV] at hu ⊢
  simp [wpOpsS, go_sem, recoverD, hu, a1, Exit.thenS]
  have g1 := hp.alloc (.cells #[] 84)
  have g2 := heap_old hq (.cells #[] 84)
  have hb : Below B w (w.alloc (.cells #[] 84)) := (ba (Below.refl _ _) _).mono (by have := hp.lt; omega)
  generalize w.alloc (.cells #[] 84) = w1 at g1 g2 hb ⊢
  refine wpS_of_wp ?_
  obtain ⟨W2, HW2⟩ : ∃ V, w1.alloc (.cells #[.int .i64 0, .int .i64 0, .int .i64 0, .string { data := #[] }, .string { data := #[] }, .int .i64 0, .int .i64 0, .bool false] 27) = V := ⟨_, rfl⟩
  have k1 : Kc8 27 W2 p x0 x1 x2 x3 x4 x5 x6 x7 := by rw [← HW2]; exact g1.alloc _
  have k2 : W2.heap[q]? = some (.cells #[y] 4) := by rw [← HW2]; exact heap_old g2 _
  have k3 : Kc8 27 W2 w1.heap.size (.int .i64 0) (.int .i64 0) (.int .i64 0) (.string { data := #[] }) (.string { data := #[] }) (.int .i64 0) (.int .i64 0) (.bool false) := by rw [← HW2]; exact Kc8.new _ _ _ _ _ _ _ _ _ _
  have hb2 : Below B w W2 := by rw [← HW2]; exact Below.alloc hb (by have := g1.lt; omega) _
  have hpl : p < w1.heap.size := g1.lt
  have hql : q < w1.heap.size := (Array.getElem?_eq_some_iff.1 g2).1
  have c0 := k1.c0
  have c1 := k1.c1
  have c2 := k1.c2
  have c3 := k1.c3
  have c4 := k1.c4
  have c5 := k1.c5
  have c6 := k1.c6
  have c7 := k1.c7
  have f0 := k1.fz 0
  have f1 := k1.fz 1
  have f2 := k1.fz 2
  have f3 := k1.fz 3
  have f4 := k1.fz 4
  have f5 := k1.fz 5
  have f6 := k1.fz 6
  have f7 := k1.fz 7
  have d0 := one_cell k2
  have e0 := one_fz k2
  have n0 := k3.c0
  have n1 := k3.c1
  have n2 := k3.c2
  have n3 := k3.c3
  have n4 := k3.c4
  have n5 := k3.c5
  have n6 := k3.c6
  have n7 := k3.c7
  clear g1 g2 hb
  go_wp2
  have KE := k1.set (.int .i64 0) (.int .i64 0) (.int .i64 0) (.string { data := #[] }) (.string { data := #[] }) (.int .i64 0) (.int .i64 0) (.bool false)
  refine ⟨rfl, _, rfl, .tuple #[], results_none rfl _ _ _, rfl, rfl, ?_, ?_, ?_⟩
  · exact KE.far (by show q ≠ p; omega) _
  · exact one_set (heap_set8 k2 (by omega) _ _ _ _ _ _ _ _) _
  · exact Below.setCell (below_set8 hb2 h1 _ _ _ _ _ _ _ _) (by show B ≤ q; omega) _

set_option maxRecDepth 10000 in
set_option maxHeartbeats 400000 in
theorem catch_idle (p q : Nat) (w : World) :
    CallsD Tryd.prog 47 #[.pointer (some ⟨p, 0, none⟩), .pointer (some ⟨q, 0, none⟩)] .returning w fun e u' w' => e = .returned (.tuple #[]) ∧ u' = .returning ∧ Below w.heap.size w w' := by
  refine callsD_of_wpS Tryd.func47 rfl fun c₀ cs hu => ?_
  apply wpS_seq
  rw [frame47]
  have a1 := assert_nil
  apply wpS_region
  simp [wpOpsS, go_sem, recoverD, hu, a1, Exit.thenS]
  have hb : Below w.heap.size w (w.alloc (.cells #[] 84)) := ba (Below.refl _ _) _
  generalize w.alloc (.cells #[] 84) = w1 at hb ⊢
  refine wpS_of_wp ?_
  go_wp2
  exact ⟨rfl, .returning, by rw [← hu], .tuple #[], results_none rfl _ _ _, rfl, rfl, hb⟩
theorem ret_rw {fn : Func} {p q : Tmp} {w : World} {g k : Nat} {x0 x1 x2 x3 x4 x5 x6 x7 y : Value} {tmps : Array Value} (h : fn.results = #[.cell p 27, .cell q 4]) (hp : tmps.getD p undef = .pointer (some ⟨g, 0, none⟩)) (hq : tmps.getD q undef = .pointer (some ⟨k, 0, none⟩)) (hb : Kc8 27 w g x0 x1 x2 x3 x4 x5 x6 x7) (hk : w.heap[k]? = some (.cells #[y] 4)) :
    (results fn tmps).run Tryd.prog w = .ok (.tuple #[.agg #[x0, x1, x2, x3, x4, x5, x6, x7], y]) w := by
  have hp' : tmps[p]?.getD undef = .pointer (some ⟨g, 0, none⟩) := by simpa using hp
  have hq' : tmps[q]?.getD undef = .pointer (some ⟨k, 0, none⟩) := by simpa using hq
  have h4 := one_cell hk
  simp [results, h, hp', hq', hb.c0, hb.c1, hb.c2, hb.c3, hb.c4, hb.c5, hb.c6, hb.c7, h4, asAddr, go_sem]
def cm0 : Cm := ⟨0, 0, 0, ByteArray.empty, ByteArray.empty, 0, 0, false⟩
set_option maxRecDepth 10000 in
theorem door_torn {R : Ending → World → Prop} {W : World} {T : Array Value} {p q B : Nat} {x0 x1 x2 x3 x4 x5 x6 x7 y : Value} (hp : Kc8 27 W p x0 x1 x2 x3 x4 x5 x6 x7) (hq : W.heap[q]? = some (.cells #[y] 4)) (hpq : p ≠ q) (h1 : B ≤ p) (h2 : B ≤ q)
    (t2 : T.getD 4 undef = .pointer (some ⟨p, 0, none⟩)) (t3 : T.getD 5 undef = .pointer (some ⟨q, 0, none⟩))
    (hR : ∀ w', Below B W w' → R (.returned (.tuple #[cmV cm0, .bool false])) w') :
    bodyPostD Tryd.prog Tryd.f40 R (Exit.panic tornP) { tmps := T, defers := [{ target := Target.fn (Fn.func 47) #[.pointer (some ⟨p, 0, none⟩), .pointer (some ⟨q, 0, none⟩)], args := #[] }] } W := by
  refine leaves_cons (f := 47) (args := #[.pointer (some ⟨p, 0, none⟩), .pointer (some ⟨q, 0, none⟩)]) (by simp) (by simp [go_sem]) ?_
  refine (catch_torn p q x0 x1 x2 x3 x4 x5 x6 x7 y [] W hp hq hpq B h1 h2).mono ?_
  rintro e u' w'' ⟨rfl, rfl, g1, g2, hb⟩
  exact ⟨_, ret_rw rfl t2 t3 g1 g2, hR _ hb⟩
set_option maxRecDepth 10000 in
theorem door_done {R : Ending → World → Prop} {W : World} {T : Array Value} {p q : Nat} {x0 x1 x2 x3 x4 x5 x6 x7 y : Value} (hp : Kc8 27 W p x0 x1 x2 x3 x4 x5 x6 x7) (hq : W.heap[q]? = some (.cells #[y] 4))
    (t2 : T.getD 4 undef = .pointer (some ⟨p, 0, none⟩)) (t3 : T.getD 5 undef = .pointer (some ⟨q, 0, none⟩))
    (hR : ∀ w', Below W.heap.size W w' → R (.returned (.tuple #[.agg #[x0, x1, x2, x3, x4, x5, x6, x7], y])) w') :
    bodyPostD Tryd.prog Tryd.f40 R Exit.ret { tmps := T, defers := [{ target := Target.fn (Fn.func 47) #[.pointer (some ⟨p, 0, none⟩), .pointer (some ⟨q, 0, none⟩)], args := #[] }] } W := by
  refine leaves_cons (f := 47) (args := #[.pointer (some ⟨p, 0, none⟩), .pointer (some ⟨q, 0, none⟩)]) (by simp) (by simp [go_sem]) ?_
  refine (catch_idle p q W).mono ?_
  rintro e u' w'' ⟨rfl, rfl, hb⟩
  exact ⟨_, ret_rw rfl t2 t3 (hp.up hb) (blk_upR hq hb), hR _ hb⟩
/-- The command that the whole of a text tells. -/
def rwP (s : ByteArray) : Option Cm := match cmdP s 0 with
  | some (x, b) => if b = s.size then some x else none
  | none => none
def rwV (r : Option Cm) : Value := match r with
  | some x => .tuple #[cmV x, .bool true]
  | none => .tuple #[cmV cm0, .bool false]
set_option maxRecDepth 10000 in
set_option maxHeartbeats 4000000 in
theorem readWhole_any (s : ByteArray) (w : World) (hs : s.size ≤ 1048576) :
    Calls Tryd.prog 40 #[.string s, .func (.func 27) #[] #[]] w fun e w' => e = .returned (rwV (rwP s)) ∧ Below w.heap.size w w' := by
  have hmf : ∀ (fn : Fn) (first cap : Array Value) (w : World), (Instr.makeFunc fn first cap).run Tryd.prog w = .ok (.func fn first cap) w := fun _ _ _ _ => rfl
  obtain ⟨R, HR⟩ : ∃ R, Hid (rwP s = R) := ⟨_, rfl⟩
  rw [HR.out]
  obtain ⟨W0, HW0⟩ : ∃ V, Hid (((w.alloc (.cells #[.int .i64 0, .int .i64 0, .int .i64 0, .string { data := #[] }, .string { data := #[] }, .int .i64 0, .int .i64 0, .bool false] 27)).alloc (.cells #[.bool false] 4)).alloc (.cells #[.string s, .int .i64 0] 87) = V) := ⟨_, rfl⟩
  have G1 : Hid (Kc8 27 W0 w.heap.size (.int .i64 0) (.int .i64 0) (.int .i64 0) (.string { data := #[] }) (.string { data := #[] }) (.int .i64 0) (.int .i64 0) (.bool false)) := by rw [← HW0.out]; exact ((Kc8.new _ _ _ _ _ _ _ _ _ _).alloc _).alloc _
  have G2 : Hid (W0.heap[w.heap.size + 1]? = some (.cells #[.bool false] 4)) := by rw [← HW0.out]; exact heap_old (heap_next _ _ _) _
  have GR : Hid (Rdr W0 (w.heap.size + 2) s 0) := by
    rw [← HW0.out]
    have := heap_last ((w.alloc (.cells #[.int .i64 0, .int .i64 0, .int .i64 0, .string { data := #[] }, .string { data := #[] }, .int .i64 0, .int .i64 0, .bool false] 27)).alloc (.cells #[.bool false] 4)) (.cells #[.string s, .int .i64 0] 87)
    rw [World.size_alloc, World.size_alloc] at this
    exact this
  have B0 : Hid (Below w.heap.size w W0) := by rw [← HW0.out]; exact ba (ba (ba (Below.refl _ _) _) _) _
  go_enter_defers Tryd.func40, Tryd.ntmps40
  go_wp2_with fail
  rw [HW0.out]
  refine (command_any (w.heap.size + 2) s 0 _ GR.out hs).mono ?_
  rintro e w1 h
  cases hq : cmdP s 0 with
  | none =>
    rw [hq] at h
    obtain ⟨rfl, h1⟩ := h
    obtain rfl : R = none := by rw [← HR.out]; unfold rwP; rw [hq]
    have g1 := G1.out.save h1 (by omega)
    have g2 := h1.heap (k := w.heap.size + 1) (by omega) G2.out
    have hb := Save.under (B := w.heap.size) B0.out h1 (by omega) B0.out.size
    clear hq h1
    go_wp2
    exact door_torn g1 g2 (by omega) (Nat.le_refl _) (by omega) rfl rfl fun w' h => ⟨rfl, hb.trans h⟩
  | some r =>
  obtain ⟨x, b⟩ := r
  rw [hq] at h
  obtain ⟨rfl, h0, h1⟩ := h
  have K1 : Hid (Kc8 27 w1 w.heap.size (.int .i64 0) (.int .i64 0) (.int .i64 0) (.string { data := #[] }) (.string { data := #[] }) (.int .i64 0) (.int .i64 0) (.bool false)) := G1.out.save h1 (by omega)
  have L1 : Hid (w1.heap[w.heap.size + 1]? = some (.cells #[.bool false] 4)) := h1.heap (k := w.heap.size + 1) (by omega) G2.out
  have B1 : Hid (Below w.heap.size w w1) := Save.under (B := w.heap.size) B0.out h1 (by omega) B0.out.size
  have R1 : Hid (Rdr w1 (w.heap.size + 2) s b) := h0
  have HQ : Hid (cmdP s 0 = some (x, b)) := hq
  clear hq h0 h1 G1 G2 GR B0
  have hlt : w.heap.size < w1.heap.size := K1.out.lt
  have c0 := K1.out.c0
  have c1 := K1.out.c1
  have c2 := K1.out.c2
  have c3 := K1.out.c3
  have c4 := K1.out.c4
  have c5 := K1.out.c5
  have c6 := K1.out.c6
  have c7 := K1.out.c7
  have f0 := K1.out.fz 0
  have f1 := K1.out.fz 1
  have f2 := K1.out.fz 2
  have f3 := K1.out.fz 3
  have f4 := K1.out.fz 4
  have f5 := K1.out.fz 5
  have f6 := K1.out.fz 6
  have f7 := K1.out.fz 7

  have hcv : cmV x = .agg #[.int .i64 (x.op : Int), .int .i64 (x.tok : Int), .int .i64 (x.seq : Int), .string x.text, .string x.task, .int .i64 (x.num : Int), .int .i64 (x.up : Int), .bool x.yes] := rfl
  rw [hcv]
  go_wp2_with fail
  obtain ⟨W2, HW2⟩ : ∃ V, Hid (set8 w1 w.heap.size (.int .i64 (x.op : Int)) (.int .i64 (x.tok : Int)) (.int .i64 (x.seq : Int)) (.string x.text) (.string x.task) (.int .i64 (x.num : Int)) (.int .i64 (x.up : Int)) (.bool x.yes) = V) := ⟨_, rfl⟩
  have K2 : Hid (Kc8 27 W2 w.heap.size (.int .i64 (x.op : Int)) (.int .i64 (x.tok : Int)) (.int .i64 (x.seq : Int)) (.string x.text) (.string x.task) (.int .i64 (x.num : Int)) (.int .i64 (x.up : Int)) (.bool x.yes)) := by rw [← HW2.out]; exact K1.out.set _ _ _ _ _ _ _ _
  have L2 : Hid (W2.heap[w.heap.size + 1]? = some (.cells #[.bool false] 4)) := by rw [← HW2.out]; exact heap_set8 L1.out (by omega) _ _ _ _ _ _ _ _
  have B2 : Hid (Below w.heap.size w W2) := by rw [← HW2.out]; exact below_set8 B1.out (Nat.le_refl _) _ _ _ _ _ _ _ _
  have R2 : Hid (Rdr W2 (w.heap.size + 2) s b) := by rw [← HW2.out]; exact rdr_set8 R1.out (by omega) _ _ _ _ _ _ _ _
  clear c0 f0 c1 f1 c2 f2 c3 f3 c4 f4 c5 f5 c6 f6 c7 f7
  have hw2 := HW2.out
  unfold set8 at hw2
  rw [hw2]
  clear hw2 K1 L1 B1 R1
  by_cases hb : b = s.size
  · obtain rfl : R = some x := by rw [← HR.out]; unfold rwP; rw [HQ.out]; simp [hb]
    subst hb
    refine (end_yes _ _ _ R2.out).mono ?_
    rintro e w3 ⟨rfl, h3⟩
    have K3 := K2.out.up h3
    have L3 := blk_upR L2.out h3
    have B3 := Below.on B2.out h3
    clear K2 L2 B2 R2 h3
    have hlt3 : w.heap.size < w3.heap.size := K3.lt
    have c0 := K3.c0
    have c1 := K3.c1
    have c2 := K3.c2
    have c3 := K3.c3
    have c4 := K3.c4
    have c5 := K3.c5
    have c6 := K3.c6
    have c7 := K3.c7
    have f0 := K3.fz 0
    have f1 := K3.fz 1
    have f2 := K3.fz 2
    have f3 := K3.fz 3
    have f4 := K3.fz 4
    have f5 := K3.fz 5
    have f6 := K3.fz 6
    have f7 := K3.fz 7
    have d0 := one_cell L3
    have e0 := one_fz L3
    go_wp2
    exact door_done ((K3.set (.int .i64 (x.op : Int)) (.int .i64 (x.tok : Int)) (.int .i64 (x.seq : Int)) (.string x.text) (.string x.task) (.int .i64 (x.num : Int)) (.int .i64 (x.up : Int)) (.bool x.yes)).far (by show w.heap.size + 1 ≠ w.heap.size; omega) _) (one_set (heap_set8 L3 (by omega) (.int .i64 (x.op : Int)) (.int .i64 (x.tok : Int)) (.int .i64 (x.seq : Int)) (.string x.text) (.string x.task) (.int .i64 (x.num : Int)) (.int .i64 (x.up : Int)) (.bool x.yes)) _) rfl rfl fun w' h => ⟨rfl, (Below.setCell (below_set8 B3 (Nat.le_refl _) (.int .i64 (x.op : Int)) (.int .i64 (x.tok : Int)) (.int .i64 (x.seq : Int)) (.string x.text) (.string x.task) (.int .i64 (x.num : Int)) (.int .i64 (x.up : Int)) (.bool x.yes)) (p := ⟨w.heap.size + 1, 0, none⟩) (by show w.heap.size ≤ w.heap.size + 1; omega) _).trans (h.mono (by simp; omega))⟩
  · obtain rfl : R = none := by rw [← HR.out]; unfold rwP; rw [HQ.out]; simp [hb]
    refine (end_no _ _ b _ R2.out hb).mono ?_
    rintro e w3 ⟨rfl, h3⟩
    have K3 := K2.out.up h3
    have L3 := blk_upR L2.out h3
    have B3 := Below.on B2.out h3
    clear K2 L2 B2 R2 h3
    go_wp2
    exact door_torn K3 L3 (by omega) (Nat.le_refl _) (by omega) rfl rfl fun w' h => ⟨rfl, B3.trans h⟩
end Go.Proofs.YtkfhmeiiicidaaaDoor
