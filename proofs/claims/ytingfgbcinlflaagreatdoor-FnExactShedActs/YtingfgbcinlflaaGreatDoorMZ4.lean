/-
  A snapshot read from its text by the program: the walks. A snapshot read from its text, by the program: what it comes to. A snapshot read from its text, as the specification reads it: the walk.
-/
import Derived.Test.YtingfgbcinlflaaGreatDoorRcn
import Derived.Test.YtingfgbcinlflaaGreatDoorUns
import Derived.Test.YtingfgbcinlflaaGreatDoorMZ2
import Derived.Defers
import Derived.Recover
namespace Go.Proofs.YtingfgbcinlflaaGreatDoor
open Go Go.RowKit
set_option linter.unusedVariables false

/-- A block of four cells. -/
def K4s (t : TypeId) (W : World) (b : Nat) (x0 x1 x2 x3 : Value) : Prop := W.heap[b]? = some (.cells #[x0, x1, x2, x3] t)
section
variable {t : TypeId} {W W' : World} {b : Nat} {x0 x1 x2 x3 : Value}
theorem K4s.lt (h : K4s t W b x0 x1 x2 x3) : b < W.heap.size := (Array.getElem?_eq_some_iff.1 h).1
theorem K4s.up (h : K4s t W b x0 x1 x2 x3) (hb : Below W.heap.size W W') : K4s t W' b x0 x1 x2 x3 := (hb.block _ h.lt).trans h
theorem K4s.save {g : Nat} (h : K4s t W b x0 x1 x2 x3) (hs : Save g W W') (hg : b ≠ g) : K4s t W' b x0 x1 x2 x3 := (hs.block b h.lt hg).trans h
theorem K4s.fz (h : K4s t W b x0 x1 x2 x3) (k : Nat) : W.frozen? ⟨b, k, none⟩ = false := by simp [World.frozen?, show W.heap[b]? = _ from h]
theorem K4s.c0 (h : K4s t W b x0 x1 x2 x3) : W.cell? ⟨b, 0, none⟩ = some x0 := by simp [World.cell?, show W.heap[b]? = _ from h]
theorem K4s.c1 (h : K4s t W b x0 x1 x2 x3) : W.cell? ⟨b, 1, none⟩ = some x1 := by simp [World.cell?, show W.heap[b]? = _ from h]
theorem K4s.c2 (h : K4s t W b x0 x1 x2 x3) : W.cell? ⟨b, 2, none⟩ = some x2 := by simp [World.cell?, show W.heap[b]? = _ from h]
theorem K4s.c3 (h : K4s t W b x0 x1 x2 x3) : W.cell? ⟨b, 3, none⟩ = some x3 := by simp [World.cell?, show W.heap[b]? = _ from h]
theorem K4s.new (t : TypeId) (W : World) (x0 x1 x2 x3 : Value) : K4s t (W.alloc (.cells #[x0, x1, x2, x3] t)) W.heap.size x0 x1 x2 x3 := heap_last _ _
abbrev set4 (W : World) (b : Nat) (u0 u1 u2 u3 : Value) : World := (((W.setCell ⟨b, 0, none⟩ u0).setCell ⟨b, 1, none⟩ u1).setCell ⟨b, 2, none⟩ u2).setCell ⟨b, 3, none⟩ u3
theorem K4s.set (h : K4s t W b x0 x1 x2 x3) (u0 u1 u2 u3 : Value) : K4s t (set4 W b u0 u1 u2 u3) b u0 u1 u2 u3 := by
  have h' : W.heap[b]? = _ := h
  simp [K4s, set4, World.setCell, Array.getElem?_modify, h']
end
theorem heap_set4 {W : World} {b q : Nat} {o : Obj} (h : W.heap[q]? = some o) (hb : b ≠ q) (u0 u1 u2 u3 : Value) : (set4 W b u0 u1 u2 u3).heap[q]? = some o := heap_far (heap_far (heap_far (heap_far h (p := ⟨b, 0, none⟩) hb u0) (p := ⟨b, 1, none⟩) hb u1) (p := ⟨b, 2, none⟩) hb u2) (p := ⟨b, 3, none⟩) hb u3
theorem below_set4 {B b : Nat} {V W : World} (h : Below B V W) (hb : B ≤ b) (u0 u1 u2 u3 : Value) : Below B V (set4 W b u0 u1 u2 u3) := Below.setCell (Below.setCell (Below.setCell (Below.setCell h (p := ⟨b, 0, none⟩) hb u0) (p := ⟨b, 1, none⟩) hb u1) (p := ⟨b, 2, none⟩) hb u2) (p := ⟨b, 3, none⟩) hb u3
theorem save_set4 {g b : Nat} {a W : World} (h : Save g a W) (hb : a.heap.size ≤ b) (u0 u1 u2 u3 : Value) : Save g a (set4 W b u0 u1 u2 u3) := (((h.farS (p := ⟨b, 0, none⟩) hb u0).farS (p := ⟨b, 1, none⟩) hb u1).farS (p := ⟨b, 2, none⟩) hb u2).farS (p := ⟨b, 3, none⟩) hb u3
theorem own_set4 {W : World} {B b : Nat} {v : Value} {l : List Int} (h : ownsR W B 3 v l) (hn : ∀ q, v.ownBlock = some q → q ≠ b) (u0 u1 u2 u3 : Value) : ownsR (set4 W b u0 u1 u2 u3) B 3 v l :=
  h.holdR fun q hq => by
    have hne := hn q hq
    unfold set4
    rw [heap_setCell_other _ ⟨b, 3, none⟩ q _ hne, heap_setCell_other _ ⟨b, 2, none⟩ q _ hne, heap_setCell_other _ ⟨b, 1, none⟩ q _ hne, heap_setCell_other _ ⟨b, 0, none⟩ q _ hne]
theorem one_cell {w : World} {g : Nat} {a : Value} {t : TypeId} (h : w.heap[g]? = some (.cells #[a] t)) : w.cell? ⟨g, 0, none⟩ = some a := by
  simp [World.cell?, h]
theorem one_fz {w : World} {g : Nat} {a : Value} {t : TypeId} (h : w.heap[g]? = some (.cells #[a] t)) (o : Nat) : w.frozen? ⟨g, o, none⟩ = false := by
  simp [World.frozen?, h]
theorem one_set {w : World} {g : Nat} {a : Value} {t : TypeId} (h : w.heap[g]? = some (.cells #[a] t)) (u : Value) : (w.setCell ⟨g, 0, none⟩ u).heap[g]? = some (.cells #[u] t) := by
  simp [World.setCell, Array.getElem?_modify, h]
theorem assert_torn (w : World) : (Instr.typeAssert (.iface 93 (.agg #[])) 20 93 true).run Tryz.prog w = .ok (.tuple #[.agg #[], .bool true]) w := by kernel_rfl
theorem assert_nil (w : World) : (Instr.typeAssert .nilIface 20 93 true).run Tryz.prog w = .ok (.tuple #[.agg #[], .bool false]) w := by kernel_rfl
theorem frame47 (p q : Value) : (#[p, q] ++ Array.replicate (Tryz.f67.ntmps - (#[p, q] : Array Value).size) undef) = #[p, q, undef, undef, undef, undef, undef, undef, undef, undef, undef, undef] := by kernel_rfl
structure Sn4 where
  i : Nat
  t : Nat
  c : ByteArray
  d : ByteArray
def snaP (s : ByteArray) (a : Nat) : Option (Sn4 × Nat) :=
  (numU s 1000000 a).bind fun r0 => (numU s 100000 r0.2).bind fun r1 => (conP s r1.2).bind fun r2 => (shoP s r2.2).bind fun r3 => some (⟨r0.1, r1.1, r2.1, r3.1⟩, r3.2)
def SnapR (r : Option (Sn4 × Nat)) (g : Nat) (s : ByteArray) (w : World) (e : Ending) (w' : World) : Prop := match r with
  | some (x, b) => ∃ oa on oc, e = .returned (.agg #[.int .i64 (x.i : Int), .int .i64 (x.t : Int), .slice oa on oc, .string x.d]) ∧ ownsR w' w.heap.size 3 (.slice oa on oc) (confT x.c) ∧ Rdr w' g s b ∧ Save g w w'
  | none => e = .panicked tornP ∧ Save g w w'
theorem ret_s4 {W : World} {b : Nat} {x0 x1 x2 x3 : Value} {fn : Func} {p : Tmp} {tmps : Array Value} (h : fn.results = #[.cell p 40]) (hp : tmps.getD p undef = .pointer (some ⟨b, 0, none⟩)) (hb : K4s 40 W b x0 x1 x2 x3) :
    (results fn tmps).run Tryz.prog W = .ok (.agg #[x0, x1, x2, x3]) W := by
  have hp' : tmps[p]?.getD undef = .pointer (some ⟨b, 0, none⟩) := by simpa using hp
  simp [results, h, hp', hb.c0, hb.c1, hb.c2, hb.c3, asAddr, go_sem]
theorem not_four {W : World} {X B : Nat} {x0 x1 x2 x3 v : Value} {l : List Int} (h : K4s 40 W X x0 x1 x2 x3) (ho : ownsR W B 3 v l) : ∀ q, v.ownBlock = some q → q ≠ X := fun q hq e => by
  subst e
  rcases ho.2 with ⟨rfl, _⟩ | ⟨g, c, cur, rfl, hg⟩
  · cases hq
  · injection hq with hq
    subst hq
    have h2 : W.heap[g]? = some (.cells cur 3 (0, 0)) := by first | exact hg.2.2.1 | exact hg.2.1 | exact hg.1
    rw [show W.heap[g]? = _ from h] at h2
    injection h2 with h2
    injection h2 with _ h3 _
    exact absurd h3 (by decide)
set_option maxRecDepth 10000 in
set_option maxHeartbeats 4000000 in
theorem snap_any (g : Nat) (s : ByteArray) (a : Nat) (w : World) (hc : Rdr w g s a) (hs : s.size ≤ 1048576) :
    Calls Tryz.prog 51 #[.pointer (some ⟨g, 0, none⟩)] w (SnapR (snaP s a) g s w) := by
  obtain ⟨R, HR⟩ : ∃ R, Hid (snaP s a = R) := ⟨_, rfl⟩
  rw [HR.out]
  have hgl := hc.lt
  obtain ⟨W0, HW0⟩ : ∃ W, Hid (w.alloc (.cells #[.int .i64 0, .int .i64 0, .slice none 0 0, .string { data := #[] }] 40) = W) := ⟨_, rfl⟩
  have C0 : Hid (Rdr W0 g s a) := by rw [← HW0.out]; exact heap_old hc _
  have S0 : Hid (Save g w W0) := by rw [← HW0.out]; exact (Save.refl g w).alloc _
  have K0 : Hid (K4s 40 W0 w.heap.size (.int .i64 0) (.int .i64 0) (.slice none 0 0) (.string { data := #[] })) := by rw [← HW0.out]; exact K4s.new _ _ _ _ _ _
  have C0g : g < W0.heap.size := C0.out.lt
  have hW0s : w.heap.size < W0.heap.size := K0.out.lt
  clear hc
  go_enter Tryz.func51, Tryz.ntmps51
  go_wp2_with fail
  rw [HW0.out]
  refine (show Calls Tryz.prog 69 _ _ _ from numberUp_any g s a 1000000 _ C0.out hs).mono ?_
  rintro e w1 h
  cases hq0 : numU s 1000000 a with
  | none =>
    rw [hq0] at h
    obtain ⟨rfl, h1⟩ := h
    obtain rfl : R = none := by rw [← HR.out]; simp [snaP, hq0]
    have HS : Hid (Save g w w1) := S0.out.trans h1
    clear hq0 h1
    go_wp2
    exact ⟨rfl, rfl, HS.out⟩
  | some r =>
  obtain ⟨x0, a1⟩ := r
  rw [hq0] at h
  obtain ⟨rfl, h1, h2⟩ := h
  have C1 : Hid (Rdr w1 g s a1) := h1
  have S1 : Hid (Save g w w1) := S0.out.trans h2
  have K1 : Hid (K4s 40 w1 w.heap.size (.int .i64 0) (.int .i64 0) (.slice none 0 0) (.string { data := #[] })) := K0.out.save h2 (by omega)
  have SZ1 : Hid (W0.heap.size ≤ w1.heap.size) := Nat.le_trans (Nat.le_refl _) h2.size
  have Hq0 : Hid (numU s 1000000 a = some (x0, a1)) := hq0
  clear hq0 h1 h2 C0 S0 K0
  go_wp2_with fail
  skip
  refine (show Calls Tryz.prog 69 _ _ _ from numberUp_any g s a1 100000 _ C1.out hs).mono ?_
  rintro e w2 h
  cases hq1 : numU s 100000 a1 with
  | none =>
    rw [hq1] at h
    obtain ⟨rfl, h1⟩ := h
    obtain rfl : R = none := by rw [← HR.out]; simp [snaP, Hq0.out, hq1]
    have HS : Hid (Save g w w2) := S1.out.trans h1
    clear hq1 h1
    go_wp2
    exact ⟨rfl, rfl, HS.out⟩
  | some r =>
  obtain ⟨x1, a2⟩ := r
  rw [hq1] at h
  obtain ⟨rfl, h1, h2⟩ := h
  have C2 : Hid (Rdr w2 g s a2) := h1
  have S2 : Hid (Save g w w2) := S1.out.trans h2
  have K2 : Hid (K4s 40 w2 w.heap.size (.int .i64 0) (.int .i64 0) (.slice none 0 0) (.string { data := #[] })) := K1.out.save h2 (by omega)
  have SZ2 : Hid (W0.heap.size ≤ w2.heap.size) := Nat.le_trans SZ1.out h2.size
  have Hq1 : Hid (numU s 100000 a1 = some (x1, a2)) := hq1
  clear hq1 h1 h2 C1 S1 K1
  go_wp2_with fail
  skip
  refine (confR_any g s a2 _ C2.out hs).mono ?_
  rintro e w3 h
  cases hq2 : conP s a2 with
  | none =>
    rw [hq2] at h
    obtain ⟨rfl, h1⟩ := h
    obtain rfl : R = none := by rw [← HR.out]; simp [snaP, Hq0.out, Hq1.out, hq2]
    have HS : Hid (Save g w w3) := S2.out.trans h1
    clear hq2 h1
    go_wp2
    exact ⟨rfl, rfl, HS.out⟩
  | some r =>
  obtain ⟨x2, a3⟩ := r
  rw [hq2] at h
  obtain ⟨v2, rfl, ho, h1, h2⟩ := h
  obtain ⟨oa, on, oc, rfl⟩ := ho.slice3
  have HO3 : Hid (ownsR w3 W0.heap.size 3 (.slice oa on oc) (confT x2)) := ho.mono SZ2.out
  clear ho
  have C3 : Hid (Rdr w3 g s a3) := h1
  have S3 : Hid (Save g w w3) := S2.out.trans h2
  have K3 : Hid (K4s 40 w3 w.heap.size (.int .i64 0) (.int .i64 0) (.slice none 0 0) (.string { data := #[] })) := K2.out.save h2 (by omega)
  have SZ3 : Hid (W0.heap.size ≤ w3.heap.size) := Nat.le_trans SZ2.out h2.size
  have Hq2 : Hid (conP s a2 = some (x2, a3)) := hq2
  clear hq2 h1 h2 C2 S2 K2
  go_wp2_with fail
  skip
  refine (short_any g s a3 _ C3.out hs).mono ?_
  rintro e w4 h
  cases hq3 : shoP s a3 with
  | none =>
    rw [hq3] at h
    obtain ⟨rfl, h1⟩ := h
    obtain rfl : R = none := by rw [← HR.out]; simp [snaP, Hq0.out, Hq1.out, Hq2.out, hq3]
    have HS : Hid (Save g w w4) := S3.out.trans h1
    clear hq3 h1
    go_wp2
    exact ⟨rfl, rfl, HS.out⟩
  | some r =>
  obtain ⟨x3, a4⟩ := r
  rw [hq3] at h
  obtain ⟨rfl, h1, h2⟩ := h
  have HO4 : Hid (ownsR w4 W0.heap.size 3 (.slice oa on oc) (confT x2)) := HO3.out.saveB h2 (by have := C0g; omega)
  have C4 : Hid (Rdr w4 g s a4) := h1
  have S4 : Hid (Save g w w4) := S3.out.trans h2
  have K4 : Hid (K4s 40 w4 w.heap.size (.int .i64 0) (.int .i64 0) (.slice none 0 0) (.string { data := #[] })) := K3.out.save h2 (by omega)
  have SZ4 : Hid (W0.heap.size ≤ w4.heap.size) := Nat.le_trans SZ3.out h2.size
  have Hq3 : Hid (shoP s a3 = some (x3, a4)) := hq3
  clear hq3 h1 h2 C3 S3 K3
  obtain rfl : R = some (⟨x0, x1, x2, x3⟩, a4) := by rw [← HR.out]; simp [snaP, Hq0.out, Hq1.out, Hq2.out, Hq3.out]
  have c0 := K4.out.c0
  have c1 := K4.out.c1
  have c2 := K4.out.c2
  have c3 := K4.out.c3
  have cf0 := K4.out.fz 0
  have cf1 := K4.out.fz 1
  have cf2 := K4.out.fz 2
  have cf3 := K4.out.fz 3
  have hlt8 := K4.out.lt
  go_wp2
  have KE := K4.out.set (.int .i64 (x0 : Int)) (.int .i64 (x1 : Int)) (.slice oa on oc) (.string x3)
  refine bodyPost_ret (ret_s4 rfl rfl KE) rfl ?_
  refine ⟨oa, on, oc, rfl, ?_, heap_set4 C4.out (by omega) _ _ _ _, save_set4 S4.out (Nat.le_refl _) _ _ _ _⟩
  exact own_set4 (HO4.out.mono (Nat.le_of_lt hW0s)) (not_four K4.out HO4.out) _ _ _ _
set_option maxRecDepth 10000 in
set_option maxHeartbeats 1000000 in
theorem catch_torn (p q : Nat) (x0 x1 x2 x3 y : Value) (older : List PanicEntry) (w : World) (hp : K4s 40 w p x0 x1 x2 x3) (hq : w.heap[q]? = some (.cells #[y] 4)) (hpq : p ≠ q) (B : Nat) (h1 : B ≤ p) (h2 : B ≤ q) :
    CallsD Tryz.prog 67 #[.pointer (some ⟨p, 0, none⟩), .pointer (some ⟨q, 0, none⟩)] (.panicking ({ v := tornV, recovered := false } :: older)) w fun e u' w' =>
      e = .returned (.tuple #[]) ∧ u' = .panicking ({ v := tornV, recovered := true } :: older) ∧ K4s 40 w' p (.int .i64 0) (.int .i64 0) (.slice none 0 0) (.string { data := #[] }) ∧ w'.heap[q]? = some (.cells #[.bool false] 4) ∧ Below B w w' := by
  refine callsD_of_wpS Tryz.func67 rfl fun c₀ cs hu => ?_
  apply wpS_seq
  rw [frame47]
  have a1 := assert_torn
  apply wpS_region
  simp only [tornV] at hu ⊢
  simp [wpOpsS, go_sem, recoverD, hu, a1, Exit.thenS]
  have g1 : K4s 40 (w.alloc (.cells #[] 93)) p x0 x1 x2 x3 := heap_old hp _
  have g2 := heap_old hq (.cells #[] 93)
  have hb : Below B w (w.alloc (.cells #[] 93)) := (ba (Below.refl _ _) _).mono (by have := hp.lt; omega)
  generalize w.alloc (.cells #[] 93) = w1 at g1 g2 hb ⊢
  refine wpS_of_wp ?_
  obtain ⟨W2, HW2⟩ : ∃ V, w1.alloc (.cells #[.int .i64 0, .int .i64 0, .slice none 0 0, .string { data := #[] }] 40) = V := ⟨_, rfl⟩
  have k1 : K4s 40 W2 p x0 x1 x2 x3 := by rw [← HW2]; exact heap_old g1 _
  have k2 : W2.heap[q]? = some (.cells #[y] 4) := by rw [← HW2]; exact heap_old g2 _
  have k3 : K4s 40 W2 w1.heap.size (.int .i64 0) (.int .i64 0) (.slice none 0 0) (.string { data := #[] }) := by rw [← HW2]; exact K4s.new _ _ _ _ _ _
  have hb2 : Below B w W2 := by rw [← HW2]; exact Below.alloc hb (by have := g1.lt; omega) _
  have hpl : p < w1.heap.size := g1.lt
  have hql : q < w1.heap.size := (Array.getElem?_eq_some_iff.1 g2).1
  have c0 := k1.c0
  have c1 := k1.c1
  have c2 := k1.c2
  have c3 := k1.c3
  have cf0 := k1.fz 0
  have cf1 := k1.fz 1
  have cf2 := k1.fz 2
  have cf3 := k1.fz 3
  have d0 := one_cell k2
  have e0 := one_fz k2
  have n0 := k3.c0
  have n1 := k3.c1
  have n2 := k3.c2
  have n3 := k3.c3
  clear g1 g2 hb
  go_wp2
  have KE := k1.set (.int .i64 0) (.int .i64 0) (.slice none 0 0) (.string { data := #[] })
  refine ⟨rfl, _, rfl, .tuple #[], results_none rfl _ _ _, rfl, rfl, ?_, ?_, ?_⟩
  · exact heap_far KE (by show q ≠ p; omega) _
  · exact one_set (heap_set4 k2 (by omega) _ _ _ _) _
  · exact Below.setCell (below_set4 hb2 h1 _ _ _ _) (by show B ≤ q; omega) _
set_option maxRecDepth 10000 in
set_option maxHeartbeats 400000 in
theorem catch_idle (p q : Nat) (w : World) :
    CallsD Tryz.prog 67 #[.pointer (some ⟨p, 0, none⟩), .pointer (some ⟨q, 0, none⟩)] .returning w fun e u' w' => e = .returned (.tuple #[]) ∧ u' = .returning ∧ Below w.heap.size w w' := by
  refine callsD_of_wpS Tryz.func67 rfl fun c₀ cs hu => ?_
  apply wpS_seq
  rw [frame47]
  have a1 := assert_nil
  apply wpS_region
  simp [wpOpsS, go_sem, recoverD, hu, a1, Exit.thenS]
  have hb : Below w.heap.size w (w.alloc (.cells #[] 93)) := ba (Below.refl _ _) _
  generalize w.alloc (.cells #[] 93) = w1 at hb ⊢
  refine wpS_of_wp ?_
  go_wp2
  exact ⟨rfl, .returning, by rw [← hu], .tuple #[], results_none rfl _ _ _, rfl, rfl, hb⟩
theorem ret_rw {fn : Func} {p q : Tmp} {w : World} {g k : Nat} {x0 x1 x2 x3 y : Value} {tmps : Array Value} (h : fn.results = #[.cell p 40, .cell q 4]) (hp : tmps.getD p undef = .pointer (some ⟨g, 0, none⟩)) (hq : tmps.getD q undef = .pointer (some ⟨k, 0, none⟩)) (hb : K4s 40 w g x0 x1 x2 x3) (hk : w.heap[k]? = some (.cells #[y] 4)) :
    (results fn tmps).run Tryz.prog w = .ok (.tuple #[.agg #[x0, x1, x2, x3], y]) w := by
  have hp' : tmps[p]?.getD undef = .pointer (some ⟨g, 0, none⟩) := by simpa using hp
  have hq' : tmps[q]?.getD undef = .pointer (some ⟨k, 0, none⟩) := by simpa using hq
  have h4 := one_cell hk
  simp [results, h, hp', hq', hb.c0, hb.c1, hb.c2, hb.c3, h4, asAddr, go_sem]
set_option maxRecDepth 10000 in
theorem door_torn {R : Ending → World → Prop} {W : World} {T : Array Value} {p q B : Nat} {x0 x1 x2 x3 y : Value} (hp : K4s 40 W p x0 x1 x2 x3) (hq : W.heap[q]? = some (.cells #[y] 4)) (hpq : p ≠ q) (h1 : B ≤ p) (h2 : B ≤ q)
    (t2 : T.getD 4 undef = .pointer (some ⟨p, 0, none⟩)) (t3 : T.getD 5 undef = .pointer (some ⟨q, 0, none⟩))
    (hR : ∀ w', Below B W w' → R (.returned (.tuple #[.agg #[.int .i64 0, .int .i64 0, .slice none 0 0, .string { data := #[] }], .bool false])) w') :
    bodyPostD Tryz.prog Tryz.f50 R (Exit.panic tornP) { tmps := T, defers := [{ target := Target.fn (Fn.func 67) #[.pointer (some ⟨p, 0, none⟩), .pointer (some ⟨q, 0, none⟩)], args := #[] }] } W := by
  refine leaves_cons (f := 67) (args := #[.pointer (some ⟨p, 0, none⟩), .pointer (some ⟨q, 0, none⟩)]) (by simp) (by simp [go_sem]) ?_
  refine (catch_torn p q x0 x1 x2 x3 y [] W hp hq hpq B h1 h2).mono ?_
  rintro e u' w'' ⟨rfl, rfl, g1, g2, hb⟩
  exact ⟨_, ret_rw rfl t2 t3 g1 g2, hR _ hb⟩
set_option maxRecDepth 10000 in
theorem door_done {R : Ending → World → Prop} {W : World} {T : Array Value} {p q : Nat} {x0 x1 x2 x3 y : Value} (hp : K4s 40 W p x0 x1 x2 x3) (hq : W.heap[q]? = some (.cells #[y] 4))
    (t2 : T.getD 4 undef = .pointer (some ⟨p, 0, none⟩)) (t3 : T.getD 5 undef = .pointer (some ⟨q, 0, none⟩))
    (hR : ∀ w', Below W.heap.size W w' → R (.returned (.tuple #[.agg #[x0, x1, x2, x3], y])) w') :
    bodyPostD Tryz.prog Tryz.f50 R Exit.ret { tmps := T, defers := [{ target := Target.fn (Fn.func 67) #[.pointer (some ⟨p, 0, none⟩), .pointer (some ⟨q, 0, none⟩)], args := #[] }] } W := by
  refine leaves_cons (f := 67) (args := #[.pointer (some ⟨p, 0, none⟩), .pointer (some ⟨q, 0, none⟩)]) (by simp) (by simp [go_sem]) ?_
  refine (catch_idle p q W).mono ?_
  rintro e u' w'' ⟨rfl, rfl, hb⟩
  exact ⟨_, ret_rw rfl t2 t3 (hp.up hb) (blk_upR hq hb), hR _ hb⟩
/-- The snapshot that the whole of a text tells. -/
def rwS (s : ByteArray) : Option Sn4 := match snaP s 0 with
  | some (x, b) => if b = s.size then some x else none
  | none => none
def rwD (r : Option Sn4) : Rsd := match r with
  | some x => ⟨x.i, x.t, confT x.c, x.d, true⟩
  | none => zeroS
def RwP (r : Rsd) (w : World) (e : Ending) (w' : World) : Prop := ∃ oa on oc, e = .returned (.tuple #[.agg #[.int .i64 r.i, .int .i64 r.t, .slice oa on oc, .string r.b], .bool r.z]) ∧ ownsR w' w.heap.size 3 (.slice oa on oc) r.l ∧ Below w.heap.size w w'
set_option maxRecDepth 10000 in
set_option maxHeartbeats 4000000 in
theorem readWhole_any (s : ByteArray) (w : World) (hs : s.size ≤ 1048576) :
    Calls Tryz.prog 50 #[.string s, .func (.func 51) #[] #[]] w (RwP (rwD (rwS s)) w) := by
  have hmf : ∀ (fn : Fn) (first cap : Array Value) (w : World), (Instr.makeFunc fn first cap).run Tryz.prog w = .ok (.func fn first cap) w := fun _ _ _ _ => rfl
  obtain ⟨R, HR⟩ : ∃ R, Hid (rwS s = R) := ⟨_, rfl⟩
  rw [HR.out]
  obtain ⟨W0, HW0⟩ : ∃ V, Hid (((w.alloc (.cells #[.int .i64 0, .int .i64 0, .slice none 0 0, .string { data := #[] }] 40)).alloc (.cells #[.bool false] 4)).alloc (.cells #[.string s, .int .i64 0] 96) = V) := ⟨_, rfl⟩
  have G1 : Hid (K4s 40 W0 w.heap.size (.int .i64 0) (.int .i64 0) (.slice none 0 0) (.string { data := #[] })) := by rw [← HW0.out]; exact heap_old (heap_old (K4s.new _ _ _ _ _ _) _) _
  have G2 : Hid (W0.heap[w.heap.size + 1]? = some (.cells #[.bool false] 4)) := by rw [← HW0.out]; exact heap_old (heap_next _ _ _) _
  have GR : Hid (Rdr W0 (w.heap.size + 2) s 0) := by
    rw [← HW0.out]
    have := heap_last ((w.alloc (.cells #[.int .i64 0, .int .i64 0, .slice none 0 0, .string { data := #[] }] 40)).alloc (.cells #[.bool false] 4)) (.cells #[.string s, .int .i64 0] 96)
    rw [World.size_alloc, World.size_alloc] at this
    exact this
  have B0 : Hid (Below w.heap.size w W0) := by rw [← HW0.out]; exact ba (ba (ba (Below.refl _ _) _) _) _
  have hgW : w.heap.size + 2 < W0.heap.size := GR.out.lt
  go_enter_defers Tryz.func50, Tryz.ntmps50
  go_wp2_with fail
  rw [HW0.out]
  refine (snap_any (w.heap.size + 2) s 0 _ GR.out hs).mono ?_
  rintro e w1 h
  cases hq : snaP s 0 with
  | none =>
    rw [hq] at h
    obtain ⟨rfl, h1⟩ := h
    obtain rfl : R = none := by rw [← HR.out]; unfold rwS; rw [hq]
    have g1 := G1.out.save h1 (by omega)
    have g2 := h1.heap (k := w.heap.size + 1) (by omega) G2.out
    have hb := Save.under (B := w.heap.size) B0.out h1 (by omega) B0.out.size
    clear hq h1
    go_wp2
    exact door_torn g1 g2 (by omega) (Nat.le_refl _) (by omega) rfl rfl fun w' h => ⟨none, 0, 0, rfl, ownsR_nil _ _ _, hb.trans h⟩
  | some r =>
  obtain ⟨⟨i, t, c, d⟩, b⟩ := r
  rw [hq] at h
  obtain ⟨oa, on, oc, rfl, ho, h0, h1⟩ := h
  have O1 : Hid (ownsR w1 W0.heap.size 3 (.slice oa on oc) (confT c)) := ho
  have K1 : Hid (K4s 40 w1 w.heap.size (.int .i64 0) (.int .i64 0) (.slice none 0 0) (.string { data := #[] })) := G1.out.save h1 (by omega)
  have L1 : Hid (w1.heap[w.heap.size + 1]? = some (.cells #[.bool false] 4)) := h1.heap (k := w.heap.size + 1) (by omega) G2.out
  have B1 : Hid (Below w.heap.size w w1) := Save.under (B := w.heap.size) B0.out h1 (by omega) B0.out.size
  have R1 : Hid (Rdr w1 (w.heap.size + 2) s b) := h0
  have HQ : Hid (snaP s 0 = some (⟨i, t, c, d⟩, b)) := hq
  clear hq h0 h1 G1 G2 GR B0 ho
  have hlt : w.heap.size < w1.heap.size := K1.out.lt
  have c0 := K1.out.c0
  have c1 := K1.out.c1
  have c2 := K1.out.c2
  have c3 := K1.out.c3
  have cf0 := K1.out.fz 0
  have cf1 := K1.out.fz 1
  have cf2 := K1.out.fz 2
  have cf3 := K1.out.fz 3
  dsimp only
  go_wp2_with fail
  obtain ⟨W2, HW2⟩ : ∃ V, Hid (set4 w1 w.heap.size (.int .i64 (i : Int)) (.int .i64 (t : Int)) (.slice oa on oc) (.string d) = V) := ⟨_, rfl⟩
  have K2 : Hid (K4s 40 W2 w.heap.size (.int .i64 (i : Int)) (.int .i64 (t : Int)) (.slice oa on oc) (.string d)) := by rw [← HW2.out]; exact K1.out.set _ _ _ _
  have L2 : Hid (W2.heap[w.heap.size + 1]? = some (.cells #[.bool false] 4)) := by rw [← HW2.out]; exact heap_set4 L1.out (by omega) _ _ _ _
  have B2 : Hid (Below w.heap.size w W2) := by rw [← HW2.out]; exact below_set4 B1.out (Nat.le_refl _) _ _ _ _
  have R2 : Hid (Rdr W2 (w.heap.size + 2) s b) := by rw [← HW2.out]; exact heap_set4 R1.out (by omega) _ _ _ _
  have O2 : Hid (ownsR W2 W0.heap.size 3 (.slice oa on oc) (confT c)) := by rw [← HW2.out]; exact own_set4 O1.out (not_four K1.out O1.out) _ _ _ _
  have hw2 := HW2.out
  unfold set4 at hw2
  rw [hw2]
  clear hw2 K1 L1 B1 R1 O1 c0 cf0 c1 cf1 c2 cf2 c3 cf3
  by_cases hb : b = s.size
  · obtain rfl : R = some ⟨i, t, c, d⟩ := by rw [← HR.out]; unfold rwS; rw [HQ.out]; simp [hb]
    subst hb
    refine (end_yes _ _ _ R2.out).mono ?_
    rintro e w3 ⟨rfl, h3⟩
    have K3 := K2.out.up h3
    have L3 := blk_upR L2.out h3
    have B3 := Below.on B2.out h3
    have O3 := O2.out.all h3
    clear K2 L2 B2 R2 O2 h3
    have hlt3 : w.heap.size < w3.heap.size := K3.lt
    have c0 := K3.c0
    have c1 := K3.c1
    have c2 := K3.c2
    have c3 := K3.c3
    have cf0 := K3.fz 0
    have cf1 := K3.fz 1
    have cf2 := K3.fz 2
    have cf3 := K3.fz 3
    have d0 := one_cell L3
    have e0 := one_fz L3
    go_wp2
    have KF := K3.set (.int .i64 (i : Int)) (.int .i64 (t : Int)) (.slice oa on oc) (.string d)
    have OF := own_set4 O3 (not_four K3 O3) (.int .i64 (i : Int)) (.int .i64 (t : Int)) (.slice oa on oc) (.string d)
    have LF := heap_set4 L3 (show w.heap.size ≠ w.heap.size + 1 by omega) (.int .i64 (i : Int)) (.int .i64 (t : Int)) (.slice oa on oc) (.string d)
    have OG : ownsR ((set4 w3 w.heap.size (.int .i64 (i : Int)) (.int .i64 (t : Int)) (.slice oa on oc) (.string d)).setCell ⟨w.heap.size + 1, 0, none⟩ (.bool true)) W0.heap.size 3 (.slice oa on oc) (confT c) := OF.setBelow (a := ⟨w.heap.size + 1, 0, none⟩) (by show w.heap.size + 1 < _; omega) _
    exact door_done (heap_far KF (by show w.heap.size + 1 ≠ w.heap.size; omega) _) (one_set LF _) rfl rfl fun w' h => ⟨oa, on, oc, rfl, (OG.all h).mono (by omega), (Below.setCell (below_set4 B3 (Nat.le_refl _) (.int .i64 (i : Int)) (.int .i64 (t : Int)) (.slice oa on oc) (.string d)) (p := ⟨w.heap.size + 1, 0, none⟩) (by show w.heap.size ≤ w.heap.size + 1; omega) _).trans (h.mono (by simp; omega))⟩
  · obtain rfl : R = none := by rw [← HR.out]; unfold rwS; rw [HQ.out]; simp [hb]
    refine (end_no _ _ b _ R2.out hb).mono ?_
    rintro e w3 ⟨rfl, h3⟩
    have K3 := K2.out.up h3
    have L3 := blk_upR L2.out h3
    have B3 := Below.on B2.out h3
    clear K2 L2 B2 R2 O2 h3
    go_wp2
    exact door_torn K3 L3 (by omega) (Nat.le_refl _) (by omega) rfl rfl fun w' h => ⟨none, 0, 0, rfl, ownsR_nil _ _ _, B3.trans h⟩
end Go.Proofs.YtingfgbcinlflaaGreatDoor

namespace Go.Proofs.YtingfgbcinlflaaGreatDoor
open Go Go.RowKit
set_option linter.unusedVariables false

/-- What ReadSnap comes to. -/
def rsV (r : Rsd) (v : Value) : Value := .tuple #[.agg #[.int .i64 r.i, .int .i64 r.t, v, .string r.b], .bool r.z]
def RsP (s : ByteArray) (w : World) (e : Ending) (w' : World) : Prop := ∃ v, e = .returned (rsV (rsP s) v) ∧ ownsR w' w.heap.size 3 v (rsP s).l ∧ Below w.heap.size w w'
theorem numU_some {s : ByteArray} {lim a X Y : Nat} (h : rv s a = ((X : Int), (Y : Int), true)) (hl : X ≤ lim) : numU s lim a = some (X, Y) := by
  unfold numU numP
  rw [h, if_pos rfl]
  simp [hl]
theorem shoP_of {s : ByteArray} {a X Y : Nat} (h : rv s a = ((X : Int), (Y : Int), true)) (h1 : X ≤ 20000) (h2 : Y + X ≤ s.size) : shoP s a = some (s.extract Y (Y + X), Y + X) := by
  unfold shoP numP
  rw [h, if_pos rfl]
  simp [h1, h2]
theorem numU_rv {s : ByteArray} {lim a X Y : Nat} (h : numU s lim a = some (X, Y)) : rv s a = ((X : Int), (Y : Int), true) ∧ X ≤ lim := by
  unfold numU at h
  split at h
  · rename_i x y e
    split at h
    · rename_i hl
      simp only [Option.some.injEq, Prod.mk.injEq] at h
      obtain ⟨rfl, rfl⟩ := h
      exact ⟨(numP_some e).1, hl⟩
    · cases h
  · cases h
theorem conP_sho {s c : ByteArray} {a b : Nat} (h : conP s a = some (c, b)) : shoP s a = some (c, b) ∧ okT c = true := by
  unfold conP at h
  split at h
  · rename_i t b e
    split at h
    · rename_i hk
      simp only [Option.some.injEq, Prod.mk.injEq] at h
      obtain ⟨rfl, rfl⟩ := h
      exact ⟨e, hk⟩
    · cases h
  · cases h
/-- What the program reads of a sealed text is what the steps of the cursor tell. -/
theorem rsP_rw {s : ByteArray} (hu : 4 ≤ s.size ∧ s.size ≤ 20004 ∧ lastT s = tail4 (headT s)) (hl : s.size ≤ 20000) : rsP s = rwD (rwS (headT s)) := by
  obtain ⟨i, t, n, m, c, d, a1, a2, a3, a4, a5, a6, b1, b2, b3, b4, b5, b6, hst⟩ := steps_all (inS s).1 (inS s).2
  have e0 := rsP_steps hst
  have ei := inS_yes hu.1 hu.2.1 hu.2.2
  rw [ei] at hst
  replace hst : Steps (headT s) false i t n m c d a1 a2 a3 a4 a5 a6 b1 b2 b3 b4 b5 b6 := hst
  have hx := headT_size s
  cases hr : rwS (headT s) with
  | some x =>
    unfold rwS at hr
    split at hr
    · rename_i y b hy
      split at hr
      · rename_i hb
        injection hr with hr
        subst hr
        unfold snaP at hy
        simp only [Option.bind_eq_some_iff] at hy
        obtain ⟨⟨y0, z0⟩, h0, ⟨y1, z1⟩, h1, ⟨y2, z2⟩, h2, ⟨y3, z3⟩, h3, h4⟩ := hy
        simp only [Option.some.injEq, Prod.mk.injEq] at h4
        obtain ⟨rfl, rfl⟩ := h4
        obtain ⟨q0, l0⟩ := numU_rv h0
        obtain ⟨q1, l1⟩ := numU_rv h1
        obtain ⟨h2', hk⟩ := conP_sho h2
        obtain ⟨X2, Y2, q2, l2, f2, rfl, rfl, -⟩ := shoP_some h2'
        obtain ⟨X3, Y3, q3, l3, f3, rfl, rfl, -⟩ := shoP_some h3
        have s1 := hst.s1
        rw [varS_yes q0] at s1
        simp only [Prod.mk.injEq] at s1
        obtain ⟨rfl, rfl, rfl⟩ := s1
        have s2 := hst.s2
        rw [varS_yes q1] at s2
        simp only [Prod.mk.injEq] at s2
        obtain ⟨rfl, rfl, rfl⟩ := s2
        have s3 := hst.s3
        rw [varS_yes q2] at s3
        simp only [Prod.mk.injEq] at s3
        obtain ⟨rfl, rfl, rfl⟩ := s3
        have s4 := hst.s4
        rw [takeS_yes f2] at s4
        simp only [Prod.mk.injEq] at s4
        obtain ⟨rfl, rfl, rfl⟩ := s4
        have s5 := hst.s5
        rw [varS_yes q3] at s5
        simp only [Prod.mk.injEq] at s5
        obtain ⟨rfl, rfl, rfl⟩ := s5
        have s6 := hst.s6
        rw [takeS_yes f3] at s6
        simp only [Prod.mk.injEq] at s6
        obtain ⟨rfl, rfl, rfl⟩ := s6
        rw [e0]
        exact rsF_yes hst hu.1 hl hu.2.2 (by omega) (by omega) hk hb
      · cases hr
    · cases hr
  | none =>
    show rsP s = zeroS
    cases b1 with
    | true => rw [e0, hst.up1 rfl]; exact rsF_bad
    | false =>
      have h1 : rv (headT s) (0 : Nat) = ((i : Int), (a1 : Int), true) := (varS_ok hst.s1).2
      by_cases hi : (i : Int) ≤ 1000000
      · cases b2 with
        | true => rw [e0, hst.up2 rfl]; exact rsF_bad
        | false =>
          have h2 : rv (headT s) a1 = ((t : Int), (a2 : Int), true) := (varS_ok hst.s2).2
          by_cases hti : (t : Int) ≤ 100000
          · cases b3 with
            | true => rw [e0, hst.up3 rfl]; exact rsF_bad
            | false =>
              have h3 : rv (headT s) a2 = ((n : Int), (a3 : Int), true) := (varS_ok hst.s3).2
              cases b4 with
              | true => rw [e0, hst.up4 rfl]; exact rsF_bad
              | false =>
                obtain ⟨_, h4a, h4b, h4c⟩ := takeS_ok hst.s4
                cases hk : okT c with
                | false => rw [e0]; exact rsF_conf hk
                | true =>
                  cases b5 with
                  | true => rw [e0, hst.up5 rfl]; exact rsF_bad
                  | false =>
                    have h5 : rv (headT s) a4 = ((m : Int), (a5 : Int), true) := (varS_ok hst.s5).2
                    rw [h4c] at h5
                    cases b6 with
                    | true => rw [e0]; exact rsF_bad
                    | false =>
                      obtain ⟨_, h6a, h6b, h6c⟩ := takeS_ok hst.s6
                      by_cases he : a6 = (headT s).size
                      · exfalso
                        have u0 := numU_some (lim := 1000000) h1 (by omega)
                        have u1 := numU_some (lim := 100000) h2 (by omega)
                        have u2 := shoP_of h3 (by omega) h4a
                        have u3 := shoP_of h5 (by omega) h6a
                        have uc : conP (headT s) a2 = some (c, a3 + n) := by unfold conP; rw [u2, ← h4b]; simp [hk]
                        have us : snaP (headT s) 0 = some (⟨i, t, c, (headT s).extract a5 (a5 + m)⟩, a5 + m) := by
                          unfold snaP
                          simp [u0, u1, uc, u3]
                        unfold rwS at hr
                        rw [us] at hr
                        simp only [] at hr
                        rw [if_pos (by omega)] at hr
                        cases hr
                      · rw [e0]; exact rsF_behind hst hk he
          · rw [e0]; exact rsF_term (by omega)
      · rw [e0]; exact rsF_index (by omega)
theorem rsP_no {s : ByteArray} (h : ¬ ((4 ≤ s.size ∧ s.size ≤ 20004 ∧ lastT s = tail4 (headT s)) ∧ s.size ≤ 20000)) : rsP s = zeroS := by
  obtain ⟨i, t, n, m, c, d, a1, a2, a3, a4, a5, a6, b1, b2, b3, b4, b5, b6, hst⟩ := steps_all (inS s).1 (inS s).2
  have e0 := rsP_steps hst
  by_cases hu : 4 ≤ s.size ∧ s.size ≤ 20004 ∧ lastT s = tail4 (headT s)
  · have hl : ¬ s.size ≤ 20000 := fun e => h ⟨hu, e⟩
    rw [e0]
    exact rsF_long (by omega)
  · have ei := inS_no hu
    rw [e0, hst.up0 (by rw [ei])]
    exact rsF_bad
theorem ret_snap2 {fn : Func} {p q : Tmp} {w : World} {g : Nat} {a b c d y : Value} {tmps : Array Value} (h : fn.results = #[.cell p 40, .tmp q]) (hp : tmps.getD p undef = .pointer (some ⟨g, 0, none⟩)) (hq : tmps.getD q undef = y) (hb : K4s 40 w g a b c d) :
    (results fn tmps).run Tryz.prog w = .ok (.tuple #[.agg #[a, b, c, d], y]) w := by
  have hp' : tmps[p]?.getD undef = .pointer (some ⟨g, 0, none⟩) := by simpa using hp
  have hq' : tmps[q]?.getD undef = y := by simpa using hq
  simp [results, h, hp', hq', hb.c0, hb.c1, hb.c2, hb.c3, asAddr, go_sem]
set_option maxRecDepth 10000 in
set_option maxHeartbeats 1000000 in
/-- The program's ReadSnap. -/
theorem readSnap_any (s : ByteArray) (w : World) (hs : s.size ≤ 1048576) (ht : TableIs w) : Calls Tryz.prog 33 #[.string s] w (RsP s w) := by
  have HT : Hid (TableIs w) := ht
  clear ht
  obtain ⟨W0, HW0⟩ : ∃ V, Hid (w.alloc (.cells #[.int .i64 0, .int .i64 0, .slice none 0 0, .string { data := #[] }] 40) = V) := ⟨_, rfl⟩
  have K0 : Hid (K4s 40 W0 w.heap.size (.int .i64 0) (.int .i64 0) (.slice none 0 0) (.string { data := #[] })) := by rw [← HW0.out]; exact K4s.new _ _ _ _ _ _
  have B0 : Hid (Below w.heap.size w W0) := by rw [← HW0.out]; exact ba (Below.refl _ _) _
  have HT0 : Hid (TableIs W0) := HT.out.below B0.out
  have hw0 : w.heap.size < W0.heap.size := K0.out.lt
  by_cases hu : (4 ≤ s.size ∧ s.size ≤ 20004 ∧ lastT s = tail4 (headT s)) ∧ s.size ≤ 20000
  · have HRS : Hid (rsP s = rwD (rwS (headT s))) := rsP_rw hu.1 hu.2
    have HU : Hid (∀ W, TableIs W → Calls Tryz.prog 49 #[.string s] W fun e w' => e = .returned (.tuple #[.string (headT s), .bool true]) ∧ Below W.heap.size W w') := fun W h => unsealed_yes s W hu.1.1 hu.1.2.1 hu.1.2.2 h
    have hd : decide ((20000 : Int) < (s.size : Int)) = false := decide_eq_false (by omega)
    have hd2 : decide (20000 < s.size) = false := decide_eq_false (by omega)
    have HX : Hid ((headT s).size ≤ 1048576) := by have := headT_size s; show _ ≤ _; omega
    obtain ⟨x, Hx⟩ : ∃ x, Hid (headT s = x) := ⟨_, rfl⟩
    rw [Hx.out] at HU HX HRS
    clear hu hs
    go_enter Tryz.func33, Tryz.ntmps33
    go_wp2_with fail
    rw [HW0.out]
    refine (HU.out _ HT0.out).mono ?_
    rintro e w1 ⟨rfl, hb1⟩
    have K1 : Hid (K4s 40 w1 w.heap.size (.int .i64 0) (.int .i64 0) (.slice none 0 0) (.string { data := #[] })) := K0.out.up hb1
    have B1 : Hid (Below w.heap.size w w1) := Below.on B0.out hb1
    have hw1 : w.heap.size < w1.heap.size := K1.out.lt
    clear hb1 K0 B0 HU
    go_wp2_with fail
    refine (readWhole_any x _ HX.out).mono ?_
    rintro e w2 ⟨oa, on, oc, rfl, ho, hb2⟩
    obtain ⟨r, HR⟩ : ∃ r, Hid (rwD (rwS x) = r) := ⟨_, rfl⟩
    rw [HR.out] at ho ⊢
    have K2 := K1.out.up hb2
    have B2 := Below.on B1.out hb2
    have HO : Hid (ownsR w2 w1.heap.size 3 (.slice oa on oc) r.l) := ho
    clear hb2 K1 B1 ho
    have c0 := K2.c0
    have c1 := K2.c1
    have c2 := K2.c2
    have c3 := K2.c3
    have f0 := K2.fz 0
    have f1 := K2.fz 1
    have f2 := K2.fz 2
    have f3 := K2.fz 3
    have hl2 := K2.lt
    obtain ⟨ri, rt, rl, rb, rz⟩ := r
    dsimp only at HO ⊢
    go_wp2
    have KE := K2.set (.int .i64 ri) (.int .i64 rt) (.slice oa on oc) (.string rb)
    refine bodyPost_ret (ret_snap2 rfl rfl rfl KE) rfl ?_
    refine ⟨.slice oa on oc, by rw [HRS.out, HR.out]; rfl, ?_, below_set4 B2 (Nat.le_refl _) _ _ _ _⟩
    rw [HRS.out, HR.out]
    exact (own_set4 HO.out (not_four K2 HO.out) _ _ _ _).mono (Nat.le_of_lt hw1)
  · have HRS : Hid (rsP s = zeroS) := rsP_no hu
    have HE : Hid (∀ W, K4s 40 W w.heap.size (.int .i64 0) (.int .i64 0) (.slice none 0 0) (.string { data := #[] }) → Below w.heap.size w W → RsP s w (.returned (.tuple #[.agg #[.int .i64 0, .int .i64 0, .slice none 0 0, .string { data := #[] }], .bool false])) (set4 W w.heap.size (.int .i64 0) (.int .i64 0) (.slice none 0 0) (.string { data := #[] }))) := fun W _ hb => ⟨.slice none 0 0, by rw [HRS.out]; rfl, by rw [HRS.out]; exact ownsR_nil _ _ _, below_set4 hb (Nat.le_refl _) _ _ _ _⟩
    by_cases hun : 4 ≤ s.size ∧ s.size ≤ 20004 ∧ lastT s = tail4 (headT s)
    · have HU : Hid (∀ W, TableIs W → Calls Tryz.prog 49 #[.string s] W fun e w' => e = .returned (.tuple #[.string (headT s), .bool true]) ∧ Below W.heap.size W w') := fun W h => unsealed_yes s W hun.1 hun.2.1 hun.2.2 h
      have hl : ¬ s.size ≤ 20000 := fun e => hu ⟨hun, e⟩
      have hd : decide ((20000 : Int) < (s.size : Int)) = true := decide_eq_true (by omega)
      have hd2 : decide (20000 < s.size) = true := decide_eq_true (by omega)
      clear hu hun hs HRS
      obtain ⟨x, Hx⟩ : ∃ x, Hid (headT s = x) := ⟨_, rfl⟩
      rw [Hx.out] at HU
      go_enter Tryz.func33, Tryz.ntmps33
      go_wp2_with fail
      rw [HW0.out]
      refine (HU.out _ HT0.out).mono ?_
      rintro e w1 ⟨rfl, hb1⟩
      have K1 := K0.out.up hb1
      have HH := HE.out w1 K1 (Below.on B0.out hb1)
      have c0 := K1.c0
      have c1 := K1.c1
      have c2 := K1.c2
      have c3 := K1.c3
      have f0 := K1.fz 0
      have f1 := K1.fz 1
      have f2 := K1.fz 2
      have f3 := K1.fz 3
      have HHH : Hid (RsP s w (.returned (.tuple #[.agg #[.int .i64 0, .int .i64 0, .slice none 0 0, .string { data := #[] }], .bool false])) (set4 w1 w.heap.size (.int .i64 0) (.int .i64 0) (.slice none 0 0) (.string { data := #[] }))) := HH
      clear HH hb1
      go_wp2
      exact bodyPost_ret (ret_snap2 rfl rfl rfl (K1.set _ _ _ _)) rfl HHH.out
    · have HU : Hid (∀ W, TableIs W → Calls Tryz.prog 49 #[.string s] W fun e w' => e = .returned (.tuple #[.string ByteArray.empty, .bool false]) ∧ Below W.heap.size W w') := fun W h => by
        by_cases h0 : s.size < 4
        · exact unsealed_short s W h0
        · by_cases h1 : 20004 < s.size
          · exact unsealed_long s W (by omega) h1
          · exact unsealed_no s W (by omega) (by omega) (fun e => hun ⟨by omega, by omega, e⟩) h
      clear hu hun hs HRS
      go_enter Tryz.func33, Tryz.ntmps33
      go_wp2_with fail
      rw [HW0.out]
      refine (HU.out _ HT0.out).mono ?_
      rintro e w1 ⟨rfl, hb1⟩
      have K1 := K0.out.up hb1
      have HH := HE.out w1 K1 (Below.on B0.out hb1)
      have c0 := K1.c0
      have c1 := K1.c1
      have c2 := K1.c2
      have c3 := K1.c3
      have f0 := K1.fz 0
      have f1 := K1.fz 1
      have f2 := K1.fz 2
      have f3 := K1.fz 3
      have HHH : Hid (RsP s w (.returned (.tuple #[.agg #[.int .i64 0, .int .i64 0, .slice none 0 0, .string { data := #[] }], .bool false])) (set4 w1 w.heap.size (.int .i64 0) (.int .i64 0) (.slice none 0 0) (.string { data := #[] }))) := HH
      clear HH hb1
      go_wp2
      exact bodyPost_ret (ret_snap2 rfl rfl rfl (K1.set _ _ _ _)) rfl HHH.out
end Go.Proofs.YtingfgbcinlflaaGreatDoor

namespace Go.Proofs.YtingfgbcinlflaaGreatDoor
open Go Go.RowKit

/-! What a block of four cells is after one is set. -/
theorem sb_frozen {w : World} {g : Nat} {c : Array Value} {t : TypeId} (h : w.heap[g]? = some (.cells c t)) (o : Nat) : w.frozen? ⟨g, o, none⟩ = false := by
  simp [World.frozen?, h]
theorem sb_set0 {w : World} {g : Nat} {a b c d : Value} {t : TypeId} (h : w.heap[g]? = some (.cells #[a, b, c, d] t)) (u : Value) : (w.setCell ⟨g, 0, none⟩ u).heap[g]? = some (.cells #[u, b, c, d] t) := by
  simp [World.setCell, Array.getElem?_modify, h]
theorem sb_set1 {w : World} {g : Nat} {a b c d : Value} {t : TypeId} (h : w.heap[g]? = some (.cells #[a, b, c, d] t)) (u : Value) : (w.setCell ⟨g, 1, none⟩ u).heap[g]? = some (.cells #[a, u, c, d] t) := by
  simp [World.setCell, Array.getElem?_modify, h]
theorem sb_set2 {w : World} {g : Nat} {a b c d : Value} {t : TypeId} (h : w.heap[g]? = some (.cells #[a, b, c, d] t)) (u : Value) : (w.setCell ⟨g, 2, none⟩ u).heap[g]? = some (.cells #[a, b, u, d] t) := by
  simp [World.setCell, Array.getElem?_modify, h]
theorem sb_set3 {w : World} {g : Nat} {a b c d : Value} {t : TypeId} (h : w.heap[g]? = some (.cells #[a, b, c, d] t)) (u : Value) : (w.setCell ⟨g, 3, none⟩ u).heap[g]? = some (.cells #[a, b, c, u] t) := by
  simp [World.setCell, Array.getElem?_modify, h]

theorem takeS_size {s t : ByteArray} {a a' n : Nat} {b b' : Bool} (h : takeS s a b n = (t, a', b')) : t.size ≤ s.size := by
  unfold takeS at h
  split at h
  · simp only [Prod.mk.injEq] at h
    rw [← h.1, ByteArray.size_extract]
    omega
  · simp only [Prod.mk.injEq] at h
    rw [← h.1]
    exact Nat.zero_le _
set_option maxHeartbeats 1000000 in
theorem readShortC_any (g : Nat) (s : ByteArray) (a : Nat) (b : Bool) (w : World) (hc : Cur w g s a b) (hs : s.size ≤ 1048576) (ha : a ≤ s.size) :
    Calls Tryz.prog 44 #[.pointer (some ⟨g, 0, none⟩)] w fun e w' => ∃ (n a1 : Nat) (b1 : Bool) (c : ByteArray) (a2 : Nat) (b2 : Bool), e = .returned (.string c) ∧ varS s a b = (n, a1, b1) ∧ takeS s a1 b1 n = (c, a2, b2) ∧ a2 ≤ s.size ∧ c.size ≤ s.size ∧ Cur w' g s a2 b2 ∧ Save g w w' := by
  have HC : Hid (Cur w g s a b) := hc
  clear hc
  go_enter Tryz.func44, Tryz.ntmps44
  go_wp2_with fail
  refine Calls.mono (var_any g s a b _ HC.out hs ha) ?_
  rintro e w1 ⟨n, a1, b1, rfl, hv, ha1, hn, C1, S1⟩
  have HV : Hid (varS s a b = (n, a1, b1)) := hv
  have C1 : Hid (Cur w1 g s a1 b1) := C1
  clear hv
  go_wp2_with fail
  refine Calls.mono (take_any g s a1 n b1 _ C1.out hs ha1) ?_
  rintro e w2 ⟨c, a2, b2, rfl, ht, ha2, C2, S2⟩
  have HT : Hid (takeS s a1 b1 n = (c, a2, b2)) := ht
  clear ht
  go_wp2
  go_ret
  exact ⟨n, a1, b1, c, a2, b2, rfl, HV.out, HT.out, ha2, takeS_size HT.out, C2, S1.trans S2⟩

set_option maxRecDepth 10000 in
set_option maxHeartbeats 2000000 in
theorem specReadSnap_go (s x : ByteArray) (ok : Bool) (w : World) (hin : inS s = (x, !ok))
    (HU : Hid (∀ W, Calls Tryz.prog 41 #[.string s] W fun e w' => e = .returned (.tuple #[.string x, .bool ok]) ∧ Below W.heap.size W w')) :
    Calls Tryz.prog 28 #[.string s] w (RsP s w) := by
  have HS : Hid (x.size ≤ 1048576) := by
    have := inS_size s
    rw [hin] at this
    exact Nat.le_trans this (by decide)
  have HI : Hid (inS s = (x, !ok)) := hin
  clear hin
  go_enter Tryz.func28, Tryz.ntmps28
  go_wp2_with fail
  refine Calls.mono (HU.out _) ?_
  rintro e w1 ⟨rfl, hb1⟩
  have GP := blk_on hb1
  have BB := below_new hb1
  have hwg : w.heap.size < w1.heap.size := (Array.getElem?_eq_some_iff.1 GP).1
  clear hb1
  go_wp2_with fail
  have GC : Hid (Cur ((w1.alloc (.cells #[.string x, .int .i64 0, .bool (!ok)] 71)).alloc (.cells #[.int .i64 0, .int .i64 0, .slice none 0 0, .string { data := #[] }] 40)) w1.heap.size x 0 (!ok)) := heap_old (heap_last _ _) _
  have GH : Hid (((w1.alloc (.cells #[.string x, .int .i64 0, .bool (!ok)] 71)).alloc (.cells #[.int .i64 0, .int .i64 0, .slice none 0 0, .string { data := #[] }] 40)).heap[w1.heap.size + 1]? = some (.cells #[.int .i64 0, .int .i64 0, .slice none 0 0, .string { data := #[] }] 40)) := heap_next _ _ _
  replace GP : Hid (((w1.alloc (.cells #[.string x, .int .i64 0, .bool (!ok)] 71)).alloc (.cells #[.int .i64 0, .int .i64 0, .slice none 0 0, .string { data := #[] }] 40)).heap[w.heap.size]? = some (.cells #[.int .i64 0, .int .i64 0, .slice none 0 0, .string { data := #[] }] 40)) := heap_old (heap_old GP _) _
  replace BB : Hid (Below w.heap.size w ((w1.alloc (.cells #[.string x, .int .i64 0, .bool (!ok)] 71)).alloc (.cells #[.int .i64 0, .int .i64 0, .slice none 0 0, .string { data := #[] }] 40))) := ba (ba BB _) _
  generalize w1.heap.size = g at hwg GC GH ⊢
  generalize (w1.alloc (.cells #[.string x, .int .i64 0, .bool (!ok)] 71)).alloc (.cells #[.int .i64 0, .int .i64 0, .slice none 0 0, .string { data := #[] }] 40) = W0 at GC GH GP BB ⊢
  refine Calls.mono (var_any g x 0 (!ok) _ GC.out HS.out (Nat.zero_le _)) ?_
  rintro e v1 ⟨i, a1, b1, rfl, s1, ha1, hi, R1, S1⟩
  have S_1 : Hid (varS x 0 (!ok) = (i, a1, b1)) := s1
  clear s1
  have gp1 := S1.heap (k := w.heap.size) (by omega) GP.out
  have gh1 := S1.heap (k := g + 1) (by omega) GH.out
  have hb1 := Save.under (B := w.heap.size) BB.out S1 (by omega) BB.out.size
  clear GP GH BB GC S1
  obtain ⟨c0, c1, c2, c3⟩ := sb_cells gh1
  have f1 := sb_frozen gh1
  have GH := sb_set0 gh1 (.int .i64 (i : Int))
  have GP := heap_far gp1 (p := ⟨g + 1, 0, none⟩) (by show g + 1 ≠ w.heap.size; omega) (.int .i64 (i : Int))
  have GC := heap_far R1 (p := ⟨g + 1, 0, none⟩) (by show g + 1 ≠ g; omega) (.int .i64 (i : Int))
  have BB := hb1.setCell (p := ⟨g + 1, 0, none⟩) (by show w.heap.size ≤ g + 1; omega) (.int .i64 (i : Int))
  go_wp2_with fail
  generalize v1.setCell ⟨g + 1, 0, none⟩ (.int .i64 (i : Int)) = W1 at GP GH GC BB ⊢
  have GP : Hid (W1.heap[w.heap.size]? = some (.cells #[.int .i64 0, .int .i64 0, .slice none 0 0, .string { data := #[] }] 40)) := GP
  have GH : Hid (W1.heap[g + 1]? = some (.cells #[.int .i64 (i : Int), .int .i64 0, .slice none 0 0, .string { data := #[] }] 40)) := GH
  have GC : Hid (Cur W1 g x a1 b1) := GC
  have BB : Hid (Below w.heap.size w W1) := BB
  clear c0 c1 c2 c3 f1 gp1 gh1 hb1 R1
  refine Calls.mono (var_any g x a1 b1 _ GC.out HS.out ha1) ?_
  rintro e v2 ⟨t, a2, b2, rfl, s2, ha2, hti, R2, S2⟩
  have S_2 : Hid (varS x a1 b1 = (t, a2, b2)) := s2
  clear s2
  have gp2 := S2.heap (k := w.heap.size) (by omega) GP.out
  have gh2 := S2.heap (k := g + 1) (by omega) GH.out
  have hb2 := Save.under (B := w.heap.size) BB.out S2 (by omega) BB.out.size
  clear GP GH BB GC S2
  obtain ⟨c0, c1, c2, c3⟩ := sb_cells gh2
  have f1 := sb_frozen gh2
  have GH := sb_set1 gh2 (.int .i64 (t : Int))
  have GP := heap_far gp2 (p := ⟨g + 1, 1, none⟩) (by show g + 1 ≠ w.heap.size; omega) (.int .i64 (t : Int))
  have GC := heap_far R2 (p := ⟨g + 1, 1, none⟩) (by show g + 1 ≠ g; omega) (.int .i64 (t : Int))
  have BB := hb2.setCell (p := ⟨g + 1, 1, none⟩) (by show w.heap.size ≤ g + 1; omega) (.int .i64 (t : Int))
  go_wp2_with fail
  generalize v2.setCell ⟨g + 1, 1, none⟩ (.int .i64 (t : Int)) = W2 at GP GH GC BB ⊢
  have GP : Hid (W2.heap[w.heap.size]? = some (.cells #[.int .i64 0, .int .i64 0, .slice none 0 0, .string { data := #[] }] 40)) := GP
  have GH : Hid (W2.heap[g + 1]? = some (.cells #[.int .i64 (i : Int), .int .i64 (t : Int), .slice none 0 0, .string { data := #[] }] 40)) := GH
  have GC : Hid (Cur W2 g x a2 b2) := GC
  have BB : Hid (Below w.heap.size w W2) := BB
  clear c0 c1 c2 c3 f1 gp2 gh2 hb2 R2
  refine Calls.mono (readShortC_any g x a2 b2 _ GC.out HS.out ha2) ?_
  rintro e v3 ⟨n, a3, b3, c, a4, b4, rfl, s3, s4, ha4, hc, R3, S3⟩
  have S_3 : Hid (varS x a2 b2 = (n, a3, b3)) := s3
  have S_4 : Hid (takeS x a3 b3 n = (c, a4, b4)) := s4
  clear s3 s4
  have gp3 := S3.heap (k := w.heap.size) (by omega) GP.out
  have gh3 := S3.heap (k := g + 1) (by omega) GH.out
  have hb3 := Save.under (B := w.heap.size) BB.out S3 (by omega) BB.out.size
  clear GP GH BB GC S3
  go_wp2_with fail
  have hle3 := hb3.size
  have hgl3 := (Array.getElem?_eq_some_iff.1 gh3).1
  have hRC := specReadConf_any c v3 (Nat.le_trans hc (Nat.le_trans HS.out (by decide)))
  refine Calls.mono hRC ?_
  clear hRC
  rintro e u3 ⟨x3, rfl, O3, hu3⟩
  obtain ⟨oa, on, oc, rfl⟩ := O3.slice3
  replace gp3 := blk_up gp3 hu3
  replace gh3 := blk_up gh3 hu3
  replace R3 := R3.up hu3
  replace hb3 := Below.on hb3 hu3
  obtain ⟨bb, hbb⟩ : ∃ bb, v3.heap.size = bb := ⟨_, rfl⟩
  rw [hbb] at O3 hgl3
  clear hbb hu3 hle3
  have hgb : g < bb := by omega
  obtain ⟨c0, c1, c2, c3⟩ := sb_cells gh3
  have f1 := sb_frozen gh3
  have GH := sb_set2 gh3 (.slice oa on oc)
  have GP := heap_far gp3 (p := ⟨g + 1, 2, none⟩) (by show g + 1 ≠ w.heap.size; omega) (.slice oa on oc)
  have GC := heap_far R3 (p := ⟨g + 1, 2, none⟩) (by show g + 1 ≠ g; omega) (.slice oa on oc)
  have BB := hb3.setCell (p := ⟨g + 1, 2, none⟩) (by show w.heap.size ≤ g + 1; omega) (.slice oa on oc)
  have OO : Hid (ownsR (u3.setCell ⟨g + 1, 2, none⟩ (.slice oa on oc)) bb 3 (.slice oa on oc) (confT c)) := ownsR.setBelow O3 (by show g + 1 < bb; omega) _
  go_wp2_with fail
  generalize u3.setCell ⟨g + 1, 2, none⟩ (.slice oa on oc) = W3 at GP GH GC BB OO ⊢
  have GP : Hid (W3.heap[w.heap.size]? = some (.cells #[.int .i64 0, .int .i64 0, .slice none 0 0, .string { data := #[] }] 40)) := GP
  have GH : Hid (W3.heap[g + 1]? = some (.cells #[.int .i64 (i : Int), .int .i64 (t : Int), .slice oa on oc, .string { data := #[] }] 40)) := GH
  have GC : Hid (Cur W3 g x a4 b4) := GC
  have BB : Hid (Below w.heap.size w W3) := BB
  clear c0 c1 c2 c3 f1 gp3 gh3 hb3 R3 O3
  refine Calls.mono (readShortC_any g x a4 b4 _ GC.out HS.out ha4) ?_
  rintro e v4 ⟨m, a5, b5, d, a6, b6, rfl, s5, s6, ha6, hd, R4, S4⟩
  have S_5 : Hid (varS x a4 b4 = (m, a5, b5)) := s5
  have S_6 : Hid (takeS x a5 b5 m = (d, a6, b6)) := s6
  clear s5 s6
  have gp4 := S4.heap (k := w.heap.size) (by omega) GP.out
  have gh4 := S4.heap (k := g + 1) (by omega) GH.out
  have hb4 := Save.under (B := w.heap.size) BB.out S4 (by omega) BB.out.size
  have O4 := ownsR.saveB OO.out S4 hgb
  clear GP GH BB GC S4 OO
  obtain ⟨c0, c1, c2, c3⟩ := sb_cells gh4
  have f1 := sb_frozen gh4
  have GH := sb_set3 gh4 (.string d)
  have GP := heap_far gp4 (p := ⟨g + 1, 3, none⟩) (by show g + 1 ≠ w.heap.size; omega) (.string d)
  have GC := heap_far R4 (p := ⟨g + 1, 3, none⟩) (by show g + 1 ≠ g; omega) (.string d)
  have BB := hb4.setCell (p := ⟨g + 1, 3, none⟩) (by show w.heap.size ≤ g + 1; omega) (.string d)
  have OO : Hid (ownsR (v4.setCell ⟨g + 1, 3, none⟩ (.string d)) bb 3 (.slice oa on oc) (confT c)) := ownsR.setBelow O4 (by show g + 1 < bb; omega) _
  obtain ⟨C0, C1, C2, C3⟩ := sb_cells GH
  go_wp2_with fail
  clear C0 C1 C2 C3
  generalize v4.setCell ⟨g + 1, 3, none⟩ (.string d) = W4 at GP GH GC BB OO ⊢
  have GP : Hid (W4.heap[w.heap.size]? = some (.cells #[.int .i64 0, .int .i64 0, .slice none 0 0, .string { data := #[] }] 40)) := GP
  have GH : Hid (W4.heap[g + 1]? = some (.cells #[.int .i64 (i : Int), .int .i64 (t : Int), .slice oa on oc, .string d] 40)) := GH
  have GC : Hid (Cur W4 g x a6 b6) := GC
  have BB : Hid (Below w.heap.size w W4) := BB
  clear c0 c1 c2 c3 f1 gp4 gh4 hb4 R4 O4
  have HRS : Hid (rsP s = rsF s i t c d b6) := rsP_steps (by rw [HI.out]; exact ⟨S_1.out, S_2.out, S_3.out, S_4.out, S_5.out, S_6.out⟩)
  clear S_1 S_2 S_3 S_4 S_5 S_6 ha1 ha2 ha4 ha6
  refine Calls.mono (specSnapText_any OO.out.reads (Nat.le_trans (confT_len c) (by decide)) (Nat.le_trans hd HS.out)) ?_
  rintro e w6 ⟨rfl, hb6⟩
  obtain ⟨q, HQ⟩ : ∃ q, Hid (okS (i : Int) (t : Int) (confT c) d = q) := ⟨_, rfl⟩
  obtain ⟨tx, HX⟩ : ∃ q, Hid (textS (i : Int) (t : Int) (confT c) d = q) := ⟨_, rfl⟩
  have HV : Hid (textSV (i : Int) (t : Int) (confT c) d = .tuple #[.string tx, .bool q]) := by show textSV _ _ _ _ = _; rw [textSV, HQ.out, HX.out]
  rw [HV.out]
  have G6 := blk_up GP.out hb6
  have H6 := blk_up GH.out hb6
  have C6 := GC.out.up hb6
  have O6 : Hid (ownsR w6 bb 3 (.slice oa on oc) (confT c)) := OO.out.all hb6
  have B6 := Below.on BB.out hb6
  clear GP GH GC OO BB hb6 HV
  obtain ⟨c0, c1, c2, cf⟩ := cur_cells C6
  obtain ⟨p0, p1, p2, p3⟩ := sb_cells G6
  have pf := sb_frozen G6
  obtain ⟨h0, h1, h2, h3⟩ := sb_cells H6
  have zend : ∀ (HZ : rsP s = zeroS), RsP s w (.returned (.tuple #[.agg #[.int .i64 0, .int .i64 0, .slice none 0 0, .string { data := #[] }], .bool false])) ((((w6.setCell ⟨w.heap.size, 0, none⟩ (.int .i64 0)).setCell ⟨w.heap.size, 1, none⟩ (.int .i64 0)).setCell ⟨w.heap.size, 2, none⟩ (.slice none 0 0)).setCell ⟨w.heap.size, 3, none⟩ (.string { data := #[] })) := fun HZ => by
    refine ⟨.slice none 0 0, by rw [HZ]; rfl, by rw [HZ]; exact ownsR_nil _ _ _, ?_⟩
    exact (((B6.setCell (p := ⟨w.heap.size, 0, none⟩) (Nat.le_refl _) _).setCell (p := ⟨w.heap.size, 1, none⟩) (Nat.le_refl _) _).setCell (p := ⟨w.heap.size, 2, none⟩) (Nat.le_refl _) _).setCell (p := ⟨w.heap.size, 3, none⟩) (Nat.le_refl _) _
  have ZEND : Hid (∀ (HZ : rsP s = zeroS), RsP s w (.returned (.tuple #[.agg #[.int .i64 0, .int .i64 0, .slice none 0 0, .string { data := #[] }], .bool false])) ((((w6.setCell ⟨w.heap.size, 0, none⟩ (.int .i64 0)).setCell ⟨w.heap.size, 1, none⟩ (.int .i64 0)).setCell ⟨w.heap.size, 2, none⟩ (.slice none 0 0)).setCell ⟨w.heap.size, 3, none⟩ (.string { data := #[] }))) := zend
  clear zend
  have FZ := sb_set3 (sb_set2 (sb_set1 (sb_set0 G6 (.int .i64 0)) (.int .i64 0)) (.slice none 0 0)) (.string { data := #[] })
  have FZ : Hid (((((w6.setCell ⟨w.heap.size, 0, none⟩ (.int .i64 0)).setCell ⟨w.heap.size, 1, none⟩ (.int .i64 0)).setCell ⟨w.heap.size, 2, none⟩ (.slice none 0 0)).setCell ⟨w.heap.size, 3, none⟩ (.string { data := #[] })).heap[w.heap.size]? = some (.cells #[.int .i64 0, .int .i64 0, .slice none 0 0, .string { data := #[] }] 40)) := FZ
  cases b6 with
  | true =>
    have HZ : Hid (rsP s = zeroS) := HRS.out.trans rsF_bad
    go_wp2
    exact bodyPost_ret (ret_snap2 rfl rfl rfl FZ.out) rfl (ZEND.out HZ.out)
  | false =>
    cases q with
    | false =>
      have HZ : Hid (rsP s = zeroS) := HRS.out.trans (rsF_none HQ.out)
      go_wp2
      exact bodyPost_ret (ret_snap2 rfl rfl rfl FZ.out) rfl (ZEND.out HZ.out)
    | true =>
      by_cases htx : tx = s
      · have HZ : Hid (rsP s = ⟨i, t, confT c, d, true⟩) := by
          show rsP s = _
          rw [HRS.out, rsF, if_pos ⟨rfl, HQ.out, HX.out.trans htx⟩]
        have HE := eq_list htx
        clear htx HX
        go_wp2
        have F1 := sb_set3 (sb_set2 (sb_set1 (sb_set0 G6 (.int .i64 (i : Int))) (.int .i64 (t : Int))) (.slice oa on oc)) (.string d)
        have hlt : w.heap.size < bb := by omega
        have FO := (((O6.out.setBelow (a := ⟨w.heap.size, 0, none⟩) hlt (.int .i64 (i : Int))).setBelow (a := ⟨w.heap.size, 1, none⟩) hlt (.int .i64 (t : Int))).setBelow (a := ⟨w.heap.size, 2, none⟩) hlt (.slice oa on oc)).setBelow (a := ⟨w.heap.size, 3, none⟩) hlt (.string d)
        have FB := (((B6.setCell (p := ⟨w.heap.size, 0, none⟩) (Nat.le_refl _) (.int .i64 (i : Int))).setCell (p := ⟨w.heap.size, 1, none⟩) (Nat.le_refl _) (.int .i64 (t : Int))).setCell (p := ⟨w.heap.size, 2, none⟩) (Nat.le_refl _) (.slice oa on oc)).setCell (p := ⟨w.heap.size, 3, none⟩) (Nat.le_refl _) (.string d)
        exact bodyPost_ret (ret_snap2 rfl rfl rfl F1) rfl ⟨_, by rw [HZ.out]; rfl, by rw [HZ.out]; exact FO.mono (by omega), FB⟩
      · have HZ : Hid (rsP s = zeroS) := by
          show rsP s = _
          rw [HRS.out, rsF, if_neg (fun h => htx (HX.out.symm.trans h.2.2))]
        have HE := ne_list htx
        clear htx HX
        go_wp2
        exact bodyPost_ret (ret_snap2 rfl rfl rfl FZ.out) rfl (ZEND.out HZ.out)

/-- The specification's ReadSnap. -/
theorem specReadSnap_any (s : ByteArray) (w : World) (hs : s.size ≤ 1048576) : Calls Tryz.prog 28 #[.string s] w (RsP s w) := by
  by_cases hu : 4 ≤ s.size ∧ s.size ≤ 20004 ∧ lastT s = tail4 (headT s)
  · exact specReadSnap_go s (headT s) true w (inS_yes hu.1 hu.2.1 hu.2.2) (fun W => specUnsealed_yes s W hu.1 hu.2.1 hu.2.2)
  · refine specReadSnap_go s ByteArray.empty false w (inS_no hu) (fun W => ?_)
    by_cases h0 : s.size < 4
    · exact specUnsealed_short s W h0
    · by_cases h1 : 20004 < s.size
      · exact specUnsealed_long s W (by omega) h1
      · exact specUnsealed_no s W (by omega) (by omega) (fun e => hu ⟨by omega, by omega, e⟩)
end Go.Proofs.YtingfgbcinlflaaGreatDoor
