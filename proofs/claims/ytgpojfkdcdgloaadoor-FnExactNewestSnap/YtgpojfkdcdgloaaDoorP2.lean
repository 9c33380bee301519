/-
  A snapshot read from its text, by the program: the walk. A snapshot read from its text, by the program: the walk, step by step. A snapshot read from its text, by the program: the walk behind the conf. A snapshot read from its text, by the program: what it comes to.
-/
import Derived.Test.YtgpojfkdcdgloaaDoorP1
namespace Go.Proofs.YtgpojfkdcdgloaaDoor
open Go Go.RowKit

def rsV (r : Rsd) (v : Value) : Value := .tuple #[.agg #[.int .i64 r.i, .int .i64 r.t, v, .string r.b], .bool r.z]
/-- What readSnap comes to. -/
def RsP (s : ByteArray) (w : World) (e : Ending) (w' : World) : Prop := ∃ v, e = .returned (rsV (rsP s) v) ∧ ownsR w' w.heap.size 3 v (rsP s).l ∧ Below w.heap.size w w'

theorem ret_rs {fn : Func} {p q : Tmp} {w : World} {g k : Nat} {a b c d y : Value} {tmps : Array Value} (h : fn.results = #[.cell p 30, .cell q 4]) (hp : tmps.getD p undef = .pointer (some ⟨g, 0, none⟩)) (hq : tmps.getD q undef = .pointer (some ⟨k, 0, none⟩)) (hb : w.heap[g]? = some (.cells #[a, b, c, d] 30)) (hk : w.heap[k]? = some (.cells #[y] 4)) :
    (results fn tmps).run Tryd.prog w = .ok (.tuple #[.agg #[a, b, c, d], y]) w := by
  have hp' : tmps[p]?.getD undef = .pointer (some ⟨g, 0, none⟩) := by simpa using hp
  have hq' : tmps[q]?.getD undef = .pointer (some ⟨k, 0, none⟩) := by simpa using hq
  obtain ⟨h0, h1, h2, h3⟩ := sb_cells hb
  have h4 := one_cell hk
  simp [results, h, hp', hq', h0, h1, h2, h3, h4, asAddr, go_sem]

set_option maxRecDepth 10000 in
theorem door_torn {R : Ending → World → Prop} {W : World} {T : Array Value} {p q B : Nat} {x0 x1 x2 x3 y : Value} (hp : W.heap[p]? = some (.cells #[x0, x1, x2, x3] 30)) (hq : W.heap[q]? = some (.cells #[y] 4)) (hpq : p ≠ q) (h1 : B ≤ p) (h2 : B ≤ q)
    (t2 : T.getD 2 undef = .pointer (some ⟨p, 0, none⟩)) (t3 : T.getD 3 undef = .pointer (some ⟨q, 0, none⟩))
    (hR : ∀ w', Below B W w' → R (.returned (.tuple #[.agg #[.int .i64 0, .int .i64 0, .slice none 0 0, .string { data := #[] }], .bool false])) w') :
    bodyPostD Tryd.prog Tryd.f51 R (Exit.panic tornP) { tmps := T, defers := [{ target := Target.fn (Fn.func 80) #[.pointer (some ⟨p, 0, none⟩), .pointer (some ⟨q, 0, none⟩)], args := #[] }] } W := by
  refine leaves_cons (f := 80) (args := #[.pointer (some ⟨p, 0, none⟩), .pointer (some ⟨q, 0, none⟩)]) (by simp) (by simp [go_sem]) ?_
  refine (catch_torn p q x0 x1 x2 x3 y [] W hp hq hpq B h1 h2).mono ?_
  rintro e u' w'' ⟨rfl, rfl, g1, g2, hb⟩
  exact ⟨_, ret_rs rfl t2 t3 g1 g2, hR _ hb⟩
set_option maxRecDepth 10000 in
theorem door_done {R : Ending → World → Prop} {W : World} {T : Array Value} {p q : Nat} {x0 x1 x2 x3 y : Value} (hp : W.heap[p]? = some (.cells #[x0, x1, x2, x3] 30)) (hq : W.heap[q]? = some (.cells #[y] 4))
    (t2 : T.getD 2 undef = .pointer (some ⟨p, 0, none⟩)) (t3 : T.getD 3 undef = .pointer (some ⟨q, 0, none⟩))
    (hR : ∀ w', Below W.heap.size W w' → R (.returned (.tuple #[.agg #[x0, x1, x2, x3], y])) w') :
    bodyPostD Tryd.prog Tryd.f51 R Exit.ret { tmps := T, defers := [{ target := Target.fn (Fn.func 80) #[.pointer (some ⟨p, 0, none⟩), .pointer (some ⟨q, 0, none⟩)], args := #[] }] } W := by
  refine leaves_cons (f := 80) (args := #[.pointer (some ⟨p, 0, none⟩), .pointer (some ⟨q, 0, none⟩)]) (by simp) (by simp [go_sem]) ?_
  refine (catch_idle p q W).mono ?_
  rintro e u' w'' ⟨rfl, rfl, hb⟩
  exact ⟨_, ret_rs rfl t2 t3 (blk_up hp hb) (blk_up hq hb), hR _ hb⟩
theorem rsP_zero {s : ByteArray} {w W w' : World} (hz : rsP s = zeroS) (hb : Below w.heap.size w W) (hb2 : Below w.heap.size W w') : RsP s w (.returned (.tuple #[.agg #[.int .i64 0, .int .i64 0, .slice none 0 0, .string { data := #[] }], .bool false])) w' := by
  refine ⟨.slice none 0 0, ?_, ?_, hb.trans hb2⟩
  · rw [hz]; rfl
  · rw [hz]; exact ownsR_nil _ _ _

set_option maxRecDepth 10000 in
set_option maxHeartbeats 1000000 in
/-- The text is not sealed. -/
theorem readSnap_un (s : ByteArray) (w : World) (hz : rsP s = zeroS) (HU : Hid (∀ W, TableIs W → Calls Tryd.prog 81 #[.string s] W fun e w' => e = .returned (.tuple #[.string ByteArray.empty, .bool false]) ∧ Below W.heap.size W w')) (ht : TableIs w) :
    Calls Tryd.prog 51 #[.string s] w (RsP s w) := by
  have hmf : ∀ (fn : Fn) (first cap : Array Value) (w : World), (Instr.makeFunc fn first cap).run Tryd.prog w = .ok (.func fn first cap) w := fun _ _ _ _ => rfl
  have HZ : Hid (rsP s = zeroS) := hz
  clear hz
  have HT : Hid (TableIs w) := ht
  clear ht
  go_enter_defers Tryd.func51, Tryd.ntmps51
  go_wp2_with fail
  refine Calls.mono (HU.out _ (HT.out.below (ba (ba (Below.refl _ _) _) _))) ?_
  rintro e w1 ⟨rfl, hb1⟩
  have G1 : Hid (w1.heap[w.heap.size]? = some (.cells #[.int .i64 0, .int .i64 0, .slice none 0 0, .string { data := #[] }] 30)) := blk_up (heap_old (heap_last _ _) _) hb1
  have G2 : Hid (w1.heap[w.heap.size + 1]? = some (.cells #[.bool false] 4)) := blk_up (heap_next _ _ _) hb1
  have BB : Hid (Below w.heap.size w w1) := (ba (ba (Below.refl _ _) _) _).trans (hb1.mono (by simp; omega))
  clear hb1
  go_wp2_with fail
  refine Calls.mono (untorn_no _) ?_
  rintro e w2 ⟨rfl, hw⟩; have hw2 := hw.symm; subst hw2; clear hw
  go_wp2
  exact door_torn G1.out G2.out (by omega) (Nat.le_refl _) (by omega) rfl rfl fun w' h => rsP_zero HZ.out BB.out h

set_option maxRecDepth 10000 in
set_option maxHeartbeats 1000000 in
/-- The text is too long. -/
theorem readSnap_long (s x : ByteArray) (w : World) (hz : rsP s = zeroS) (HU : Hid (∀ W, TableIs W → Calls Tryd.prog 81 #[.string s] W fun e w' => e = .returned (.tuple #[.string x, .bool true]) ∧ Below W.heap.size W w')) (ht : TableIs w) (hl : 20000 < (s.size : Int)) :
    Calls Tryd.prog 51 #[.string s] w (RsP s w) := by
  have hmf : ∀ (fn : Fn) (first cap : Array Value) (w : World), (Instr.makeFunc fn first cap).run Tryd.prog w = .ok (.func fn first cap) w := fun _ _ _ _ => rfl
  have hd : decide ((s.size : Int) ≤ 20000) = false := decide_eq_false (by omega)
  clear hl
  have HZ : Hid (rsP s = zeroS) := hz
  clear hz
  have HT : Hid (TableIs w) := ht
  clear ht
  go_enter_defers Tryd.func51, Tryd.ntmps51
  go_wp2_with fail
  refine Calls.mono (HU.out _ (HT.out.below (ba (ba (Below.refl _ _) _) _))) ?_
  rintro e w1 ⟨rfl, hb1⟩
  have G1 : Hid (w1.heap[w.heap.size]? = some (.cells #[.int .i64 0, .int .i64 0, .slice none 0 0, .string { data := #[] }] 30)) := blk_up (heap_old (heap_last _ _) _) hb1
  have G2 : Hid (w1.heap[w.heap.size + 1]? = some (.cells #[.bool false] 4)) := blk_up (heap_next _ _ _) hb1
  have BB : Hid (Below w.heap.size w w1) := (ba (ba (Below.refl _ _) _) _).trans (hb1.mono (by simp; omega))
  clear hb1
  go_wp2_with fail
  refine Calls.mono (untorn_no _) ?_
  rintro e w2 ⟨rfl, hw⟩; have hw2 := hw.symm; subst hw2; clear hw
  go_wp2
  exact door_torn G1.out G2.out (by omega) (Nat.le_refl _) (by omega) rfl rfl fun w' h => rsP_zero HZ.out BB.out h

end Go.Proofs.YtgpojfkdcdgloaaDoor

namespace Go.Proofs.YtgpojfkdcdgloaaDoor
open Go Go.RowKit

set_option maxRecDepth 10000 in
set_option maxHeartbeats 2000000 in
theorem readSnap_f1 (s x : ByteArray) (y z : Int) (q : Bool) (w : World) (hz : rsP s = zeroS) (HU : Hid (∀ W, TableIs W → Calls Tryd.prog 81 #[.string s] W fun e w' => e = .returned (.tuple #[.string x, .bool true]) ∧ Below W.heap.size W w')) (ht : TableIs w) (hl : (s.size : Int) ≤ 20000) (hs : x.size ≤ 1048576) (h1 : rv x (0 : Nat) = (y, z, q)) (hq : q = false ∨ 1000000 < y) :
    Calls Tryd.prog 51 #[.string s] w (RsP s w) := by
  have hmf : ∀ (fn : Fn) (first cap : Array Value) (w : World), (Instr.makeFunc fn first cap).run Tryd.prog w = .ok (.func fn first cap) w := fun _ _ _ _ => rfl
  have HZ : Hid (rsP s = zeroS) := hz
  clear hz
  have HS : Hid (x.size ≤ 1048576) := hs
  have HT : Hid (TableIs w) := ht
  have HR : Hid (rv x (0 : Nat) = (y, z, q)) := h1
  have HQ : Hid (q = false ∨ 1000000 < y) := hq
  clear ht hs h1 hq
  go_enter_defers Tryd.func51, Tryd.ntmps51
  go_wp2_with fail
  refine Calls.mono (HU.out _ (HT.out.below (ba (ba (Below.refl _ _) _) _))) ?_
  rintro e w1 ⟨rfl, hb1⟩
  have G1 : Hid (w1.heap[w.heap.size]? = some (.cells #[.int .i64 0, .int .i64 0, .slice none 0 0, .string { data := #[] }] 30)) := blk_up (heap_old (heap_last _ _) _) hb1
  have G2 : Hid (w1.heap[w.heap.size + 1]? = some (.cells #[.bool false] 4)) := blk_up (heap_next _ _ _) hb1
  have BB : Hid (Below w.heap.size w w1) := (ba (ba (Below.refl _ _) _) _).trans (hb1.mono (by simp; omega))
  clear hb1
  go_wp2_with fail
  refine Calls.mono (untorn_yes _) ?_
  rintro e w2 ⟨rfl, hw⟩; have hw2 := hw.symm; subst hw2; clear hw
  go_wp2_with fail
  have hg : w.heap.size + 2 ≤ w1.heap.size := (Array.getElem?_eq_some_iff.1 G2.out).1
  have GR : Hid (Rdr (w1.alloc (.cells #[.string x, .int .i64 0] 102)) w1.heap.size x 0) := heap_last _ _
  replace G1 : Hid ((w1.alloc (.cells #[.string x, .int .i64 0] 102)).heap[w.heap.size]? = some (.cells #[.int .i64 0, .int .i64 0, .slice none 0 0, .string { data := #[] }] 30)) := heap_old G1.out _
  replace G2 : Hid ((w1.alloc (.cells #[.string x, .int .i64 0] 102)).heap[w.heap.size + 1]? = some (.cells #[.bool false] 4)) := heap_old G2.out _
  replace BB : Hid (Below w.heap.size w (w1.alloc (.cells #[.string x, .int .i64 0] 102))) := ba BB.out _
  generalize w1.heap.size = g at hg GR ⊢
  generalize w1.alloc (.cells #[.string x, .int .i64 0] 102) = W0 at GR G1 G2 BB ⊢
  refine Calls.mono (number_no g x 0 y z q _ _ GR.out HS.out HR.out HQ.out) ?_
  rintro e u ⟨rfl, hb⟩
  have G1 := blk_up G1.out hb
  have G2 := blk_up G2.out hb
  have hbb := Below.on BB.out hb
  clear GR
  go_wp2
  exact door_torn G1 G2 (by omega) (Nat.le_refl _) (by omega) rfl rfl fun w' h => rsP_zero HZ.out hbb h

set_option maxRecDepth 10000 in
set_option maxHeartbeats 2000000 in
theorem readSnap_f2 (s x : ByteArray) (i a1 : Nat) (y z : Int) (q : Bool) (w : World) (hz : rsP s = zeroS) (HU : Hid (∀ W, TableIs W → Calls Tryd.prog 81 #[.string s] W fun e w' => e = .returned (.tuple #[.string x, .bool true]) ∧ Below W.heap.size W w')) (ht : TableIs w) (hl : (s.size : Int) ≤ 20000) (hs : x.size ≤ 1048576) (h1 : rv x (0 : Nat) = ((i : Int), (a1 : Int), true)) (hi : (i : Int) ≤ 1000000) (h2 : rv x a1 = (y, z, q)) (hq : q = false ∨ 100000 < y) :
    Calls Tryd.prog 51 #[.string s] w (RsP s w) := by
  have hmf : ∀ (fn : Fn) (first cap : Array Value) (w : World), (Instr.makeFunc fn first cap).run Tryd.prog w = .ok (.func fn first cap) w := fun _ _ _ _ => rfl
  have HZ : Hid (rsP s = zeroS) := hz
  clear hz
  have HS : Hid (x.size ≤ 1048576) := hs
  have HT : Hid (TableIs w) := ht
  have HR : Hid (rv x a1 = (y, z, q)) := h2
  have HQ : Hid (q = false ∨ 100000 < y) := hq
  clear ht hs h2 hq
  go_enter_defers Tryd.func51, Tryd.ntmps51
  go_wp2_with fail
  refine Calls.mono (HU.out _ (HT.out.below (ba (ba (Below.refl _ _) _) _))) ?_
  rintro e w1 ⟨rfl, hb1⟩
  have G1 : Hid (w1.heap[w.heap.size]? = some (.cells #[.int .i64 0, .int .i64 0, .slice none 0 0, .string { data := #[] }] 30)) := blk_up (heap_old (heap_last _ _) _) hb1
  have G2 : Hid (w1.heap[w.heap.size + 1]? = some (.cells #[.bool false] 4)) := blk_up (heap_next _ _ _) hb1
  have BB : Hid (Below w.heap.size w w1) := (ba (ba (Below.refl _ _) _) _).trans (hb1.mono (by simp; omega))
  clear hb1
  go_wp2_with fail
  refine Calls.mono (untorn_yes _) ?_
  rintro e w2 ⟨rfl, hw⟩; have hw2 := hw.symm; subst hw2; clear hw
  go_wp2_with fail
  have hg : w.heap.size + 2 ≤ w1.heap.size := (Array.getElem?_eq_some_iff.1 G2.out).1
  have GR : Hid (Rdr (w1.alloc (.cells #[.string x, .int .i64 0] 102)) w1.heap.size x 0) := heap_last _ _
  replace G1 : Hid ((w1.alloc (.cells #[.string x, .int .i64 0] 102)).heap[w.heap.size]? = some (.cells #[.int .i64 0, .int .i64 0, .slice none 0 0, .string { data := #[] }] 30)) := heap_old G1.out _
  replace G2 : Hid ((w1.alloc (.cells #[.string x, .int .i64 0] 102)).heap[w.heap.size + 1]? = some (.cells #[.bool false] 4)) := heap_old G2.out _
  replace BB : Hid (Below w.heap.size w (w1.alloc (.cells #[.string x, .int .i64 0] 102))) := ba BB.out _
  generalize w1.heap.size = g at hg GR ⊢
  generalize w1.alloc (.cells #[.string x, .int .i64 0] 102) = W0 at GR G1 G2 BB ⊢
  have CA : Hid (∀ W, Rdr W g x 0 → Calls Tryd.prog 83 #[.pointer (some ⟨g, 0, none⟩), .int .i64 1000000] W fun e w' => e = .returned (.int .i64 (i : Int)) ∧ Rdr w' g x a1 ∧ Save g W w') := fun W h => number_yes g x 0 i a1 _ W h HS.out h1 hi
  clear h1 hi
  refine Calls.mono (CA.out _ GR.out) ?_
  rintro e v1 ⟨rfl, R1, S1⟩
  have hp1 := S1.heap (k := w.heap.size) (by omega) G1.out
  have hq1 := S1.heap (k := w.heap.size + 1) (by omega) G2.out
  have hb1 := Save.under (B := w.heap.size) BB.out S1 (by omega) BB.out.size
  clear G1 G2 BB GR S1
  obtain ⟨c0, c1, c2, c3⟩ := sb_cells hp1
  have f1 := sb_frozen hp1
  have G1 := sb_set0 hp1 (.int .i64 (i : Int))
  have G2 := heap_far hq1 (p := ⟨w.heap.size, 0, none⟩) (by show w.heap.size ≠ w.heap.size + 1; omega) (.int .i64 (i : Int))
  have GR := heap_far R1 (p := ⟨w.heap.size, 0, none⟩) (by show w.heap.size ≠ g; omega) (.int .i64 (i : Int))
  have BB := hb1.setCell (p := ⟨w.heap.size, 0, none⟩) (Nat.le_refl _) (.int .i64 (i : Int))
  go_wp2_with fail
  generalize v1.setCell ⟨w.heap.size, 0, none⟩ (.int .i64 (i : Int)) = W1 at G1 G2 GR BB ⊢
  have G1 : Hid (W1.heap[w.heap.size]? = some (.cells #[.int .i64 (i : Int), .int .i64 0, .slice none 0 0, .string { data := #[] }] 30)) := G1
  have G2 : Hid (W1.heap[w.heap.size + 1]? = some (.cells #[.bool false] 4)) := G2
  have GR : Hid (Rdr W1 g x a1) := GR
  have BB : Hid (Below w.heap.size w W1) := BB
  clear c0 c1 c2 c3 f1 hp1 hq1 hb1 R1
  refine Calls.mono (number_no g x a1 y z q _ _ GR.out HS.out HR.out HQ.out) ?_
  rintro e u ⟨rfl, hb⟩
  have G1 := blk_up G1.out hb
  have G2 := blk_up G2.out hb
  have hbb := Below.on BB.out hb
  clear GR
  go_wp2
  exact door_torn G1 G2 (by omega) (Nat.le_refl _) (by omega) rfl rfl fun w' h => rsP_zero HZ.out hbb h

set_option maxRecDepth 10000 in
set_option maxHeartbeats 2000000 in
theorem readSnap_f3 (s x : ByteArray) (i t a1 a2 : Nat) (y z : Int) (q : Bool) (w : World) (hz : rsP s = zeroS) (HU : Hid (∀ W, TableIs W → Calls Tryd.prog 81 #[.string s] W fun e w' => e = .returned (.tuple #[.string x, .bool true]) ∧ Below W.heap.size W w')) (ht : TableIs w) (hl : (s.size : Int) ≤ 20000) (hs : x.size ≤ 1048576) (h1 : rv x (0 : Nat) = ((i : Int), (a1 : Int), true)) (hi : (i : Int) ≤ 1000000) (h2 : rv x a1 = ((t : Int), (a2 : Int), true)) (hti : (t : Int) ≤ 100000) (h3 : rv x a2 = (y, z, q)) (hq : q = false ∨ 20000 < y ∨ (x.size : Int) - z < y) :
    Calls Tryd.prog 51 #[.string s] w (RsP s w) := by
  have hmf : ∀ (fn : Fn) (first cap : Array Value) (w : World), (Instr.makeFunc fn first cap).run Tryd.prog w = .ok (.func fn first cap) w := fun _ _ _ _ => rfl
  have HZ : Hid (rsP s = zeroS) := hz
  clear hz
  have HS : Hid (x.size ≤ 1048576) := hs
  have HT : Hid (TableIs w) := ht
  have HR : Hid (rv x a2 = (y, z, q)) := h3
  have HQ : Hid (q = false ∨ 20000 < y ∨ (x.size : Int) - z < y) := hq
  clear ht hs h3 hq
  go_enter_defers Tryd.func51, Tryd.ntmps51
  go_wp2_with fail
  refine Calls.mono (HU.out _ (HT.out.below (ba (ba (Below.refl _ _) _) _))) ?_
  rintro e w1 ⟨rfl, hb1⟩
  have G1 : Hid (w1.heap[w.heap.size]? = some (.cells #[.int .i64 0, .int .i64 0, .slice none 0 0, .string { data := #[] }] 30)) := blk_up (heap_old (heap_last _ _) _) hb1
  have G2 : Hid (w1.heap[w.heap.size + 1]? = some (.cells #[.bool false] 4)) := blk_up (heap_next _ _ _) hb1
  have BB : Hid (Below w.heap.size w w1) := (ba (ba (Below.refl _ _) _) _).trans (hb1.mono (by simp; omega))
  clear hb1
  go_wp2_with fail
  refine Calls.mono (untorn_yes _) ?_
  rintro e w2 ⟨rfl, hw⟩; have hw2 := hw.symm; subst hw2; clear hw
  go_wp2_with fail
  have hg : w.heap.size + 2 ≤ w1.heap.size := (Array.getElem?_eq_some_iff.1 G2.out).1
  have GR : Hid (Rdr (w1.alloc (.cells #[.string x, .int .i64 0] 102)) w1.heap.size x 0) := heap_last _ _
  replace G1 : Hid ((w1.alloc (.cells #[.string x, .int .i64 0] 102)).heap[w.heap.size]? = some (.cells #[.int .i64 0, .int .i64 0, .slice none 0 0, .string { data := #[] }] 30)) := heap_old G1.out _
  replace G2 : Hid ((w1.alloc (.cells #[.string x, .int .i64 0] 102)).heap[w.heap.size + 1]? = some (.cells #[.bool false] 4)) := heap_old G2.out _
  replace BB : Hid (Below w.heap.size w (w1.alloc (.cells #[.string x, .int .i64 0] 102))) := ba BB.out _
  generalize w1.heap.size = g at hg GR ⊢
  generalize w1.alloc (.cells #[.string x, .int .i64 0] 102) = W0 at GR G1 G2 BB ⊢
  have CA : Hid (∀ W, Rdr W g x 0 → Calls Tryd.prog 83 #[.pointer (some ⟨g, 0, none⟩), .int .i64 1000000] W fun e w' => e = .returned (.int .i64 (i : Int)) ∧ Rdr w' g x a1 ∧ Save g W w') := fun W h => number_yes g x 0 i a1 _ W h HS.out h1 hi
  clear h1 hi
  have CB : Hid (∀ W, Rdr W g x a1 → Calls Tryd.prog 83 #[.pointer (some ⟨g, 0, none⟩), .int .i64 100000] W fun e w' => e = .returned (.int .i64 (t : Int)) ∧ Rdr w' g x a2 ∧ Save g W w') := fun W h => number_yes g x a1 t a2 _ W h HS.out h2 hti
  clear h2 hti
  refine Calls.mono (CA.out _ GR.out) ?_
  rintro e v1 ⟨rfl, R1, S1⟩
  have hp1 := S1.heap (k := w.heap.size) (by omega) G1.out
  have hq1 := S1.heap (k := w.heap.size + 1) (by omega) G2.out
  have hb1 := Save.under (B := w.heap.size) BB.out S1 (by omega) BB.out.size
  clear G1 G2 BB GR S1
  obtain ⟨c0, c1, c2, c3⟩ := sb_cells hp1
  have f1 := sb_frozen hp1
  have G1 := sb_set0 hp1 (.int .i64 (i : Int))
  have G2 := heap_far hq1 (p := ⟨w.heap.size, 0, none⟩) (by show w.heap.size ≠ w.heap.size + 1; omega) (.int .i64 (i : Int))
  have GR := heap_far R1 (p := ⟨w.heap.size, 0, none⟩) (by show w.heap.size ≠ g; omega) (.int .i64 (i : Int))
  have BB := hb1.setCell (p := ⟨w.heap.size, 0, none⟩) (Nat.le_refl _) (.int .i64 (i : Int))
  go_wp2_with fail
  generalize v1.setCell ⟨w.heap.size, 0, none⟩ (.int .i64 (i : Int)) = W1 at G1 G2 GR BB ⊢
  have G1 : Hid (W1.heap[w.heap.size]? = some (.cells #[.int .i64 (i : Int), .int .i64 0, .slice none 0 0, .string { data := #[] }] 30)) := G1
  have G2 : Hid (W1.heap[w.heap.size + 1]? = some (.cells #[.bool false] 4)) := G2
  have GR : Hid (Rdr W1 g x a1) := GR
  have BB : Hid (Below w.heap.size w W1) := BB
  clear c0 c1 c2 c3 f1 hp1 hq1 hb1 R1
  refine Calls.mono (CB.out _ GR.out) ?_
  rintro e v2 ⟨rfl, R2, S2⟩
  have hp2 := S2.heap (k := w.heap.size) (by omega) G1.out
  have hq2 := S2.heap (k := w.heap.size + 1) (by omega) G2.out
  have hb2 := Save.under (B := w.heap.size) BB.out S2 (by omega) BB.out.size
  clear G1 G2 BB GR S2
  obtain ⟨c0, c1, c2, c3⟩ := sb_cells hp2
  have f1 := sb_frozen hp2
  have G1 := sb_set1 hp2 (.int .i64 (t : Int))
  have G2 := heap_far hq2 (p := ⟨w.heap.size, 1, none⟩) (by show w.heap.size ≠ w.heap.size + 1; omega) (.int .i64 (t : Int))
  have GR := heap_far R2 (p := ⟨w.heap.size, 1, none⟩) (by show w.heap.size ≠ g; omega) (.int .i64 (t : Int))
  have BB := hb2.setCell (p := ⟨w.heap.size, 1, none⟩) (Nat.le_refl _) (.int .i64 (t : Int))
  go_wp2_with fail
  generalize v2.setCell ⟨w.heap.size, 1, none⟩ (.int .i64 (t : Int)) = W2 at G1 G2 GR BB ⊢
  have G1 : Hid (W2.heap[w.heap.size]? = some (.cells #[.int .i64 (i : Int), .int .i64 (t : Int), .slice none 0 0, .string { data := #[] }] 30)) := G1
  have G2 : Hid (W2.heap[w.heap.size + 1]? = some (.cells #[.bool false] 4)) := G2
  have GR : Hid (Rdr W2 g x a2) := GR
  have BB : Hid (Below w.heap.size w W2) := BB
  clear c0 c1 c2 c3 f1 hp2 hq2 hb2 R2
  refine Calls.mono (conf_no g x a2 y z q _ GR.out HS.out HR.out HQ.out) ?_
  rintro e u ⟨rfl, hb⟩
  have G1 := blk_up G1.out hb
  have G2 := blk_up G2.out hb
  have hbb := Below.on BB.out hb
  clear GR
  go_wp2
  exact door_torn G1 G2 (by omega) (Nat.le_refl _) (by omega) rfl rfl fun w' h => rsP_zero HZ.out hbb h

set_option maxRecDepth 10000 in
set_option maxHeartbeats 2000000 in
theorem readSnap_f4 (s x : ByteArray) (i t n a1 a2 a3 : Nat) (w : World) (hz : rsP s = zeroS) (HU : Hid (∀ W, TableIs W → Calls Tryd.prog 81 #[.string s] W fun e w' => e = .returned (.tuple #[.string x, .bool true]) ∧ Below W.heap.size W w')) (ht : TableIs w) (hl : (s.size : Int) ≤ 20000) (hs : x.size ≤ 1048576) (h1 : rv x (0 : Nat) = ((i : Int), (a1 : Int), true)) (hi : (i : Int) ≤ 1000000) (h2 : rv x a1 = ((t : Int), (a2 : Int), true)) (hti : (t : Int) ≤ 100000) (h3 : rv x a2 = ((n : Int), (a3 : Int), true)) (hn : n ≤ 20000) (hna : a3 + n ≤ x.size) (hk : okT (x.extract a3 (a3 + n)) = false) :
    Calls Tryd.prog 51 #[.string s] w (RsP s w) := by
  have hmf : ∀ (fn : Fn) (first cap : Array Value) (w : World), (Instr.makeFunc fn first cap).run Tryd.prog w = .ok (.func fn first cap) w := fun _ _ _ _ => rfl
  have HZ : Hid (rsP s = zeroS) := hz
  clear hz
  have HS : Hid (x.size ≤ 1048576) := hs
  have HT : Hid (TableIs w) := ht
  have CW : Hid (∀ g W, Rdr W g x a2 → Calls Tryd.prog 84 #[.pointer (some ⟨g, 0, none⟩)] W fun e w' => e = .panicked tornP ∧ Save g W w') := fun g W h => conf_wrong g x a2 n a3 W h HS.out h3 hn hna hk
  clear ht hs h3 hn hna hk
  go_enter_defers Tryd.func51, Tryd.ntmps51
  go_wp2_with fail
  refine Calls.mono (HU.out _ (HT.out.below (ba (ba (Below.refl _ _) _) _))) ?_
  rintro e w1 ⟨rfl, hb1⟩
  have G1 : Hid (w1.heap[w.heap.size]? = some (.cells #[.int .i64 0, .int .i64 0, .slice none 0 0, .string { data := #[] }] 30)) := blk_up (heap_old (heap_last _ _) _) hb1
  have G2 : Hid (w1.heap[w.heap.size + 1]? = some (.cells #[.bool false] 4)) := blk_up (heap_next _ _ _) hb1
  have BB : Hid (Below w.heap.size w w1) := (ba (ba (Below.refl _ _) _) _).trans (hb1.mono (by simp; omega))
  clear hb1
  go_wp2_with fail
  refine Calls.mono (untorn_yes _) ?_
  rintro e w2 ⟨rfl, hw⟩; have hw2 := hw.symm; subst hw2; clear hw
  go_wp2_with fail
  have hg : w.heap.size + 2 ≤ w1.heap.size := (Array.getElem?_eq_some_iff.1 G2.out).1
  have GR : Hid (Rdr (w1.alloc (.cells #[.string x, .int .i64 0] 102)) w1.heap.size x 0) := heap_last _ _
  replace G1 : Hid ((w1.alloc (.cells #[.string x, .int .i64 0] 102)).heap[w.heap.size]? = some (.cells #[.int .i64 0, .int .i64 0, .slice none 0 0, .string { data := #[] }] 30)) := heap_old G1.out _
  replace G2 : Hid ((w1.alloc (.cells #[.string x, .int .i64 0] 102)).heap[w.heap.size + 1]? = some (.cells #[.bool false] 4)) := heap_old G2.out _
  replace BB : Hid (Below w.heap.size w (w1.alloc (.cells #[.string x, .int .i64 0] 102))) := ba BB.out _
  generalize w1.heap.size = g at hg GR ⊢
  generalize w1.alloc (.cells #[.string x, .int .i64 0] 102) = W0 at GR G1 G2 BB ⊢
  have CA : Hid (∀ W, Rdr W g x 0 → Calls Tryd.prog 83 #[.pointer (some ⟨g, 0, none⟩), .int .i64 1000000] W fun e w' => e = .returned (.int .i64 (i : Int)) ∧ Rdr w' g x a1 ∧ Save g W w') := fun W h => number_yes g x 0 i a1 _ W h HS.out h1 hi
  clear h1 hi
  have CB : Hid (∀ W, Rdr W g x a1 → Calls Tryd.prog 83 #[.pointer (some ⟨g, 0, none⟩), .int .i64 100000] W fun e w' => e = .returned (.int .i64 (t : Int)) ∧ Rdr w' g x a2 ∧ Save g W w') := fun W h => number_yes g x a1 t a2 _ W h HS.out h2 hti
  clear h2 hti
  refine Calls.mono (CA.out _ GR.out) ?_
  rintro e v1 ⟨rfl, R1, S1⟩
  have hp1 := S1.heap (k := w.heap.size) (by omega) G1.out
  have hq1 := S1.heap (k := w.heap.size + 1) (by omega) G2.out
  have hb1 := Save.under (B := w.heap.size) BB.out S1 (by omega) BB.out.size
  clear G1 G2 BB GR S1
  obtain ⟨c0, c1, c2, c3⟩ := sb_cells hp1
  have f1 := sb_frozen hp1
  have G1 := sb_set0 hp1 (.int .i64 (i : Int))
  have G2 := heap_far hq1 (p := ⟨w.heap.size, 0, none⟩) (by show w.heap.size ≠ w.heap.size + 1; omega) (.int .i64 (i : Int))
  have GR := heap_far R1 (p := ⟨w.heap.size, 0, none⟩) (by show w.heap.size ≠ g; omega) (.int .i64 (i : Int))
  have BB := hb1.setCell (p := ⟨w.heap.size, 0, none⟩) (Nat.le_refl _) (.int .i64 (i : Int))
  go_wp2_with fail
  generalize v1.setCell ⟨w.heap.size, 0, none⟩ (.int .i64 (i : Int)) = W1 at G1 G2 GR BB ⊢
  have G1 : Hid (W1.heap[w.heap.size]? = some (.cells #[.int .i64 (i : Int), .int .i64 0, .slice none 0 0, .string { data := #[] }] 30)) := G1
  have G2 : Hid (W1.heap[w.heap.size + 1]? = some (.cells #[.bool false] 4)) := G2
  have GR : Hid (Rdr W1 g x a1) := GR
  have BB : Hid (Below w.heap.size w W1) := BB
  clear c0 c1 c2 c3 f1 hp1 hq1 hb1 R1
  refine Calls.mono (CB.out _ GR.out) ?_
  rintro e v2 ⟨rfl, R2, S2⟩
  have hp2 := S2.heap (k := w.heap.size) (by omega) G1.out
  have hq2 := S2.heap (k := w.heap.size + 1) (by omega) G2.out
  have hb2 := Save.under (B := w.heap.size) BB.out S2 (by omega) BB.out.size
  clear G1 G2 BB GR S2
  obtain ⟨c0, c1, c2, c3⟩ := sb_cells hp2
  have f1 := sb_frozen hp2
  have G1 := sb_set1 hp2 (.int .i64 (t : Int))
  have G2 := heap_far hq2 (p := ⟨w.heap.size, 1, none⟩) (by show w.heap.size ≠ w.heap.size + 1; omega) (.int .i64 (t : Int))
  have GR := heap_far R2 (p := ⟨w.heap.size, 1, none⟩) (by show w.heap.size ≠ g; omega) (.int .i64 (t : Int))
  have BB := hb2.setCell (p := ⟨w.heap.size, 1, none⟩) (Nat.le_refl _) (.int .i64 (t : Int))
  go_wp2_with fail
  generalize v2.setCell ⟨w.heap.size, 1, none⟩ (.int .i64 (t : Int)) = W2 at G1 G2 GR BB ⊢
  have G1 : Hid (W2.heap[w.heap.size]? = some (.cells #[.int .i64 (i : Int), .int .i64 (t : Int), .slice none 0 0, .string { data := #[] }] 30)) := G1
  have G2 : Hid (W2.heap[w.heap.size + 1]? = some (.cells #[.bool false] 4)) := G2
  have GR : Hid (Rdr W2 g x a2) := GR
  have BB : Hid (Below w.heap.size w W2) := BB
  clear c0 c1 c2 c3 f1 hp2 hq2 hb2 R2
  refine Calls.mono (CW.out _ _ GR.out) ?_
  rintro e u ⟨rfl, hb⟩
  have G1 := hb.heap (k := w.heap.size) (by omega) G1.out
  have G2 := hb.heap (k := w.heap.size + 1) (by omega) G2.out
  have hbb := Save.under (B := w.heap.size) BB.out hb (by omega) BB.out.size
  clear GR
  go_wp2
  exact door_torn G1 G2 (by omega) (Nat.le_refl _) (by omega) rfl rfl fun w' h => rsP_zero HZ.out hbb h

end Go.Proofs.YtgpojfkdcdgloaaDoor

namespace Go.Proofs.YtgpojfkdcdgloaaDoor
open Go Go.RowKit

theorem ownsR.saveB {w w' : World} {B g : Nat} {v : Value} {l : List Int} (h : ownsR w B 3 v l) (hs : Save g w w') (hg : g < B) : ownsR w' B 3 v l :=
  h.other (r := some g) ⟨hs.os, hs.tape, hs.output, hs.size, fun k hk hr => hs.block k hk (fun e => hr (by rw [e]))⟩ (by
    cases hv : v.ownBlock with
    | none => exact .inl rfl
    | some k =>
      refine .inr fun e => ?_
      have h1 := (h.lt k hv).1
      have h2 : k = g := Option.some.inj e
      omega)
set_option maxRecDepth 10000 in
set_option maxHeartbeats 2000000 in
theorem readSnap_f5 (s x : ByteArray) (i t n a1 a2 a3 : Nat) (c : ByteArray) (y z : Int) (q : Bool) (w : World) (hz : rsP s = zeroS) (HU : Hid (∀ W, TableIs W → Calls Tryd.prog 81 #[.string s] W fun e w' => e = .returned (.tuple #[.string x, .bool true]) ∧ Below W.heap.size W w')) (ht : TableIs w) (hl : (s.size : Int) ≤ 20000) (hs : x.size ≤ 1048576) (h1 : rv x (0 : Nat) = ((i : Int), (a1 : Int), true)) (hi : (i : Int) ≤ 1000000) (h2 : rv x a1 = ((t : Int), (a2 : Int), true)) (hti : (t : Int) ≤ 100000) (h3 : rv x a2 = ((n : Int), (a3 : Int), true)) (hn : n ≤ 20000) (hna : a3 + n ≤ x.size) (hc : x.extract a3 (a3 + n) = c) (hk : okT c = true) (h5 : rv x (a3 + n : Nat) = (y, z, q)) (hq : q = false ∨ 20000 < y ∨ (x.size : Int) - z < y) :
    Calls Tryd.prog 51 #[.string s] w (RsP s w) := by
  have hmf : ∀ (fn : Fn) (first cap : Array Value) (w : World), (Instr.makeFunc fn first cap).run Tryd.prog w = .ok (.func fn first cap) w := fun _ _ _ _ => rfl
  have HZ : Hid (rsP s = zeroS) := hz
  clear hz
  have HS : Hid (x.size ≤ 1048576) := hs
  have HT : Hid (TableIs w) := ht
  have HR : Hid (rv x (a3 + n : Nat) = (y, z, q)) := h5
  have HQ : Hid (q = false ∨ 20000 < y ∨ (x.size : Int) - z < y) := hq
  clear ht hs h5 hq
  go_enter_defers Tryd.func51, Tryd.ntmps51
  go_wp2_with fail
  refine Calls.mono (HU.out _ (HT.out.below (ba (ba (Below.refl _ _) _) _))) ?_
  rintro e w1 ⟨rfl, hb1⟩
  have G1 : Hid (w1.heap[w.heap.size]? = some (.cells #[.int .i64 0, .int .i64 0, .slice none 0 0, .string { data := #[] }] 30)) := blk_up (heap_old (heap_last _ _) _) hb1
  have G2 : Hid (w1.heap[w.heap.size + 1]? = some (.cells #[.bool false] 4)) := blk_up (heap_next _ _ _) hb1
  have BB : Hid (Below w.heap.size w w1) := (ba (ba (Below.refl _ _) _) _).trans (hb1.mono (by simp; omega))
  clear hb1
  go_wp2_with fail
  refine Calls.mono (untorn_yes _) ?_
  rintro e w2 ⟨rfl, hw⟩; have hw2 := hw.symm; subst hw2; clear hw
  go_wp2_with fail
  have hg : w.heap.size + 2 ≤ w1.heap.size := (Array.getElem?_eq_some_iff.1 G2.out).1
  have GR : Hid (Rdr (w1.alloc (.cells #[.string x, .int .i64 0] 102)) w1.heap.size x 0) := heap_last _ _
  replace G1 : Hid ((w1.alloc (.cells #[.string x, .int .i64 0] 102)).heap[w.heap.size]? = some (.cells #[.int .i64 0, .int .i64 0, .slice none 0 0, .string { data := #[] }] 30)) := heap_old G1.out _
  replace G2 : Hid ((w1.alloc (.cells #[.string x, .int .i64 0] 102)).heap[w.heap.size + 1]? = some (.cells #[.bool false] 4)) := heap_old G2.out _
  replace BB : Hid (Below w.heap.size w (w1.alloc (.cells #[.string x, .int .i64 0] 102))) := ba BB.out _
  generalize w1.heap.size = g at hg GR ⊢
  generalize w1.alloc (.cells #[.string x, .int .i64 0] 102) = W0 at GR G1 G2 BB ⊢
  have CA : Hid (∀ W, Rdr W g x 0 → Calls Tryd.prog 83 #[.pointer (some ⟨g, 0, none⟩), .int .i64 1000000] W fun e w' => e = .returned (.int .i64 (i : Int)) ∧ Rdr w' g x a1 ∧ Save g W w') := fun W h => number_yes g x 0 i a1 _ W h HS.out h1 hi
  clear h1 hi
  have CB : Hid (∀ W, Rdr W g x a1 → Calls Tryd.prog 83 #[.pointer (some ⟨g, 0, none⟩), .int .i64 100000] W fun e w' => e = .returned (.int .i64 (t : Int)) ∧ Rdr w' g x a2 ∧ Save g W w') := fun W h => number_yes g x a1 t a2 _ W h HS.out h2 hti
  clear h2 hti
  have CC : Hid (∀ W, Rdr W g x a2 → Calls Tryd.prog 84 #[.pointer (some ⟨g, 0, none⟩)] W fun e w' => ∃ v, e = .returned v ∧ ownsR w' W.heap.size 3 v (confT c) ∧ Rdr w' g x (a3 + n) ∧ Save g W w') := fun W h => by
    subst hc
    exact conf_yes g x a2 n a3 W h HS.out h3 hn hna hk
  clear h3 hn hna hc hk
  refine Calls.mono (CA.out _ GR.out) ?_
  rintro e v1 ⟨rfl, R1, S1⟩
  have hp1 := S1.heap (k := w.heap.size) (by omega) G1.out
  have hq1 := S1.heap (k := w.heap.size + 1) (by omega) G2.out
  have hb1 := Save.under (B := w.heap.size) BB.out S1 (by omega) BB.out.size
  clear G1 G2 BB GR S1
  obtain ⟨c0, c1, c2, c3⟩ := sb_cells hp1
  have f1 := sb_frozen hp1
  have G1 := sb_set0 hp1 (.int .i64 (i : Int))
  have G2 := heap_far hq1 (p := ⟨w.heap.size, 0, none⟩) (by show w.heap.size ≠ w.heap.size + 1; omega) (.int .i64 (i : Int))
  have GR := heap_far R1 (p := ⟨w.heap.size, 0, none⟩) (by show w.heap.size ≠ g; omega) (.int .i64 (i : Int))
  have BB := hb1.setCell (p := ⟨w.heap.size, 0, none⟩) (Nat.le_refl _) (.int .i64 (i : Int))
  go_wp2_with fail
  generalize v1.setCell ⟨w.heap.size, 0, none⟩ (.int .i64 (i : Int)) = W1 at G1 G2 GR BB ⊢
  have G1 : Hid (W1.heap[w.heap.size]? = some (.cells #[.int .i64 (i : Int), .int .i64 0, .slice none 0 0, .string { data := #[] }] 30)) := G1
  have G2 : Hid (W1.heap[w.heap.size + 1]? = some (.cells #[.bool false] 4)) := G2
  have GR : Hid (Rdr W1 g x a1) := GR
  have BB : Hid (Below w.heap.size w W1) := BB
  clear c0 c1 c2 c3 f1 hp1 hq1 hb1 R1
  refine Calls.mono (CB.out _ GR.out) ?_
  rintro e v2 ⟨rfl, R2, S2⟩
  have hp2 := S2.heap (k := w.heap.size) (by omega) G1.out
  have hq2 := S2.heap (k := w.heap.size + 1) (by omega) G2.out
  have hb2 := Save.under (B := w.heap.size) BB.out S2 (by omega) BB.out.size
  clear G1 G2 BB GR S2
  obtain ⟨c0, c1, c2, c3⟩ := sb_cells hp2
  have f1 := sb_frozen hp2
  have G1 := sb_set1 hp2 (.int .i64 (t : Int))
  have G2 := heap_far hq2 (p := ⟨w.heap.size, 1, none⟩) (by show w.heap.size ≠ w.heap.size + 1; omega) (.int .i64 (t : Int))
  have GR := heap_far R2 (p := ⟨w.heap.size, 1, none⟩) (by show w.heap.size ≠ g; omega) (.int .i64 (t : Int))
  have BB := hb2.setCell (p := ⟨w.heap.size, 1, none⟩) (Nat.le_refl _) (.int .i64 (t : Int))
  go_wp2_with fail
  generalize v2.setCell ⟨w.heap.size, 1, none⟩ (.int .i64 (t : Int)) = W2 at G1 G2 GR BB ⊢
  have G1 : Hid (W2.heap[w.heap.size]? = some (.cells #[.int .i64 (i : Int), .int .i64 (t : Int), .slice none 0 0, .string { data := #[] }] 30)) := G1
  have G2 : Hid (W2.heap[w.heap.size + 1]? = some (.cells #[.bool false] 4)) := G2
  have GR : Hid (Rdr W2 g x a2) := GR
  have BB : Hid (Below w.heap.size w W2) := BB
  clear c0 c1 c2 c3 f1 hp2 hq2 hb2 R2
  have hgb := GR.out.lt
  have hCC := CC.out _ GR.out
  generalize W2.heap.size = bb at hgb hCC
  refine Calls.mono hCC ?_
  clear hCC
  rintro e v3 ⟨x3, rfl, O3, R3, S3⟩
  have hp3 := S3.heap (k := w.heap.size) (by omega) G1.out
  have hq3 := S3.heap (k := w.heap.size + 1) (by omega) G2.out
  have hb3 := Save.under (B := w.heap.size) BB.out S3 (by omega) BB.out.size
  clear G1 G2 BB GR S3
  obtain ⟨oa, on, oc, rfl⟩ := O3.slice3
  obtain ⟨c0, c1, c2, c3⟩ := sb_cells hp3
  have f1 := sb_frozen hp3
  have G1 := sb_set2 hp3 (.slice oa on oc)
  have G2 := heap_far hq3 (p := ⟨w.heap.size, 2, none⟩) (by show w.heap.size ≠ w.heap.size + 1; omega) (.slice oa on oc)
  have GR := heap_far R3 (p := ⟨w.heap.size, 2, none⟩) (by show w.heap.size ≠ g; omega) (.slice oa on oc)
  have BB := hb3.setCell (p := ⟨w.heap.size, 2, none⟩) (Nat.le_refl _) (.slice oa on oc)
  have OO : Hid (ownsR (v3.setCell ⟨w.heap.size, 2, none⟩ (.slice oa on oc)) bb 3 (.slice oa on oc) (confT c)) := ownsR.setBelow O3 (by show w.heap.size < _; omega) _
  go_wp2_with fail
  generalize v3.setCell ⟨w.heap.size, 2, none⟩ (.slice oa on oc) = W3 at G1 G2 GR BB OO ⊢
  have G1 : Hid (W3.heap[w.heap.size]? = some (.cells #[.int .i64 (i : Int), .int .i64 (t : Int), .slice oa on oc, .string { data := #[] }] 30)) := G1
  have G2 : Hid (W3.heap[w.heap.size + 1]? = some (.cells #[.bool false] 4)) := G2
  have GR : Hid (Rdr W3 g x (a3 + n)) := GR
  have BB : Hid (Below w.heap.size w W3) := BB
  clear c0 c1 c2 c3 f1 hp3 hq3 hb3 R3 O3
  refine Calls.mono (short_no g x (a3 + n) y z q _ GR.out HS.out HR.out HQ.out) ?_
  rintro e u ⟨rfl, hb⟩
  have G1 := blk_up G1.out hb
  have G2 := blk_up G2.out hb
  have hbb := Below.on BB.out hb
  clear GR
  go_wp2
  exact door_torn G1 G2 (by omega) (Nat.le_refl _) (by omega) rfl rfl fun w' h => rsP_zero HZ.out hbb h

set_option maxRecDepth 10000 in
set_option maxHeartbeats 2000000 in
theorem readSnap_f6 (s x : ByteArray) (i t n m a1 a2 a3 a5 : Nat) (c d : ByteArray) (w : World) (hz : rsP s = zeroS) (HU : Hid (∀ W, TableIs W → Calls Tryd.prog 81 #[.string s] W fun e w' => e = .returned (.tuple #[.string x, .bool true]) ∧ Below W.heap.size W w')) (ht : TableIs w) (hl : (s.size : Int) ≤ 20000) (hs : x.size ≤ 1048576) (h1 : rv x (0 : Nat) = ((i : Int), (a1 : Int), true)) (hi : (i : Int) ≤ 1000000) (h2 : rv x a1 = ((t : Int), (a2 : Int), true)) (hti : (t : Int) ≤ 100000) (h3 : rv x a2 = ((n : Int), (a3 : Int), true)) (hn : n ≤ 20000) (hna : a3 + n ≤ x.size) (hc : x.extract a3 (a3 + n) = c) (hk : okT c = true) (h5 : rv x (a3 + n : Nat) = ((m : Int), (a5 : Int), true)) (hm : m ≤ 20000) (hma : a5 + m ≤ x.size) (hd : x.extract a5 (a5 + m) = d) (hend : a5 + m ≠ x.size) :
    Calls Tryd.prog 51 #[.string s] w (RsP s w) := by
  have hmf : ∀ (fn : Fn) (first cap : Array Value) (w : World), (Instr.makeFunc fn first cap).run Tryd.prog w = .ok (.func fn first cap) w := fun _ _ _ _ => rfl
  have HZ : Hid (rsP s = zeroS) := hz
  clear hz
  have HS : Hid (x.size ≤ 1048576) := hs
  have HT : Hid (TableIs w) := ht
  have HE : Hid (a5 + m ≠ x.size) := hend
  clear ht hs hend
  go_enter_defers Tryd.func51, Tryd.ntmps51
  go_wp2_with fail
  refine Calls.mono (HU.out _ (HT.out.below (ba (ba (Below.refl _ _) _) _))) ?_
  rintro e w1 ⟨rfl, hb1⟩
  have G1 : Hid (w1.heap[w.heap.size]? = some (.cells #[.int .i64 0, .int .i64 0, .slice none 0 0, .string { data := #[] }] 30)) := blk_up (heap_old (heap_last _ _) _) hb1
  have G2 : Hid (w1.heap[w.heap.size + 1]? = some (.cells #[.bool false] 4)) := blk_up (heap_next _ _ _) hb1
  have BB : Hid (Below w.heap.size w w1) := (ba (ba (Below.refl _ _) _) _).trans (hb1.mono (by simp; omega))
  clear hb1
  go_wp2_with fail
  refine Calls.mono (untorn_yes _) ?_
  rintro e w2 ⟨rfl, hw⟩; have hw2 := hw.symm; subst hw2; clear hw
  go_wp2_with fail
  have hg : w.heap.size + 2 ≤ w1.heap.size := (Array.getElem?_eq_some_iff.1 G2.out).1
  have GR : Hid (Rdr (w1.alloc (.cells #[.string x, .int .i64 0] 102)) w1.heap.size x 0) := heap_last _ _
  replace G1 : Hid ((w1.alloc (.cells #[.string x, .int .i64 0] 102)).heap[w.heap.size]? = some (.cells #[.int .i64 0, .int .i64 0, .slice none 0 0, .string { data := #[] }] 30)) := heap_old G1.out _
  replace G2 : Hid ((w1.alloc (.cells #[.string x, .int .i64 0] 102)).heap[w.heap.size + 1]? = some (.cells #[.bool false] 4)) := heap_old G2.out _
  replace BB : Hid (Below w.heap.size w (w1.alloc (.cells #[.string x, .int .i64 0] 102))) := ba BB.out _
  generalize w1.heap.size = g at hg GR ⊢
  generalize w1.alloc (.cells #[.string x, .int .i64 0] 102) = W0 at GR G1 G2 BB ⊢
  have CA : Hid (∀ W, Rdr W g x 0 → Calls Tryd.prog 83 #[.pointer (some ⟨g, 0, none⟩), .int .i64 1000000] W fun e w' => e = .returned (.int .i64 (i : Int)) ∧ Rdr w' g x a1 ∧ Save g W w') := fun W h => number_yes g x 0 i a1 _ W h HS.out h1 hi
  clear h1 hi
  have CB : Hid (∀ W, Rdr W g x a1 → Calls Tryd.prog 83 #[.pointer (some ⟨g, 0, none⟩), .int .i64 100000] W fun e w' => e = .returned (.int .i64 (t : Int)) ∧ Rdr w' g x a2 ∧ Save g W w') := fun W h => number_yes g x a1 t a2 _ W h HS.out h2 hti
  clear h2 hti
  have CC : Hid (∀ W, Rdr W g x a2 → Calls Tryd.prog 84 #[.pointer (some ⟨g, 0, none⟩)] W fun e w' => ∃ v, e = .returned v ∧ ownsR w' W.heap.size 3 v (confT c) ∧ Rdr w' g x (a3 + n) ∧ Save g W w') := fun W h => by
    subst hc
    exact conf_yes g x a2 n a3 W h HS.out h3 hn hna hk
  clear h3 hn hna hc hk
  have CD : Hid (∀ W, Rdr W g x (a3 + n) → Calls Tryd.prog 85 #[.pointer (some ⟨g, 0, none⟩)] W fun e w' => e = .returned (.string d) ∧ Rdr w' g x (a5 + m) ∧ Save g W w') := fun W h => by
    subst hd
    exact short_yes g x (a3 + n) m a5 W h HS.out h5 hm hma
  clear h5 hm hma hd
  refine Calls.mono (CA.out _ GR.out) ?_
  rintro e v1 ⟨rfl, R1, S1⟩
  have hp1 := S1.heap (k := w.heap.size) (by omega) G1.out
  have hq1 := S1.heap (k := w.heap.size + 1) (by omega) G2.out
  have hb1 := Save.under (B := w.heap.size) BB.out S1 (by omega) BB.out.size
  clear G1 G2 BB GR S1
  obtain ⟨c0, c1, c2, c3⟩ := sb_cells hp1
  have f1 := sb_frozen hp1
  have G1 := sb_set0 hp1 (.int .i64 (i : Int))
  have G2 := heap_far hq1 (p := ⟨w.heap.size, 0, none⟩) (by show w.heap.size ≠ w.heap.size + 1; omega) (.int .i64 (i : Int))
  have GR := heap_far R1 (p := ⟨w.heap.size, 0, none⟩) (by show w.heap.size ≠ g; omega) (.int .i64 (i : Int))
  have BB := hb1.setCell (p := ⟨w.heap.size, 0, none⟩) (Nat.le_refl _) (.int .i64 (i : Int))
  go_wp2_with fail
  generalize v1.setCell ⟨w.heap.size, 0, none⟩ (.int .i64 (i : Int)) = W1 at G1 G2 GR BB ⊢
  have G1 : Hid (W1.heap[w.heap.size]? = some (.cells #[.int .i64 (i : Int), .int .i64 0, .slice none 0 0, .string { data := #[] }] 30)) := G1
  have G2 : Hid (W1.heap[w.heap.size + 1]? = some (.cells #[.bool false] 4)) := G2
  have GR : Hid (Rdr W1 g x a1) := GR
  have BB : Hid (Below w.heap.size w W1) := BB
  clear c0 c1 c2 c3 f1 hp1 hq1 hb1 R1
  refine Calls.mono (CB.out _ GR.out) ?_
  rintro e v2 ⟨rfl, R2, S2⟩
  have hp2 := S2.heap (k := w.heap.size) (by omega) G1.out
  have hq2 := S2.heap (k := w.heap.size + 1) (by omega) G2.out
  have hb2 := Save.under (B := w.heap.size) BB.out S2 (by omega) BB.out.size
  clear G1 G2 BB GR S2
  obtain ⟨c0, c1, c2, c3⟩ := sb_cells hp2
  have f1 := sb_frozen hp2
  have G1 := sb_set1 hp2 (.int .i64 (t : Int))
  have G2 := heap_far hq2 (p := ⟨w.heap.size, 1, none⟩) (by show w.heap.size ≠ w.heap.size + 1; omega) (.int .i64 (t : Int))
  have GR := heap_far R2 (p := ⟨w.heap.size, 1, none⟩) (by show w.heap.size ≠ g; omega) (.int .i64 (t : Int))
  have BB := hb2.setCell (p := ⟨w.heap.size, 1, none⟩) (Nat.le_refl _) (.int .i64 (t : Int))
  go_wp2_with fail
  generalize v2.setCell ⟨w.heap.size, 1, none⟩ (.int .i64 (t : Int)) = W2 at G1 G2 GR BB ⊢
  have G1 : Hid (W2.heap[w.heap.size]? = some (.cells #[.int .i64 (i : Int), .int .i64 (t : Int), .slice none 0 0, .string { data := #[] }] 30)) := G1
  have G2 : Hid (W2.heap[w.heap.size + 1]? = some (.cells #[.bool false] 4)) := G2
  have GR : Hid (Rdr W2 g x a2) := GR
  have BB : Hid (Below w.heap.size w W2) := BB
  clear c0 c1 c2 c3 f1 hp2 hq2 hb2 R2
  have hgb := GR.out.lt
  have hCC := CC.out _ GR.out
  generalize W2.heap.size = bb at hgb hCC
  refine Calls.mono hCC ?_
  clear hCC
  rintro e v3 ⟨x3, rfl, O3, R3, S3⟩
  have hp3 := S3.heap (k := w.heap.size) (by omega) G1.out
  have hq3 := S3.heap (k := w.heap.size + 1) (by omega) G2.out
  have hb3 := Save.under (B := w.heap.size) BB.out S3 (by omega) BB.out.size
  clear G1 G2 BB GR S3
  obtain ⟨oa, on, oc, rfl⟩ := O3.slice3
  obtain ⟨c0, c1, c2, c3⟩ := sb_cells hp3
  have f1 := sb_frozen hp3
  have G1 := sb_set2 hp3 (.slice oa on oc)
  have G2 := heap_far hq3 (p := ⟨w.heap.size, 2, none⟩) (by show w.heap.size ≠ w.heap.size + 1; omega) (.slice oa on oc)
  have GR := heap_far R3 (p := ⟨w.heap.size, 2, none⟩) (by show w.heap.size ≠ g; omega) (.slice oa on oc)
  have BB := hb3.setCell (p := ⟨w.heap.size, 2, none⟩) (Nat.le_refl _) (.slice oa on oc)
  have OO : Hid (ownsR (v3.setCell ⟨w.heap.size, 2, none⟩ (.slice oa on oc)) bb 3 (.slice oa on oc) (confT c)) := ownsR.setBelow O3 (by show w.heap.size < _; omega) _
  go_wp2_with fail
  generalize v3.setCell ⟨w.heap.size, 2, none⟩ (.slice oa on oc) = W3 at G1 G2 GR BB OO ⊢
  have G1 : Hid (W3.heap[w.heap.size]? = some (.cells #[.int .i64 (i : Int), .int .i64 (t : Int), .slice oa on oc, .string { data := #[] }] 30)) := G1
  have G2 : Hid (W3.heap[w.heap.size + 1]? = some (.cells #[.bool false] 4)) := G2
  have GR : Hid (Rdr W3 g x (a3 + n)) := GR
  have BB : Hid (Below w.heap.size w W3) := BB
  clear c0 c1 c2 c3 f1 hp3 hq3 hb3 R3 O3
  refine Calls.mono (CD.out _ GR.out) ?_
  rintro e v4 ⟨rfl, R4, S4⟩
  have hp4 := S4.heap (k := w.heap.size) (by omega) G1.out
  have hq4 := S4.heap (k := w.heap.size + 1) (by omega) G2.out
  have hb4 := Save.under (B := w.heap.size) BB.out S4 (by omega) BB.out.size
  have OX4 := ownsR.saveB OO.out S4 hgb
  clear G1 G2 BB GR S4 OO
  obtain ⟨c0, c1, c2, c3⟩ := sb_cells hp4
  have f1 := sb_frozen hp4
  have G1 := sb_set3 hp4 (.string d)
  have G2 := heap_far hq4 (p := ⟨w.heap.size, 3, none⟩) (by show w.heap.size ≠ w.heap.size + 1; omega) (.string d)
  have GR := heap_far R4 (p := ⟨w.heap.size, 3, none⟩) (by show w.heap.size ≠ g; omega) (.string d)
  have BB := hb4.setCell (p := ⟨w.heap.size, 3, none⟩) (Nat.le_refl _) (.string d)
  have OO : Hid (ownsR (v4.setCell ⟨w.heap.size, 3, none⟩ (.string d)) bb 3 (.slice oa on oc) (confT c)) := ownsR.setBelow OX4 (by show w.heap.size < _; omega) _
  go_wp2_with fail
  generalize v4.setCell ⟨w.heap.size, 3, none⟩ (.string d) = W4 at G1 G2 GR BB OO ⊢
  have G1 : Hid (W4.heap[w.heap.size]? = some (.cells #[.int .i64 (i : Int), .int .i64 (t : Int), .slice oa on oc, .string d] 30)) := G1
  have G2 : Hid (W4.heap[w.heap.size + 1]? = some (.cells #[.bool false] 4)) := G2
  have GR : Hid (Rdr W4 g x (a5 + m)) := GR
  have BB : Hid (Below w.heap.size w W4) := BB
  clear c0 c1 c2 c3 f1 hp4 hq4 hb4 R4 OX4
  refine Calls.mono (end_no g x (a5 + m) _ GR.out HE.out) ?_
  rintro e u ⟨rfl, hb⟩
  have G1 := blk_up G1.out hb
  have G2 := blk_up G2.out hb
  have hbb := Below.on BB.out hb
  clear GR
  go_wp2
  exact door_torn G1 G2 (by omega) (Nat.le_refl _) (by omega) rfl rfl fun w' h => rsP_zero HZ.out hbb h

set_option maxRecDepth 10000 in
set_option maxHeartbeats 2000000 in
theorem readSnap_all (s x : ByteArray) (i t n m a1 a2 a3 a5 : Nat) (c d : ByteArray) (w : World) (hz : rsP s = ⟨i, t, confT c, d, true⟩) (HU : Hid (∀ W, TableIs W → Calls Tryd.prog 81 #[.string s] W fun e w' => e = .returned (.tuple #[.string x, .bool true]) ∧ Below W.heap.size W w')) (ht : TableIs w) (hl : (s.size : Int) ≤ 20000) (hs : x.size ≤ 1048576) (h1 : rv x (0 : Nat) = ((i : Int), (a1 : Int), true)) (hi : (i : Int) ≤ 1000000) (h2 : rv x a1 = ((t : Int), (a2 : Int), true)) (hti : (t : Int) ≤ 100000) (h3 : rv x a2 = ((n : Int), (a3 : Int), true)) (hn : n ≤ 20000) (hna : a3 + n ≤ x.size) (hc : x.extract a3 (a3 + n) = c) (hk : okT c = true) (h5 : rv x (a3 + n : Nat) = ((m : Int), (a5 : Int), true)) (hm : m ≤ 20000) (hma : a5 + m ≤ x.size) (hd : x.extract a5 (a5 + m) = d) (hend : a5 + m = x.size) :
    Calls Tryd.prog 51 #[.string s] w (RsP s w) := by
  have hmf : ∀ (fn : Fn) (first cap : Array Value) (w : World), (Instr.makeFunc fn first cap).run Tryd.prog w = .ok (.func fn first cap) w := fun _ _ _ _ => rfl
  have HZ : Hid (rsP s = ⟨i, t, confT c, d, true⟩) := hz
  clear hz
  have HS : Hid (x.size ≤ 1048576) := hs
  have HT : Hid (TableIs w) := ht
  have HE : Hid (a5 + m = x.size) := hend
  clear ht hs hend
  go_enter_defers Tryd.func51, Tryd.ntmps51
  go_wp2_with fail
  refine Calls.mono (HU.out _ (HT.out.below (ba (ba (Below.refl _ _) _) _))) ?_
  rintro e w1 ⟨rfl, hb1⟩
  have G1 : Hid (w1.heap[w.heap.size]? = some (.cells #[.int .i64 0, .int .i64 0, .slice none 0 0, .string { data := #[] }] 30)) := blk_up (heap_old (heap_last _ _) _) hb1
  have G2 : Hid (w1.heap[w.heap.size + 1]? = some (.cells #[.bool false] 4)) := blk_up (heap_next _ _ _) hb1
  have BB : Hid (Below w.heap.size w w1) := (ba (ba (Below.refl _ _) _) _).trans (hb1.mono (by simp; omega))
  clear hb1
  go_wp2_with fail
  refine Calls.mono (untorn_yes _) ?_
  rintro e w2 ⟨rfl, hw⟩; have hw2 := hw.symm; subst hw2; clear hw
  go_wp2_with fail
  have hg : w.heap.size + 2 ≤ w1.heap.size := (Array.getElem?_eq_some_iff.1 G2.out).1
  have GR : Hid (Rdr (w1.alloc (.cells #[.string x, .int .i64 0] 102)) w1.heap.size x 0) := heap_last _ _
  replace G1 : Hid ((w1.alloc (.cells #[.string x, .int .i64 0] 102)).heap[w.heap.size]? = some (.cells #[.int .i64 0, .int .i64 0, .slice none 0 0, .string { data := #[] }] 30)) := heap_old G1.out _
  replace G2 : Hid ((w1.alloc (.cells #[.string x, .int .i64 0] 102)).heap[w.heap.size + 1]? = some (.cells #[.bool false] 4)) := heap_old G2.out _
  replace BB : Hid (Below w.heap.size w (w1.alloc (.cells #[.string x, .int .i64 0] 102))) := ba BB.out _
  generalize w1.heap.size = g at hg GR ⊢
  generalize w1.alloc (.cells #[.string x, .int .i64 0] 102) = W0 at GR G1 G2 BB ⊢
  have CA : Hid (∀ W, Rdr W g x 0 → Calls Tryd.prog 83 #[.pointer (some ⟨g, 0, none⟩), .int .i64 1000000] W fun e w' => e = .returned (.int .i64 (i : Int)) ∧ Rdr w' g x a1 ∧ Save g W w') := fun W h => number_yes g x 0 i a1 _ W h HS.out h1 hi
  clear h1 hi
  have CB : Hid (∀ W, Rdr W g x a1 → Calls Tryd.prog 83 #[.pointer (some ⟨g, 0, none⟩), .int .i64 100000] W fun e w' => e = .returned (.int .i64 (t : Int)) ∧ Rdr w' g x a2 ∧ Save g W w') := fun W h => number_yes g x a1 t a2 _ W h HS.out h2 hti
  clear h2 hti
  have CC : Hid (∀ W, Rdr W g x a2 → Calls Tryd.prog 84 #[.pointer (some ⟨g, 0, none⟩)] W fun e w' => ∃ v, e = .returned v ∧ ownsR w' W.heap.size 3 v (confT c) ∧ Rdr w' g x (a3 + n) ∧ Save g W w') := fun W h => by
    subst hc
    exact conf_yes g x a2 n a3 W h HS.out h3 hn hna hk
  clear h3 hn hna hc hk
  have CD : Hid (∀ W, Rdr W g x (a3 + n) → Calls Tryd.prog 85 #[.pointer (some ⟨g, 0, none⟩)] W fun e w' => e = .returned (.string d) ∧ Rdr w' g x (a5 + m) ∧ Save g W w') := fun W h => by
    subst hd
    exact short_yes g x (a3 + n) m a5 W h HS.out h5 hm hma
  clear h5 hm hma hd
  refine Calls.mono (CA.out _ GR.out) ?_
  rintro e v1 ⟨rfl, R1, S1⟩
  have hp1 := S1.heap (k := w.heap.size) (by omega) G1.out
  have hq1 := S1.heap (k := w.heap.size + 1) (by omega) G2.out
  have hb1 := Save.under (B := w.heap.size) BB.out S1 (by omega) BB.out.size
  clear G1 G2 BB GR S1
  obtain ⟨c0, c1, c2, c3⟩ := sb_cells hp1
  have f1 := sb_frozen hp1
  have G1 := sb_set0 hp1 (.int .i64 (i : Int))
  have G2 := heap_far hq1 (p := ⟨w.heap.size, 0, none⟩) (by show w.heap.size ≠ w.heap.size + 1; omega) (.int .i64 (i : Int))
  have GR := heap_far R1 (p := ⟨w.heap.size, 0, none⟩) (by show w.heap.size ≠ g; omega) (.int .i64 (i : Int))
  have BB := hb1.setCell (p := ⟨w.heap.size, 0, none⟩) (Nat.le_refl _) (.int .i64 (i : Int))
  go_wp2_with fail
  generalize v1.setCell ⟨w.heap.size, 0, none⟩ (.int .i64 (i : Int)) = W1 at G1 G2 GR BB ⊢
  have G1 : Hid (W1.heap[w.heap.size]? = some (.cells #[.int .i64 (i : Int), .int .i64 0, .slice none 0 0, .string { data := #[] }] 30)) := G1
  have G2 : Hid (W1.heap[w.heap.size + 1]? = some (.cells #[.bool false] 4)) := G2
  have GR : Hid (Rdr W1 g x a1) := GR
  have BB : Hid (Below w.heap.size w W1) := BB
  clear c0 c1 c2 c3 f1 hp1 hq1 hb1 R1
  refine Calls.mono (CB.out _ GR.out) ?_
  rintro e v2 ⟨rfl, R2, S2⟩
  have hp2 := S2.heap (k := w.heap.size) (by omega) G1.out
  have hq2 := S2.heap (k := w.heap.size + 1) (by omega) G2.out
  have hb2 := Save.under (B := w.heap.size) BB.out S2 (by omega) BB.out.size
  clear G1 G2 BB GR S2
  obtain ⟨c0, c1, c2, c3⟩ := sb_cells hp2
  have f1 := sb_frozen hp2
  have G1 := sb_set1 hp2 (.int .i64 (t : Int))
  have G2 := heap_far hq2 (p := ⟨w.heap.size, 1, none⟩) (by show w.heap.size ≠ w.heap.size + 1; omega) (.int .i64 (t : Int))
  have GR := heap_far R2 (p := ⟨w.heap.size, 1, none⟩) (by show w.heap.size ≠ g; omega) (.int .i64 (t : Int))
  have BB := hb2.setCell (p := ⟨w.heap.size, 1, none⟩) (Nat.le_refl _) (.int .i64 (t : Int))
  go_wp2_with fail
  generalize v2.setCell ⟨w.heap.size, 1, none⟩ (.int .i64 (t : Int)) = W2 at G1 G2 GR BB ⊢
  have G1 : Hid (W2.heap[w.heap.size]? = some (.cells #[.int .i64 (i : Int), .int .i64 (t : Int), .slice none 0 0, .string { data := #[] }] 30)) := G1
  have G2 : Hid (W2.heap[w.heap.size + 1]? = some (.cells #[.bool false] 4)) := G2
  have GR : Hid (Rdr W2 g x a2) := GR
  have BB : Hid (Below w.heap.size w W2) := BB
  clear c0 c1 c2 c3 f1 hp2 hq2 hb2 R2
  have hgb := GR.out.lt
  have hCC := CC.out _ GR.out
  generalize W2.heap.size = bb at hgb hCC
  refine Calls.mono hCC ?_
  clear hCC
  rintro e v3 ⟨x3, rfl, O3, R3, S3⟩
  have hp3 := S3.heap (k := w.heap.size) (by omega) G1.out
  have hq3 := S3.heap (k := w.heap.size + 1) (by omega) G2.out
  have hb3 := Save.under (B := w.heap.size) BB.out S3 (by omega) BB.out.size
  clear G1 G2 BB GR S3
  obtain ⟨oa, on, oc, rfl⟩ := O3.slice3
  obtain ⟨c0, c1, c2, c3⟩ := sb_cells hp3
  have f1 := sb_frozen hp3
  have G1 := sb_set2 hp3 (.slice oa on oc)
  have G2 := heap_far hq3 (p := ⟨w.heap.size, 2, none⟩) (by show w.heap.size ≠ w.heap.size + 1; omega) (.slice oa on oc)
  have GR := heap_far R3 (p := ⟨w.heap.size, 2, none⟩) (by show w.heap.size ≠ g; omega) (.slice oa on oc)
  have BB := hb3.setCell (p := ⟨w.heap.size, 2, none⟩) (Nat.le_refl _) (.slice oa on oc)
  have OO : Hid (ownsR (v3.setCell ⟨w.heap.size, 2, none⟩ (.slice oa on oc)) bb 3 (.slice oa on oc) (confT c)) := ownsR.setBelow O3 (by show w.heap.size < _; omega) _
  go_wp2_with fail
  generalize v3.setCell ⟨w.heap.size, 2, none⟩ (.slice oa on oc) = W3 at G1 G2 GR BB OO ⊢
  have G1 : Hid (W3.heap[w.heap.size]? = some (.cells #[.int .i64 (i : Int), .int .i64 (t : Int), .slice oa on oc, .string { data := #[] }] 30)) := G1
  have G2 : Hid (W3.heap[w.heap.size + 1]? = some (.cells #[.bool false] 4)) := G2
  have GR : Hid (Rdr W3 g x (a3 + n)) := GR
  have BB : Hid (Below w.heap.size w W3) := BB
  clear c0 c1 c2 c3 f1 hp3 hq3 hb3 R3 O3
  refine Calls.mono (CD.out _ GR.out) ?_
  rintro e v4 ⟨rfl, R4, S4⟩
  have hp4 := S4.heap (k := w.heap.size) (by omega) G1.out
  have hq4 := S4.heap (k := w.heap.size + 1) (by omega) G2.out
  have hb4 := Save.under (B := w.heap.size) BB.out S4 (by omega) BB.out.size
  have OX4 := ownsR.saveB OO.out S4 hgb
  clear G1 G2 BB GR S4 OO
  obtain ⟨c0, c1, c2, c3⟩ := sb_cells hp4
  have f1 := sb_frozen hp4
  have G1 := sb_set3 hp4 (.string d)
  have G2 := heap_far hq4 (p := ⟨w.heap.size, 3, none⟩) (by show w.heap.size ≠ w.heap.size + 1; omega) (.string d)
  have GR := heap_far R4 (p := ⟨w.heap.size, 3, none⟩) (by show w.heap.size ≠ g; omega) (.string d)
  have BB := hb4.setCell (p := ⟨w.heap.size, 3, none⟩) (Nat.le_refl _) (.string d)
  have OO : Hid (ownsR (v4.setCell ⟨w.heap.size, 3, none⟩ (.string d)) bb 3 (.slice oa on oc) (confT c)) := ownsR.setBelow OX4 (by show w.heap.size < _; omega) _
  go_wp2_with fail
  generalize v4.setCell ⟨w.heap.size, 3, none⟩ (.string d) = W4 at G1 G2 GR BB OO ⊢
  have G1 : Hid (W4.heap[w.heap.size]? = some (.cells #[.int .i64 (i : Int), .int .i64 (t : Int), .slice oa on oc, .string d] 30)) := G1
  have G2 : Hid (W4.heap[w.heap.size + 1]? = some (.cells #[.bool false] 4)) := G2
  have GR : Hid (Rdr W4 g x (a5 + m)) := GR
  have BB : Hid (Below w.heap.size w W4) := BB
  clear c0 c1 c2 c3 f1 hp4 hq4 hb4 R4 OX4
  refine Calls.mono (end_yes g x _ (by have := GR.out; rwa [HE.out] at this)) ?_
  rintro e u ⟨rfl, hbu⟩
  have G1 := blk_up G1.out hbu
  have G2 := blk_up G2.out hbu
  have OO := OO.out.all hbu
  have BB := Below.on BB.out hbu
  clear GR hbu
  obtain ⟨c0, c1, c2, c3⟩ := sb_cells G1
  have f1 := sb_frozen G1
  have f2 := sb_frozen G2
  have c4 := one_cell G2
  go_wp2
  have hlt : w.heap.size < bb := by omega
  have hlt1 : w.heap.size + 1 < bb := by omega
  have F1 := heap_far (sb_set3 (sb_set2 (sb_set1 (sb_set0 G1 (.int .i64 (i : Int))) (.int .i64 (t : Int))) (.slice oa on oc)) (.string d)) (p := ⟨w.heap.size + 1, 0, none⟩) (by show w.heap.size + 1 ≠ w.heap.size; omega) (.bool true)
  have F2 := one_set (heap_far (heap_far (heap_far (heap_far G2 (p := ⟨w.heap.size, 0, none⟩) (by show w.heap.size ≠ w.heap.size + 1; omega) (.int .i64 (i : Int))) (p := ⟨w.heap.size, 1, none⟩) (by show w.heap.size ≠ w.heap.size + 1; omega) (.int .i64 (t : Int))) (p := ⟨w.heap.size, 2, none⟩) (by show w.heap.size ≠ w.heap.size + 1; omega) (.slice oa on oc)) (p := ⟨w.heap.size, 3, none⟩) (by show w.heap.size ≠ w.heap.size + 1; omega) (.string d)) (.bool true)
  have FO := ((((OO.setBelow (a := ⟨w.heap.size, 0, none⟩) hlt (.int .i64 (i : Int))).setBelow (a := ⟨w.heap.size, 1, none⟩) hlt (.int .i64 (t : Int))).setBelow (a := ⟨w.heap.size, 2, none⟩) hlt (.slice oa on oc)).setBelow (a := ⟨w.heap.size, 3, none⟩) hlt (.string d)).setBelow (a := ⟨w.heap.size + 1, 0, none⟩) hlt1 (.bool true)
  have FB := ((((BB.setCell (p := ⟨w.heap.size, 0, none⟩) (Nat.le_refl _) (.int .i64 (i : Int))).setCell (p := ⟨w.heap.size, 1, none⟩) (Nat.le_refl _) (.int .i64 (t : Int))).setCell (p := ⟨w.heap.size, 2, none⟩) (Nat.le_refl _) (.slice oa on oc)).setCell (p := ⟨w.heap.size, 3, none⟩) (Nat.le_refl _) (.string d)).setCell (p := ⟨w.heap.size + 1, 0, none⟩) (by show w.heap.size ≤ w.heap.size + 1; omega) (.bool true)
  exact door_done F1 F2 rfl rfl fun w' h => ⟨_, by rw [HZ.out]; rfl, by rw [HZ.out]; exact (FO.all h).mono (by omega), Below.on FB h⟩

end Go.Proofs.YtgpojfkdcdgloaaDoor

namespace Go.Proofs.YtgpojfkdcdgloaaDoor
open Go Go.RowKit

theorem readSnap_in (s : ByteArray) (w : World) (hs : s.size ≤ 1048576) (ht : TableIs w) : Calls Tryd.prog 51 #[.string s] w (RsP s w) := by
  obtain ⟨i, t, n, m, c, d, a1, a2, a3, a4, a5, a6, b1, b2, b3, b4, b5, b6, hst⟩ := steps_all (inS s).1 (inS s).2
  have e0 := rsP_steps hst
  by_cases hu : 4 ≤ s.size ∧ s.size ≤ 20004 ∧ lastT s = tail4 (headT s)
  · have ei := inS_yes hu.1 hu.2.1 hu.2.2
    rw [ei] at hst
    replace hst : Steps (headT s) false i t n m c d a1 a2 a3 a4 a5 a6 b1 b2 b3 b4 b5 b6 := hst
    have HU : Hid (∀ W, TableIs W → Calls Tryd.prog 81 #[.string s] W fun e w' => e = .returned (.tuple #[.string (headT s), .bool true]) ∧ Below W.heap.size W w') := fun W h => unsealed_yes s W hu.1 hu.2.1 hu.2.2 h
    by_cases hl : s.size ≤ 20000
    · have hx := headT_size s
      have hxs : (headT s).size ≤ 1048576 := by omega
      have hx2 : (headT s).size ≤ 20000 := by omega
      have hl' : (s.size : Int) ≤ 20000 := by omega
      cases b1 with
      | true =>
        have ez : rsP s = zeroS := by rw [e0, hst.up1 rfl]; exact rsF_bad
        have hr : (rv (headT s) (0 : Nat)).2.2 = false := varS_rv hst.s1
        rcases hv : rv (headT s) (0 : Nat) with ⟨y, z, q⟩
        rw [hv] at hr
        exact readSnap_f1 s _ y z q w ez HU ht hl' hxs hv (.inl hr)
      | false =>
        have h1 : rv (headT s) (0 : Nat) = ((i : Int), (a1 : Int), true) := (varS_ok hst.s1).2
        by_cases hi : (i : Int) ≤ 1000000
        · cases b2 with
          | true =>
            have ez : rsP s = zeroS := by rw [e0, hst.up2 rfl]; exact rsF_bad
            have hr : (rv (headT s) a1).2.2 = false := varS_rv hst.s2
            rcases hv : rv (headT s) a1 with ⟨y, z, q⟩
            rw [hv] at hr
            exact readSnap_f2 s _ i a1 y z q w ez HU ht hl' hxs h1 hi hv (.inl hr)
          | false =>
            have h2 : rv (headT s) a1 = ((t : Int), (a2 : Int), true) := (varS_ok hst.s2).2
            by_cases hti : (t : Int) ≤ 100000
            · cases b3 with
              | true =>
                have ez : rsP s = zeroS := by rw [e0, hst.up3 rfl]; exact rsF_bad
                have hr : (rv (headT s) a2).2.2 = false := varS_rv hst.s3
                rcases hv : rv (headT s) a2 with ⟨y, z, q⟩
                rw [hv] at hr
                exact readSnap_f3 s _ i t a1 a2 y z q w ez HU ht hl' hxs h1 hi h2 hti hv (.inl hr)
              | false =>
                have h3 : rv (headT s) a2 = ((n : Int), (a3 : Int), true) := (varS_ok hst.s3).2
                cases b4 with
                | true =>
                  have ez : rsP s = zeroS := by rw [e0, hst.up4 rfl]; exact rsF_bad
                  have hf := takeS_far hst.s4
                  exact readSnap_f3 s _ i t a1 a2 _ _ _ w ez HU ht hl' hxs h1 hi h2 hti h3 (.inr (.inr (by omega)))
                | false =>
                  obtain ⟨_, h4a, h4b, h4c⟩ := takeS_ok hst.s4
                  cases hk : okT c with
                  | false =>
                    have ez : rsP s = zeroS := by rw [e0]; exact rsF_conf hk
                    exact readSnap_f4 s _ i t n a1 a2 a3 w ez HU ht hl' hxs h1 hi h2 hti h3 (by omega) h4a (by rw [← h4b]; exact hk)
                  | true =>
                    cases b5 with
                    | true =>
                      have ez : rsP s = zeroS := by rw [e0, hst.up5 rfl]; exact rsF_bad
                      have hr : (rv (headT s) a4).2.2 = false := varS_rv hst.s5
                      rw [h4c] at hr
                      rcases hv : rv (headT s) (a3 + n : Nat) with ⟨y, z, q⟩
                      rw [hv] at hr
                      exact readSnap_f5 s _ i t n a1 a2 a3 c y z q w ez HU ht hl' hxs h1 hi h2 hti h3 (by omega) h4a h4b.symm hk hv (.inl hr)
                    | false =>
                      have h5 : rv (headT s) a4 = ((m : Int), (a5 : Int), true) := (varS_ok hst.s5).2
                      rw [h4c] at h5
                      cases b6 with
                      | true =>
                        have ez : rsP s = zeroS := by rw [e0]; exact rsF_bad
                        have hf := takeS_far hst.s6
                        exact readSnap_f5 s _ i t n a1 a2 a3 c _ _ _ w ez HU ht hl' hxs h1 hi h2 hti h3 (by omega) h4a h4b.symm hk h5 (.inr (.inr (by omega)))
                      | false =>
                        obtain ⟨_, h6a, h6b, h6c⟩ := takeS_ok hst.s6
                        by_cases he : a6 = (headT s).size
                        · have ey : rsP s = ⟨i, t, confT c, d, true⟩ := by rw [e0]; exact rsF_yes hst hu.1 hl hu.2.2 (by omega) (by omega) hk he
                          exact readSnap_all s _ i t n m a1 a2 a3 a5 c d w ey HU ht hl' hxs h1 hi h2 hti h3 (by omega) h4a h4b.symm hk h5 (by omega) h6a h6b.symm (by omega)
                        · have ez : rsP s = zeroS := by rw [e0]; exact rsF_behind hst hk he
                          exact readSnap_f6 s _ i t n m a1 a2 a3 a5 c d w ez HU ht hl' hxs h1 hi h2 hti h3 (by omega) h4a h4b.symm hk h5 (by omega) h6a h6b.symm (by omega)
            · have ez : rsP s = zeroS := by rw [e0]; exact rsF_term (by omega)
              exact readSnap_f2 s _ i a1 _ _ _ w ez HU ht hl' hxs h1 hi h2 (.inr (by omega))
        · have ez : rsP s = zeroS := by rw [e0]; exact rsF_index (by omega)
          exact readSnap_f1 s _ _ _ _ w ez HU ht hl' hxs h1 (.inr (by omega))
    · have ez : rsP s = zeroS := by rw [e0]; exact rsF_long (by omega)
      exact readSnap_long s _ w ez HU ht (by omega)
  · have ei := inS_no hu
    have ez : rsP s = zeroS := by rw [e0, hst.up0 (by rw [ei])]; exact rsF_bad
    refine readSnap_un s w ez (fun W h => ?_) ht
    by_cases h0 : s.size < 4
    · exact unsealed_short s W h0
    · by_cases h1 : 20004 < s.size
      · exact unsealed_long s W (by omega) h1
      · exact unsealed_no s W (by omega) (by omega) (fun e => hu ⟨by omega, by omega, e⟩) h

theorem ret_snap2 {fn : Func} {p q : Tmp} {w : World} {g : Nat} {a b c d y : Value} {tmps : Array Value} (h : fn.results = #[.cell p 30, .tmp q]) (hp : tmps.getD p undef = .pointer (some ⟨g, 0, none⟩)) (hq : tmps.getD q undef = y) (hb : w.heap[g]? = some (.cells #[a, b, c, d] 30)) :
    (results fn tmps).run Tryd.prog w = .ok (.tuple #[.agg #[a, b, c, d], y]) w := by
  have hp' : tmps[p]?.getD undef = .pointer (some ⟨g, 0, none⟩) := by simpa using hp
  have hq' : tmps[q]?.getD undef = y := by simpa using hq
  obtain ⟨h0, h1, h2, h3⟩ := sb_cells hb
  simp [results, h, hp', hq', h0, h1, h2, h3, asAddr, go_sem]
set_option maxRecDepth 10000 in
set_option maxHeartbeats 1000000 in
/-- The program's ReadSnap. -/
theorem readSnap_any (s : ByteArray) (w : World) (hs : s.size ≤ 1048576) (ht : TableIs w) : Calls Tryd.prog 17 #[.string s] w (RsP s w) := by
  have CR : Hid (∀ W, TableIs W → Calls Tryd.prog 51 #[.string s] W (RsP s W)) := fun W h => readSnap_in s W hs h
  have HT : Hid (TableIs w) := ht
  clear ht
  go_enter Tryd.func17, Tryd.ntmps17
  go_wp2_with fail
  refine Calls.mono (CR.out _ (HT.out.below (ba (Below.refl _ _) _))) ?_
  rintro e w1 ⟨v, rfl, ho, hb⟩
  have G1 := blk_on hb
  have BB := below_new hb
  obtain ⟨oa, on, oc, rfl⟩ := ho.slice3
  have HO : Hid (ownsR w1 (w.heap.size + 1) 3 (.slice oa on oc) (rsP s).l) := by have := ho; rwa [World.size_alloc] at this
  clear ho hb CR HT
  rcases hr : rsP s with ⟨ri, rt, rl, rb, rz⟩
  rw [hr] at HO
  have HO : Hid (ownsR w1 (w.heap.size + 1) 3 (.slice oa on oc) rl) := HO
  have HRS : Hid (rsP s = ⟨ri, rt, rl, rb, rz⟩) := hr
  clear hr
  unfold rsV
  dsimp only
  obtain ⟨c0, c1, c2, c3⟩ := sb_cells G1
  have f1 := sb_frozen G1
  go_wp2
  have F1 := sb_set3 (sb_set2 (sb_set1 (sb_set0 G1 (.int .i64 ri)) (.int .i64 rt)) (.slice oa on oc)) (.string rb)
  have hlt : w.heap.size < w.heap.size + 1 := by omega
  have FO := (((HO.out.setBelow (a := ⟨w.heap.size, 0, none⟩) hlt (.int .i64 ri)).setBelow (a := ⟨w.heap.size, 1, none⟩) hlt (.int .i64 rt)).setBelow (a := ⟨w.heap.size, 2, none⟩) hlt (.slice oa on oc)).setBelow (a := ⟨w.heap.size, 3, none⟩) hlt (.string rb)
  have FB := (((BB.setCell (p := ⟨w.heap.size, 0, none⟩) (Nat.le_refl _) (.int .i64 ri)).setCell (p := ⟨w.heap.size, 1, none⟩) (Nat.le_refl _) (.int .i64 rt)).setCell (p := ⟨w.heap.size, 2, none⟩) (Nat.le_refl _) (.slice oa on oc)).setCell (p := ⟨w.heap.size, 3, none⟩) (Nat.le_refl _) (.string rb)
  exact bodyPost_ret (ret_snap2 rfl rfl rfl F1) rfl ⟨_, by rw [HRS.out]; rfl, by rw [HRS.out]; exact FO.mono (by omega), FB⟩
end Go.Proofs.YtgpojfkdcdgloaaDoor
