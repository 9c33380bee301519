/-
  All records of a file, as the program reads them, by a function that is handed a yield: the walks.
-/
import Derived.Test.YtijmaplejpnggaaDoorUs
import Derived.RangeFuncNested
import Derived.RangeFuncBound
import Derived.RangeFuncCalls
import Derived.RangeFuncLeaves
import Derived.RangeFuncBox
import Derived.Shelf.Abstract
import Derived.Shelf.RegionOpen
import Derived.WalkKit
import Derived.OwnWalkIn
import Derived.TacticsInMore
import Derived.LoopNIn
import Derived.LoopIn
import Derived.Maps.AppendAt
import Derived.Maps.OwnIn
namespace Go.Proofs.YtijmaplejpnggaaDoor
open Go.RowKit Go.Shelf
attribute [local go_sem] Oper.semAt_some

/-- What a round that goes on keeps: all that lay below, and the box of the file. -/
def KpF (n₀ Bn : Nat) (A B : World) : Prop := Below n₀ A B ∧ B.cell? ⟨Bn, 0, none⟩ = A.cell? ⟨Bn, 0, none⟩

/-- A record and the place behind its frame, as they come of a file that is not too long. -/
abbrev Fx := { x : ByteArray × Nat // x.1.size ≤ 20000 ∧ 1 ≤ x.2 ∧ x.2 ≤ 20000 }
def encF (x : Fx) : Array Value := #[Value.string x.1.1, Value.int .i64 x.1.2]
def valsF (l : List Fx) : List (ByteArray × Nat) := l.map Subtype.val
theorem valsF_snoc (l : List Fx) (x : Fx) : valsF (l ++ [x]) = valsF l ++ [x.1] := by simp [valsF]
theorem valsF_len (l : List Fx) : (valsF l).length = l.length := by simp [valsF]
/-- The frames of a file: none of one that is too long. -/
def frq (s : ByteArray) : List (ByteArray × Nat) := if s.size ≤ 20000 then frs s 0 else []
theorem frq_in {s : ByteArray} (h : s.size ≤ 20000) : frq s = frs s 0 := by simp [frq, h]
theorem frq_long {s : ByteArray} (h : 20000 < s.size) : frq s = [] := by unfold frq; rw [if_neg (by omega)]
theorem rdF_sz {s : ByteArray} {a e : Nat} {t : ByteArray} (h : rdF s a = some (t, e)) : t.size ≤ s.size := by
  unfold rdF at h
  split at h
  · split at h
    · simp only [Option.some.injEq, Prod.mk.injEq] at h
      rw [← h.1, ByteArray.size_extract]; omega
    · simp at h
  · simp at h
/-- What is read at a place, with its bounds. -/
def fxOf {s : ByteArray} {a e : Nat} {t : ByteArray} (hs : s.size ≤ 20000) (ha : a ≤ s.size) (h : rdF s a = some (t, e)) : Fx :=
  ⟨(t, e), by have := rdF_sz h; have := rdF_bd ha h; simp only; omega⟩

theorem readFrame_none (s : ByteArray) (a : Nat) (w : World) (ht : TableIs w) (ha : a ≤ s.size) (hs : s.size ≤ 20000) (hr : rdF s a = none) :
    Calls Tryd.prog 55 #[.string s, .int .i64 a] w fun e w' => e = .returned (.tuple #[.string ByteArray.empty, .int .i64 0, .bool false]) ∧ Below w.heap.size w w' := readFrame_any s a w ht ha hs none hr
theorem readFrame_some (s : ByteArray) (a : Nat) (w : World) (ht : TableIs w) (ha : a ≤ s.size) (hs : s.size ≤ 20000) (t : ByteArray) (b : Nat) (hr : rdF s a = some (t, b)) :
    Calls Tryd.prog 55 #[.string s, .int .i64 a] w fun e w' => e = .returned (.tuple #[.string t, .int .i64 b, .bool true]) ∧ Below w.heap.size w w' := readFrame_any s a w ht ha hs _ hr
theorem grown_of {A B : World} (h : Below A.heap.size A B) : A.grownBy B none := ⟨h.os, h.tape, h.output, h.size, fun k hk _ => h.block k hk⟩

set_option maxRecDepth 100000 in
set_option maxHeartbeats 1000000 in
theorem frames1_long (n : Nat) (l Bn : Nat) (s : ByteArray) (hs0 : s.size ≤ 1048576) (hs : 20000 < s.size) (J Jx : List Fx → World → Prop)
    (W : World) (hBn : W.cell? ⟨Bn, 0, none⟩ = some (.string s)) (h0 : J [] W) :
    CallsIn Fence.wide n Tryd.prog 54 #[.func (.yield l) #[] #[], .pointer (some ⟨Bn, 0, none⟩)] W fun e W' => (∃ v, e = .returned v) ∧
      ((∃ ys, valsF ys = frq s ∧ J ys W') ∨ (∃ pre, valsF pre <+: frq s ∧ Jx pre W')) := by
  have HQ : Hid (frq s = []) := frq_long hs
  have hs2 : (20000 : Int) < (s.size : Int) := by omega
  refine callsIn_of_wp Tryd.func54 rfl trivial ?_ rfl
  simp only [Tryd.ntmps54, List.size_toArray, List.length_cons, List.length_nil, Nat.reduceAdd, Nat.reduceSub, Array.replicate_succ, Array.replicate_zero, List.push_toArray, List.append_toArray, List.nil_append, List.cons_append]
  gi_wp2
  refine bodyPost_ret (results_none rfl _ _ _) rfl ?_
  exact ⟨⟨_, rfl⟩, .inl ⟨[], HQ.out.symm, h0⟩⟩

set_option maxRecDepth 100000 in
set_option maxHeartbeats 1000000 in
theorem frames1_in (n : Nat) (hn : 1 ≤ n) (l Bn : Nat) (s : ByteArray) (hs : s.size ≤ 20000) (w0 : World) (ht : TableIs w0) (J Jx : List Fx → World → Prop)
    (hJ0 : ∀ pre A B, J pre A → A.grownBy B none → J pre B)
    (hY : ∀ pre (x : Fx) W, J pre W → pre.length < 20001 → YieldAt Fence.wide (n - 1) Tryd.prog l #[Value.string x.1.1, Value.int .i64 (x.1.2 : Nat)] W fun e W' =>
      (e = .returned (.bool true) ∧ J (pre ++ [x]) W' ∧ KpF w0.heap.size Bn W W') ∨ (e = .returned (.bool false) ∧ Jx (pre ++ [x]) W'))
    (W : World) (hBn : W.cell? ⟨Bn, 0, none⟩ = some (.string s)) (hW : Below w0.heap.size w0 W) (h0 : J [] W) :
    CallsIn Fence.wide n Tryd.prog 54 #[.func (.yield l) #[] #[], .pointer (some ⟨Bn, 0, none⟩)] W fun e W' => (∃ v, e = .returned v) ∧
      ((∃ ys, valsF ys = frq s ∧ J ys W') ∨ (∃ pre, valsF pre <+: frq s ∧ Jx pre W')) := by
  rw [frq_in hs]
  have hs2 : ¬ (20000 : Int) < (s.size : Int) := by omega
  refine callsIn_of_wp Tryd.func54 rfl trivial ?_ rfl
  simp only [Tryd.ntmps54, List.size_toArray, List.length_cons, List.length_nil, Nat.reduceAdd, Nat.reduceSub, Array.replicate_succ, Array.replicate_zero, List.push_toArray, List.append_toArray, List.nil_append, List.cons_append]
  gi_wp2
  gi_loopw [3] (fun p wr => ∃ (pre : List Fx) (a : Nat), p = .int .i64 a ∧ a ≤ s.size ∧ Hid (At s (valsF pre) a) ∧ wr.cell? ⟨Bn, 0, none⟩ = some (.string s) ∧ Below w0.heap.size w0 wr ∧ J pre wr)
    (fun p _ => s.size - (intOf p).toNat)
  case atStart =>
    exact ⟨[], 0, rfl, Nat.zero_le _, At.start s, hBn, hW, h0⟩
  case round =>
    obtain ⟨pre, a, rfl, ha, HA, hc, hb, hJs⟩ := hrel
    have htr := ht.below hb
    have hpl : pre.length < 20001 := by have := HA.out.len; rw [valsF_len] at this; omega
    cases hr : rdF s a with
    | none =>
      have HR : Hid (rdF s a = none) := hr
      clear hr
      gi_wp2_with (refine ⟨trivial, ?_⟩; gi_at_call 55; refine (callsIn_wide.2 (readFrame_none s a _ htr ha hs HR.out)).mono ?_; rintro e w1 ⟨rfl, hb1⟩)
      refine ⟨fun _ h => (by cases h), ?_⟩
      gi_wp2
      refine bodyPost_ret (results_none rfl _ _ _) rfl ?_
      exact ⟨⟨_, rfl⟩, .inl ⟨pre, (HA.out.stop HR.out).1.symm, hJ0 _ _ _ hJs (grown_of hb1)⟩⟩
    | some x =>
      obtain ⟨t, e⟩ := x
      have HR : Hid (rdF s a = some (t, e)) := hr
      clear hr
      have hbd := rdF_bd ha HR.out
      obtain ⟨fx, HX⟩ : ∃ fx : Fx, Hid (fx.1 = (t, e)) := ⟨fxOf hs ha HR.out, rfl⟩
      have HP : Hid (valsF (pre ++ [fx]) <+: frs s 0) := by
        show _ <+: _
        rw [valsF_snoc, HX.out, (HA.out.next HR.out).all]; exact List.prefix_append _ _
      have HA2 : Hid (At s (valsF (pre ++ [fx])) e) := by
        show At s _ e
        rw [valsF_snoc, HX.out]; exact HA.out.next HR.out
      have HY2 : Hid (∀ W, J pre W → YieldAt Fence.wide (n - 1) Tryd.prog l #[Value.string t, Value.int .i64 (e : Nat)] W fun e W' =>
          (e = .returned (.bool true) ∧ J (pre ++ [fx]) W' ∧ KpF w0.heap.size Bn W W') ∨ (e = .returned (.bool false) ∧ Jx (pre ++ [fx]) W')) := fun W h => by
        have := hY pre fx W h hpl
        rw [HX.out] at this
        exact this
      gi_wp2_with (refine ⟨trivial, ?_⟩; gi_at_call 55; refine (callsIn_wide.2 (readFrame_some s a _ htr ha hs t e HR.out)).mono ?_; rintro e w1 ⟨rfl, hb1⟩; obtain ⟨fn, tmps, assign, body, hy, hR⟩ := HY2.out w1 (hJ0 _ _ _ hJs (grown_of hb1)))
      refine hR.mono ?_
      rintro e W3 (⟨rfl, hJ3, hk3⟩ | ⟨rfl, hJx3⟩)
      · have hc3 : W3.cell? ⟨Bn, 0, none⟩ = some (.string s) := hk3.2.trans ((hb1.cell (World.block_lt_of_cell? _ _ hc)).trans hc)
        gi_wp2
        go_roundw
        case rel => exact ⟨pre ++ [fx], e, rfl, hbd.2, HA2, hc3, (hb.trans (hb1.mono hb.size)).trans hk3.1, hJ3⟩
        case measure => simp [intOf]; omega
      · gi_wp2
        refine bodyPost_ret (results_none rfl _ _ _) rfl ?_
        exact ⟨⟨_, rfl⟩, .inr ⟨_, HP.out, hJx3⟩⟩

theorem frames_stops (n : Nat) (hn : 1 ≤ n) (Bn : Nat) (s : ByteArray) (hs : s.size ≤ 1048576) (w0 w : World) (ht : TableIs w0) (hBn : Bn < w.heap.size) (hc : w.cell? ⟨Bn, 0, none⟩ = some (.string s)) (hb : Below w0.heap.size w0 w) :
    SeqStopsK Fence.wide n Tryd.prog 54 #[.pointer (some ⟨Bn, 0, none⟩)] encF (KpF w0.heap.size Bn) (fun ys => valsF ys = frq s) (fun pre => valsF pre <+: frq s) 20001 w := fun l J Jx W hW hJ _ hY h0 => by
  have hc2 := (hW.cell (p := ⟨Bn, 0, none⟩) hBn).trans hc
  by_cases h : s.size ≤ 20000
  · exact frames1_in n hn l Bn s h w0 ht J Jx (fun pre A B hj hg => hJ pre A B none hj hg (fun r e => by cases e)) hY W hc2 (hb.trans (hW.mono hb.size)) h0
  · exact frames1_long n l Bn s hs (by omega) J Jx W hc2 h0

set_option maxHeartbeats 1000000 in
theorem framesOf_in (n : Nat) (s : ByteArray) (w : World) :
    CallsIn Fence.wide n Tryd.prog 36 #[.string s] w fun e w' => e = .returned (.func (.func 54) #[] #[.pointer (some ⟨w.heap.size, 0, none⟩)]) ∧ w' = w.alloc (.cells #[.string s] 9) := by
  refine callsIn_of_wp Tryd.func36 rfl trivial ?_ rfl
  simp only [Tryd.ntmps36, List.size_toArray, List.length_cons, List.length_nil, Nat.reduceAdd, Nat.reduceSub, Array.replicate_succ, Array.replicate_zero, List.push_toArray, List.append_toArray, List.nil_append, List.cons_append]
  gi_wp2
  go_ret
  exact ⟨rfl, rfl⟩

theorem kpF_t {n₀ Bn : Nat} {A B C : World} (h : KpF n₀ Bn A B) (k : KpF n₀ Bn B C) : KpF n₀ Bn A C := ⟨h.1.trans k.1, k.2.trans h.2⟩
theorem kpF_b {n₀ Bn : Nat} {w : World} (hn : n₀ ≤ w.heap.size) (hB : Bn < w.heap.size) (W : World) (l : Nat) (o o' : Obj) (hl : w.heap.size ≤ l) (h : W.heap[l]? = some o) (h1 : o.isCells = false) (h2 : o.isWalk = false) : KpF n₀ Bn W (W.putObj l o') :=
  ⟨belowK_b hn W l o o' hl h h1 h2, (belowK_b (n₀ := Bn + 1) (w := w) hB W l o o' hl h h1 h2).cell (p := ⟨Bn, 0, none⟩) (Nat.lt_succ_self _)⟩

/-- The post of a region that does not leave by itself. -/
def calmQ (Q : Exit → Act → World → Prop) : Exit → Act → World → Prop
  | .normal, a, w => Q .normal a w
  | _, _, _ => False
theorem wpIn_calm {F : Fence} {n : Nat} {P : Program} {c : Code} {Q : Exit → Act → World → Prop} {a : Act} {w : World} (h : c.wpIn F n P (calmQ Q) a w) : c.wpIn F n P Q a w :=
  Go.wpIn_mono h (fun e a w q => by cases e <;> first | exact q | exact q.elim)

end Go.Proofs.YtijmaplejpnggaaDoor
