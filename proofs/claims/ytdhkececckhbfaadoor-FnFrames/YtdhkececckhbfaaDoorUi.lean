/-
  All records of a file, as the program reads them, by a function that is handed a yield: the walks.
-/
import Derived.Test.YtdhkececckhbfaaDoorUs
import Derived.RangeFuncNested
import Derived.RangeFuncBound
import Derived.RangeFuncCalls
import Derived.RangeFuncLeaves
import Derived.RangeFuncBox
import Derived.Shelf.Abstract
import Derived.Shelf.RegionOpen
import Derived.WalkKit
import Derived.OwnWalkIn
import Derived.TacticsInMore
import Derived.LoopNIn
import Derived.LoopIn
import Derived.Maps.AppendAt
import Derived.Maps.OwnIn
namespace Go.Proofs.YtdhkececckhbfaaDoor
open Go.RowKit Go.Shelf
attribute [local go_sem] Oper.semAt_some

/-- What a round that goes on keeps: all that lay below, and the box of the file. -/
def KpF (n₀ Bn : Nat) (A B : World) : Prop := Below n₀ A B ∧ B.cell? ⟨Bn, 0, none⟩ = A.cell? ⟨Bn, 0, none⟩

def encF (x : ByteArray × Nat) : Array Value := #[Value.string x.1, Value.int .i64 x.2]

theorem readFrame_none (s : ByteArray) (a : Nat) (w : World) (ht : TableIs w) (ha : a ≤ s.size) (hs : s.size ≤ 20000) (hr : rdF s a = none) :
    Calls Tryd.prog 35 #[.string s, .int .i64 a] w fun e w' => e = .returned (.tuple #[.string ByteArray.empty, .int .i64 0, .bool false]) ∧ Below w.heap.size w w' := readFrame_any s a w ht ha hs none hr
theorem readFrame_some (s : ByteArray) (a : Nat) (w : World) (ht : TableIs w) (ha : a ≤ s.size) (hs : s.size ≤ 20000) (t : ByteArray) (b : Nat) (hr : rdF s a = some (t, b)) :
    Calls Tryd.prog 35 #[.string s, .int .i64 a] w fun e w' => e = .returned (.tuple #[.string t, .int .i64 b, .bool true]) ∧ Below w.heap.size w w' := readFrame_any s a w ht ha hs _ hr
theorem grown_of {A B : World} (h : Below A.heap.size A B) : A.grownBy B none := ⟨h.os, h.tape, h.output, h.size, fun k hk _ => h.block k hk⟩

set_option maxRecDepth 100000 in
set_option maxHeartbeats 1000000 in
theorem frames1_in (n : Nat) (hn : 1 ≤ n) (l Bn : Nat) (s : ByteArray) (hs : s.size ≤ 20000) (w0 : World) (ht : TableIs w0) (J Jx : List (ByteArray × Nat) → World → Prop)
    (hJ0 : ∀ pre A B, J pre A → A.grownBy B none → J pre B)
    (hY : ∀ pre x W, J pre W → pre.length < 20001 → YieldAt Fence.wide (n - 1) Tryd.prog l #[Value.string x.1, Value.int .i64 (x.2 : Nat)] W fun e W' =>
      (e = .returned (.bool true) ∧ J (pre ++ [x]) W' ∧ KpF w0.heap.size Bn W W') ∨ (e = .returned (.bool false) ∧ Jx (pre ++ [x]) W'))
    (W : World) (hBn : W.cell? ⟨Bn, 0, none⟩ = some (.string s)) (hW : Below w0.heap.size w0 W) (h0 : J [] W) :
    CallsIn Fence.wide n Tryd.prog 34 #[.func (.yield l) #[] #[], .pointer (some ⟨Bn, 0, none⟩)] W fun e W' => (∃ v, e = .returned v) ∧
      ((∃ ys, ys = frs s 0 ∧ J ys W') ∨ (∃ pre, pre <+: frs s 0 ∧ Jx pre W')) := by
  refine callsIn_of_wp Tryd.func34 rfl trivial ?_ rfl
  simp only [Tryd.ntmps34, List.size_toArray, List.length_cons, List.length_nil, Nat.reduceAdd, Nat.reduceSub, Array.replicate_succ, Array.replicate_zero, List.push_toArray, List.append_toArray, List.nil_append, List.cons_append]
  gi_wp2
  gi_loopw [3] (fun p wr => ∃ (pre : List (ByteArray × Nat)) (a : Nat), p = .int .i64 a ∧ a ≤ s.size ∧ Hid (At s pre a) ∧ wr.cell? ⟨Bn, 0, none⟩ = some (.string s) ∧ Below w0.heap.size w0 wr ∧ J pre wr)
    (fun p _ => s.size - (intOf p).toNat)
  case atStart =>
    exact ⟨[], 0, rfl, Nat.zero_le _, At.start s, hBn, hW, h0⟩
  case round =>
    obtain ⟨pre, a, rfl, ha, HA, hc, hb, hJs⟩ := hrel
    have htr := ht.below hb
    have hpl : pre.length < 20001 := by have := HA.out.len; omega
    cases hr : rdF s a with
    | none =>
      have HR : Hid (rdF s a = none) := hr
      clear hr
      gi_wp2_with (refine ⟨trivial, ?_⟩; gi_at_call 35; refine (callsIn_wide.2 (readFrame_none s a _ htr ha hs HR.out)).mono ?_; rintro e w1 ⟨rfl, hb1⟩)
      refine ⟨fun _ h => (by cases h), ?_⟩
      gi_wp2
      refine bodyPost_ret (results_none rfl _ _ _) rfl ?_
      exact ⟨⟨_, rfl⟩, .inl ⟨pre, (HA.out.stop HR.out).1.symm, hJ0 _ _ _ hJs (grown_of hb1)⟩⟩
    | some x =>
      obtain ⟨t, e⟩ := x
      have HR : Hid (rdF s a = some (t, e)) := hr
      clear hr
      have hbd := rdF_bd ha HR.out
      have HP : Hid (pre ++ [(t, e)] <+: frs s 0) := by
        show _ <+: _
        rw [(HA.out.next HR.out).all]; exact List.prefix_append _ _
      gi_wp2_with (refine ⟨trivial, ?_⟩; gi_at_call 35; refine (callsIn_wide.2 (readFrame_some s a _ htr ha hs t e HR.out)).mono ?_; rintro e w1 ⟨rfl, hb1⟩; obtain ⟨fn, tmps, assign, body, hy, hR⟩ := hY pre (t, e) w1 (hJ0 _ _ _ hJs (grown_of hb1)) hpl; dsimp only at hy)
      refine hR.mono ?_
      rintro e W3 (⟨rfl, hJ3, hk3⟩ | ⟨rfl, hJx3⟩)
      · have hc3 : W3.cell? ⟨Bn, 0, none⟩ = some (.string s) := hk3.2.trans ((hb1.cell (World.block_lt_of_cell? _ _ hc)).trans hc)
        gi_wp2
        go_roundw
        case rel => exact ⟨pre ++ [(t, e)], e, rfl, hbd.2, HA.out.next HR.out, hc3, (hb.trans (hb1.mono hb.size)).trans hk3.1, hJ3⟩
        case measure => simp [intOf]; omega
      · gi_wp2
        refine bodyPost_ret (results_none rfl _ _ _) rfl ?_
        exact ⟨⟨_, rfl⟩, .inr ⟨_, HP.out, hJx3⟩⟩

end Go.Proofs.YtdhkececckhbfaaDoor
