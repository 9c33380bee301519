/-
  The places of all that runs, by a function that is handed a yield: the walks.
-/
import Derived.Test.YtjmclcjhimcehaaAcs15
import Derived.Test.YtjmclcjhimcehaaTof
import Derived.RangeFuncNested
import Derived.RangeFuncBound
import Derived.RangeFuncCalls
import Derived.RangeFuncLeaves
import Derived.RangeFuncBox
import Derived.Shelf.Abstract
import Derived.Shelf.RegionOpen
import Derived.WalkKit
import Derived.OwnWalkIn
import Derived.TacticsInMore
import Derived.LoopNIn
import Derived.LoopIn
import Derived.Maps.OwnIn
namespace Go.Proofs.Ytjmclcjhimcehaa
open Go Go.RowKit Go.Shelf
attribute [local go_sem] Oper.semAt_some
set_option linter.unusedVariables false

/-- What a round that goes on keeps: all that lay below, and whatever is cells. -/
def KpR (n₀ : Nat) (A B : World) : Prop := Below n₀ A B ∧ ∀ (k : Nat) (o : Obj), A.heap[k]? = some o → o.isCells = true → B.heap[k]? = some o
theorem kpR_t {n₀ : Nat} {A B C : World} (h : KpR n₀ A B) (k : KpR n₀ B C) : KpR n₀ A C := ⟨h.1.trans k.1, fun j o h1 h2 => k.2 j o (h.2 j o h1 h2) h2⟩
theorem kpR_b {n₀ : Nat} {w : World} (hn : n₀ ≤ w.heap.size) (W : World) (l : Nat) (o o' : Obj) (hl : w.heap.size ≤ l) (h : W.heap[l]? = some o) (h1 : o.isCells = false) (h2 : o.isWalk = false) : KpR n₀ W (W.putObj l o') :=
  ⟨belowK_b hn W l o o' hl h h1 h2, fun j p hp hc => by
    by_cases e : j = l
    · subst e; rw [h] at hp; injection hp with hp; subst hp; rw [h1] at hc; cases hc
    · exact (World.putObj_heap_other (by omega)).trans hp⟩
theorem kpR_of {n₀ : Nat} {A B : World} (hn : n₀ ≤ A.heap.size) (h : Below A.heap.size A B) : KpR n₀ A B := ⟨h.mono hn, fun k o hk _ => (h.block k (Array.getElem?_eq_some_iff.1 hk).1).trans hk⟩
theorem R5.kp {n₀ : Nat} {A B : World} {g : Nat} {nm : ByteArray} {fr up ep : Int} {tv : Value} (h : R5 A g nm fr up ep tv) (k : KpR n₀ A B) : R5 B g nm fr up ep tv := k.2 _ _ h rfl
theorem B5.kp {n₀ : Nat} {A B : World} {t : TypeId} {g : Nat} {x0 x1 x2 x3 x4 : Value} (h : B5 t A g x0 x1 x2 x3 x4) (k : KpR n₀ A B) : B5 t B g x0 x1 x2 x3 x4 := k.2 _ _ h rfl

/-- A run's place and a task's in it. -/
abbrev Px (rn : Nat) := { x : Nat × Nat // x.1 < rn ∧ x.2 ≤ 1048576 }
def encP {rn : Nat} (x : Px rn) : Array Value := #[Value.int .i64 x.1.1, Value.int .i64 x.1.2]
def valsP {rn : Nat} (l : List (Px rn)) : List (Nat × Nat) := l.map Subtype.val
theorem valsP_snoc {rn : Nat} (l : List (Px rn)) (x : Px rn) : valsP (l ++ [x]) = valsP l ++ [x.1] := by simp [valsP]
theorem valsP_len {rn : Nat} (l : List (Px rn)) : (valsP l).length = l.length := by simp [valsP]
theorem grown_of {A B : World} (h : Below A.heap.size A B) : A.grownBy B none := ⟨h.os, h.tape, h.output, h.size, fun k hk _ => h.block k hk⟩

set_option maxRecDepth 100000 in
set_option maxHeartbeats 4000000 in
theorem running1_in (n : Nat) (hn : 1 ≤ n) (l Bn : Nat) (sv pv : Value) (ro : Option Addr) (rn rc : Nat) (ck tk : Value) (rs : List Rr) (w0 : World) (hr : DRow OneRk w0 (.slice ro rn rc) rs) (hrn : rn ≤ 1048577) (hz : ∀ r ∈ rs, r.st.length ≤ 1048576) (J Jx : List (Px rn) → World → Prop)
    (hJ0 : ∀ pre A B, J pre A → A.grownBy B none → J pre B)
    (hY : ∀ pre (x : Px rn) W, J pre W → pre.length < 1099513724929 → YieldAt Fence.wide (n - 1) Try.prog l #[Value.int .i64 (x.1.1 : Nat), Value.int .i64 (x.1.2 : Nat)] W fun e W' =>
      (e = .returned (.bool true) ∧ J (pre ++ [x]) W' ∧ KpR w0.heap.size W W') ∨ (e = .returned (.bool false) ∧ Jx (pre ++ [x]) W'))
    (W : World) (hB : B5 26 W Bn sv pv (.slice ro rn rc) ck tk) (hW : Below w0.heap.size w0 W) (h0 : J [] W) :
    CallsIn Fence.wide n Try.prog 70 #[.func (.yield l) #[] #[], .pointer (some ⟨Bn, 0, none⟩)] W fun e W' => (∃ v, e = .returned v) ∧
      ((∃ ys, valsP ys = rp rs ∧ J ys W') ∨ (∃ pre, Jx pre W')) := by
  have HN : Hid (rs.length = rn) := hr.len
  have HR : Hid (∀ W, Below w0.heap.size w0 W → DRow OneRk W (.slice ro rn rc) rs) := fun W hb => hr.below oneRk_below hb
  have HLE : Hid (∀ k j, (rpTo rs k j).length ≤ k * 1048576 + j) := fun k j => rpTo_len (stAt_le hz) k j
  have HZ : Hid (∀ r ∈ rs, r.st.length ≤ 1048576) := hz
  have HB := hB
  have kb := hB.c2
  clear hr hz
  refine callsIn_of_wp Try.func70 rfl trivial ?_ rfl
  simp only [Try.ntmps70, List.size_toArray, List.length_cons, List.length_nil, Nat.reduceAdd, Nat.reduceSub, Array.replicate_succ, Array.replicate_zero, List.push_toArray, List.append_toArray, List.nil_append, List.cons_append]
  gi_wp2
  gi_loopw [9] (fun kv wr => ∃ (pre : List (Px rn)) (k : Nat), k ≤ rn ∧ kv = .int .i64 k ∧ Hid (valsP pre = rpTo rs k 0) ∧ Below w0.heap.size w0 wr ∧ J pre wr) (fun kv _ => rn - (intOf kv).toNat)
  case atStart => exact ⟨[], 0, Nat.zero_le _, rfl, (by rw [rpTo_zero]; rfl), hW, h0⟩
  case round =>
    obtain ⟨pre, k, hk, rfl, HP, hbel, hJs⟩ := hrel
    by_cases hlt : k < rn
    · obtain ⟨x, ht⟩ : ∃ x, rs[k]? = some x := ⟨_, List.getElem?_eq_getElem (by rw [HN.out]; exact hlt)⟩
      have HT : Hid (rs[k]? = some x) := ht
      obtain ⟨m, HM⟩ : ∃ m, Hid (x.st.length = m) := ⟨_, rfl⟩
      have hm : m ≤ 1048576 := by rw [← HM.out]; exact HZ.out x (List.mem_of_getElem? ht)
      obtain ⟨b', o, av, e', hb, c0, c1, c2, c3, c4, hav⟩ := rk_at (C := 0) (HR.out w0 (Below.refl _ _)) HT.out
      subst e'
      obtain ⟨fo, fc, ev⟩ := reads_slice hav
      subst ev
      rw [HM.out] at hav c4
      have HAV : Hid (∀ V, Below w0.heap.size w0 V → Reads V (.slice fo m fc) x.st) := fun V hV => hav.below hV
      replace c0 := (hbel.cell (p := ⟨b', o + k * 5, none⟩) hb).trans c0
      replace c1 := (hbel.cell (p := ⟨b', o + k * 5 + 1, none⟩) hb).trans c1
      replace c2 := (hbel.cell (p := ⟨b', o + k * 5 + 2, none⟩) hb).trans c2
      replace c3 := (hbel.cell (p := ⟨b', o + k * 5 + 3, none⟩) hb).trans c3
      replace c4 := (hbel.cell (p := ⟨b', o + k * 5 + 4, none⟩) hb).trans c4
      clear ht hav
      gi_wp2
      obtain ⟨W1, hW1⟩ : ∃ W1, wr.alloc (.cells #[.string x.nm, .int .i64 x.fr, .int .i64 x.up, .int .i64 x.ep, .slice fo m fc] 65) = W1 := ⟨_, rfl⟩
      obtain ⟨rb, hrb⟩ : ∃ rb, wr.heap.size = rb := ⟨_, rfl⟩
      have X1 : R5 W1 rb x.nm x.fr x.up x.ep (.slice fo m fc) := by rw [← hW1, ← hrb]; exact R5.new _ _ _ _ _ _
      have hbw : Below wr.heap.size wr W1 := by rw [← hW1]; exact ba (Below.refl _ _) _
      have HJ1 : Hid (J pre W1) := hJ0 _ _ _ hJs (grown_of hbw)
      have hb1 : Below w0.heap.size w0 W1 := hbel.trans (hbw.mono hbel.size)
      simp only [hW1, hrb]
      clear hJs hbw hbel c0 c1 c2 c3 c4 hb hW1 hrb
      gi_loopw [17] (fun jv wx => ∃ (pr : List (Px rn)) (j : Nat), j ≤ m ∧ jv = .int .i64 j ∧ Hid (valsP pr = rpTo rs k j) ∧ R5 wx rb x.nm x.fr x.up x.ep (.slice fo m fc) ∧ Below w0.heap.size w0 wx ∧ Hid (J pr wx)) (fun jv _ => m - (intOf jv).toNat)
      case atStart => exact ⟨pre, 0, Nat.zero_le _, rfl, HP, X1, hb1, HJ1⟩
      case round =>
        clear X1 hb1 HJ1 HP
        obtain ⟨pr, j, hj, rfl, HP, X, hbel, HJ⟩ := hrel
        have r0 := X.c0
        have r1 := X.c1
        have r2 := X.c2
        have r3 := X.c3
        have r4 := X.c4
        by_cases hlj : j < m
        · have HC : Hid (∀ z, isN (stAt rs k) (j : Int) 1 = z → CallsIn Fence.wide (n - 1) Try.prog 71 #[.agg #[.string x.nm, .int .i64 x.fr, .int .i64 x.up, .int .i64 x.ep, .slice fo m fc], .int .i64 j] wr fun e w' => e = .returned (.bool z) ∧ Below wr.heap.size wr w') := fun z hz => callsIn_wide.2 (by
            have h := isRunning_any fo m fc x.nm x.fr x.up x.ep x.st j wr (HAV.out wr hbel) (by omega)
            rw [stAt_at HT.out] at hz
            rw [hz] at h
            exact h)
          cases hz : isN (stAt rs k) (j : Int) 1 with
          | false =>
            have HP2 : Hid (valsP pr = rpTo rs k (j + 1)) := by show _ = _; rw [rpTo_off hz]; exact HP.out
            have HC2 := HC.out false hz
            have HC3 : Hid (CallsIn Fence.wide (n - 1) Try.prog 71 #[.agg #[.string x.nm, .int .i64 x.fr, .int .i64 x.up, .int .i64 x.ep, .slice fo m fc], .int .i64 j] wr fun e w' => e = .returned (.bool false) ∧ Below wr.heap.size wr w') := HC2
            clear HC HC2 hz
            gi_wp2_with (refine ⟨trivial, ?_⟩; gi_at_call 71; refine HC3.out.mono ?_; rintro e w1 ⟨rfl, hb1⟩)
            refine ⟨fun _ h => (by cases h), ?_⟩
            have X2 := X.on hb1
            have hb2 : Below w0.heap.size w0 w1 := hbel.trans (hb1.mono hbel.size)
            have HJ2 : Hid (J pr w1) := hJ0 _ _ _ HJ.out (grown_of hb1)
            clear X HJ r0 r1 r2 r3 r4
            gi_wp2
            go_roundw
            case rel => exact ⟨pr, j + 1, by omega, by go_num, HP2, X2, hb2, HJ2⟩
            case measure => simp [intOf]; omega
          | true =>
            obtain ⟨px, HX⟩ : ∃ px : Px rn, Hid (px.1 = (k, j)) := ⟨⟨(k, j), hlt, by simp only; omega⟩, rfl⟩
            have HP2 : Hid (valsP (pr ++ [px]) = rpTo rs k (j + 1)) := by show _ = _; rw [rpTo_on hz, valsP_snoc, HX.out, HP.out]
            have HLN : Hid (pr.length < 1099513724929) := by
              show _ < _
              have h1 := HLE.out k j
              rw [← HP.out, valsP_len] at h1
              have h4 : k * 1048576 ≤ 1048577 * 1048576 := Nat.mul_le_mul_right _ (by omega)
              omega
            have HC2 := HC.out true hz
            have HC3 : Hid (CallsIn Fence.wide (n - 1) Try.prog 71 #[.agg #[.string x.nm, .int .i64 x.fr, .int .i64 x.up, .int .i64 x.ep, .slice fo m fc], .int .i64 j] wr fun e w' => e = .returned (.bool true) ∧ Below wr.heap.size wr w') := HC2
            have HY2 : Hid (∀ W, J pr W → YieldAt Fence.wide (n - 1) Try.prog l #[Value.int .i64 (k : Nat), Value.int .i64 (j : Nat)] W fun e W' =>
                (e = .returned (.bool true) ∧ J (pr ++ [px]) W' ∧ KpR w0.heap.size W W') ∨ (e = .returned (.bool false) ∧ Jx (pr ++ [px]) W')) := fun W h => by
              have := hY pr px W h HLN.out
              rw [HX.out] at this
              exact this
            clear HC HC2 hz
            gi_wp2_with (refine ⟨trivial, ?_⟩; gi_at_call 71; refine HC3.out.mono ?_; rintro e w1 ⟨rfl, hb1⟩; obtain ⟨fn, tmps, assign, body, hy, hR⟩ := HY2.out w1 (hJ0 _ _ _ HJ.out (grown_of hb1)))
            refine hR.mono ?_
            rintro e W3 (⟨rfl, hJ3, hk3⟩ | ⟨rfl, hJx3⟩)
            · have X2 := (X.on hb1).kp hk3
              have hb2 : Below w0.heap.size w0 W3 := (hbel.trans (hb1.mono hbel.size)).trans hk3.1
              have HJ2 : Hid (J (pr ++ [px]) W3) := hJ3
              clear X HJ r0 r1 r2 r3 r4 hy hR hJ3
              gi_wp2
              go_roundw
              case rel => exact ⟨pr ++ [px], j + 1, by omega, by go_num, HP2, X2, hb2, HJ2⟩
              case measure => simp [intOf]; omega
            · gi_wp2
              refine bodyPost_ret (results_none rfl _ _ _) rfl ?_
              exact ⟨⟨_, rfl⟩, .inr ⟨_, hJx3⟩⟩
        · have ej : j = m := by omega
          have HP2 : Hid (valsP pr = rpTo rs (k + 1) 0) := by
            show _ = _
            rw [rpTo_row (j := j) (by rw [stAt_at HT.out, HM.out, ej]), HP.out]
          clear HP X r0 r1 r2 r3 r4
          gi_wp2
          go_roundw
          case rel => exact ⟨pr, k + 1, by omega, by go_num, HP2, hbel, HJ.out⟩
          case measure => simp [intOf]; omega
    · have ek : k = rn := by omega
      have HP2 : Hid (valsP pre = rp rs) := by
        show _ = _
        rw [HP.out, rpTo_zero, ek, ← HN.out]; rfl
      gi_wp2
      refine bodyPost_end (results_none rfl _ _ _) rfl ?_
      exact ⟨⟨_, rfl⟩, .inl ⟨pre, HP2.out, hJs⟩⟩

theorem running_stops (n : Nat) (hn : 1 ≤ n) (Bn : Nat) (sv pv : Value) (ro : Option Addr) (rn rc : Nat) (ck tk : Value) (rs : List Rr) (w0 w : World) (hr : DRow OneRk w0 (.slice ro rn rc) rs) (hrn : rn ≤ 1048577) (hz : ∀ r ∈ rs, r.st.length ≤ 1048576) (hc : B5 26 w Bn sv pv (.slice ro rn rc) ck tk) (hb : Below w0.heap.size w0 w) :
    SeqStopsK Fence.wide n Try.prog 70 #[.pointer (some ⟨Bn, 0, none⟩)] (encP (rn := rn)) (KpR w0.heap.size) (fun ys => valsP ys = rp rs) (fun _ => True) 1099513724929 w := fun l J Jx W hW hJ _ hY h0 => by
  refine (running1_in n hn l Bn sv pv ro rn rc ck tk rs w0 hr hrn hz J Jx (fun pre A B hj hg => hJ pre A B none hj hg (fun r e => by cases e)) hY W (hc.up hW) (hb.trans (hW.mono hb.size)) h0).mono ?_
  rintro e W' ⟨hv, h | ⟨pre, h⟩⟩
  · exact ⟨hv, .inl h⟩
  · exact ⟨hv, .inr ⟨pre, trivial, h⟩⟩

set_option maxHeartbeats 1000000 in
theorem running_in (n : Nat) (sv pv rv ck tk : Value) (w : World) :
    CallsIn Fence.wide n Try.prog 58 #[.agg #[sv, pv, rv, ck, tk]] w fun e w' => e = .returned (.func (.func 70) #[] #[.pointer (some ⟨w.heap.size, 0, none⟩)]) ∧ w' = w.alloc (.cells #[sv, pv, rv, ck, tk] 26) := by
  refine callsIn_of_wp Try.func58 rfl trivial ?_ rfl
  simp only [Try.ntmps58, List.size_toArray, List.length_cons, List.length_nil, Nat.reduceAdd, Nat.reduceSub, Array.replicate_succ, Array.replicate_zero, List.push_toArray, List.append_toArray, List.nil_append, List.cons_append]
  gi_wp2
  go_ret
  exact ⟨rfl, rfl⟩
end Go.Proofs.Ytjmclcjhimcehaa
