/-
  The places of all that runs, by a function that is handed a yield: the walks. A region that draws its order inside a round of a range, and that only reads: one walk of the lexical order serves every order. Over any program. What runs with a token, as the program looks for it: a range over what runs that is left by a return: the walk. Beat, as the program tells it: the walk.
-/
import Derived.Test.YtkfhmeiiicidaaaX6
import Derived.Test.YtkfhmeiiicidaaaX7
import Derived.RangeFuncNested
import Derived.RangeFuncBound
import Derived.RangeFuncCalls
import Derived.RangeFuncLeaves
import Derived.RangeFuncBox
import Derived.Shelf.Abstract
import Derived.Shelf.RegionOpen
import Derived.WalkKit
import Derived.OwnWalkIn
import Derived.TacticsInMore
import Derived.LoopNIn
import Derived.LoopIn
import Derived.Maps.OwnIn
import Derived.Test.YtkfhmeiiicidaaaWd
import Derived.Sort.QuietThIn
import Derived.Sort.QuietIn
import Derived.RangeFuncWrites
import Derived.Test.YtkfhmeiiicidaaaX5
namespace Go.Proofs.Ytkfhmeiiicidaaa
open Go Go.RowKit Go.Shelf
attribute [local go_sem] Oper.semAt_some
set_option linter.unusedVariables false

/-- A block that holds a run or a board. -/
def runT : Obj → Bool
  | .cells _ t _ => t == 52 || t == 32
  | _ => false
theorem runT_not {o : Obj} (h : o.isCells = false) : runT o = false := by cases o <;> first | rfl | cases h
/-- What a round that goes on keeps: all that lay below, and whatever holds a run or a board. -/
def KpR (n₀ : Nat) (A B : World) : Prop := Below n₀ A B ∧ ∀ (k : Nat) (o : Obj), A.heap[k]? = some o → runT o = true → B.heap[k]? = some o
theorem kpR_t {n₀ : Nat} {A B C : World} (h : KpR n₀ A B) (k : KpR n₀ B C) : KpR n₀ A C := ⟨h.1.trans k.1, fun j o h1 h2 => k.2 j o (h.2 j o h1 h2) h2⟩
theorem kpR_b {n₀ : Nat} {w : World} (hn : n₀ ≤ w.heap.size) (W : World) (l : Nat) (o o' : Obj) (hl : w.heap.size ≤ l) (h : W.heap[l]? = some o) (h1 : o.isCells = false) (h2 : o.isWalk = false) : KpR n₀ W (W.putObj l o') :=
  ⟨belowK_b hn W l o o' hl h h1 h2, fun j p hp hc => by
    by_cases e : j = l
    · subst e; rw [h] at hp; injection hp with hp; subst hp; rw [runT_not h1] at hc; cases hc
    · exact (World.putObj_heap_other (by omega)).trans hp⟩
theorem kpR_of {n₀ : Nat} {A B : World} (hn : n₀ ≤ A.heap.size) (h : Below A.heap.size A B) : KpR n₀ A B := ⟨h.mono hn, fun k o hk _ => (h.block k (Array.getElem?_eq_some_iff.1 hk).1).trans hk⟩
theorem R5.kp {n₀ : Nat} {A B : World} {g : Nat} {nm : ByteArray} {fr up ep : Int} {tv : Value} (h : R5 A g nm fr up ep tv) (k : KpR n₀ A B) : R5 B g nm fr up ep tv := k.2 _ _ h rfl
theorem B5.kp {n₀ : Nat} {A B : World} {g : Nat} {x0 x1 x2 x3 x4 : Value} (h : B5 32 A g x0 x1 x2 x3 x4) (k : KpR n₀ A B) : B5 32 B g x0 x1 x2 x3 x4 := k.2 _ _ h rfl

/-- A run's place and a task's in it. -/
abbrev Px (rs : List Rr) := { x : Nat × Nat // x.1 < rs.length ∧ x.2 < (stAt rs x.1).length }
def encP {rs : List Rr} (x : Px rs) : Array Value := #[Value.int .i64 x.1.1, Value.int .i64 x.1.2]
def valsP {rs : List Rr} (l : List (Px rs)) : List (Nat × Nat) := l.map Subtype.val
theorem valsP_snoc {rs : List Rr} (l : List (Px rs)) (x : Px rs) : valsP (l ++ [x]) = valsP l ++ [x.1] := by simp [valsP]
theorem valsP_len {rs : List Rr} (l : List (Px rs)) : (valsP l).length = l.length := by simp [valsP]
theorem grown_of {A B : World} (h : Below A.heap.size A B) : A.grownBy B none := ⟨h.os, h.tape, h.output, h.size, fun k hk _ => h.block k hk⟩

theorem runI_pre (st : List Sa) (j : Nat) : ∀ d, runI st j <+: runI st (j + d)
  | 0 => List.prefix_rfl
  | d + 1 => by
    rw [← Nat.add_assoc, runI_succ]
    exact (runI_pre st j d).trans (List.prefix_append _ _)
theorem rpA_pre (rs : List Rr) (k : Nat) : ∀ d, rpA rs k <+: rpA rs (k + d)
  | 0 => List.prefix_rfl
  | d + 1 => by
    have e : rpA rs (k + d + 1) = rpTo rs (k + d) (stAt rs (k + d)).length := by rw [← rpTo_row rfl, rpTo_zero]
    rw [← Nat.add_assoc, e]
    exact (rpA_pre rs k d).trans (List.prefix_append _ _)
theorem rpTo_pre {rs : List Rr} {k j : Nat} (hk : k < rs.length) (hj : j ≤ (stAt rs k).length) : rpTo rs k j <+: rp rs := by
  have h1 : rpTo rs k j <+: rpTo rs k (stAt rs k).length := by
    obtain ⟨t, ht⟩ := runI_pre (stAt rs k) j ((stAt rs k).length - j)
    rw [show j + ((stAt rs k).length - j) = (stAt rs k).length by omega] at ht
    exact ⟨t.map fun i => (k, i), by unfold rpTo; rw [List.append_assoc, ← List.map_append, ht]⟩
  rw [← rpTo_row rfl, rpTo_zero] at h1
  have h2 := rpA_pre rs (k + 1) (rs.length - (k + 1))
  rw [show k + 1 + (rs.length - (k + 1)) = rs.length by omega] at h2
  exact h1.trans h2
set_option maxRecDepth 100000 in
set_option maxHeartbeats 4000000 in
theorem running1_in (n : Nat) (hn : 1 ≤ n) (l Bn : Nat) (sv pv : Value) (ro : Option Addr) (rn rc : Nat) (ck tk : Value) (rs : List Rr) (w0 : World) (hr : DRow OneRk w0 (.slice ro rn rc) rs) (hrn : rn ≤ 1048577) (hz : ∀ r ∈ rs, r.st.length ≤ 1048576) (J Jx : List (Px rs) → World → Prop)
    (hJ0 : ∀ pre A B, J pre A → A.grownBy B none → J pre B)
    (hY : ∀ pre (x : Px rs) W, J pre W → pre.length < 1099513724929 → YieldAt Fence.wide (n - 1) Try.prog l #[Value.int .i64 (x.1.1 : Nat), Value.int .i64 (x.1.2 : Nat)] W fun e W' =>
      (e = .returned (.bool true) ∧ J (pre ++ [x]) W' ∧ KpR w0.heap.size W W') ∨ (e = .returned (.bool false) ∧ Jx (pre ++ [x]) W'))
    (W : World) (hB : B5 32 W Bn sv pv (.slice ro rn rc) ck tk) (hW : Below w0.heap.size w0 W) (h0 : J [] W) :
    CallsIn Fence.wide n Try.prog 70 #[.func (.yield l) #[] #[], .pointer (some ⟨Bn, 0, none⟩)] W fun e W' => (∃ v, e = .returned v) ∧
      ((∃ ys, valsP ys = rp rs ∧ J ys W') ∨ (∃ pre, valsP pre <+: rp rs ∧ Jx pre W')) := by
  have HN : Hid (rs.length = rn) := hr.len
  have HR : Hid (∀ W, Below w0.heap.size w0 W → DRow OneRk W (.slice ro rn rc) rs) := fun W hb => hr.below oneRk_below hb
  have HLE : Hid (∀ k j, (rpTo rs k j).length ≤ k * 1048576 + j) := fun k j => rpTo_len (stAt_le hz) k j
  have HZ : Hid (∀ r ∈ rs, r.st.length ≤ 1048576) := hz
  have HB := hB
  have kb := hB.c2
  clear hr hz
  refine callsIn_of_wp Try.func70 rfl trivial ?_ rfl
  simp only [Try.ntmps70, List.size_toArray, List.length_cons, List.length_nil, Nat.reduceAdd, Nat.reduceSub, Array.replicate_succ, Array.replicate_zero, List.push_toArray, List.append_toArray, List.nil_append, List.cons_append]
  gi_wp2
  gi_loopw [9] (fun kv wr => ∃ (pre : List (Px rs)) (k : Nat), k ≤ rn ∧ kv = .int .i64 k ∧ Hid (valsP pre = rpTo rs k 0) ∧ Below w0.heap.size w0 wr ∧ J pre wr) (fun kv _ => rn - (intOf kv).toNat)
  case atStart => exact ⟨[], 0, Nat.zero_le _, rfl, (by rw [rpTo_zero]; rfl), hW, h0⟩
  case round =>
    obtain ⟨pre, k, hk, rfl, HP, hbel, hJs⟩ := hrel
    by_cases hlt : k < rn
    · obtain ⟨x, ht⟩ : ∃ x, rs[k]? = some x := ⟨_, List.getElem?_eq_getElem (by rw [HN.out]; exact hlt)⟩
      have HT : Hid (rs[k]? = some x) := ht
      obtain ⟨m, HM⟩ : ∃ m, Hid (x.st.length = m) := ⟨_, rfl⟩
      have hm : m ≤ 1048576 := by rw [← HM.out]; exact HZ.out x (List.mem_of_getElem? ht)
      obtain ⟨b', o, av, e', hb, c0, c1, c2, c3, c4, hav⟩ := rk_at (C := 0) (HR.out w0 (Below.refl _ _)) HT.out
      subst e'
      obtain ⟨fo, fc, ev⟩ := reads_slice hav
      subst ev
      rw [HM.out] at hav c4
      have HAV : Hid (∀ V, Below w0.heap.size w0 V → Reads V (.slice fo m fc) x.st) := fun V hV => hav.below hV
      replace c0 := (hbel.cell (p := ⟨b', o + k * 5, none⟩) hb).trans c0
      replace c1 := (hbel.cell (p := ⟨b', o + k * 5 + 1, none⟩) hb).trans c1
      replace c2 := (hbel.cell (p := ⟨b', o + k * 5 + 2, none⟩) hb).trans c2
      replace c3 := (hbel.cell (p := ⟨b', o + k * 5 + 3, none⟩) hb).trans c3
      replace c4 := (hbel.cell (p := ⟨b', o + k * 5 + 4, none⟩) hb).trans c4
      clear ht hav
      gi_wp2
      obtain ⟨W1, hW1⟩ : ∃ W1, wr.alloc (.cells #[.string x.nm, .int .i64 x.fr, .int .i64 x.up, .int .i64 x.ep, .slice fo m fc] 52) = W1 := ⟨_, rfl⟩
      obtain ⟨rb, hrb⟩ : ∃ rb, wr.heap.size = rb := ⟨_, rfl⟩
      have X1 : R5 W1 rb x.nm x.fr x.up x.ep (.slice fo m fc) := by rw [← hW1, ← hrb]; exact R5.new _ _ _ _ _ _
      have hbw : Below wr.heap.size wr W1 := by rw [← hW1]; exact ba (Below.refl _ _) _
      have HJ1 : Hid (J pre W1) := hJ0 _ _ _ hJs (grown_of hbw)
      have hb1 : Below w0.heap.size w0 W1 := hbel.trans (hbw.mono hbel.size)
      simp only [hW1, hrb]
      clear hJs hbw hbel c0 c1 c2 c3 c4 hb hW1 hrb
      gi_loopw [17] (fun jv wx => ∃ (pr : List (Px rs)) (j : Nat), j ≤ m ∧ jv = .int .i64 j ∧ Hid (valsP pr = rpTo rs k j) ∧ R5 wx rb x.nm x.fr x.up x.ep (.slice fo m fc) ∧ Below w0.heap.size w0 wx ∧ Hid (J pr wx)) (fun jv _ => m - (intOf jv).toNat)
      case atStart => exact ⟨pre, 0, Nat.zero_le _, rfl, HP, X1, hb1, HJ1⟩
      case round =>
        clear X1 hb1 HJ1 HP
        obtain ⟨pr, j, hj, rfl, HP, X, hbel, HJ⟩ := hrel
        have r0 := X.c0
        have r1 := X.c1
        have r2 := X.c2
        have r3 := X.c3
        have r4 := X.c4
        by_cases hlj : j < m
        · have HC : Hid (∀ z, isN (stAt rs k) (j : Int) 1 = z → CallsIn Fence.wide (n - 1) Try.prog 71 #[.agg #[.string x.nm, .int .i64 x.fr, .int .i64 x.up, .int .i64 x.ep, .slice fo m fc], .int .i64 j] wr fun e w' => e = .returned (.bool z) ∧ Below wr.heap.size wr w') := fun z hz => callsIn_wide.2 (by
            have h := isRunning_any fo m fc x.nm x.fr x.up x.ep x.st j wr (HAV.out wr hbel) (by omega)
            rw [stAt_at HT.out] at hz
            rw [hz] at h
            exact h)
          cases hz : isN (stAt rs k) (j : Int) 1 with
          | false =>
            have HP2 : Hid (valsP pr = rpTo rs k (j + 1)) := by show _ = _; rw [rpTo_off hz]; exact HP.out
            have HC2 := HC.out false hz
            have HC3 : Hid (CallsIn Fence.wide (n - 1) Try.prog 71 #[.agg #[.string x.nm, .int .i64 x.fr, .int .i64 x.up, .int .i64 x.ep, .slice fo m fc], .int .i64 j] wr fun e w' => e = .returned (.bool false) ∧ Below wr.heap.size wr w') := HC2
            clear HC HC2 hz
            gi_wp2_with (refine ⟨trivial, ?_⟩; gi_at_call 71; refine HC3.out.mono ?_; rintro e w1 ⟨rfl, hb1⟩)
            refine ⟨fun _ h => (by cases h), ?_⟩
            have X2 := X.on hb1
            have hb2 : Below w0.heap.size w0 w1 := hbel.trans (hb1.mono hbel.size)
            have HJ2 : Hid (J pr w1) := hJ0 _ _ _ HJ.out (grown_of hb1)
            clear X HJ r0 r1 r2 r3 r4
            gi_wp2
            go_roundw
            case rel => exact ⟨pr, j + 1, by omega, by go_num, HP2, X2, hb2, HJ2⟩
            case measure => simp [intOf]; omega
          | true =>
            obtain ⟨px, HX⟩ : ∃ px : Px rs, Hid (px.1 = (k, j)) := ⟨⟨(k, j), by rw [HN.out]; exact hlt, by show j < (stAt rs k).length; rw [stAt_at HT.out, HM.out]; exact hlj⟩, rfl⟩
            have HP2 : Hid (valsP (pr ++ [px]) = rpTo rs k (j + 1)) := by show _ = _; rw [rpTo_on hz, valsP_snoc, HX.out, HP.out]
            have HPX : Hid (valsP (pr ++ [px]) <+: rp rs) := by show _ <+: _; rw [HP2.out]; exact rpTo_pre (by rw [HN.out]; exact hlt) (by rw [stAt_at HT.out, HM.out]; omega)
            have HLN : Hid (pr.length < 1099513724929) := by
              show _ < _
              have h1 := HLE.out k j
              rw [← HP.out, valsP_len] at h1
              have h4 : k * 1048576 ≤ 1048577 * 1048576 := Nat.mul_le_mul_right _ (by omega)
              omega
            have HC2 := HC.out true hz
            have HC3 : Hid (CallsIn Fence.wide (n - 1) Try.prog 71 #[.agg #[.string x.nm, .int .i64 x.fr, .int .i64 x.up, .int .i64 x.ep, .slice fo m fc], .int .i64 j] wr fun e w' => e = .returned (.bool true) ∧ Below wr.heap.size wr w') := HC2
            have HY2 : Hid (∀ W, J pr W → YieldAt Fence.wide (n - 1) Try.prog l #[Value.int .i64 (k : Nat), Value.int .i64 (j : Nat)] W fun e W' =>
                (e = .returned (.bool true) ∧ J (pr ++ [px]) W' ∧ KpR w0.heap.size W W') ∨ (e = .returned (.bool false) ∧ Jx (pr ++ [px]) W')) := fun W h => by
              have := hY pr px W h HLN.out
              rw [HX.out] at this
              exact this
            clear HC HC2 hz
            gi_wp2_with (refine ⟨trivial, ?_⟩; gi_at_call 71; refine HC3.out.mono ?_; rintro e w1 ⟨rfl, hb1⟩; obtain ⟨fn, tmps, assign, body, hy, hR⟩ := HY2.out w1 (hJ0 _ _ _ HJ.out (grown_of hb1)))
            refine hR.mono ?_
            rintro e W3 (⟨rfl, hJ3, hk3⟩ | ⟨rfl, hJx3⟩)
            · have X2 := (X.on hb1).kp hk3
              have hb2 : Below w0.heap.size w0 W3 := (hbel.trans (hb1.mono hbel.size)).trans hk3.1
              have HJ2 : Hid (J (pr ++ [px]) W3) := hJ3
              clear X HJ r0 r1 r2 r3 r4 hy hR hJ3
              gi_wp2
              go_roundw
              case rel => exact ⟨pr ++ [px], j + 1, by omega, by go_num, HP2, X2, hb2, HJ2⟩
              case measure => simp [intOf]; omega
            · gi_wp2
              refine bodyPost_ret (results_none rfl _ _ _) rfl ?_
              exact ⟨⟨_, rfl⟩, .inr ⟨_, HPX.out, hJx3⟩⟩
        · have ej : j = m := by omega
          have HP2 : Hid (valsP pr = rpTo rs (k + 1) 0) := by
            show _ = _
            rw [rpTo_row (j := j) (by rw [stAt_at HT.out, HM.out, ej]), HP.out]
          clear HP X r0 r1 r2 r3 r4
          gi_wp2
          go_roundw
          case rel => exact ⟨pr, k + 1, by omega, by go_num, HP2, hbel, HJ.out⟩
          case measure => simp [intOf]; omega
    · have ek : k = rn := by omega
      have HP2 : Hid (valsP pre = rp rs) := by
        show _ = _
        rw [HP.out, rpTo_zero, ek, ← HN.out]; rfl
      gi_wp2
      refine bodyPost_end (results_none rfl _ _ _) rfl ?_
      exact ⟨⟨_, rfl⟩, .inl ⟨pre, HP2.out, hJs⟩⟩

theorem running_stops (n : Nat) (hn : 1 ≤ n) (Bn : Nat) (sv pv : Value) (ro : Option Addr) (rn rc : Nat) (ck tk : Value) (rs : List Rr) (w0 w : World) (hr : DRow OneRk w0 (.slice ro rn rc) rs) (hrn : rn ≤ 1048577) (hz : ∀ r ∈ rs, r.st.length ≤ 1048576) (hc : B5 32 w Bn sv pv (.slice ro rn rc) ck tk) (hb : Below w0.heap.size w0 w) :
    SeqStopsK Fence.wide n Try.prog 70 #[.pointer (some ⟨Bn, 0, none⟩)] (encP (rs := rs)) (KpR w0.heap.size) (fun ys => valsP ys = rp rs) (fun pre => valsP pre <+: rp rs) 1099513724929 w := fun l J Jx W hW hJ _ hY h0 =>
  running1_in n hn l Bn sv pv ro rn rc ck tk rs w0 hr hrn hz J Jx (fun pre A B hj hg => hJ pre A B none hj hg (fun r e => by cases e)) hY W (hc.up hW) (hb.trans (hW.mono hb.size)) h0

set_option maxHeartbeats 1000000 in
theorem running_in (n : Nat) (sv pv rv ck tk : Value) (w : World) :
    CallsIn Fence.wide n Try.prog 51 #[.agg #[sv, pv, rv, ck, tk]] w fun e w' => e = .returned (.func (.func 70) #[] #[.pointer (some ⟨w.heap.size, 0, none⟩)]) ∧ w' = w.alloc (.cells #[sv, pv, rv, ck, tk] 32) := by
  refine callsIn_of_wp Try.func51 rfl trivial ?_ rfl
  simp only [Try.ntmps51, List.size_toArray, List.length_cons, List.length_nil, Nat.reduceAdd, Nat.reduceSub, Array.replicate_succ, Array.replicate_zero, List.push_toArray, List.append_toArray, List.nil_append, List.cons_append]
  gi_wp2
  go_ret
  exact ⟨rfl, rfl⟩
end Go.Proofs.Ytkfhmeiiicidaaa

namespace Go.Proofs.Ytkfhmeiiicidaaa
open Go Go.RowKit

section
variable {F : Fence} {n : Nat} {P : Program} {ops : Array Oper} {md : Region.Mode} {Q : Exit → Act → World → Prop}
/-- None of the operations is a defer statement. -/
def noDefer (ops : Array Oper) : Bool := ops.all fun o => match o.op with
  | .defer _ => false
  | _ => true
theorem noDefer_at (h : noDefer ops = true) {i : Nat} {o : Oper} (ho : ops[i]? = some o) : ∀ c, o.op ≠ .defer c := fun c e => by
  unfold noDefer at h
  rw [Array.all_eq_true] at h
  obtain ⟨hi, rfl⟩ := Array.getElem?_eq_some_iff.1 ho
  have := h i hi
  rw [e] at this
  cases this
theorem uponIn_round (l : Nat) {o : Oper} {a : Act} {K : Act → World → Prop} {r : Result Next} (h : o.uponIn F n P a K Q r) : o.uponIn (F.inRound l) n P a K Q r := h
theorem any_round (l : Nat) (hnd : noDefer ops = true) : ∀ (fuel : Nat) (listed : Array Bool) (a : Act) (w : World), wpAnyIn F n P md ops Q fuel listed a w → wpAnyIn (F.inRound l) n P md ops Q fuel listed a w
  | 0, _, _, _, h => h
  | fuel + 1, listed, a, w, h => by
    refine ⟨h.1, fun i hi => ?_⟩
    have h2 := h.2 i hi
    unfold wpOpIn at h2 ⊢
    cases ho : ops[i]? with
    | none =>
      simp only [ho] at h2 ⊢
      exact any_round l hnd fuel _ a w h2
    | some o =>
      simp only [ho] at h2 ⊢
      split
      · rename_i hw
        rw [if_pos hw] at h2
        have h3 := Oper.wpIn_mono (fun a w h => any_round l hnd fuel _ a w h) h2
        refine ⟨h3.1, ?_⟩
        have h4 := h3.2
        rw [Oper.semAt_eq _ _ _ (noDefer_at hnd ho)] at h4 ⊢
        exact uponIn_round l h4
      · rename_i hw
        rw [if_neg hw] at h2
        exact ⟨h2.1, any_round l hnd fuel _ _ w h2.2⟩
theorem wpIn_region_quietR {id l : Nat} {a : Act} {w : World} {os : List Oper} (hro : F.round = none) (hm : P.follows .mixedOrders = true) (hnd : noDefer os.toArray = true) (hB : Region.lexB .any os.toArray = true)
    (h : wpQuietIn F n P os.toArray (fun w' => ∃ n, w' = w.drewN n) (fun a' => ∀ w', (∃ n, w' = w.drewN n) → Q .normal a' w') os a) : (Code.region id os.toArray true).wpIn (F.inRound l) n P Q a w := by
  simp only [Region.lexB, Bool.and_eq_true] at hB
  refine wpIn_region_any hm (any_round l hnd _ _ _ _ ?_)
  refine wpAnyIn_of_quiet (C := fun w' => ∃ n, w' = w.drewN n) (Q := fun a' => ∀ w', (∃ n, w' = w.drewN n) → Q .normal a' w') hro (fun _ w' hw' h => h w' hw') _ _ _ _ ⟨1, rfl⟩ ?_
  have := wpAnyQIn_lex (F := F) (n := n) (C := fun w' => ∃ n, w' = w.drewN n) (md := .any) hB.1 os 0 (Array.replicate os.toArray.size false) a (by simp) (by simpa using hB.2) h
  simpa using this
end
end Go.Proofs.Ytkfhmeiiicidaaa

namespace Go.Proofs.Ytkfhmeiiicidaaa
open Go Go.RowKit Go.Shelf
set_option linter.unusedVariables false
attribute [local go_sem] Oper.semAt_some

theorem cells_keptT {W W' : World} {row : Option Nat} {k : Nat} {cs : Array Value} {t : TypeId} (h : W.heap[k]? = some (.cells cs t)) (hg : W.grownBy W' row) (hr : ∀ r, row = some r → ∃ o : Obj, W.heap[r]? = some o ∧ o.isCells = false) : W'.heap[k]? = some (.cells cs t) :=
  (hg.block k (Array.getElem?_eq_some_iff.1 h).1 fun e => by
    obtain ⟨o, ho, hc⟩ := hr k e.symm
    rw [h] at ho; injection ho with ho; subst ho; cases hc).trans h
theorem h_newT (W : World) (o : Obj) {k : Nat} (hk : W.heap.size = k) : (W.alloc o).heap[k]? = some o := by
  subst hk
  show (W.heap.push _)[W.heap.size]? = _
  rw [Array.getElem?_push, if_pos rfl]
theorem h_oldT {W : World} {k : Nat} {p : Obj} (h : W.heap[k]? = some p) (o : Obj) : (W.alloc o).heap[k]? = some p := ((ba (Below.refl _ W) o).block k (Array.getElem?_eq_some_iff.1 h).1).trans h
theorem res3 {W : World} {b0 b1 b2 : Nat} {x0 x1 x2 : Value} {fn : Func} {p q u : Tmp} {tmps : Array Value} (h : fn.results = #[.cell p 3, .cell q 3, .cell u 4]) (hp : tmps.getD p undef = .pointer (some ⟨b0, 0, none⟩)) (hq : tmps.getD q undef = .pointer (some ⟨b1, 0, none⟩)) (hu : tmps.getD u undef = .pointer (some ⟨b2, 0, none⟩)) (h0 : W.heap[b0]? = some (.cells #[x0] 3)) (h1 : W.heap[b1]? = some (.cells #[x1] 3)) (h2 : W.heap[b2]? = some (.cells #[x2] 4)) :
    (results fn tmps).run Try.prog W = .ok (.tuple #[x0, x1, x2]) W := by
  have hp' : tmps[p]?.getD undef = .pointer (some ⟨b0, 0, none⟩) := by simpa using hp
  have hq' : tmps[q]?.getD undef = .pointer (some ⟨b1, 0, none⟩) := by simpa using hq
  have hu' : tmps[u]?.getD undef = .pointer (some ⟨b2, 0, none⟩) := by simpa using hu
  have c0 : W.cell? ⟨b0, 0, none⟩ = some x0 := by simp [World.cell?, h0]
  have c1 : W.cell? ⟨b1, 0, none⟩ = some x1 := by simp [World.cell?, h1]
  have c2 : W.cell? ⟨b2, 0, none⟩ = some x2 := by simp [World.cell?, h2]
  simp [results, h, hp', hq', hu', c0, c1, c2, asAddr, go_sem]
/-- What lies there while what runs is gone through. -/
structure RwI (w : World) (Bn : Nat) (tok : Int) (x0 x1 : Int) (x2 : Bool) (W : World) : Prop where
  p : W.heap[w.heap.size]? = some (.cells #[.pointer (some ⟨Bn, 0, none⟩)] 99)
  t : W.heap[w.heap.size + 1]? = some (.cells #[.int .i64 tok] 3)
  r0 : W.heap[w.heap.size + 1 + 1]? = some (.cells #[.int .i64 x0] 3)
  r1 : W.heap[w.heap.size + 1 + 1 + 1]? = some (.cells #[.int .i64 x1] 3)
  r2 : W.heap[w.heap.size + 1 + 1 + 1 + 1]? = some (.cells #[.bool x2] 4)
  be : Below w.heap.size w W
theorem RwI.kept {w : World} {Bn : Nat} {tok x0 x1 : Int} {x2 : Bool} {B : Nat} {W W' : World} {row : Option Nat} (hB : w.heap.size ≤ B) (h : RwI w Bn tok x0 x1 x2 W) (hg : W.grownBy W' row) (hr : ∀ r, row = some r → B ≤ r ∧ ∃ o : Obj, W.heap[r]? = some o ∧ o.isCells = false) : RwI w Bn tok x0 x1 x2 W' := by
  have hc : ∀ r, row = some r → ∃ o : Obj, W.heap[r]? = some o ∧ o.isCells = false := fun r e => (hr r e).2
  exact ⟨cells_keptT h.p hg hc, cells_keptT h.t hg hc, cells_keptT h.r0 hg hc, cells_keptT h.r1 hg hc, cells_keptT h.r2 hg hc, ownFrom_below (β := Unit) (Nat.le_refl _) hB () W W' row h.be hg hr⟩
theorem h1_far {W : World} {R b : Nat} {o : Obj} (h : W.heap[b]? = some o) (ne : b ≠ R) (u : Value) : (W.setCell ⟨R, 0, none⟩ u).heap[b]? = some o :=
  (heap_setCell_other W ⟨R, 0, none⟩ b u ne).trans h
theorem h1_at {W : World} {R : Nat} {x : Value} {t : Nat} (h : W.heap[R]? = some (.cells #[x] t)) (u : Value) : (W.setCell ⟨R, 0, none⟩ u).heap[R]? = some (.cells #[u] t) := by
  simp [World.setCell, Array.getElem?_modify, h]
set_option maxRecDepth 10000 in
set_option maxHeartbeats 4000000 in
theorem runningWith_any (Bn : Nat) (sv pv : Value) (ro : Option Addr) (rn rc : Nat) (ck tk : Int) (rs : List Rr) (tok : Int) (w : World) (hbd : B5 32 w Bn sv pv (.slice ro rn rc) (.int .i64 ck) (.int .i64 tk)) (hr : DRow OneRk w (.slice ro rn rc) rs) (hrn : rn ≤ 1048577) (hz : ∀ r ∈ rs, r.st.length ≤ 1048576) :
    Calls Try.prog 23 #[.pointer (some ⟨Bn, 0, none⟩), .int .i64 tok] w fun e w' => e = .returned (tokV (tokF rs tok)) ∧ Below w.heap.size w w' := by
  refine (callsIn_wide (n := 3)).1 ?_
  have HR : Hid (DRow OneRk w (.slice ro rn rc) rs) := hr
  have HZ : Hid (∀ r ∈ rs, r.st.length ≤ 1048576) := hz
  have HBD : Hid (B5 32 w Bn sv pv (.slice ro rn rc) (.int .i64 ck) (.int .i64 tk)) := hbd
  have hbl : Bn < w.heap.size := hbd.lt
  have K1 := ((((hbd.up (ba (Below.refl _ _) (.cells #[.pointer (some ⟨Bn, 0, none⟩)] 99))).up (ba (Below.refl _ _) (.cells #[.int .i64 tok] 3))).up (ba (Below.refl _ _) (.cells #[.int .i64 0] 3))).up (ba (Below.refl _ _) (.cells #[.int .i64 0] 3))).up (ba (Below.refl _ _) (.cells #[.bool false] 4))
  have k0 := K1.c0
  have k1 := K1.c1
  have k2 := K1.c2
  have k3 := K1.c3
  have k4 := K1.c4
  clear hr hz hbd
  refine callsIn_of_wp_marks Try.func23 rfl trivial ?_ rfl
  simp only [Try.ntmps23, List.size_toArray, List.length_cons, List.length_nil, Nat.reduceAdd, Nat.reduceSub, Array.replicate_succ, Array.replicate_zero, List.push_toArray, List.append_toArray, List.nil_append, List.cons_append]
  gi_wp2_with (refine ⟨trivial, ?_⟩; gi_at_call 51; refine (running_in 2 _ _ _ _ _ _).mono ?_; rintro e w' ⟨rfl, rfl⟩)
  obtain ⟨W0, hW0⟩ : ∃ W0, (((((w.alloc (.cells #[.pointer (some ⟨Bn, 0, none⟩)] 99)).alloc (.cells #[.int .i64 tok] 3)).alloc (.cells #[.int .i64 0] 3)).alloc (.cells #[.int .i64 0] 3)).alloc (.cells #[.bool false] 4)).alloc (.cells #[sv, pv, .slice ro rn rc, .int .i64 ck, .int .i64 tk] 32) = W0 := ⟨_, rfl⟩
  have hsz0 : W0.heap.size = w.heap.size + 1 + 1 + 1 + 1 + 1 + 1 := by rw [← hW0]; simp
  have T0 : RwI w Bn tok 0 0 false W0 := by
    rw [← hW0]
    exact ⟨h_oldT (h_oldT (h_oldT (h_oldT (h_oldT (h_newT _ _ rfl) _) _) _) _) _, h_oldT (h_oldT (h_oldT (h_oldT (h_newT _ _ (by simp)) _) _) _) _, h_oldT (h_oldT (h_oldT (h_newT _ _ (by simp)) _) _) _, h_oldT (h_oldT (h_newT _ _ (by simp)) _) _, h_oldT (h_newT _ _ (by simp)) _, ba (ba (ba (ba (ba (ba (Below.refl _ _) _) _) _) _) _) _⟩
  have Z0 : B5 32 W0 (w.heap.size + 1 + 1 + 1 + 1 + 1) sv pv (.slice ro rn rc) (.int .i64 ck) (.int .i64 tk) := by
    rw [← hW0]
    have := B5.new 32 (((((w.alloc (.cells #[.pointer (some ⟨Bn, 0, none⟩)] 99)).alloc (.cells #[.int .i64 tok] 3)).alloc (.cells #[.int .i64 0] 3)).alloc (.cells #[.int .i64 0] 3)).alloc (.cells #[.bool false] 4)) sv pv (.slice ro rn rc) (.int .i64 ck) (.int .i64 tk)
    simpa using this
  rw [hW0]
  clear k0 k1 k2 k3 k4 K1 hW0
  refine wpIn_rangeFunc_ownG rfl (by omega) (gf := 70) (lb := #[.pointer (some ⟨w.heap.size + 1 + 1 + 1 + 1 + 1, 0, none⟩)]) rfl trivial (enters_of Try.func70 (by kernel_rfl) rfl)
    (running_stops 2 (by omega) (w.heap.size + 1 + 1 + 1 + 1 + 1) sv pv ro rn rc (.int .i64 ck) (.int .i64 tk) rs w W0 HR.out hrn HZ.out Z0 T0.be) kpR_t (kpR_b (by omega)) (Below.refl _ _) (fun _ => rfl)
    (fun pre W => RwI w Bn tok 0 0 false W ∧ (valsP pre).find? (tokQ rs tok) = none) (fun c pre W => c = .ret ∧ ∃ k i : Nat, RwI w Bn tok k i true W ∧ (valsP pre).find? (tokQ rs tok) = some (k, i)) (fun pre W W' row h hg hr => ⟨h.1.kept (by omega) hg hr, h.2⟩) (fun c pre W W' row h hg hr => by
      obtain ⟨hc, k, i, h1, h2⟩ := h
      exact ⟨hc, k, i, h1.kept (by omega) hg hr, h2⟩)
    ⟨T0, rfl⟩
    (fun x => { tmps := #[.pointer (some ⟨Bn, 0, none⟩), .int .i64 tok, .pointer (some ⟨w.heap.size, 0, none⟩), .pointer (some ⟨w.heap.size + 1, 0, none⟩), .pointer (some ⟨w.heap.size + 1 + 1, 0, none⟩), .pointer (some ⟨w.heap.size + 1 + 1 + 1, 0, none⟩), .pointer (some ⟨w.heap.size + 1 + 1 + 1 + 1, 0, none⟩), .int .i64 x.1.1, .int .i64 x.1.2, .pointer (some ⟨Bn, 0, none⟩), .pointer (some ⟨Bn, 0, none⟩), .agg #[sv, pv, .slice ro rn rc, .int .i64 ck, .int .i64 tk], .func (.func 70) #[] #[.pointer (some ⟨w.heap.size + 1 + 1 + 1 + 1 + 1, 0, none⟩)], .int .i64 x.1.1, .int .i64 x.1.2, undef, undef, undef, undef, undef, undef, undef, undef, undef, undef, undef, undef, undef, undef, undef, undef], defers := [] }) ?assign ?body ?done ?stop
  case assign =>
    intro l x W K hK
    simp only [encP]
    gi_wp2
    exact hK
  case body =>
    rintro l pre x W ⟨T, hno⟩ hlt
    obtain ⟨k, HK⟩ : ∃ k, Hid (x.1.1 = k) := ⟨_, rfl⟩
    obtain ⟨i, HI⟩ : ∃ i, Hid (x.1.2 = i) := ⟨_, rfl⟩
    have hk : k < rn := by rw [← HK.out, ← HR.out.len]; exact x.2.1
    have HXX : Hid (x.1 = (k, i)) := by show _ = _; rw [← HK.out, ← HI.out]
    have HV : Hid (valsP (pre ++ [x]) = valsP pre ++ [(k, i)]) := by show _ = _; rw [valsP_snoc, HXX.out]
    obtain ⟨r, hr⟩ : ∃ r, rs[k]? = some r := ⟨_, List.getElem?_eq_getElem (by rw [HR.out.len]; exact hk)⟩
    obtain ⟨b', o', av9, e', hb, c0, c1, c2, c3, c4, hav⟩ := rk_at (C := 0) (HR.out.below oneRk_below T.be) hr
    have hil : i < r.st.length := by have := x.2.2; rw [HK.out, HI.out, stAt_at hr] at this; exact this
    obtain ⟨y, hy⟩ : ∃ y, r.st[i]? = some y := ⟨_, List.getElem?_eq_getElem hil⟩
    obtain ⟨fo, fc, ev⟩ := reads_slice hav
    subst ev
    obtain ⟨bs, os, es, hbs, s0, -, s2, -⟩ := sa_at hav hy
    subst es
    have HTQ : Hid (tokQ rs tok (k, i) = decide (y.tok = tok)) := by show tokQ rs tok (k, i) = _; unfold tokQ; rw [stAt_at hr, sAt_at hy]
    obtain ⟨m, HM⟩ : ∃ m, Hid (r.st.length = m) := ⟨_, rfl⟩
    rw [HM.out] at hil c4
    have hmm : m ≤ 1048576 := by rw [← HM.out]; exact HZ.out r (List.mem_of_getElem? hr)
    have kp : W.cell? ⟨w.heap.size, 0, none⟩ = some (.pointer (some ⟨Bn, 0, none⟩)) := by simp [World.cell?, T.p]
    have kt : W.cell? ⟨w.heap.size + 1, 0, none⟩ = some (.int .i64 tok) := by simp [World.cell?, T.t]
    have kb : W.cell? ⟨Bn, 2, none⟩ = some (.slice (some ⟨b', o', none⟩) rn rc) := by rw [(T.be.cell (p := ⟨Bn, 2, none⟩) hbl), HBD.out.c2, e']
    simp only [HK.out, HI.out]
    clear hr hav hy
    gi_wp2_with fail
    refine wpIn_region_quietR (F := Fence.wide) rfl (by kernel_rfl) (by kernel_rfl) (by kernel_rfl) ?_
    repeat (gi_big_quiet_step (fail))
    refine wpQuietIn_nil ?_
    intro _ hw'
    obtain ⟨nq, hw''⟩ := hw'
    subst hw''
    have HG : W.grownBy (W.drewN nq) none := ⟨rfl, rfl, rfl, Nat.le_refl _, fun _ _ _ => rfl⟩
    have T1 : RwI w Bn tok 0 0 false (W.drewN nq) := T.kept (B := w.heap.size) (Nat.le_refl _) HG (fun r e => by cases e)
    obtain ⟨V, hV⟩ : ∃ V, W.drewN nq = V := ⟨_, rfl⟩
    rw [hV] at HG T1 ⊢
    clear hV
    have HKF : Hid (KeepsFrom W0.heap.size W V) := KeepsFrom.of_grownBy HG (fun j e => by cases e)
    have HKP : Hid (KpR w.heap.size W V) := kpR_of T.be.size ⟨HG.os, HG.tape, HG.output, HG.size, fun k hk => HG.block k hk (by simp)⟩
    have HNO : Hid ((valsP pre).find? (tokQ rs tok) = none) := hno
    clear kp kt kb c0 c1 c2 c3 c4 s0 s2 hno
    have c0 : V.cell? ⟨w.heap.size + 1 + 1, 0, none⟩ = some (.int .i64 0) := by simp [World.cell?, T1.r0]
    have c1 : V.cell? ⟨w.heap.size + 1 + 1 + 1, 0, none⟩ = some (.int .i64 0) := by simp [World.cell?, T1.r1]
    have c2 : V.cell? ⟨w.heap.size + 1 + 1 + 1 + 1, 0, none⟩ = some (.bool false) := by simp [World.cell?, T1.r2]
    have f0 : V.frozen? ⟨w.heap.size + 1 + 1, 0, none⟩ = false := by simp [World.frozen?, T1.r0]
    have f1 : V.frozen? ⟨w.heap.size + 1 + 1 + 1, 0, none⟩ = false := by simp [World.frozen?, T1.r1]
    have f2 : V.frozen? ⟨w.heap.size + 1 + 1 + 1 + 1, 0, none⟩ = false := by simp [World.frozen?, T1.r2]
    by_cases hq : y.tok = tok
    · have hq2 : (y.tok == tok) = true := beq_iff_eq.2 hq
      have HFF : Hid ((valsP (pre ++ [x])).find? (tokQ rs tok) = some (k, i)) := by
        show _ = _
        rw [HV.out, List.find?_append, HNO.out]
        simp [HTQ.out, hq]
      clear hq
      gi_wp2
      refine ⟨(HKF.out.trans (KeepsFrom.of_grownBy (grown_set V (w.heap.size + 1 + 1) 0 _) (fun j e => by cases e; omega))).trans ((KeepsFrom.of_grownBy (grown_set _ (w.heap.size + 1 + 1 + 1) 0 _) (fun j e => by cases e; omega)).trans (KeepsFrom.of_grownBy (grown_set _ (w.heap.size + 1 + 1 + 1 + 1) 0 _) (fun j e => by cases e; omega))), rfl, k, i, ⟨?_, ?_, ?_, ?_, ?_, ((T1.be.setCell (p := ⟨w.heap.size + 1 + 1, 0, none⟩) (by show w.heap.size ≤ w.heap.size + 1 + 1; omega) _).setCell (p := ⟨w.heap.size + 1 + 1 + 1, 0, none⟩) (by show w.heap.size ≤ w.heap.size + 1 + 1 + 1; omega) _).setCell (p := ⟨w.heap.size + 1 + 1 + 1 + 1, 0, none⟩) (by show w.heap.size ≤ w.heap.size + 1 + 1 + 1 + 1; omega) _⟩, HFF.out⟩
      · exact h1_far (h1_far (h1_far T1.p (by omega) _) (by omega) _) (by omega) _
      · exact h1_far (h1_far (h1_far T1.t (by omega) _) (by omega) _) (by omega) _
      · exact h1_far (h1_far (h1_at T1.r0 _) (by omega) _) (by omega) _
      · exact h1_far (h1_at (h1_far T1.r1 (by omega) _) _) (by omega) _
      · exact h1_at (h1_far (h1_far T1.r2 (by omega) _) (by omega) _) _
    · have hq2 : (y.tok == tok) = false := beq_eq_false_iff_ne.2 hq
      have HFF : Hid ((valsP (pre ++ [x])).find? (tokQ rs tok) = none) := by
        show _ = _
        rw [HV.out, List.find?_append, HNO.out]
        simp [HTQ.out, hq]
      clear hq
      gi_wp2
      exact ⟨HKF.out, HKP.out, T1, HFF.out⟩
  case done =>
    rintro D ys W hD hys ⟨T, hno⟩ hK
    have HF : Hid (tokF rs tok = none) := by show tokF rs tok = _; unfold tokF; rw [← hys]; exact hno
    have c0 : W.cell? ⟨w.heap.size + 1 + 1, 0, none⟩ = some (.int .i64 0) := by simp [World.cell?, T.r0]
    have c1 : W.cell? ⟨w.heap.size + 1 + 1 + 1, 0, none⟩ = some (.int .i64 0) := by simp [World.cell?, T.r1]
    have c2 : W.cell? ⟨w.heap.size + 1 + 1 + 1 + 1, 0, none⟩ = some (.bool false) := by simp [World.cell?, T.r2]
    have f0 : W.frozen? ⟨w.heap.size + 1 + 1, 0, none⟩ = false := by simp [World.frozen?, T.r0]
    have f1 : W.frozen? ⟨w.heap.size + 1 + 1 + 1, 0, none⟩ = false := by simp [World.frozen?, T.r1]
    have f2 : W.frozen? ⟨w.heap.size + 1 + 1 + 1 + 1, 0, none⟩ = false := by simp [World.frozen?, T.r2]
    gi_wp2
    obtain ⟨w5, hw5⟩ : ∃ w5, ((W.setCell ⟨w.heap.size + 1 + 1, 0, none⟩ (.int .i64 0)).setCell ⟨w.heap.size + 1 + 1 + 1, 0, none⟩ (.int .i64 0)).setCell ⟨w.heap.size + 1 + 1 + 1 + 1, 0, none⟩ (.bool false) = w5 := ⟨_, rfl⟩
    have K5 : w5.heap[D]? = some (.deferred (some [])) := by rw [← hw5]; exact (heap_setCell_other _ ⟨w.heap.size + 1 + 1 + 1 + 1, 0, none⟩ D _ (by simp; omega)).trans ((heap_setCell_other _ ⟨w.heap.size + 1 + 1 + 1, 0, none⟩ D _ (by simp; omega)).trans ((heap_setCell_other _ ⟨w.heap.size + 1 + 1, 0, none⟩ D _ (by simp; omega)).trans hK))
    have Y0 : w5.heap[w.heap.size + 1 + 1]? = some (.cells #[.int .i64 0] 3) := by rw [← hw5]; exact h1_far (h1_far (h1_at T.r0 _) (by omega) _) (by omega) _
    have Y1 : w5.heap[w.heap.size + 1 + 1 + 1]? = some (.cells #[.int .i64 0] 3) := by rw [← hw5]; exact h1_far (h1_at (h1_far T.r1 (by omega) _) _) (by omega) _
    have Y2 : w5.heap[w.heap.size + 1 + 1 + 1 + 1]? = some (.cells #[.bool false] 4) := by rw [← hw5]; exact h1_at (h1_far (h1_far T.r2 (by omega) _) (by omega) _) _
    have B5' : Below w.heap.size w w5 := by rw [← hw5]; exact ((T.be.setCell (p := ⟨w.heap.size + 1 + 1, 0, none⟩) (by show w.heap.size ≤ w.heap.size + 1 + 1; omega) _).setCell (p := ⟨w.heap.size + 1 + 1 + 1, 0, none⟩) (by show w.heap.size ≤ w.heap.size + 1 + 1 + 1; omega) _).setCell (p := ⟨w.heap.size + 1 + 1 + 1 + 1, 0, none⟩) (by show w.heap.size ≤ w.heap.size + 1 + 1 + 1 + 1; omega) _
    rw [hw5]
    clear hw5
    refine ⟨by simp, .inl ⟨_, _, rfl, run_takeDeferred K5, ?_⟩⟩
    refine ⟨_, res3 rfl rfl rfl rfl ((World.putObj_heap_other (by omega)).trans Y0) ((World.putObj_heap_other (by omega)).trans Y1) ((World.putObj_heap_other (by omega)).trans Y2), by rw [HF.out]; rfl, B5'.trans (belowK_b (w := w) (Nat.le_refl _) _ D _ _ (by omega) K5 rfl rfl)⟩
  case stop =>
    rintro D c pre W hD hpre ⟨rfl, k, i, T, hf⟩ hK
    have HF : Hid (tokF rs tok = some (k, i)) := by
      obtain ⟨t, ht⟩ := hpre
      show tokF rs tok = _
      unfold tokF
      rw [← ht, List.find?_append, hf]
      rfl
    gi_wp2
    refine ⟨by simp, .inl ⟨_, _, rfl, run_takeDeferred hK, ?_⟩⟩
    refine ⟨_, res3 rfl rfl rfl rfl ((World.putObj_heap_other (by omega)).trans T.r0) ((World.putObj_heap_other (by omega)).trans T.r1) ((World.putObj_heap_other (by omega)).trans T.r2), by rw [HF.out]; rfl, T.be.trans (belowK_b (w := w) (Nat.le_refl _) _ D _ _ (by omega) hK rfl rfl)⟩
end Go.Proofs.Ytkfhmeiiicidaaa

namespace Go.Proofs.Ytkfhmeiiicidaaa
open Go Go.RowKit
set_option linter.unusedVariables false

set_option maxRecDepth 10000 in
set_option maxHeartbeats 4000000 in
theorem implBeat_any (so po ro : Option Addr) (sn sc pn pc rn rc : Nat) (ck tk tok : Int) (b : Bo) (w : World) (hr : BdA w (.slice so sn sc) (.slice po pn pc) (.slice ro rn rc) b) (hz : SizB b) (hz2 : WeiB b 1048576) :
    Calls Try.prog 8 #[bdV (.slice so sn sc) (.slice po pn pc) (.slice ro rn rc) ck tk, .int .i64 tok] w (BeatP b ck tk tok w) := by
  have hrn : b.runs.length = rn := hr.runs.len
  have hr1 : rn ≤ 1048576 := by rw [← hrn]; exact hz.rn
  have HCP : Hid (∀ W, Below w.heap.size w W → Calls Try.prog 22 #[bdV (.slice so sn sc) (.slice po pn pc) (.slice ro rn rc) ck tk] W fun e w' => ∃ (sv pv rv : Value) (s0 s1 p0 p1 r0 r1 : Nat), e = .returned (bdV sv pv rv ck tk) ∧ BdI W.heap.size w'.heap.size w' sv pv rv b s0 s1 p0 p1 r0 r1 ∧ Below W.heap.size W w') := fun W hb => boardCloned_any so po ro sn sc pn pc rn rc ck tk b W (hr.below hb) hz2
  have hzr : ∀ r ∈ b.runs, r.st.length ≤ 1048576 := fun r h => hz.runs r h
  clear hr hz hz2
  obtain ⟨W0, HW0⟩ : ∃ W, Hid ((w.alloc (.cells #[.slice so sn sc, .slice po pn pc, .slice ro rn rc, .int .i64 ck, .int .i64 tk] 32)).alloc (.cells #[.slice none 0 0, .slice none 0 0, .slice none 0 0, .int .i64 0, .int .i64 0] 32) = W) := ⟨_, rfl⟩
  have X0 : B5 32 W0 w.heap.size (.slice so sn sc) (.slice po pn pc) (.slice ro rn rc) (.int .i64 ck) (.int .i64 tk) := by rw [← HW0.out]; exact (B5.new _ _ _ _ _ _ _).alloc _
  have Z0 : B5 32 W0 (w.heap.size + 1) (.slice none 0 0) (.slice none 0 0) (.slice none 0 0) (.int .i64 0) (.int .i64 0) := by
    rw [← HW0.out]
    have := B5.new 32 (w.alloc (.cells #[.slice so sn sc, .slice po pn pc, .slice ro rn rc, .int .i64 ck, .int .i64 tk] 32)) (.slice none 0 0) (.slice none 0 0) (.slice none 0 0) (.int .i64 0) (.int .i64 0)
    simpa using this
  have B0 : Below w.heap.size w W0 := by rw [← HW0.out]; exact ba (ba (Below.refl _ _) _) _
  have hl0 : w.heap.size + 1 < W0.heap.size := Z0.lt
  have x0 := X0.c0
  have x1 := X0.c1
  have x2 := X0.c2
  have x3 := X0.c3
  have x4 := X0.c4
  go_enter Try.func8, Try.ntmps8
  go_wp2_with fail
  rw [HW0.out]
  refine (HCP.out _ B0).mono ?_
  rintro e w1 ⟨sv, pv, rv, s0, s1, p0, p1, r0, r1, rfl, hd, hb1⟩
  have hf := hd.forms
  rw [hrn] at hf
  obtain ⟨⟨a1, n1, c1, rfl⟩, ⟨a2, n2, c2, rfl⟩, a3, c3, rfl⟩ := hf
  have X1 := X0.up hb1
  have Z1 := Z0.up hb1
  have B1 := Below.on B0 hb1
  have hl1 : W0.heap.size ≤ w1.heap.size := hb1.size
  have l0 : w.heap.size < W0.heap.size := by omega
  have hd5 := (((((hd.out (a := ⟨w.heap.size, 0, none⟩) (.inl l0) (.slice a1 n1 c1)).out (a := ⟨w.heap.size, 1, none⟩) (.inl l0) (.slice a2 n2 c2)).out (a := ⟨w.heap.size, 2, none⟩) (.inl l0) (.slice a3 rn c3)).out (a := ⟨w.heap.size, 3, none⟩) (.inl l0) (.int .i64 ck)).out (a := ⟨w.heap.size, 4, none⟩) (.inl l0) (.int .i64 tk))
  have O2 := X1.set (.slice a1 n1 c1) (.slice a2 n2 c2) (.slice a3 rn c3) (.int .i64 ck) (.int .i64 tk)
  have Z2 : B5 32 (set5 w1 w.heap.size (.slice a1 n1 c1) (.slice a2 n2 c2) (.slice a3 rn c3) (.int .i64 ck) (.int .i64 tk)) (w.heap.size + 1) (.slice none 0 0) (.slice none 0 0) (.slice none 0 0) (.int .i64 0) (.int .i64 0) := ((((Z1.far (p := ⟨w.heap.size, 0, none⟩) (by simp) _).far (p := ⟨w.heap.size, 1, none⟩) (by simp) _).far (p := ⟨w.heap.size, 2, none⟩) (by simp) _).far (p := ⟨w.heap.size, 3, none⟩) (by simp) _).far (p := ⟨w.heap.size, 4, none⟩) (by simp) _
  have B2 := below_set5 (b := w.heap.size) B1 (Nat.le_refl _) (.slice a1 n1 c1) (.slice a2 n2 c2) (.slice a3 rn c3) (.int .i64 ck) (.int .i64 tk)
  have hs2 : (set5 w1 w.heap.size (.slice a1 n1 c1) (.slice a2 n2 c2) (.slice a3 rn c3) (.int .i64 ck) (.int .i64 tk)).heap.size = w1.heap.size := by simp [set5]
  have HTK : Hid (Calls Try.prog 23 #[.pointer (some ⟨w.heap.size, 0, none⟩), .int .i64 tok] (set5 w1 w.heap.size (.slice a1 n1 c1) (.slice a2 n2 c2) (.slice a3 rn c3) (.int .i64 ck) (.int .i64 tk)) fun e w' => e = .returned (tokV (tokF b.runs tok)) ∧ Below (set5 w1 w.heap.size (.slice a1 n1 c1) (.slice a2 n2 c2) (.slice a3 rn c3) (.int .i64 ck) (.int .i64 tk)).heap.size (set5 w1 w.heap.size (.slice a1 n1 c1) (.slice a2 n2 c2) (.slice a3 rn c3) (.int .i64 ck) (.int .i64 tk)) w') := runningWith_any w.heap.size _ _ a3 rn c3 ck tk b.runs tok _ O2 hd5.runs.row (by omega) hzr
  have HD2 : Hid (BdI W0.heap.size w1.heap.size (set5 w1 w.heap.size (.slice a1 n1 c1) (.slice a2 n2 c2) (.slice a3 rn c3) (.int .i64 ck) (.int .i64 tk)) (.slice a1 n1 c1) (.slice a2 n2 c2) (.slice a3 rn c3) b s0 s1 p0 p1 r0 r1) := hd5
  have HX1 : Hid (B5 32 w1 w.heap.size (.slice so sn sc) (.slice po pn pc) (.slice ro rn rc) (.int .i64 ck) (.int .i64 tk)) := X1
  have HO2 : Hid (B5 32 (set5 w1 w.heap.size (.slice a1 n1 c1) (.slice a2 n2 c2) (.slice a3 rn c3) (.int .i64 ck) (.int .i64 tk)) w.heap.size (.slice a1 n1 c1) (.slice a2 n2 c2) (.slice a3 rn c3) (.int .i64 ck) (.int .i64 tk)) := O2
  have HZ2 : Hid (B5 32 (set5 w1 w.heap.size (.slice a1 n1 c1) (.slice a2 n2 c2) (.slice a3 rn c3) (.int .i64 ck) (.int .i64 tk)) (w.heap.size + 1) (.slice none 0 0) (.slice none 0 0) (.slice none 0 0) (.int .i64 0) (.int .i64 0)) := Z2
  have HB2 : Hid (Below w.heap.size w (set5 w1 w.heap.size (.slice a1 n1 c1) (.slice a2 n2 c2) (.slice a3 rn c3) (.int .i64 ck) (.int .i64 tk))) := B2
  clear hd hd5 hb1 X0 Z0 B0 X1 Z1 B1 HCP HW0 x0 x1 x2 x3 x4 O2 Z2 B2 hzr
  have x0 := HX1.out.c0
  have x1 := HX1.out.c1
  have x2 := HX1.out.c2
  have x3 := HX1.out.c3
  have x4 := HX1.out.c4
  have f0 := HX1.out.fr 0
  have f1 := HX1.out.fr 1
  have f2 := HX1.out.fr 2
  have f3 := HX1.out.fr 3
  have f4 := HX1.out.fr 4
  go_wp2_with fail
  refine HTK.out.mono ?_
  rintro e w3 ⟨rfl, hb3⟩
  have HD3 : Hid (BdI W0.heap.size w1.heap.size w3 (.slice a1 n1 c1) (.slice a2 n2 c2) (.slice a3 rn c3) b s0 s1 p0 p1 r0 r1) := HD2.out.up hb3
  have X3 := HO2.out.up hb3
  have O3 := X3
  have Z3 := HZ2.out.up hb3
  have B3 := Below.on HB2.out hb3
  have hl3 : w1.heap.size ≤ w3.heap.size := by have := hb3.size; omega
  clear HD2 HO2 HZ2 HB2 hb3 HTK HX1 x0 x1 x2 x3 x4 f0 f1 f2 f3 f4 hs2
  have o0 := O3.c0
  have o1 := O3.c1
  have o2 := O3.c2
  have o3 := O3.c3
  have o4 := O3.c4
  have z0 := Z3.c0
  have z1 := Z3.c1
  have z2 := Z3.c2
  have z3 := Z3.c3
  have z4 := Z3.c4
  have f0 := Z3.fr 0
  have f1 := Z3.fr 1
  have f2 := Z3.fr 2
  have f3 := Z3.fr 3
  have f4 := Z3.fr 4
  have l1 : w.heap.size + 1 < W0.heap.size := hl0
  cases hq : tokF b.runs tok with
  | none =>
    have HT : Hid (beatT b.runs tok = staleT ∧ beatR b.runs ck tok = b.runs) := by
      refine ⟨?_, ?_⟩
      · unfold beatT; rw [hq]
      · unfold beatR; rw [hq]
    clear hq
    simp only [tokV]
    go_wp2
    have HE := Z3.set (.slice a1 n1 c1) (.slice a2 n2 c2) (.slice a3 rn c3) (.int .i64 ck) (.int .i64 tk)
    refine bodyPost_ret (ret_boardT rfl rfl rfl HE) rfl ?_
    refine ⟨_, _, _, s0, s1, p0, p1, r0, r1, by rw [HT.out.1]; rfl, ?_, below_set5 B3 (by omega) _ _ _ _ _⟩
    rw [HT.out.2]
    have hd5 := (((((HD3.out.out (a := ⟨w.heap.size + 1, 0, none⟩) (.inl l1) (.slice a1 n1 c1)).out (a := ⟨w.heap.size + 1, 1, none⟩) (.inl l1) (.slice a2 n2 c2)).out (a := ⟨w.heap.size + 1, 2, none⟩) (.inl l1) (.slice a3 rn c3)).out (a := ⟨w.heap.size + 1, 3, none⟩) (.inl l1) (.int .i64 ck)).out (a := ⟨w.heap.size + 1, 4, none⟩) (.inl l1) (.int .i64 tk))
    exact (hd5.loUp (by omega)).hiUp (by simp; omega)
  | some p =>
    obtain ⟨k, i⟩ := p
    obtain ⟨r, s, h1, h2⟩ := tokF_some hq
    have HT : Hid (beatT b.runs tok = okT ∧ beatR b.runs ck tok = tilR b.runs k i (wrap64 (ck + 5))) := by
      refine ⟨?_, ?_⟩
      · unfold beatT; rw [hq]
      · unfold beatR; rw [hq]
    obtain ⟨gr, cr, gs, cs, er, hgr, d4, hgs, d3, df, hlo, hhi, hup⟩ := HD3.out.runs.beat h1 h2
    rw [hrn] at er
    injection er with er1 er2 er3
    subst er1
    subst er3
    have HUP : Hid (∀ u, RunsI r0 r1 (w3.setCell ⟨gs, i * 4 + 3, none⟩ (.int .i64 u)) (.slice (some ⟨gr, 0, none⟩) rn c3) (tilR b.runs k i u)) := hup
    have hk : k < rn := by rw [← hrn]; exact (List.getElem?_eq_some_iff.1 h1).1
    obtain ⟨m, HM⟩ : ∃ m, Hid (r.st.length = m) := ⟨_, rfl⟩
    have hi : i < m := by rw [← HM.out]; exact (List.getElem?_eq_some_iff.1 h2).1
    rw [HM.out] at d4
    clear hq h1 h2 hup
    simp only [tokV]
    have q2 := Wd.cell o2
    have qx := Wd.cell X3.c3
    have qd := Wd.cell d4
    have hdr : Below w3.heap.size w3 w3.drew := (Below.refl _ _).drew
    go_wp2_with fail
    refine wp_region_pick (fun w' => ∃ x : Wd w3, w' = x.at') [0, 1, 2, 3, 4, 5, 6, 7, 8, 9] 10 0 (by kernel_rfl) (by decide) (by decide) (by kernel_rfl) (fun _ _ d _ _ h => by cases d <;> exact h) ⟨⟨w3.drew, hdr⟩, rfl⟩ ?_
    (repeat (refine wpTakes_l rfl (by first | (intro x h; cases h; done) | (intro x h; cases h; exact ⟨_, rfl⟩)) ?_; go_big_quiet_step (fail); refine wpQuiet_nil ?_)); refine takes_nil ?_
    refine any_done (by kernel_rfl) ?_
    simp only [List.drop_succ_cons, List.drop_zero]
    clear q2 qx qd
    obtain ⟨V, HV⟩ : ∃ V, Hid ((w3.setCell ⟨gs, i * 4 + 3, none⟩ (.int .i64 (wrap64 (ck + 5)))).drew = V) := ⟨_, rfl⟩
    have hgl : W0.heap.size ≤ gs := Nat.le_trans HD3.out.lr hlo
    have hgh : gs < w1.heap.size := Nat.lt_of_lt_of_le hhi HD3.out.hr
    have hVq : ∀ q, q ≠ gs → V.heap[q]? = w3.heap[q]? := fun q hq => by rw [← HV.out]; exact heap_setCell_other w3 ⟨gs, i * 4 + 3, none⟩ q _ hq
    have hVz : V.heap.size = w3.heap.size := by rw [← HV.out]; simp
    have HDV : Hid (BdI W0.heap.size w1.heap.size V (.slice a1 n1 c1) (.slice a2 n2 c2) (.slice (some ⟨gr, 0, none⟩) rn c3) ⟨b.ses, b.plans, tilR b.runs k i (wrap64 (ck + 5))⟩ s0 s1 p0 p1 r0 r1) := by
      have hh := HD3.out
      have g1 := hh.sr
      have g2 := hh.pr
      refine ⟨hh.ses.hold fun q hq => hVq q (by have := (hh.ses.lt q hq).1; have := hh.stop q hq; omega), hh.stop, hh.plans.keep fun q q1 q2 _ => hVq q (by omega), ?_, hh.ls, hh.hs, hh.lp, hh.hp, hh.lr, hh.hr, hh.sp, hh.sr, hh.pr⟩
      rw [← HV.out]
      exact (HUP.out (wrap64 (ck + 5))).keep fun q _ _ _ => rfl
    have OV : B5 32 V w.heap.size (.slice a1 n1 c1) (.slice a2 n2 c2) (.slice (some ⟨gr, 0, none⟩) rn c3) (.int .i64 ck) (.int .i64 tk) := (hVq _ (by omega)).trans O3
    have ZV : B5 32 V (w.heap.size + 1) (.slice none 0 0) (.slice none 0 0) (.slice none 0 0) (.int .i64 0) (.int .i64 0) := (hVq _ (by omega)).trans Z3
    have BV : Below w.heap.size w V := by rw [← HV.out]; exact (B3.setCell (p := ⟨gs, i * 4 + 3, none⟩) (by show w.heap.size ≤ gs; omega) _).drew
    have hV : (w3.setCell ⟨gs, i * 4 + 3, none⟩ (.int .i64 (wrap64 (ck + 5)))).drew = V := HV.out
    clear o0 o1 o2 o3 o4 z0 z1 z2 z3 z4 f0 f1 f2 f3 f4
    have o0 := OV.c0
    have o1 := OV.c1
    have o2 := OV.c2
    have o3 := OV.c3
    have o4 := OV.c4
    have z0 := ZV.c0
    have z1 := ZV.c1
    have z2 := ZV.c2
    have z3 := ZV.c3
    have z4 := ZV.c4
    have f0 := ZV.fr 0
    have f1 := ZV.fr 1
    have f2 := ZV.fr 2
    have f3 := ZV.fr 3
    have f4 := ZV.fr 4
    go_wp2
    have HE := ZV.set (.slice a1 n1 c1) (.slice a2 n2 c2) (.slice (some ⟨gr, 0, none⟩) rn c3) (.int .i64 ck) (.int .i64 tk)
    refine bodyPost_ret (ret_boardT rfl rfl rfl HE) rfl ?_
    refine ⟨_, _, _, s0, s1, p0, p1, r0, r1, by rw [HT.out.1]; rfl, ?_, below_set5 BV (by omega) _ _ _ _ _⟩
    rw [HT.out.2]
    have hd5 := (((((HDV.out.out (a := ⟨w.heap.size + 1, 0, none⟩) (.inl l1) (.slice a1 n1 c1)).out (a := ⟨w.heap.size + 1, 1, none⟩) (.inl l1) (.slice a2 n2 c2)).out (a := ⟨w.heap.size + 1, 2, none⟩) (.inl l1) (.slice (some ⟨gr, 0, none⟩) rn c3)).out (a := ⟨w.heap.size + 1, 3, none⟩) (.inl l1) (.int .i64 ck)).out (a := ⟨w.heap.size + 1, 4, none⟩) (.inl l1) (.int .i64 tk))
    exact (hd5.loUp (by omega)).hiUp (by simp; omega)
end Go.Proofs.Ytkfhmeiiicidaaa
