/-
  Whether a run is over, and how long is waited, on both sides: the walks. A task ends, as the program does it: the walks.
-/
import Derived.Test.YtjmclcjhimcehaaGreatDoorG1
import Derived.Test.YtjmclcjhimcehaaGreatDoorG2
import Derived.Test.YtjmclcjhimcehaaGreatDoorH2
import Derived.Test.YtjmclcjhimcehaaGreatDoorG27
import Derived.Test.YtjmclcjhimcehaaGreatDoorH3
namespace Go.Proofs.YtjmclcjhimcehaaGreatDoor
open Go Go.RowKit
set_option linter.unusedVariables false

set_option maxHeartbeats 400000 in
theorem specBack_any (n : Int) (w : World) : Calls Tryz.prog 59 #[.int .i64 n] w fun e w' => e = .returned (.int .i64 (backN n)) ∧ w' = w := by
  have HB : Hid (backN n = if n = 0 then 1 else if n = 1 then 2 else if n = 2 then 4 else 8) := rfl
  rw [HB.out]
  by_cases h0 : n = 0
  · subst h0
    go_enter Tryz.func59, Tryz.ntmps59
    go_wp2
    go_ret
    exact ⟨rfl, rfl⟩
  rw [if_neg h0]
  by_cases h1 : n = 1
  · subst h1
    go_enter Tryz.func59, Tryz.ntmps59
    go_wp2
    go_ret
    exact ⟨rfl, rfl⟩
  rw [if_neg h1]
  by_cases h2 : n = 2
  · subst h2
    go_enter Tryz.func59, Tryz.ntmps59
    go_wp2
    go_ret
    exact ⟨rfl, rfl⟩
  rw [if_neg h2]
  go_enter Tryz.func59, Tryz.ntmps59
  go_wp2
  go_ret
  exact ⟨rfl, rfl⟩
set_option maxHeartbeats 400000 in
theorem implBack_any (n : Int) (w : World) : Calls Tryz.prog 110 #[.int .i64 n] w fun e w' => e = .returned (.int .i64 (backN n)) ∧ w' = w := by
  have HB : Hid (backN n = if n = 0 then 1 else if n = 1 then 2 else if n = 2 then 4 else 8) := rfl
  rw [HB.out]
  by_cases h0 : n = 0
  · subst h0
    go_enter Tryz.func110, Tryz.ntmps110
    go_wp2
    go_ret
    exact ⟨rfl, rfl⟩
  rw [if_neg h0]
  by_cases h1 : n = 1
  · subst h1
    go_enter Tryz.func110, Tryz.ntmps110
    go_wp2
    go_ret
    exact ⟨rfl, rfl⟩
  rw [if_neg h1]
  by_cases h2 : n = 2
  · subst h2
    go_enter Tryz.func110, Tryz.ntmps110
    go_wp2
    go_ret
    exact ⟨rfl, rfl⟩
  rw [if_neg h2]
  by_cases h3 : n < 0
  · go_enter Tryz.func110, Tryz.ntmps110
    go_wp2
    go_ret
    exact ⟨rfl, rfl⟩
  · have h4 : (2 : Int) < n := by omega
    go_enter Tryz.func110, Tryz.ntmps110
    go_wp2
    go_ret
    exact ⟨rfl, rfl⟩
end Go.Proofs.YtjmclcjhimcehaaGreatDoor

namespace Go.Proofs.YtjmclcjhimcehaaGreatDoor
open Go Go.RowKit
set_option linter.unusedVariables false

def finR (d : Dg) (r : Rr) (i : Int) (good : Bool) (now : Int) : Rr := if finB d r i now = true then ⟨r.nm, r.fr, r.up, r.ep, finishS d r i good now⟩ else noneR
theorem finishS_len (d : Dg) (r : Rr) (i : Int) (good : Bool) (now : Int) : (finishS d r i good now).length = r.st.length := by
  unfold finishS
  split
  · exact List.length_set ..
  · rw [blockL_len]; exact List.length_set ..
theorem finR_len (d : Dg) (r : Rr) (i : Int) (good : Bool) (now : Int) : (finR d r i good now).st.length ≤ r.st.length := by
  unfold finR
  split
  · show (finishS d r i good now).length ≤ _
    rw [finishS_len]
    exact Nat.le_refl _
  · exact Nat.zero_le _
theorem ret_sa1 {w : World} {g : Nat} {is tr tk tl : Int} {fn : Func} {p : Tmp} {tmps : Array Value} (h : fn.results = #[.cell p 85]) (hp : tmps.getD p undef = .pointer (some ⟨g, 0, none⟩)) (hb : S4 w g is tr tk tl) :
    (results fn tmps).run Tryz.prog w = .ok (.agg #[.int .i64 is, .int .i64 tr, .int .i64 tk, .int .i64 tl]) w := by
  have hp' : tmps[p]?.getD undef = .pointer (some ⟨g, 0, none⟩) := by simpa using hp
  simp [results, h, hp', hb.c0, hb.c1, hb.c2, hb.c3, asAddr, go_sem]
set_option maxRecDepth 10000 in
set_option maxHeartbeats 4000000 in
theorem fault_any (is tr tk tl ret now : Int) (w : World) (h3 : 0 ≤ ret) (h4 : ret ≤ 3) (h5 : 0 ≤ now) (h6 : now ≤ 68374079) (h7 : 0 ≤ tr) (h8 : tr ≤ ret + 1) :
    Calls Tryz.prog 63 #[.agg #[.int .i64 is, .int .i64 tr, .int .i64 tk, .int .i64 tl], .int .i64 ret, .int .i64 now] w fun e w' => e = .returned (.agg #[.int .i64 (failS ⟨is, tr, tk, tl⟩ ret now).is, .int .i64 (failS ⟨is, tr, tk, tl⟩ ret now).tries, .int .i64 (failS ⟨is, tr, tk, tl⟩ ret now).tok, .int .i64 (failS ⟨is, tr, tk, tl⟩ ret now).til]) ∧ Below w.heap.size w w' := by
  obtain ⟨m, hm, hmin, hm0, hm1⟩ : ∃ m, m = min tr ret ∧ min tr ret = m ∧ 0 ≤ m ∧ m ≤ ret := ⟨_, rfl, rfl, by omega, by omega⟩
  obtain ⟨W1, hW1⟩ : ∃ W1, (w.alloc (.cells #[.int .i64 is, .int .i64 tr, .int .i64 tk, .int .i64 tl] 85)).alloc (.cells #[.int .i64 0, .int .i64 0, .int .i64 0, .int .i64 0] 85) = W1 := ⟨_, rfl⟩
  have Z1 : S4 W1 w.heap.size is tr tk tl := by rw [← hW1]; exact (S4.new _ _ _ _ _).on (ba (Below.refl _ _) _)
  have Y1 : S4 W1 (w.heap.size + 1) 0 0 0 0 := by
    rw [← hW1]
    have := S4.new (w.alloc (.cells #[.int .i64 is, .int .i64 tr, .int .i64 tk, .int .i64 tl] 85)) 0 0 0 0
    simpa using this
  have B1 : Below w.heap.size w W1 := by rw [← hW1]; exact ba (ba (Below.refl _ _) _) _
  have c1 := Z1.c1
  have y0 := Y1.c0
  have y1 := Y1.c1
  have y2 := Y1.c2
  have y3 := Y1.c3
  have yf := Y1.fz
  have low : w.heap.size ≤ w.heap.size + 1 := Nat.le_succ _
  by_cases hf : ret < m + 1
  · have HE : Hid (failS ⟨is, tr, tk, tl⟩ ret now = ⟨3, m + 1, 0, 0⟩) := by show failS _ _ _ = _; unfold failS; rw [hmin, if_pos hf]
    rw [HE.out]
    have hf' : decide (ret < m + 1) = true := decide_eq_true hf
    clear hm
    go_enter Tryz.func63, Tryz.ntmps63
    go_wp2
    have Y2 := (((Y1.s0 3).s1 (m + 1)).s2 0).s3 0
    exact bodyPost_ret (ret_sa1 rfl rfl Y2) rfl ⟨rfl, (((B1.setCell (p := ⟨w.heap.size + 1, 0, none⟩) low _).setCell (p := ⟨w.heap.size + 1, 1, none⟩) low _).setCell (p := ⟨w.heap.size + 1, 2, none⟩) low _).setCell (p := ⟨w.heap.size + 1, 3, none⟩) low _⟩
  · have HE : Hid (failS ⟨is, tr, tk, tl⟩ ret now = ⟨0, m + 1, 0, now + backN (m + 1)⟩) := by show failS _ _ _ = _; unfold failS; rw [hmin, if_neg hf]
    rw [HE.out]
    have hf' : decide (ret < m + 1) = false := decide_eq_false hf
    have hbk := back_bd (m + 1)
    have HB := implBack_any (m + 1) W1
    obtain ⟨bk, HBK⟩ : ∃ bk, Hid (backN (m + 1) = bk) := ⟨_, rfl⟩
    rw [HBK.out] at HB hbk
    rw [HBK.out]
    clear hm
    go_enter Tryz.func63, Tryz.ntmps63
    go_wp2_with fail
    refine HB.mono ?_
    rintro e w2 ⟨rfl, hw⟩
    have hw2 := hw.symm
    subst hw2
    go_wp2
    have Y2 := (((Y1.s0 0).s1 (m + 1)).s2 0).s3 (now + bk)
    exact bodyPost_ret (ret_sa1 rfl rfl Y2) rfl ⟨rfl, (((B1.setCell (p := ⟨w.heap.size + 1, 0, none⟩) low _).setCell (p := ⟨w.heap.size + 1, 1, none⟩) low _).setCell (p := ⟨w.heap.size + 1, 2, none⟩) low _).setCell (p := ⟨w.heap.size + 1, 3, none⟩) low _⟩
set_option maxRecDepth 10000 in
set_option maxHeartbeats 1000000 in
theorem isMinute_any (m : Int) (w : World) : Calls Tryz.prog 61 #[.int .i64 m] w fun e w' => e = .returned (.bool (decide (0 ≤ m ∧ m ≤ 68374079))) ∧ w' = w := by
  by_cases h0 : 0 ≤ m
  · have h0' : decide (0 ≤ m) = true := decide_eq_true h0
    have HE : Hid (decide (0 ≤ m ∧ m ≤ 68374079) = decide (m ≤ 68374079)) := decide_eq_decide.2 ⟨fun h => h.2, fun h => ⟨h0, h⟩⟩
    rw [HE.out]
    go_enter Tryz.func61, Tryz.ntmps61
    go_wp2
    go_ret
    exact ⟨rfl, rfl⟩
  · have h0' : decide (0 ≤ m) = false := decide_eq_false h0
    have HE : Hid (decide (0 ≤ m ∧ m ≤ 68374079) = false) := decide_eq_false fun h => h0 h.1
    rw [HE.out]
    go_enter Tryz.func61, Tryz.ntmps61
    go_wp2
    go_ret
    exact ⟨rfl, rfl⟩
set_option maxRecDepth 10000 in
set_option maxHeartbeats 8000000 in
theorem implFinish_any (ao : Option Addr) (n cap : Nat) (nm cr : ByteArray) (fr up : Int) (cu : Bool) (ts : List Ta) (ro : Option Addr) (rl rc : Nat) (rn : ByteArray) (rf ru re : Int) (st : List Sa) (i : Int) (good : Bool) (now : Int) (w : World) (hd : DagI w ao n cap ⟨nm, cr, fr, up, cu, ts⟩) (hg : Gl w) (hr : Reads w (.slice ro rl rc) st) (hl : rl ≤ 1048577) (hz : rn.size ≤ 1048576) (R : Rr) (HRR : Hid (finR ⟨nm, cr, fr, up, cu, ts⟩ ⟨rn, rf, ru, re, st⟩ i good now = R)) :
    Calls Tryz.prog 26 #[.agg #[.string nm, .string cr, .int .i64 fr, .int .i64 up, .bool cu, .slice ao n cap], .agg #[.string rn, .int .i64 rf, .int .i64 ru, .int .i64 re, .slice ro rl rc], .int .i64 i, .bool good, .int .i64 now] w fun e w' => ∃ v, e = .returned (.tuple #[.agg #[.string R.nm, .int .i64 R.fr, .int .i64 R.up, .int .i64 R.ep, v], .bool (finB ⟨nm, cr, fr, up, cu, ts⟩ ⟨rn, rf, ru, re, st⟩ i now)]) ∧ ownsR w' w.heap.size 85 v R.st ∧ Below w.heap.size w w' := by
  have HN : Hid (ts.length = n) := by
    obtain ⟨ao', cap', e⟩ := hd.tasks.slice
    injection e with _ e2 _
    exact e2.symm
  have HRN : Hid (st.length = rl) := hr.len.symm
  obtain ⟨q, HQ⟩ : ∃ q, Hid (runB ⟨nm, cr, fr, up, cu, ts⟩ ⟨rn, rf, ru, re, st⟩ = q) := ⟨_, rfl⟩
  have HD : Hid (∀ W, Below w.heap.size w W → Calls Tryz.prog 22 #[.agg #[.string nm, .string cr, .int .i64 fr, .int .i64 up, .bool cu, .slice ao n cap], .agg #[.string rn, .int .i64 rf, .int .i64 ru, .int .i64 re, .slice ro rl rc]] W fun e w' => e = .returned (.bool q) ∧ Below W.heap.size W w') := fun W hb => by
    have := implRunOk_any ao n cap nm cr fr up cu ts ro rl rc rn rf ru re st W (hd.below hb) (hg.up hb) (hr.below hb) hl
    rw [HQ.out] at this
    exact this
  obtain ⟨z, HZ⟩ : ∃ z, Hid (isN st i 1 = z) := ⟨_, rfl⟩
  have HWT : Hid (∀ W : World, Below w.heap.size w W → Calls Tryz.prog 60 #[.agg #[.string rn, .int .i64 rf, .int .i64 ru, .int .i64 re, .slice ro rl rc], .int .i64 i] W fun e w' => e = .returned (.bool z) ∧ Below W.heap.size W w') := fun W hb => by
    have := isRunning_any ro rl rc rn rf ru re st i W (hr.below hb) hl
    rw [HZ.out] at this
    exact this
  obtain ⟨mi, HMI⟩ : ∃ mi, Hid (decide (0 ≤ now ∧ now ≤ 68374079) = mi) := ⟨_, rfl⟩
  have HMN : Hid (∀ W : World, Calls Tryz.prog 61 #[.int .i64 now] W fun e w' => e = .returned (.bool mi) ∧ w' = W) := fun W => by
    have := isMinute_any now W
    rw [HMI.out] at this
    exact this
  have HFB : Hid (finB ⟨nm, cr, fr, up, cu, ts⟩ ⟨rn, rf, ru, re, st⟩ i now = (q && (z && mi))) := by show finB _ _ _ _ = _; unfold finB; rw [HQ.out, HMI.out]; show (q && (isN st i 1 && mi)) = _; rw [HZ.out]
  have HC : Hid (∀ W : World, Below w.heap.size w W → Calls Tryz.prog 62 #[.agg #[.string rn, .int .i64 rf, .int .i64 ru, .int .i64 re, .slice ro rl rc]] W fun e w' => ∃ v, e = .returned (.agg #[.string rn, .int .i64 rf, .int .i64 ru, .int .i64 re, v]) ∧ ownsR w' W.heap.size 85 v st ∧ Below W.heap.size W w') := fun W hb => cloned_any ro rl rc rn rf ru re st W (hr.below hb) hl hz
  have HDI : Hid (∀ W, Below w.heap.size w W → DagI W ao n cap ⟨nm, cr, fr, up, cu, ts⟩) := fun W hb => hd.below hb
  have HGL : Hid (∀ W, Below w.heap.size w W → Gl W) := fun W hb => hg.up hb
  clear hd hg hr
  obtain ⟨W1, hW1⟩ : ∃ W1, ((w.alloc (.cells #[.string nm, .string cr, .int .i64 fr, .int .i64 up, .bool cu, .slice ao n cap] 36)).alloc (.cells #[.string rn, .int .i64 rf, .int .i64 ru, .int .i64 re, .slice ro rl rc] 31)).alloc (.cells #[.string ⟨#[]⟩, .int .i64 0, .int .i64 0, .int .i64 0, .slice none 0 0] 31) = W1 := ⟨_, rfl⟩
  have Z1 : P6 W1 w.heap.size nm cr fr up cu (.slice ao n cap) := by rw [← hW1]; exact (P6.new _ _ _ _ _ _ _).on (ba (ba (Below.refl _ _) (.cells #[.string rn, .int .i64 rf, .int .i64 ru, .int .i64 re, .slice ro rl rc] 31)) (.cells #[.string ⟨#[]⟩, .int .i64 0, .int .i64 0, .int .i64 0, .slice none 0 0] 31))
  have X1 : R5 W1 (w.heap.size + 1) rn rf ru re (.slice ro rl rc) := by
    rw [← hW1]
    have := (R5.new (w.alloc (.cells #[.string nm, .string cr, .int .i64 fr, .int .i64 up, .bool cu, .slice ao n cap] 36)) rn rf ru re (.slice ro rl rc)).on (ba (Below.refl _ _) (.cells #[.string ⟨#[]⟩, .int .i64 0, .int .i64 0, .int .i64 0, .slice none 0 0] 31))
    simpa using this
  have Y1 : R5 W1 (w.heap.size + 1 + 1) ⟨#[]⟩ 0 0 0 (.slice none 0 0) := by
    rw [← hW1]
    have := R5.new ((w.alloc (.cells #[.string nm, .string cr, .int .i64 fr, .int .i64 up, .bool cu, .slice ao n cap] 36)).alloc (.cells #[.string rn, .int .i64 rf, .int .i64 ru, .int .i64 re, .slice ro rl rc] 31)) ⟨#[]⟩ 0 0 0 (.slice none 0 0)
    simpa using this
  have B1 : Below w.heap.size w W1 := by rw [← hW1]; exact ba (ba (ba (Below.refl _ _) _) _) _
  have c0 := Z1.c0
  have c1 := Z1.c1
  have c2 := Z1.c2
  have c3 := Z1.c3
  have c4 := Z1.c4
  have c5 := Z1.c5
  have x0 := X1.c0
  have x1 := X1.c1
  have x2 := X1.c2
  have x3 := X1.c3
  have x4 := X1.c4
  go_enter Tryz.func26, Tryz.ntmps26
  go_wp2_with fail
  refine (HD.out _ B1).mono ?_
  rintro e w2 ⟨rfl, hb2⟩
  have Z2 := Z1.on hb2
  have X2 := X1.on hb2
  have Y2 := Y1.on hb2
  have B2 := Below.on B1 hb2
  clear c0 c1 c2 c3 c4 c5 x0 x1 x2 x3 x4 Z1 X1 Y1 B1 hb2 HD hW1
  cases q with
  | false =>
    have HF : Hid (finB ⟨nm, cr, fr, up, cu, ts⟩ ⟨rn, rf, ru, re, st⟩ i now = false) := HFB.out
    have HR0 : Hid (R = noneR) := by show R = _; rw [← HRR.out]; exact if_neg (by rw [HF.out]; decide)
    have y0 := Y2.c0
    have y1 := Y2.c1
    have y2 := Y2.c2
    have y3 := Y2.c3
    have y4 := Y2.c4
    have yf := Y2.fz
    go_wp2
    refine bodyPost_ret (ret_run2 rfl rfl rfl (Y2.set ⟨#[]⟩ 0 0 0 (.slice none 0 0))) rfl ⟨.slice none 0 0, ?_, ?_, below_putR5 B2 (by omega) ⟨#[]⟩ 0 0 0 (.slice none 0 0)⟩
    · rw [HR0.out, HF.out]; rfl
    · rw [HR0.out]; exact ownsR_nil _ _ _
  | true =>
  have x0 := X2.c0
  have x1 := X2.c1
  have x2 := X2.c2
  have x3 := X2.c3
  have x4 := X2.c4
  go_wp2_with fail
  refine (HWT.out _ B2).mono ?_
  rintro e w3 ⟨rfl, hb3⟩
  have Z3 := Z2.on hb3
  have X3 := X2.on hb3
  have Y3 := Y2.on hb3
  have B3 := Below.on B2 hb3
  clear x0 x1 x2 x3 x4 Z2 X2 Y2 B2 hb3 HWT
  cases z with
  | false =>
    have HF : Hid (finB ⟨nm, cr, fr, up, cu, ts⟩ ⟨rn, rf, ru, re, st⟩ i now = false) := HFB.out
    have HR0 : Hid (R = noneR) := by show R = _; rw [← HRR.out]; exact if_neg (by rw [HF.out]; decide)
    have y0 := Y3.c0
    have y1 := Y3.c1
    have y2 := Y3.c2
    have y3 := Y3.c3
    have y4 := Y3.c4
    have yf := Y3.fz
    go_wp2
    refine bodyPost_ret (ret_run2 rfl rfl rfl (Y3.set ⟨#[]⟩ 0 0 0 (.slice none 0 0))) rfl ⟨.slice none 0 0, ?_, ?_, below_putR5 B3 (by omega) ⟨#[]⟩ 0 0 0 (.slice none 0 0)⟩
    · rw [HR0.out, HF.out]; rfl
    · rw [HR0.out]; exact ownsR_nil _ _ _
  | true =>
  go_wp2_with fail
  refine (HMN.out _).mono ?_
  rintro e w4 ⟨rfl, hw⟩
  have hw2 := hw.symm
  subst hw2
  cases mi with
  | false =>
    have HF : Hid (finB ⟨nm, cr, fr, up, cu, ts⟩ ⟨rn, rf, ru, re, st⟩ i now = false) := HFB.out
    have HR0 : Hid (R = noneR) := by show R = _; rw [← HRR.out]; exact if_neg (by rw [HF.out]; decide)
    have y0 := Y3.c0
    have y1 := Y3.c1
    have y2 := Y3.c2
    have y3 := Y3.c3
    have y4 := Y3.c4
    have yf := Y3.fz
    go_wp2
    refine bodyPost_ret (ret_run2 rfl rfl rfl (Y3.set ⟨#[]⟩ 0 0 0 (.slice none 0 0))) rfl ⟨.slice none 0 0, ?_, ?_, below_putR5 B3 (by omega) ⟨#[]⟩ 0 0 0 (.slice none 0 0)⟩
    · rw [HR0.out, HF.out]; rfl
    · rw [HR0.out]; exact ownsR_nil _ _ _
  | true =>
  have HF : Hid (finB ⟨nm, cr, fr, up, cu, ts⟩ ⟨rn, rf, ru, re, st⟩ i now = true) := HFB.out
  obtain ⟨k, x, ei, hx, hx1⟩ := isN_true HZ.out
  subst ei
  have hk : k < rl := by rw [← HRN.out]; exact (List.getElem?_eq_some_iff.1 hx).1
  have hnow : 0 ≤ now ∧ now ≤ 68374079 := of_decide_eq_true HMI.out
  have HRUN : Hid (runB ⟨nm, cr, fr, up, cu, ts⟩ ⟨rn, rf, ru, re, st⟩ = true) := HQ.out
  have hln : rl = n := by have := run_len HRUN.out; rw [← HRN.out, ← HN.out]; exact this
  subst hln
  obtain ⟨t, ht⟩ : ∃ t, ts[k]? = some t := ⟨_, List.getElem?_eq_getElem (by rw [HN.out]; exact hk)⟩
  have hret : 0 ≤ t.ret ∧ t.ret ≤ 3 := ret_of (d := ⟨nm, cr, fr, up, cu, ts⟩) (run_parts HRUN.out).1 ht
  have hok : saB x t.ret = true := by
    have := (run_ok HRUN.out (i := k) (x := x) hx).1.right
    rw [show retN (Dg.tasks ⟨nm, cr, fr, up, cu, ts⟩) k = t.ret from retN_at ht] at this
    exact this
  have htr : 0 ≤ x.tries ∧ x.tries ≤ t.ret + 1 := ⟨(of_decide_eq_true hok).1, (of_decide_eq_true hok).2.1⟩
  have HR0 : Hid (R = ⟨rn, rf, ru, re, if good = true then st.set k ⟨2, x.tries, 0, 0⟩ else blockL ts (st.set k (failS x t.ret now))⟩) := by
    show R = _
    rw [← HRR.out]
    unfold finR
    rw [HF.out, if_pos rfl]
    show Rr.mk rn rf ru re (finishS ⟨nm, cr, fr, up, cu, ts⟩ ⟨rn, rf, ru, re, st⟩ (k : Int) good now) = _
    unfold finishS
    rw [Int.toNat_natCast, show sAt (Rr.st ⟨rn, rf, ru, re, st⟩) k = x from sAt_at hx, show retN (Dg.tasks ⟨nm, cr, fr, up, cu, ts⟩) k = t.ret from retN_at ht]
  have HX : Hid (st[k]? = some x) := hx
  have HTK : Hid (ts[k]? = some t) := ht
  have HDG : Hid (dagB ⟨nm, cr, fr, up, cu, ts⟩ = true) := (run_parts HRUN.out).1
  obtain ⟨is, tr, tk, tl⟩ := x
  obtain ⟨nn, np, nr, npa, naf⟩ := t
  replace htr : 0 ≤ tr ∧ tr ≤ nr + 1 := htr
  replace hret : 0 ≤ nr ∧ nr ≤ 3 := hret
  replace HR0 : Hid (R = ⟨rn, rf, ru, re, if good = true then st.set k ⟨2, tr, 0, 0⟩ else blockL ts (st.set k (failS ⟨is, tr, tk, tl⟩ nr now))⟩) := HR0
  clear hx hx1 ht hok HRR HFB HQ HZ HMI HMN HRUN
  have x0 := X3.c0
  have x1 := X3.c1
  have x2 := X3.c2
  have x3 := X3.c3
  have x4 := X3.c4
  go_wp2_with fail
  refine (HC.out _ B3).mono ?_
  rintro e w4 ⟨v4, rfl, ho4, hb4⟩
  have Z4 := Z3.on hb4
  have X4 := X3.on hb4
  have Y4 := Y3.on hb4
  have B4 := Below.on B3 hb4
  obtain ⟨g, vc, ev, hg1, hg2, hvc⟩ := own_some ho4 HX.out
  have hgl : w.heap.size + 1 + 1 < g := Nat.lt_of_lt_of_le Y3.lt hg1
  have HO4 : Hid (ownsR w4 w.heap.size 85 v4 st) := ho4.mono B3.size
  clear x0 x1 x2 x3 x4 Z3 X3 Y3 B3 hb4 HC ho4 hg1
  subst ev
  rw [HRN.out] at HO4 hvc
  rw [HRN.out]
  have X5 := X4.set rn rf ru re (.slice (some ⟨g, 0, none⟩) rl vc)
  have Y5 := Y4.farPut (g' := w.heap.size + 1) (nm' := rn) (fr' := rf) (up' := ru) (ep' := re) (tv' := (.slice (some ⟨g, 0, none⟩) rl vc)) (by omega)
  have Z5 : P6 (putR5 w4 (w.heap.size + 1) rn rf ru re (.slice (some ⟨g, 0, none⟩) rl vc)) w.heap.size nm cr fr up cu (.slice ao rl cap) := ((((Z4.far (a := ⟨w.heap.size + 1, 0, none⟩) (by show w.heap.size + 1 ≠ w.heap.size; omega) _).far (a := ⟨w.heap.size + 1, 1, none⟩) (by show w.heap.size + 1 ≠ w.heap.size; omega) _).far (a := ⟨w.heap.size + 1, 2, none⟩) (by show w.heap.size + 1 ≠ w.heap.size; omega) _).far (a := ⟨w.heap.size + 1, 3, none⟩) (by show w.heap.size + 1 ≠ w.heap.size; omega) _).far (a := ⟨w.heap.size + 1, 4, none⟩) (by show w.heap.size + 1 ≠ w.heap.size; omega) _
  have B5 := below_putR5 (g := w.heap.size + 1) B4 (Nat.le_succ _) rn rf ru re (.slice (some ⟨g, 0, none⟩) rl vc)
  have O5 := own_putR5 (b := w.heap.size + 1) HO4.out (not_rowR5 X4 HO4.out) rn rf ru re (.slice (some ⟨g, 0, none⟩) rl vc)
  obtain ⟨W5, hW5⟩ : ∃ W, putR5 w4 (w.heap.size + 1) rn rf ru re (.slice (some ⟨g, 0, none⟩) rl vc) = W := ⟨_, rfl⟩
  have HW5 : Hid (((((w4.setCell ⟨w.heap.size + 1, 0, none⟩ (.string rn)).setCell ⟨w.heap.size + 1, 1, none⟩ (.int .i64 rf)).setCell ⟨w.heap.size + 1, 2, none⟩ (.int .i64 ru)).setCell ⟨w.heap.size + 1, 3, none⟩ (.int .i64 re)).setCell ⟨w.heap.size + 1, 4, none⟩ (.slice (some ⟨g, 0, none⟩) rl vc) = W5) := hW5
  rw [hW5] at X5 Y5 Z5 B5 O5
  have HO5 : Hid (ownsR W5 w.heap.size 85 (.slice (some ⟨g, 0, none⟩) rl vc) st) := O5
  have x0 := X4.c0
  have x1 := X4.c1
  have x2 := X4.c2
  have x3 := X4.c3
  have x4 := X4.c4
  have xf := X4.fz
  clear hW5 O5
  obtain ⟨hg3, ⟨a0, a1, a2, a3⟩, af0, af1, af2, af3⟩ := sa_own HO5.out HX.out
  replace a0 : W5.cell? ⟨g, k * 4, none⟩ = some (.int .i64 is) := a0
  replace a1 : W5.cell? ⟨g, k * 4 + 1, none⟩ = some (.int .i64 tr) := a1
  replace a2 : W5.cell? ⟨g, k * 4 + 2, none⟩ = some (.int .i64 tk) := a2
  replace a3 : W5.cell? ⟨g, k * 4 + 3, none⟩ = some (.int .i64 tl) := a3
  have k4 := X5.c4
  cases good with
  | true =>
    have HR1 : Hid (R = ⟨rn, rf, ru, re, st.set k ⟨2, tr, 0, 0⟩⟩) := HR0.out
    go_wp2_with fail
    rw [HW5.out]
    clear HW5 x0 x1 x2 x3 x4 xf X4 Y4 Z4 B4 HO4
    go_region
    have O6 := (sa_put HO5.out ⟨2, tr, 0, 0⟩ HX.out).drew
    have X6 := ((((X5.far (a := ⟨g, k * 4, none⟩) (by show g ≠ w.heap.size + 1; omega) (.int .i64 2)).far (a := ⟨g, k * 4 + 1, none⟩) (by show g ≠ w.heap.size + 1; omega) (.int .i64 tr)).far (a := ⟨g, k * 4 + 2, none⟩) (by show g ≠ w.heap.size + 1; omega) (.int .i64 0)).far (a := ⟨g, k * 4 + 3, none⟩) (by show g ≠ w.heap.size + 1; omega) (.int .i64 0)).on (Below.refl _ _).drew
    have Y6 := ((((Y5.far (a := ⟨g, k * 4, none⟩) (by show g ≠ w.heap.size + 1 + 1; omega) (.int .i64 2)).far (a := ⟨g, k * 4 + 1, none⟩) (by show g ≠ w.heap.size + 1 + 1; omega) (.int .i64 tr)).far (a := ⟨g, k * 4 + 2, none⟩) (by show g ≠ w.heap.size + 1 + 1; omega) (.int .i64 0)).far (a := ⟨g, k * 4 + 3, none⟩) (by show g ≠ w.heap.size + 1 + 1; omega) (.int .i64 0)).on (Below.refl _ _).drew
    have B6 := ((((B5.setCell (p := ⟨g, k * 4, none⟩) (by show w.heap.size ≤ g; omega) (.int .i64 2)).setCell (p := ⟨g, k * 4 + 1, none⟩) (by show w.heap.size ≤ g; omega) (.int .i64 tr)).setCell (p := ⟨g, k * 4 + 2, none⟩) (by show w.heap.size ≤ g; omega) (.int .i64 0)).setCell (p := ⟨g, k * 4 + 3, none⟩) (by show w.heap.size ≤ g; omega) (.int .i64 0)).drew
    obtain ⟨W6, hW6⟩ : ∃ W, ((((W5.setCell ⟨g, k * 4, none⟩ (.int .i64 2)).setCell ⟨g, k * 4 + 1, none⟩ (.int .i64 tr)).setCell ⟨g, k * 4 + 2, none⟩ (.int .i64 0)).setCell ⟨g, k * 4 + 3, none⟩ (.int .i64 0)).drew = W := ⟨_, rfl⟩
    rw [hW6] at X6 Y6 B6
    have HO6 : Hid (ownsR W6 w.heap.size 85 (.slice (some ⟨g, 0, none⟩) rl vc) (st.set k ⟨2, tr, 0, 0⟩)) := by show ownsR _ _ _ _ _; rw [← hW6]; exact O6
    rw [hW6]
    clear hW6 O6 a0 a1 a2 a3 af0 af1 af2 af3 k4
    have x0 := X6.c0
    have x1 := X6.c1
    have x2 := X6.c2
    have x3 := X6.c3
    have x4 := X6.c4
    have y0 := Y6.c0
    have y1 := Y6.c1
    have y2 := Y6.c2
    have y3 := Y6.c3
    have y4 := Y6.c4
    have yf := Y6.fz
    go_wp2
    refine bodyPost_ret (ret_run2 rfl rfl rfl (Y6.set rn rf ru re (.slice (some ⟨g, 0, none⟩) rl vc))) rfl ⟨(.slice (some ⟨g, 0, none⟩) rl vc), ?_, ?_, below_putR5 B6 (by omega) rn rf ru re (.slice (some ⟨g, 0, none⟩) rl vc)⟩
    · rw [HR1.out, HF.out]; rfl
    · rw [HR1.out]; exact own_putR5 HO6.out (not_rowR5 Y6 HO6.out) rn rf ru re (.slice (some ⟨g, 0, none⟩) rl vc)
  | false =>
    have HR1 : Hid (R = ⟨rn, rf, ru, re, blockL ts (st.set k (failS ⟨is, tr, tk, tl⟩ nr now))⟩) := HR0.out
    obtain ⟨⟨f0, f1, f2, f3⟩, HFS⟩ : ∃ f, Hid (failS ⟨is, tr, tk, tl⟩ nr now = f) := ⟨_, rfl⟩
    have HFA : Hid (∀ W, Calls Tryz.prog 63 #[.agg #[.int .i64 is, .int .i64 tr, .int .i64 tk, .int .i64 tl], .int .i64 nr, .int .i64 now] W fun e w' => e = .returned (.agg #[.int .i64 f0, .int .i64 f1, .int .i64 f2, .int .i64 f3]) ∧ Below W.heap.size W w') := fun W => by
      have := fault_any is tr tk tl nr now W hret.1 hret.2 hnow.1 hnow.2 htr.1 htr.2
      rw [HFS.out] at this
      exact this
    rw [HFS.out] at HR1
    obtain ⟨b1, o1, av, e1, hb1, -, -, n2, -, -, -⟩ := (HDI.out W5 B5).tasks.at HTK.out
    subst e1
    replace n2 : W5.cell? ⟨b1, o1 + k * 5 + 2, none⟩ = some (.int .i64 nr) := n2
    have HBR : Hid (∀ W, Below w.heap.size w W → Reads W (.slice (some ⟨g, 0, none⟩) rl vc) (st.set k ⟨f0, f1, f2, f3⟩) → Calls Tryz.prog 64 #[.agg #[.string nm, .string cr, .int .i64 fr, .int .i64 up, .bool cu, .slice (some ⟨b1, o1, none⟩) rl cap], .agg #[.string rn, .int .i64 rf, .int .i64 ru, .int .i64 re, .slice (some ⟨g, 0, none⟩) rl vc]] W fun e w' => ∃ (va : Option Addr) (vd : Nat), e = .returned (.agg #[.string rn, .int .i64 rf, .int .i64 ru, .int .i64 re, .slice va rl vd]) ∧ ownsR w' W.heap.size 85 (.slice va rl vd) (blockL ts (st.set k ⟨f0, f1, f2, f3⟩)) ∧ Below W.heap.size W w') := fun W hb hrd => by
      have hbl : blkR ⟨nm, cr, fr, up, cu, ts⟩ ⟨rn, rf, ru, re, st.set k ⟨f0, f1, f2, f3⟩⟩ = ⟨rn, rf, ru, re, blockL ts (st.set k ⟨f0, f1, f2, f3⟩)⟩ := by
        show Rr.mk rn rf ru re (blockR ⟨nm, cr, fr, up, cu, ts⟩ _) = _
        unfold blockR
        rw [if_pos ⟨HDG.out, by show (st.set k _).length = ts.length; rw [List.length_set, HRN.out, HN.out]⟩]
      refine (implBlockRest_any (some ⟨b1, o1, none⟩) rl cap nm cr fr up cu ts (some ⟨g, 0, none⟩) rl vc rn rf ru re (st.set k ⟨f0, f1, f2, f3⟩) W (HDI.out W hb) (HGL.out W hb) hrd hl hz _ hbl).mono fun e w' ⟨v, he, ho, hb2⟩ => ?_
      obtain ⟨va, vd, ev⟩ := ho.slice
      have hlen : (blockL ts (st.set k ⟨f0, f1, f2, f3⟩)).length = rl := by rw [blockL_len, List.length_set]; exact HRN.out
      rw [show (Rr.st ⟨rn, rf, ru, re, blockL ts (st.set k ⟨f0, f1, f2, f3⟩)⟩).length = rl from hlen] at ev
      subst ev
      exact ⟨va, vd, he, ho, hb2⟩
    go_wp2_with fail
    rw [HW5.out]
    clear HW5 x0 x1 x2 x3 x4 xf X4 Y4 Z4 B4 HO4
    have q0 := Wd.cell a0
    have q1 := Wd.cell a1
    have q2 := Wd.cell a2
    have q3 := Wd.cell a3
    have qk := Wd.cell k4
    have qz := Wd.cell Z5.c5
    have qn := Wd.cell n2
    have hdr : Below W5.heap.size W5 W5.drew := (Below.refl _ _).drew
    refine wp_region_pick (fun w' => ∃ x : Wd W5, w' = x.at') [0, 1, 2, 3, 4, 5, 6, 7, 8, 9, 10, 11, 12, 13, 14] 17 2 (by kernel_rfl) (by decide) (by decide) (by kernel_rfl) (fun _ _ d _ _ h => by cases d <;> exact h) ⟨⟨W5.drew, hdr⟩, rfl⟩ ?_
    repeat (refine wpTakes_l rfl (by first | (intro x h; cases h; done) | (intro x h; cases h; exact ⟨_, rfl⟩)) ?_; go_big_quiet_step (fail); refine wpQuiet_nil ?_)
    refine takes_nil ?_
    refine any_one (fuel := 1) (i := 15) (by kernel_rfl) rfl rfl ?_
    intro K hK
    go_wp2_with fail
    refine (HFA.out _).mono ?_
    rintro e w6 ⟨rfl, hb6⟩
    have B56 : Below W5.heap.size W5 w6 := Below.on hdr hb6
    clear hb6
    go_wp2
    refine hK.out _ _ ⟨⟨w6, B56⟩, rfl⟩ ?_
    clear hK K
    refine pk_takes [16] 17 0 ⟨⟨w6, B56⟩, rfl⟩ (by kernel_rfl) (fun _ _ d _ _ h => by cases d <;> exact h) ?_
    repeat (refine wpTakes_l rfl (by first | (intro x h; cases h; done) | (intro x h; cases h; exact ⟨_, rfl⟩)) ?_; go_big_quiet_step (fail); refine wpQuiet_nil ?_)
    refine takes_nil ?_
    refine any_done (by kernel_rfl) ?_
    simp only [List.drop_succ_cons, List.drop_zero]
    have O7 : ownsR w6 w.heap.size 85 (.slice (some ⟨g, 0, none⟩) rl vc) st := HO5.out.all B56
    have HO7 : Hid (ownsR w6 w.heap.size 85 (.slice (some ⟨g, 0, none⟩) rl vc) st) := O7
    have X7 := X5.on B56
    have Y7 := Y5.on B56
    have Z7 := Z5.on B56
    have B7 := Below.on B5 B56
    obtain ⟨hg7, ⟨d0, d1, d2, d3⟩, df0, df1, df2, df3⟩ := sa_own O7 HX.out
    clear O7 a0 a1 a2 a3 af0 af1 af2 af3 k4 q0 q1 q2 q3 qk qz qn n2 hdr HO5 X5 Y5 Z5 HFA
    have O8 := sa_put HO7.out ⟨f0, f1, f2, f3⟩ HX.out
    have X8 := (((X7.far (a := ⟨g, k * 4, none⟩) (by show g ≠ w.heap.size + 1; omega) (.int .i64 f0)).far (a := ⟨g, k * 4 + 1, none⟩) (by show g ≠ w.heap.size + 1; omega) (.int .i64 f1)).far (a := ⟨g, k * 4 + 2, none⟩) (by show g ≠ w.heap.size + 1; omega) (.int .i64 f2)).far (a := ⟨g, k * 4 + 3, none⟩) (by show g ≠ w.heap.size + 1; omega) (.int .i64 f3)
    have Y8 := (((Y7.far (a := ⟨g, k * 4, none⟩) (by show g ≠ w.heap.size + 1 + 1; omega) (.int .i64 f0)).far (a := ⟨g, k * 4 + 1, none⟩) (by show g ≠ w.heap.size + 1 + 1; omega) (.int .i64 f1)).far (a := ⟨g, k * 4 + 2, none⟩) (by show g ≠ w.heap.size + 1 + 1; omega) (.int .i64 f2)).far (a := ⟨g, k * 4 + 3, none⟩) (by show g ≠ w.heap.size + 1 + 1; omega) (.int .i64 f3)
    have Z8 := (((Z7.far (a := ⟨g, k * 4, none⟩) (by show g ≠ w.heap.size; omega) (.int .i64 f0)).far (a := ⟨g, k * 4 + 1, none⟩) (by show g ≠ w.heap.size; omega) (.int .i64 f1)).far (a := ⟨g, k * 4 + 2, none⟩) (by show g ≠ w.heap.size; omega) (.int .i64 f2)).far (a := ⟨g, k * 4 + 3, none⟩) (by show g ≠ w.heap.size; omega) (.int .i64 f3)
    have B8 := (((B7.setCell (p := ⟨g, k * 4, none⟩) (by show w.heap.size ≤ g; omega) (.int .i64 f0)).setCell (p := ⟨g, k * 4 + 1, none⟩) (by show w.heap.size ≤ g; omega) (.int .i64 f1)).setCell (p := ⟨g, k * 4 + 2, none⟩) (by show w.heap.size ≤ g; omega) (.int .i64 f2)).setCell (p := ⟨g, k * 4 + 3, none⟩) (by show w.heap.size ≤ g; omega) (.int .i64 f3)
    obtain ⟨W8, hW8⟩ : ∃ W, (((w6.setCell ⟨g, k * 4, none⟩ (.int .i64 f0)).setCell ⟨g, k * 4 + 1, none⟩ (.int .i64 f1)).setCell ⟨g, k * 4 + 2, none⟩ (.int .i64 f2)).setCell ⟨g, k * 4 + 3, none⟩ (.int .i64 f3) = W := ⟨_, rfl⟩
    have HW8 : Hid ((((w6.setCell ⟨g, k * 4, none⟩ (.int .i64 f0)).setCell ⟨g, k * 4 + 1, none⟩ (.int .i64 f1)).setCell ⟨g, k * 4 + 2, none⟩ (.int .i64 f2)).setCell ⟨g, k * 4 + 3, none⟩ (.int .i64 f3) = W8) := hW8
    rw [hW8] at X8 Y8 Z8 B8
    have HO8 : Hid (ownsR W8 w.heap.size 85 (.slice (some ⟨g, 0, none⟩) rl vc) (st.set k ⟨f0, f1, f2, f3⟩)) := by show ownsR _ _ _ _ _; rw [← hW8]; exact O8
    clear hW8 O8
    have c0 := Z8.c0
    have c1 := Z8.c1
    have c2 := Z8.c2
    have c3 := Z8.c3
    have c4 := Z8.c4
    have c5 := Z8.c5
    have x0 := X8.c0
    have x1 := X8.c1
    have x2 := X8.c2
    have x3 := X8.c3
    have x4 := X8.c4
    go_wp2_with (rw [HW8.out])
    refine (HBR.out _ B8 HO8.out.reads).mono ?_
    rintro e w9 ⟨va9, vd9, rfl, ho9, hb9⟩
    have Y9 := Y8.on hb9
    have B9 := Below.on B8 hb9
    have HO9 : Hid (ownsR w9 w.heap.size 85 (.slice va9 rl vd9) (blockL ts (st.set k ⟨f0, f1, f2, f3⟩))) := ho9.mono B8.size
    clear c0 c1 c2 c3 c4 c5 x0 x1 x2 x3 x4 HW8 X8 Y8 Z8 B8 HO8 hb9 ho9 d0 d1 d2 d3 df0 df1 df2 df3
    have y0 := Y9.c0
    have y1 := Y9.c1
    have y2 := Y9.c2
    have y3 := Y9.c3
    have y4 := Y9.c4
    have yf := Y9.fz
    go_wp2
    refine bodyPost_ret (ret_run2 rfl rfl rfl (Y9.set rn rf ru re (.slice va9 rl vd9))) rfl ⟨.slice va9 rl vd9, ?_, ?_, below_putR5 B9 (by omega) rn rf ru re _⟩
    · rw [HR1.out, HF.out]; rfl
    · rw [HR1.out]; exact own_putR5 HO9.out (not_rowR5 Y9 HO9.out) rn rf ru re _
end Go.Proofs.YtjmclcjhimcehaaGreatDoor
