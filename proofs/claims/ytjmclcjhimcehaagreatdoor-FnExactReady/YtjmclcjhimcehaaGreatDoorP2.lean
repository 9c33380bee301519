/-
  Whether a task may begin, on both sides: the walks.
-/
import Derived.Test.YtjmclcjhimcehaaGreatDoorG27
import Derived.Test.YtjmclcjhimcehaaGreatDoorG28
import Derived.Test.YtjmclcjhimcehaaGreatDoorP1
namespace Go.Proofs.YtjmclcjhimcehaaGreatDoor
open Go Go.RowKit
set_option linter.unusedVariables false

/-- What is asked of a task of a right run. -/
def redB (d : Dg) (r : Rr) (i : Int) (past : Bool) (now : Int) : Bool := isN r.st i 0 && (decide ((sAt r.st i.toNat).til ≤ now) && (!(upsA d.tasks i).any (undoneB r.st) && (past || !pastN d.tasks i.toNat)))
theorem ready_eq (d : Dg) (r : Rr) (i : Int) (past : Bool) (now : Int) : readyB d r i past now = (runB d r && redB d r i past now) := rfl
theorem red_at {d : Dg} {r : Rr} {k : Nat} {x : Sa} {t : Ta} {past : Bool} {now : Int} (hx : r.st[k]? = some x) (ht : d.tasks[k]? = some t) : redB d r (k : Int) past now = (decide (x.is = 0) && (decide (x.til ≤ now) && (!(upsA d.tasks (k : Int)).any (undoneB r.st) && (past || !t.past)))) := by
  unfold redB
  rw [isN_in hx, Int.toNat_natCast, sAt_at hx, pastN_at ht]

set_option maxRecDepth 10000 in
set_option maxHeartbeats 8000000 in
theorem l14Ready_any (ao : Option Addr) (n cap : Nat) (nm cr : ByteArray) (fr up : Int) (cu : Bool) (ts : List Ta) (ro : Option Addr) (rl rc : Nat) (rn : ByteArray) (rf ru re : Int) (st : List Sa) (i : Int) (past : Bool) (now : Int) (w : World) (ht : Tasks w (.slice ao n cap) ts) (hrg : Rg4 ts) (hr : Reads w (.slice ro rl rc) st) (hl : rl = n) :
    Calls Tryz.prog 51 #[.agg #[.string nm, .string cr, .int .i64 fr, .int .i64 up, .bool cu, .slice ao n cap], .agg #[.string rn, .int .i64 rf, .int .i64 ru, .int .i64 re, .slice ro rl rc], .int .i64 i, .bool past, .int .i64 now] w fun e w' => e = .returned (.bool (redB ⟨nm, cr, fr, up, cu, ts⟩ ⟨rn, rf, ru, re, st⟩ i past now)) ∧ Below w.heap.size w w' := by
  subst hl
  have HN : Hid (ts.length = rl) := by
    obtain ⟨ao', cap', e⟩ := ht.slice
    injection e with _ e2 _
    exact e2.symm
  have HRN : Hid (st.length = rl) := hr.len.symm
  have hn4 : rl ≤ 4 := by rw [← HN.out]; exact hrg.few
  obtain ⟨W1, hW1⟩ : ∃ W1, (w.alloc (.cells #[.string nm, .string cr, .int .i64 fr, .int .i64 up, .bool cu, .slice ao rl cap] 36)).alloc (.cells #[.string rn, .int .i64 rf, .int .i64 ru, .int .i64 re, .slice ro rl rc] 31) = W1 := ⟨_, rfl⟩
  have Z1 : P6 W1 w.heap.size nm cr fr up cu (.slice ao rl cap) := by rw [← hW1]; exact (P6.new _ _ _ _ _ _ _).on (ba (Below.refl _ _) _)
  have X1 : R5 W1 (w.heap.size + 1) rn rf ru re (.slice ro rl rc) := by
    rw [← hW1]
    have := R5.new (w.alloc (.cells #[.string nm, .string cr, .int .i64 fr, .int .i64 up, .bool cu, .slice ao rl cap] 36)) rn rf ru re (.slice ro rl rc)
    simpa using this
  have B1 : Below w.heap.size w W1 := by rw [← hW1]; exact ba (ba (Below.refl _ _) _) _
  have x4 := X1.c4
  by_cases hi : 0 ≤ i ∧ i < (rl : Int)
  case neg =>
    have HE : Hid (redB ⟨nm, cr, fr, up, cu, ts⟩ ⟨rn, rf, ru, re, st⟩ i past now = false) := by
      show redB _ _ _ _ _ = false
      unfold redB
      rw [isN_out (by show i < 0 ∨ (st.length : Int) ≤ i; have := HRN.out; omega)]
      rfl
    have HI := inB_any i 0 ((rl : Int) - 1) false (decide_eq_false (by omega)) W1
    clear hi ht hr
    go_enter Tryz.func51, Tryz.ntmps51
    go_wp2_with fail
    refine HI.mono ?_
    rintro e w2 ⟨rfl, hb2⟩
    have B2 := Below.on B1 hb2
    go_wp2
    go_ret
    exact ⟨by rw [HE.out]; rfl, B2⟩
  have HI := inB_any i 0 ((rl : Int) - 1) true (decide_eq_true (by omega)) W1
  obtain ⟨k, rfl⟩ : ∃ k : Nat, i = (k : Int) := ⟨i.toNat, by omega⟩
  have hk : k < rl := by omega
  obtain ⟨t, htt⟩ : ∃ t, ts[k]? = some t := ⟨_, List.getElem?_eq_getElem (by rw [HN.out]; exact hk)⟩
  obtain ⟨x, hx⟩ : ∃ x, st[k]? = some x := ⟨_, List.getElem?_eq_getElem (by rw [HRN.out]; exact hk)⟩
  have HE : Hid (redB ⟨nm, cr, fr, up, cu, ts⟩ ⟨rn, rf, ru, re, st⟩ (k : Int) past now = (decide (x.is = 0) && (decide (x.til ≤ now) && (!(upsA ts (k : Int)).any (undoneB st) && (past || !t.past))))) := red_at (d := ⟨nm, cr, fr, up, cu, ts⟩) (r := ⟨rn, rf, ru, re, st⟩) hx htt
  obtain ⟨A, HAE⟩ : ∃ A, Hid ((upsA ts (k : Int)).any (undoneB st) = A) := ⟨_, rfl⟩
  obtain ⟨S, HSE⟩ : ∃ S, Hid ((upsA ts (k : Int)).any (stuckB st) = S) := ⟨_, rfl⟩
  rw [HAE.out] at HE
  have HUP : Hid (∀ W, Below w.heap.size w W → Calls Tryz.prog 65 #[.agg #[.string nm, .string cr, .int .i64 fr, .int .i64 up, .bool cu, .slice ao rl cap], .agg #[.string rn, .int .i64 rf, .int .i64 ru, .int .i64 re, .slice ro rl rc], .int .i64 k] W fun e w' => e = .returned (.tuple #[.bool (!A), .bool S]) ∧ Below W.heap.size W w') := fun W hb => by
    have := l14Ups_any ao rl cap nm cr fr up cu ts ro rl rc rn rf ru re st k W (ht.below hb) hrg hk (hr.below hb) rfl
    rw [HAE.out, HSE.out] at this
    exact this
  have HTA : Hid (∀ W, Below w.heap.size w W → ∃ b1 o1, ao = some ⟨b1, o1, none⟩ ∧ W.cell? ⟨b1, o1 + k * 5 + 3, none⟩ = some (.bool t.past)) := fun W hb => by
    obtain ⟨b1, o1, av, e1, _, _, _, _, n3, _, _⟩ := (ht.below hb).at htt
    exact ⟨b1, o1, e1, n3⟩
  have HSA : Hid (∀ W, Below w.heap.size w W → ∃ bs os, ro = some ⟨bs, os, none⟩ ∧ W.cell? ⟨bs, os + k * 4, none⟩ = some (.int .i64 x.is) ∧ W.cell? ⟨bs, os + k * 4 + 3, none⟩ = some (.int .i64 x.til)) := fun W hb => by
    obtain ⟨bs, os, es, _, d0, _, _, d3⟩ := sa_at (hr.below hb) hx
    exact ⟨bs, os, es, d0, d3⟩
  clear ht hr htt hx hi hrg HAE HSE
  go_enter Tryz.func51, Tryz.ntmps51
  go_wp2_with fail
  refine HI.mono ?_
  rintro e w2 ⟨rfl, hb2⟩
  have Z2 := Z1.on hb2
  have X2 := X1.on hb2
  have B2 := Below.on B1 hb2
  clear x4 Z1 X1 B1 hb2 HI hW1
  have c0 := Z2.c0
  have c1 := Z2.c1
  have c2 := Z2.c2
  have c3 := Z2.c3
  have c4 := Z2.c4
  have c5 := Z2.c5
  have x0 := X2.c0
  have x1 := X2.c1
  have x2 := X2.c2
  have x3 := X2.c3
  have x4 := X2.c4
  go_wp2_with fail
  refine (HUP.out _ B2).mono ?_
  rintro e w3 ⟨rfl, hb3⟩
  have Z3 := Z2.on hb3
  have X3 := X2.on hb3
  have B3 := Below.on B2 hb3
  clear c0 c1 c2 c3 c4 c5 x0 x1 x2 x3 x4 Z2 X2 B2 hb3 HUP
  obtain ⟨b1, o1, e1, n3⟩ := HTA.out w3 B3
  obtain ⟨bs, os, es, d0, d3⟩ := HSA.out w3 B3
  subst e1 es
  obtain ⟨is, tr, tk, tl⟩ := x
  replace d0 : w3.cell? ⟨bs, os + k * 4, none⟩ = some (.int .i64 is) := d0
  replace d3 : w3.cell? ⟨bs, os + k * 4 + 3, none⟩ = some (.int .i64 tl) := d3
  replace HE : Hid (redB ⟨nm, cr, fr, up, cu, ts⟩ ⟨rn, rf, ru, re, st⟩ (k : Int) past now = (decide (is = 0) && (decide (tl ≤ now) && (!A && (past || !t.past))))) := HE
  clear HTA HSA
  have c5 := Z3.c5
  have x4 := X3.c4
  by_cases h0 : is = 0
  case neg =>
    have HE2 : Hid (redB ⟨nm, cr, fr, up, cu, ts⟩ ⟨rn, rf, ru, re, st⟩ (k : Int) past now = false) := by show redB _ _ _ _ _ = false; rw [HE.out, decide_eq_false h0]; rfl
    have h0' : (is == 0) = false := beq_eq_false_iff_ne.2 h0
    clear HE
    go_wp2
    go_ret
    exact ⟨by rw [HE2.out]; rfl, B3⟩
  subst h0
  by_cases h1 : tl ≤ now
  case neg =>
    have HE2 : Hid (redB ⟨nm, cr, fr, up, cu, ts⟩ ⟨rn, rf, ru, re, st⟩ (k : Int) past now = false) := by show redB _ _ _ _ _ = false; rw [HE.out, decide_eq_false h1]; rfl
    have h1' : decide (tl ≤ now) = false := decide_eq_false h1
    clear HE
    go_wp2
    go_ret
    exact ⟨by rw [HE2.out]; rfl, B3⟩
  have h1' : decide (tl ≤ now) = true := decide_eq_true h1
  have HE2 : Hid (redB ⟨nm, cr, fr, up, cu, ts⟩ ⟨rn, rf, ru, re, st⟩ (k : Int) past now = (!A && (past || !t.past))) := by show redB _ _ _ _ _ = _; rw [HE.out, h1']; rfl
  clear HE
  cases A <;> cases past <;> (go_wp2; go_ret; exact ⟨by rw [HE2.out]; rfl, B3⟩)
set_option maxRecDepth 10000 in
set_option maxHeartbeats 4000000 in
theorem specReady_any (ao : Option Addr) (n cap : Nat) (nm cr : ByteArray) (fr up : Int) (cu : Bool) (ts : List Ta) (ro : Option Addr) (rl rc : Nat) (rn : ByteArray) (rf ru re : Int) (st : List Sa) (i : Int) (past : Bool) (now : Int) (w : World) (hd : DagAt w (.slice ao n cap) ⟨nm, cr, fr, up, cu, ts⟩) (hr : Reads w (.slice ro rl rc) st) (hl : rl ≤ 1048577) :
    Calls Tryz.prog 23 #[.agg #[.string nm, .string cr, .int .i64 fr, .int .i64 up, .bool cu, .slice ao n cap], .agg #[.string rn, .int .i64 rf, .int .i64 ru, .int .i64 re, .slice ro rl rc], .int .i64 i, .bool past, .int .i64 now] w fun e w' => e = .returned (.bool (readyB ⟨nm, cr, fr, up, cu, ts⟩ ⟨rn, rf, ru, re, st⟩ i past now)) ∧ Below w.heap.size w w' := by
  have HN : Hid (ts.length = n) := by
    obtain ⟨ao', cap', e⟩ := hd.tasks.slice
    injection e with _ e2 _
    exact e2.symm
  obtain ⟨q, HQ⟩ : ∃ q, Hid (runB ⟨nm, cr, fr, up, cu, ts⟩ ⟨rn, rf, ru, re, st⟩ = q) := ⟨_, rfl⟩
  have HD : Hid (∀ W, Below w.heap.size w W → Calls Tryz.prog 20 #[.agg #[.string nm, .string cr, .int .i64 fr, .int .i64 up, .bool cu, .slice ao n cap], .agg #[.string rn, .int .i64 rf, .int .i64 ru, .int .i64 re, .slice ro rl rc]] W fun e w' => e = .returned (.bool q) ∧ Below W.heap.size W w') := fun W hb => by
    have := specRunOk_any ao n cap nm cr fr up cu ts ro rl rc rn rf ru re st W (hd.below hb) (hr.below hb) hl
    rw [HQ.out] at this
    exact this
  have HR : Hid (q = true → ∀ W, Below w.heap.size w W → Calls Tryz.prog 51 #[.agg #[.string nm, .string cr, .int .i64 fr, .int .i64 up, .bool cu, .slice ao n cap], .agg #[.string rn, .int .i64 rf, .int .i64 ru, .int .i64 re, .slice ro rl rc], .int .i64 i, .bool past, .int .i64 now] W fun e w' => e = .returned (.bool (redB ⟨nm, cr, fr, up, cu, ts⟩ ⟨rn, rf, ru, re, st⟩ i past now)) ∧ Below W.heap.size W w') := fun h W hb => l14Ready_any ao n cap nm cr fr up cu ts ro rl rc rn rf ru re st i past now W (hd.tasks.below hb) (rg_of (run_parts (HQ.out.trans h)).1) (hr.below hb) (by have := run_len (HQ.out.trans h); rw [hr.len, ← HN.out]; exact this)
  have HRB : Hid (readyB ⟨nm, cr, fr, up, cu, ts⟩ ⟨rn, rf, ru, re, st⟩ i past now = (q && redB ⟨nm, cr, fr, up, cu, ts⟩ ⟨rn, rf, ru, re, st⟩ i past now)) := by show readyB _ _ _ _ _ = _; rw [ready_eq, HQ.out]
  rw [HRB.out]
  clear hd hr HQ
  obtain ⟨W1, hW1⟩ : ∃ W1, (w.alloc (.cells #[.string nm, .string cr, .int .i64 fr, .int .i64 up, .bool cu, .slice ao n cap] 36)).alloc (.cells #[.string rn, .int .i64 rf, .int .i64 ru, .int .i64 re, .slice ro rl rc] 31) = W1 := ⟨_, rfl⟩
  have Z1 : P6 W1 w.heap.size nm cr fr up cu (.slice ao n cap) := by rw [← hW1]; exact (P6.new _ _ _ _ _ _ _).on (ba (Below.refl _ _) _)
  have X1 : R5 W1 (w.heap.size + 1) rn rf ru re (.slice ro rl rc) := by
    rw [← hW1]
    have := R5.new (w.alloc (.cells #[.string nm, .string cr, .int .i64 fr, .int .i64 up, .bool cu, .slice ao n cap] 36)) rn rf ru re (.slice ro rl rc)
    simpa using this
  have B1 : Below w.heap.size w W1 := by rw [← hW1]; exact ba (ba (Below.refl _ _) _) _
  have c0 := Z1.c0
  have c1 := Z1.c1
  have c2 := Z1.c2
  have c3 := Z1.c3
  have c4 := Z1.c4
  have c5 := Z1.c5
  have x0 := X1.c0
  have x1 := X1.c1
  have x2 := X1.c2
  have x3 := X1.c3
  have x4 := X1.c4
  go_enter Tryz.func23, Tryz.ntmps23
  go_wp2_with fail
  refine (HD.out _ B1).mono ?_
  rintro e w2 ⟨rfl, hb2⟩
  have Z2 := Z1.on hb2
  have X2 := X1.on hb2
  have B2 := Below.on B1 hb2
  clear c0 c1 c2 c3 c4 c5 x0 x1 x2 x3 x4 Z1 X1 B1 hb2 HD hW1
  cases q with
  | false =>
    go_wp2
    go_ret
    exact ⟨rfl, B2⟩
  | true =>
    have HR2 := HR.out rfl
    have HR3 : Hid (∀ W, Below w.heap.size w W → Calls Tryz.prog 51 #[.agg #[.string nm, .string cr, .int .i64 fr, .int .i64 up, .bool cu, .slice ao n cap], .agg #[.string rn, .int .i64 rf, .int .i64 ru, .int .i64 re, .slice ro rl rc], .int .i64 i, .bool past, .int .i64 now] W fun e w' => e = .returned (.bool (redB ⟨nm, cr, fr, up, cu, ts⟩ ⟨rn, rf, ru, re, st⟩ i past now)) ∧ Below W.heap.size W w') := HR2
    clear HR HR2
    have c0 := Z2.c0
    have c1 := Z2.c1
    have c2 := Z2.c2
    have c3 := Z2.c3
    have c4 := Z2.c4
    have c5 := Z2.c5
    have x0 := X2.c0
    have x1 := X2.c1
    have x2 := X2.c2
    have x3 := X2.c3
    have x4 := X2.c4
    go_wp2_with fail
    refine (HR3.out _ B2).mono ?_
    rintro e w3 ⟨rfl, hb3⟩
    have B3 := Below.on B2 hb3
    go_wp2
    go_ret
    exact ⟨rfl, B3⟩
set_option maxRecDepth 10000 in
set_option maxHeartbeats 8000000 in
theorem implReady_any (ao : Option Addr) (n cap : Nat) (nm cr : ByteArray) (fr up : Int) (cu : Bool) (ts : List Ta) (ro : Option Addr) (rl rc : Nat) (rn : ByteArray) (rf ru re : Int) (st : List Sa) (i : Int) (past : Bool) (now : Int) (w : World) (hd : DagI w ao n cap ⟨nm, cr, fr, up, cu, ts⟩) (hg : Gl w) (hr : Reads w (.slice ro rl rc) st) (hl : rl ≤ 1048577) :
    Calls Tryz.prog 24 #[.agg #[.string nm, .string cr, .int .i64 fr, .int .i64 up, .bool cu, .slice ao n cap], .agg #[.string rn, .int .i64 rf, .int .i64 ru, .int .i64 re, .slice ro rl rc], .int .i64 i, .bool past, .int .i64 now] w fun e w' => e = .returned (.bool (readyB ⟨nm, cr, fr, up, cu, ts⟩ ⟨rn, rf, ru, re, st⟩ i past now)) ∧ Below w.heap.size w w' := by
  have HN : Hid (ts.length = n) := by
    obtain ⟨ao', cap', e⟩ := hd.tasks.slice
    injection e with _ e2 _
    exact e2.symm
  have HRN : Hid (st.length = rl) := hr.len.symm
  obtain ⟨q, HQ⟩ : ∃ q, Hid (runB ⟨nm, cr, fr, up, cu, ts⟩ ⟨rn, rf, ru, re, st⟩ = q) := ⟨_, rfl⟩
  have HD : Hid (∀ W, Below w.heap.size w W → Calls Tryz.prog 22 #[.agg #[.string nm, .string cr, .int .i64 fr, .int .i64 up, .bool cu, .slice ao n cap], .agg #[.string rn, .int .i64 rf, .int .i64 ru, .int .i64 re, .slice ro rl rc]] W fun e w' => e = .returned (.bool q) ∧ Below W.heap.size W w') := fun W hb => by
    have := implRunOk_any ao n cap nm cr fr up cu ts ro rl rc rn rf ru re st W (hd.below hb) (hg.up hb) (hr.below hb) hl
    rw [HQ.out] at this
    exact this
  obtain ⟨z, HZ⟩ : ∃ z, Hid (isN st i 0 = z) := ⟨_, rfl⟩
  have HWT : Hid (∀ W : World, Below w.heap.size w W → Calls Tryz.prog 52 #[.agg #[.string rn, .int .i64 rf, .int .i64 ru, .int .i64 re, .slice ro rl rc], .int .i64 i] W fun e w' => e = .returned (.bool z) ∧ Below W.heap.size W w') := fun W hb => by
    have := isWaiting_any ro rl rc rn rf ru re st i W (hr.below hb) hl
    rw [HZ.out] at this
    exact this
  have HRB : Hid (readyB ⟨nm, cr, fr, up, cu, ts⟩ ⟨rn, rf, ru, re, st⟩ i past now = (q && redB ⟨nm, cr, fr, up, cu, ts⟩ ⟨rn, rf, ru, re, st⟩ i past now)) := by show readyB _ _ _ _ _ = _; rw [ready_eq, HQ.out]
  have HRG : Hid (q = true → Rg4 ts ∧ rl = n) := fun h => ⟨rg_of (run_parts (HQ.out.trans h)).1, by have := run_len (HQ.out.trans h); rw [← HRN.out, ← HN.out]; exact this⟩
  have HDI : Hid (∀ W, Below w.heap.size w W → DagI W ao n cap ⟨nm, cr, fr, up, cu, ts⟩) := fun W hb => hd.below hb
  have HRD : Hid (∀ W, Below w.heap.size w W → Reads W (.slice ro rl rc) st) := fun W hb => hr.below hb
  clear hd hr HQ hg
  obtain ⟨W1, hW1⟩ : ∃ W1, (w.alloc (.cells #[.string nm, .string cr, .int .i64 fr, .int .i64 up, .bool cu, .slice ao n cap] 36)).alloc (.cells #[.string rn, .int .i64 rf, .int .i64 ru, .int .i64 re, .slice ro rl rc] 31) = W1 := ⟨_, rfl⟩
  have Z1 : P6 W1 w.heap.size nm cr fr up cu (.slice ao n cap) := by rw [← hW1]; exact (P6.new _ _ _ _ _ _ _).on (ba (Below.refl _ _) _)
  have X1 : R5 W1 (w.heap.size + 1) rn rf ru re (.slice ro rl rc) := by
    rw [← hW1]
    have := R5.new (w.alloc (.cells #[.string nm, .string cr, .int .i64 fr, .int .i64 up, .bool cu, .slice ao n cap] 36)) rn rf ru re (.slice ro rl rc)
    simpa using this
  have B1 : Below w.heap.size w W1 := by rw [← hW1]; exact ba (ba (Below.refl _ _) _) _
  have HWX : Hid (∀ x : Wd W1, Calls Tryz.prog 52 #[.agg #[.string rn, .int .i64 rf, .int .i64 ru, .int .i64 re, .slice ro rl rc], .int .i64 i] x.at' fun e w' => e = .returned (.bool z) ∧ Below x.at'.heap.size x.at' w') := fun x => HWT.out _ (Below.on B1 x.ok)
  have HDX : Hid (∀ x : Wd W1, Calls Tryz.prog 22 #[.agg #[.string nm, .string cr, .int .i64 fr, .int .i64 up, .bool cu, .slice ao n cap], .agg #[.string rn, .int .i64 rf, .int .i64 ru, .int .i64 re, .slice ro rl rc]] x.at' fun e w' => e = .returned (.bool q) ∧ Below x.at'.heap.size x.at' w') := fun x => HD.out _ (Below.on B1 x.ok)
  have q0 := Wd.cell Z1.c0
  have q1 := Wd.cell Z1.c1
  have q2 := Wd.cell Z1.c2
  have q3 := Wd.cell Z1.c3
  have q4 := Wd.cell Z1.c4
  have q5 := Wd.cell Z1.c5
  have p0 := Wd.cell X1.c0
  have p1 := Wd.cell X1.c1
  have p2 := Wd.cell X1.c2
  have p3 := Wd.cell X1.c3
  have p4 := Wd.cell X1.c4
  cases z with
  | false =>
    have HE : Hid (readyB ⟨nm, cr, fr, up, cu, ts⟩ ⟨rn, rf, ru, re, st⟩ i past now = false) := by
      show readyB _ _ _ _ _ = false
      rw [HRB.out]
      have : redB ⟨nm, cr, fr, up, cu, ts⟩ ⟨rn, rf, ru, re, st⟩ i past now = false := by unfold redB; rw [show isN (Rr.st ⟨rn, rf, ru, re, st⟩) i 0 = false from HZ.out]; rfl
      rw [this, Bool.and_false]
    clear HRB HD HWT HDX
    go_enter Tryz.func24, Tryz.ntmps24
    go_wp2_with fail
    refine wp_region_wd (by kernel_rfl) (by kernel_rfl) ?_
    repeat (go_big_quiet_step ((go_at_call 52; refine calls_wd (v := .bool false) ?_; with_reducible exact HWX.out _)))
    refine wpQuiet_nil ?_
    rintro _ ⟨y, rfl⟩
    have B4 := Below.on B1 y.ok
    go_wp2
    go_ret
    exact ⟨by rw [HE.out]; rfl, B4⟩
  | true =>
  obtain ⟨k, x, ei, hx, hx0⟩ := isN_true HZ.out
  subst ei
  have hk : k < rl := by rw [← HRN.out]; exact (List.getElem?_eq_some_iff.1 hx).1
  obtain ⟨bs, os, es, hbs, -, -, -, d3⟩ := sa_at (HRD.out W1 B1) hx
  subst es
  have HXK : Hid (st[k]? = some x ∧ x.is = 0) := ⟨hx, hx0⟩
  have qd := Wd.cell d3
  clear hx hx0 HWT
  by_cases h1 : x.til ≤ now
  case neg =>
    have HE : Hid (readyB ⟨nm, cr, fr, up, cu, ts⟩ ⟨rn, rf, ru, re, st⟩ (k : Int) past now = false) := by
      show readyB _ _ _ _ _ = false
      rw [HRB.out]
      cases q with
      | false => rfl
      | true =>
        obtain ⟨t, ht⟩ : ∃ t, ts[k]? = some t := ⟨_, List.getElem?_eq_getElem (by rw [HN.out, ← (HRG.out rfl).2]; exact hk)⟩
        rw [red_at (d := ⟨nm, cr, fr, up, cu, ts⟩) (r := ⟨rn, rf, ru, re, st⟩) HXK.out.1 ht, decide_eq_true HXK.out.2, decide_eq_false h1]
        rfl
    have h1' : decide (x.til ≤ now) = false := decide_eq_false h1
    clear HRB HD HDX h1
    go_enter Tryz.func24, Tryz.ntmps24
    go_wp2_with fail
    refine wp_region_wd (by kernel_rfl) (by kernel_rfl) ?_
    repeat (go_big_quiet_step ((go_at_call 52; refine calls_wd (v := .bool true) ?_; with_reducible exact HWX.out _)))
    refine wpQuiet_nil ?_
    rintro _ ⟨y, rfl⟩
    have B4 := Below.on B1 y.ok
    go_wp2
    go_ret
    exact ⟨by rw [HE.out]; rfl, B4⟩
  have h1' : decide (x.til ≤ now) = true := decide_eq_true h1
  cases q with
  | false =>
    have HE : Hid (readyB ⟨nm, cr, fr, up, cu, ts⟩ ⟨rn, rf, ru, re, st⟩ (k : Int) past now = false) := HRB.out
    clear HRB HD
    go_enter Tryz.func24, Tryz.ntmps24
    go_wp2_with fail
    refine wp_region_wd (by kernel_rfl) (by kernel_rfl) ?_
    repeat (go_big_quiet_step ((first | (go_at_call 52; refine calls_wd (v := .bool true) ?_; with_reducible exact HWX.out _) | (go_at_call 22; refine calls_wd (v := .bool false) ?_; with_reducible exact HDX.out _))))
    refine wpQuiet_nil ?_
    rintro _ ⟨y, rfl⟩
    have B4 := Below.on B1 y.ok
    go_wp2
    go_ret
    exact ⟨by rw [HE.out]; rfl, B4⟩
  | true =>
  obtain ⟨hrg, hln⟩ := HRG.out rfl
  have HRG3 : Hid (Rg4 ts) := hrg
  subst hln
  clear HRG hrg HD
  obtain ⟨t, ht⟩ : ∃ t, ts[k]? = some t := ⟨_, List.getElem?_eq_getElem (by rw [HN.out]; exact hk)⟩
  obtain ⟨A, HAE⟩ : ∃ A, Hid ((upsA ts (k : Int)).any (undoneB st) = A) := ⟨_, rfl⟩
  have HE : Hid (readyB ⟨nm, cr, fr, up, cu, ts⟩ ⟨rn, rf, ru, re, st⟩ (k : Int) past now = (!A && (past || !t.past))) := by
    show readyB _ _ _ _ _ = _
    rw [HRB.out, red_at (d := ⟨nm, cr, fr, up, cu, ts⟩) (r := ⟨rn, rf, ru, re, st⟩) HXK.out.1 ht, decide_eq_true HXK.out.2, h1']
    show (true && (true && (true && (!(upsA ts (k : Int)).any (undoneB st) && (past || !t.past))))) = _
    rw [HAE.out]
    rfl
  obtain ⟨b1, o1, av, e1, hb1, -, -, -, n3, -, -⟩ := (HDI.out W1 B1).tasks.at ht
  subst e1
  obtain ⟨is, tr, tk, tl⟩ := x
  obtain ⟨nn, np, nr, pa, naf⟩ := t
  dsimp only at qd n3 HE h1' h1
  have qn := Wd.cell n3
  clear ht HXK HZ HRB
  by_cases hpa : past = false ∧ pa = true
  · obtain ⟨rfl, rfl⟩ := hpa
    have HE2 : Hid (readyB ⟨nm, cr, fr, up, cu, ts⟩ ⟨rn, rf, ru, re, st⟩ (k : Int) false now = false) := by show _ = _; rw [HE.out]; cases A <;> rfl
    clear HE
    go_enter Tryz.func24, Tryz.ntmps24
    go_wp2_with fail
    refine wp_region_wd (by kernel_rfl) (by kernel_rfl) ?_
    repeat (go_big_quiet_step ((first | (go_at_call 52; refine calls_wd (v := .bool true) ?_; with_reducible exact HWX.out _) | (go_at_call 22; refine calls_wd (v := .bool true) ?_; with_reducible exact HDX.out _))))
    refine wpQuiet_nil ?_
    rintro _ ⟨y, rfl⟩
    have B4 := Below.on B1 y.ok
    go_wp2
    go_ret
    exact ⟨by rw [HE2.out]; rfl, B4⟩
  have HE2 : Hid (readyB ⟨nm, cr, fr, up, cu, ts⟩ ⟨rn, rf, ru, re, st⟩ (k : Int) past now = !A) := by
    show readyB _ _ _ _ _ = !A
    rw [HE.out]
    cases A <;> cases past <;> cases pa <;> simp at hpa ⊢
  clear HE
  have HLU : Hid ((upsA ts (k : Int)).length ≤ 4) := ups_len HRG3.out _
  have HU : Hid (∀ W, Below w.heap.size w W → Calls Tryz.prog 54 #[.agg #[.string nm, .string cr, .int .i64 fr, .int .i64 up, .bool cu, .slice (some ⟨b1, o1, none⟩) rl cap], .int .i64 k] W fun e w' => ∃ (va : Option Addr) (vc : Nat), e = .returned (.slice va (upsA ts (k : Int)).length vc) ∧ ownsR w' W.heap.size 3 (.slice va (upsA ts (k : Int)).length vc) (upsA ts (k : Int)) ∧ Below W.heap.size W w') := fun W hb => upsR_any _ rl cap nm cr fr up cu ts k W (HDI.out W hb) HRG3.out hk
  obtain ⟨U, HUE⟩ : ∃ U, Hid (upsA ts (k : Int) = U) := ⟨_, rfl⟩
  rw [HUE.out] at HAE HLU HU
  obtain ⟨ul, HUL⟩ : ∃ ul, Hid (U.length = ul) := ⟨_, rfl⟩
  rw [HUL.out] at HLU HU
  have HCT : Hid (∀ (ua : Option Addr) (uc : Nat) W, Below w.heap.size w W → Reads W (.slice ua ul uc) U → Calls Tryz.prog 53 #[.slice ua ul uc, .func (.func 55) #[.agg #[.string rn, .int .i64 rf, .int .i64 ru, .int .i64 re, .slice (some ⟨bs, os, none⟩) rl rc]] #[]] W fun e w' => e = .returned (.bool A) ∧ Below W.heap.size W w') := fun ua uc W hb hu => by
    have := cont_isNotDone ua ul uc U (some ⟨bs, os, none⟩) rl rc rn rf ru re st W (HRD.out W hb) hl hu (by have := HLU.out; omega)
    rw [HAE.out] at this
    exact this
  clear HUE HUL HLU HAE HRD HDI
  have hdr : Below W1.heap.size W1 W1.drew := (Below.refl _ _).drew
  go_enter Tryz.func24, Tryz.ntmps24
  go_wp2_with fail
  cases A <;> cases past <;> cases pa
  all_goals first | (exfalso; exact hpa ⟨rfl, rfl⟩) | skip
  all_goals
    refine wp_region_pick (fun w' => ∃ x : Wd W1, w' = x.at') [0, 1] 39 37 (by kernel_rfl) (by decide) (by decide) (by kernel_rfl) (fun _ _ d _ _ h => by cases d <;> exact h) ⟨⟨W1.drew, hdr⟩, rfl⟩ ?_
    (repeat (refine wpTakes_l rfl (by first | (intro x h; cases h; done) | (intro x h; cases h; exact ⟨_, rfl⟩)) ?_; go_big_quiet_step (fail); refine wpQuiet_nil ?_)); refine takes_nil ?_
    refine pk_oneW (fuel := 36) (i := 2) (by kernel_rfl) rfl (by kernel_rfl) ?_
    intro K hK
    go_wp2_with fail
    refine (HWX.out ⟨W1.drew, hdr⟩).mono ?_
    rintro e w4 ⟨rfl, hb4⟩
    have B4 : Below W1.heap.size W1 w4 := Below.on hdr hb4
    clear hb4
    go_wp2
    refine hK.out _ _ ⟨⟨w4, B4⟩, rfl⟩ ?_
    clear hK K
    refine pk_takes [3, 4, 5, 6, 7, 8, 9, 10, 11, 12, 13, 14, 15] 39 23 ⟨⟨w4, B4⟩, rfl⟩ (by kernel_rfl) (fun _ _ d _ _ h => by cases d <;> exact h) ?_
    (repeat (refine wpTakes_l rfl (by first | (intro x h; cases h; done) | (intro x h; cases h; exact ⟨_, rfl⟩)) ?_; go_big_quiet_step (fail); refine wpQuiet_nil ?_)); refine takes_nil ?_
    refine pk_oneW (fuel := 22) (i := 16) (by kernel_rfl) rfl (by kernel_rfl) ?_
    intro K hK
    go_wp2_with fail
    refine (HDX.out ⟨w4, B4⟩).mono ?_
    rintro e w5 ⟨rfl, hb5⟩
    have B5 : Below W1.heap.size W1 w5 := Below.on B4 hb5
    clear hb5
    go_wp2
    refine hK.out _ _ ⟨⟨w5, B5⟩, rfl⟩ ?_
    clear hK K
    refine pk_takes [17, 18, 19, 20, 21, 22, 23, 24, 25, 26, 27, 28, 29, 30, 31, 32, 34] 39 5 ⟨⟨w5, B5⟩, rfl⟩ (by kernel_rfl) (fun _ _ d _ _ h => by cases d <;> exact h) ?_
    (repeat (refine wpTakes_l rfl (by first | (intro x h; cases h; done) | (intro x h; cases h; exact ⟨_, rfl⟩)) ?_; go_big_quiet_step (fail); refine wpQuiet_nil ?_)); refine takes_nil ?_
    refine pk_twoW (fuel := 4) (i := 33) (j := 35) (by kernel_rfl) rfl rfl (by kernel_rfl) (by kernel_rfl) ?_ ?_
    · intro K hK
      go_wp2_with fail
      refine (HU.out _ (Below.on B1 B5)).mono ?_
      rintro e w6 ⟨ua, uc, rfl, ho6, hb6⟩
      have B6 : Below W1.heap.size W1 w6 := Below.on B5 hb6
      have hr6 := ho6.reads
      clear ho6 hb6
      go_wp2
      refine hK.out _ _ ⟨⟨w6, B6⟩, rfl⟩ ?_
      clear hK K
      refine pk_oneW (fuel := 3) (i := 35) (by kernel_rfl) rfl (by kernel_rfl) ?_
      intro K hK
      go_wp2
      refine hK.out _ _ ⟨⟨w6, B6⟩, rfl⟩ ?_
      clear hK K
      refine pk_oneW (fuel := 2) (i := 36) (by kernel_rfl) rfl (by kernel_rfl) ?_
      intro K hK
      go_wp2_with fail
      refine (HCT.out _ _ _ (Below.on B1 B6) hr6).mono ?_
      rintro e w7 ⟨rfl, hb7⟩
      have B7 : Below W1.heap.size W1 w7 := Below.on B6 hb7
      clear hb7
      go_wp2
      refine hK.out _ _ ⟨⟨w7, B7⟩, rfl⟩ ?_
      clear hK K
      refine pk_takes [37, 38] 39 0 ⟨⟨w7, B7⟩, rfl⟩ (by kernel_rfl) (fun _ _ d _ _ h => by cases d <;> exact h) ?_
      (repeat (refine wpTakes_l rfl (by first | (intro x h; cases h; done) | (intro x h; cases h; exact ⟨_, rfl⟩)) ?_; go_big_quiet_step (fail); refine wpQuiet_nil ?_)); refine takes_nil ?_
      refine any_done (by kernel_rfl) ?_
      simp only [List.drop_succ_cons, List.drop_zero]
      have B8 := Below.on B1 B7
      go_wp2
      go_ret
      exact ⟨by rw [HE2.out]; rfl, B8⟩
    · intro K hK
      go_wp2
      refine hK.out _ _ ⟨⟨w5, B5⟩, rfl⟩ ?_
      clear hK K
      refine pk_oneW (fuel := 3) (i := 33) (by kernel_rfl) rfl (by kernel_rfl) ?_
      intro K hK
      go_wp2_with fail
      refine (HU.out _ (Below.on B1 B5)).mono ?_
      rintro e w6 ⟨ua, uc, rfl, ho6, hb6⟩
      have B6 : Below W1.heap.size W1 w6 := Below.on B5 hb6
      have hr6 := ho6.reads
      clear ho6 hb6
      go_wp2
      refine hK.out _ _ ⟨⟨w6, B6⟩, rfl⟩ ?_
      clear hK K
      refine pk_oneW (fuel := 2) (i := 36) (by kernel_rfl) rfl (by kernel_rfl) ?_
      intro K hK
      go_wp2_with fail
      refine (HCT.out _ _ _ (Below.on B1 B6) hr6).mono ?_
      rintro e w7 ⟨rfl, hb7⟩
      have B7 : Below W1.heap.size W1 w7 := Below.on B6 hb7
      clear hb7
      go_wp2
      refine hK.out _ _ ⟨⟨w7, B7⟩, rfl⟩ ?_
      clear hK K
      refine pk_takes [37, 38] 39 0 ⟨⟨w7, B7⟩, rfl⟩ (by kernel_rfl) (fun _ _ d _ _ h => by cases d <;> exact h) ?_
      (repeat (refine wpTakes_l rfl (by first | (intro x h; cases h; done) | (intro x h; cases h; exact ⟨_, rfl⟩)) ?_; go_big_quiet_step (fail); refine wpQuiet_nil ?_)); refine takes_nil ?_
      refine any_done (by kernel_rfl) ?_
      simp only [List.drop_succ_cons, List.drop_zero]
      have B8 := Below.on B1 B7
      go_wp2
      go_ret
      exact ⟨by rw [HE2.out]; rfl, B8⟩
end Go.Proofs.YtjmclcjhimcehaaGreatDoor
