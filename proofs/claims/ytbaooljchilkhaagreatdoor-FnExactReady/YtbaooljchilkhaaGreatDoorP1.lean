/-
  Steps of a region that draws its order: one of two, and several that only yield. Steps of a region that draws its order: one of two, and several that only yield. Whether a task may begin, on both sides: the walks.
-/
import Derived.Test.YtbaooljchilkhaaGreatDoorG2
import Derived.Test.YtbaooljchilkhaaGreatDoorG3
import Derived.Test.YtbaooljchilkhaaGreatDoorG27
import Derived.Test.YtbaooljchilkhaaGreatDoorG28
namespace Go.Proofs.YtbaooljchilkhaaGreatDoor
open Go Go.RowKit

theorem pk_two {P : Program} {l : List Oper} {Q : Exit → Act → World → Prop} {C : World → Prop} {R : Act → World → Prop} {L listed : Array Bool} {fuel i j : Nat} {o p : Oper} {a : Act} {w : World} (hr : Region.ready .any l.toArray listed = [i, j]) (ho : l[i]? = some o) (hp : l[j]? = some p) (hg : o.guard = none) (hgp : p.guard = none)
    (h : ∀ K : Act → World → Prop, Hid (∀ a' w', C w' → wpAnyU P .any l.toArray Q C L R fuel (listed.setIfInBounds i true) a' w' → K a' w') → wpList P l.toArray (Exit.then K Q) [o] a w)
    (h' : ∀ K : Act → World → Prop, Hid (∀ a' w', C w' → wpAnyU P .any l.toArray Q C L R fuel (listed.setIfInBounds j true) a' w' → K a' w') → wpList P l.toArray (Exit.then K Q) [p] a w) : wpAnyU P .any l.toArray Q C L R (fuel + 1) listed a w := wpAnyU_two hr (by simpa using ho) (by simpa using hp) hg hgp h h'
def moreB9 (ops : Array Oper) (L listed : Array Bool) (ts : List Nat) (m : Nat) : Bool :=
  Region.noSelect ops && (Region.ready .any ops L).all (· == m) && waitsAll .any ops m && takesB .any ops ts listed && ts.all (fun k => decide (k < m))
theorem pk_takes {P : Program} {l : List Oper} {Q : Exit → Act → World → Prop} {C : World → Prop} {R : Act → World → Prop} {L listed : Array Bool} {a : Act} {w : World} (ts : List Nat) (m fuel : Nat) (hw : C w) (hB : moreB9 l.toArray L listed ts m = true) (hQ : ∀ c a d v w, Q (.panic c) (Act.put a d v) w → Q (.panic c) a w)
    (h : wpTakes P l.toArray C (fun a' => wpAnyU P .any l.toArray Q C L R fuel (takesL ts listed) a' w) ts a) : wpAnyU P .any l.toArray Q C L R (fuel + ts.length) listed a w := by
  simp only [moreB9, Bool.and_eq_true] at hB
  obtain ⟨⟨⟨⟨h1, h2⟩, h3⟩, h4⟩, h6⟩ := hB
  exact wpAnyU_takes (P := P) (Q := Q) (C := C) (md := .any) hw h1 hQ (fun j hj => by
    rw [List.all_eq_true] at h2
    simpa using h2 j hj) h3 fuel ts listed a (fun k hk => by
      rw [List.all_eq_true] at h6
      simpa using h6 k hk) h4 h
end Go.Proofs.YtbaooljchilkhaaGreatDoor

namespace Go.Proofs.YtbaooljchilkhaaGreatDoor
open Go Go.RowKit

/-- What comes up next, one, whose guard is on. -/
theorem pk_oneW {P : Program} {l : List Oper} {Q : Exit → Act → World → Prop} {C : World → Prop} {R : Act → World → Prop} {L listed : Array Bool} {fuel i : Nat} {o : Oper} {a : Act} {w : World} (hr : Region.ready .any l.toArray listed = [i]) (ho : l[i]? = some o) (hw : Region.wanted o (yielded l.toArray a.tmps) = true)
    (h : ∀ K : Act → World → Prop, Hid (∀ a' w', C w' → wpAnyU P .any l.toArray Q C L R fuel (listed.setIfInBounds i true) a' w' → K a' w') → wpList P l.toArray (Exit.then K Q) [o] a w) : wpAnyU P .any l.toArray Q C L R (fuel + 1) listed a w := by
  refine ⟨by rw [hr]; simp, fun j hj => ?_⟩
  rw [hr] at hj
  simp only [List.mem_singleton] at hj
  subst hj
  have h1 := h (fun a' w' => C w' ∧ wpAnyU P .any l.toArray Q C L R fuel (listed.setIfInBounds j true) a' w') (fun a' w' h1 h2 => ⟨h1, h2⟩)
  have ho' : l.toArray[j]? = some o := by simpa using ho
  unfold wpOp
  simp only [ho']
  unfold wpList at h1
  rw [if_pos hw] at h1 ⊢
  exact h1
/-- One of two, whose guards are on. -/
theorem pk_twoW {P : Program} {l : List Oper} {Q : Exit → Act → World → Prop} {C : World → Prop} {R : Act → World → Prop} {L listed : Array Bool} {fuel i j : Nat} {o p : Oper} {a : Act} {w : World} (hr : Region.ready .any l.toArray listed = [i, j]) (ho : l[i]? = some o) (hp : l[j]? = some p) (hw : Region.wanted o (yielded l.toArray a.tmps) = true) (hv : Region.wanted p (yielded l.toArray a.tmps) = true)
    (h : ∀ K : Act → World → Prop, Hid (∀ a' w', C w' → wpAnyU P .any l.toArray Q C L R fuel (listed.setIfInBounds i true) a' w' → K a' w') → wpList P l.toArray (Exit.then K Q) [o] a w)
    (h' : ∀ K : Act → World → Prop, Hid (∀ a' w', C w' → wpAnyU P .any l.toArray Q C L R fuel (listed.setIfInBounds j true) a' w' → K a' w') → wpList P l.toArray (Exit.then K Q) [p] a w) : wpAnyU P .any l.toArray Q C L R (fuel + 1) listed a w := by
  have ho' : l.toArray[i]? = some o := by simpa using ho
  have hp' : l.toArray[j]? = some p := by simpa using hp
  refine ⟨by rw [hr]; simp, fun k hk => ?_⟩
  rw [hr] at hk
  simp only [List.mem_cons, List.not_mem_nil, or_false] at hk
  rcases hk with hk | hk
  · subst hk
    have h1 := h (fun a' w' => C w' ∧ wpAnyU P .any l.toArray Q C L R fuel (listed.setIfInBounds k true) a' w') (fun a' w' h1 h2 => ⟨h1, h2⟩)
    unfold wpOp
    simp only [ho']
    unfold wpList at h1
    rw [if_pos hw] at h1 ⊢
    exact h1
  · subst hk
    have h1 := h' (fun a' w' => C w' ∧ wpAnyU P .any l.toArray Q C L R fuel (listed.setIfInBounds k true) a' w') (fun a' w' h1 h2 => ⟨h1, h2⟩)
    unfold wpOp
    simp only [hp']
    unfold wpList at h1
    rw [if_pos hv] at h1 ⊢
    exact h1
end Go.Proofs.YtbaooljchilkhaaGreatDoor

namespace Go.Proofs.YtbaooljchilkhaaGreatDoor
open Go Go.RowKit
set_option linter.unusedVariables false

/-- What is asked of a task of a right run. -/
def redB (d : Dg) (r : Rr) (i : Int) (past : Bool) (now : Int) : Bool := isN r.st i 0 && (decide ((sAt r.st i.toNat).til ≤ now) && (!(upsA d.tasks i).any (undoneB r.st) && (past || !pastN d.tasks i.toNat)))
theorem ready_eq (d : Dg) (r : Rr) (i : Int) (past : Bool) (now : Int) : readyB d r i past now = (runB d r && redB d r i past now) := rfl
theorem red_at {d : Dg} {r : Rr} {k : Nat} {x : Sa} {t : Ta} {past : Bool} {now : Int} (hx : r.st[k]? = some x) (ht : d.tasks[k]? = some t) : redB d r (k : Int) past now = (decide (x.is = 0) && (decide (x.til ≤ now) && (!(upsA d.tasks (k : Int)).any (undoneB r.st) && (past || !t.past)))) := by
  unfold redB
  rw [isN_in hx, Int.toNat_natCast, sAt_at hx, pastN_at ht]

set_option maxRecDepth 10000 in
set_option maxHeartbeats 8000000 in
theorem l14Ready_any (ao : Option Addr) (n cap : Nat) (nm cr : ByteArray) (fr up : Int) (cu : Bool) (ts : List Ta) (ro : Option Addr) (rl rc : Nat) (rn : ByteArray) (rf ru re : Int) (st : List Sa) (i : Int) (past : Bool) (now : Int) (w : World) (ht : Tasks w (.slice ao n cap) ts) (hrg : Rg4 ts) (hr : Reads w (.slice ro rl rc) st) (hl : rl = n) :
    Calls Tryz.prog 85 #[.agg #[.string nm, .string cr, .int .i64 fr, .int .i64 up, .bool cu, .slice ao n cap], .agg #[.string rn, .int .i64 rf, .int .i64 ru, .int .i64 re, .slice ro rl rc], .int .i64 i, .bool past, .int .i64 now] w fun e w' => e = .returned (.bool (redB ⟨nm, cr, fr, up, cu, ts⟩ ⟨rn, rf, ru, re, st⟩ i past now)) ∧ Below w.heap.size w w' := by
  subst hl
  have HN : Hid (ts.length = rl) := by
    obtain ⟨ao', cap', e⟩ := ht.slice
    injection e with _ e2 _
    exact e2.symm
  have HRN : Hid (st.length = rl) := hr.len.symm
  have hn4 : rl ≤ 4 := by rw [← HN.out]; exact hrg.few
  obtain ⟨W1, hW1⟩ : ∃ W1, (w.alloc (.cells #[.string nm, .string cr, .int .i64 fr, .int .i64 up, .bool cu, .slice ao rl cap] 26)).alloc (.cells #[.string rn, .int .i64 rf, .int .i64 ru, .int .i64 re, .slice ro rl rc] 31) = W1 := ⟨_, rfl⟩
  have Z1 : P6 W1 w.heap.size nm cr fr up cu (.slice ao rl cap) := by rw [← hW1]; exact (P6.new _ _ _ _ _ _ _).on (ba (Below.refl _ _) _)
  have X1 : R5 W1 (w.heap.size + 1) rn rf ru re (.slice ro rl rc) := by
    rw [← hW1]
    have := R5.new (w.alloc (.cells #[.string nm, .string cr, .int .i64 fr, .int .i64 up, .bool cu, .slice ao rl cap] 26)) rn rf ru re (.slice ro rl rc)
    simpa using this
  have B1 : Below w.heap.size w W1 := by rw [← hW1]; exact ba (ba (Below.refl _ _) _) _
  have x4 := X1.c4
  by_cases hi : 0 ≤ i ∧ i < (rl : Int)
  case neg =>
    have HE : Hid (redB ⟨nm, cr, fr, up, cu, ts⟩ ⟨rn, rf, ru, re, st⟩ i past now = false) := by
      show redB _ _ _ _ _ = false
      unfold redB
      rw [isN_out (by show i < 0 ∨ (st.length : Int) ≤ i; have := HRN.out; omega)]
      rfl
    have HI := inB_any i 0 ((rl : Int) - 1) false (decide_eq_false (by omega)) W1
    clear hi ht hr
    go_enter Tryz.func85, Tryz.ntmps85
    go_wp2_with fail
    refine HI.mono ?_
    rintro e w2 ⟨rfl, hb2⟩
    have B2 := Below.on B1 hb2
    go_wp2
    go_ret
    exact ⟨by rw [HE.out]; rfl, B2⟩
  have HI := inB_any i 0 ((rl : Int) - 1) true (decide_eq_true (by omega)) W1
  obtain ⟨k, rfl⟩ : ∃ k : Nat, i = (k : Int) := ⟨i.toNat, by omega⟩
  have hk : k < rl := by omega
  obtain ⟨t, htt⟩ : ∃ t, ts[k]? = some t := ⟨_, List.getElem?_eq_getElem (by rw [HN.out]; exact hk)⟩
  obtain ⟨x, hx⟩ : ∃ x, st[k]? = some x := ⟨_, List.getElem?_eq_getElem (by rw [HRN.out]; exact hk)⟩
  have HE : Hid (redB ⟨nm, cr, fr, up, cu, ts⟩ ⟨rn, rf, ru, re, st⟩ (k : Int) past now = (decide (x.is = 0) && (decide (x.til ≤ now) && (!(upsA ts (k : Int)).any (undoneB st) && (past || !t.past))))) := red_at (d := ⟨nm, cr, fr, up, cu, ts⟩) (r := ⟨rn, rf, ru, re, st⟩) hx htt
  obtain ⟨A, HAE⟩ : ∃ A, Hid ((upsA ts (k : Int)).any (undoneB st) = A) := ⟨_, rfl⟩
  obtain ⟨S, HSE⟩ : ∃ S, Hid ((upsA ts (k : Int)).any (stuckB st) = S) := ⟨_, rfl⟩
  rw [HAE.out] at HE
  have HUP : Hid (∀ W, Below w.heap.size w W → Calls Tryz.prog 71 #[.agg #[.string nm, .string cr, .int .i64 fr, .int .i64 up, .bool cu, .slice ao rl cap], .agg #[.string rn, .int .i64 rf, .int .i64 ru, .int .i64 re, .slice ro rl rc], .int .i64 k] W fun e w' => e = .returned (.tuple #[.bool (!A), .bool S]) ∧ Below W.heap.size W w') := fun W hb => by
    have := l14Ups_any ao rl cap nm cr fr up cu ts ro rl rc rn rf ru re st k W (ht.below hb) hrg hk (hr.below hb) rfl
    rw [HAE.out, HSE.out] at this
    exact this
  have HTA : Hid (∀ W, Below w.heap.size w W → ∃ b1 o1, ao = some ⟨b1, o1, none⟩ ∧ W.cell? ⟨b1, o1 + k * 5 + 3, none⟩ = some (.bool t.past)) := fun W hb => by
    obtain ⟨b1, o1, av, e1, _, _, _, _, n3, _, _⟩ := (ht.below hb).at htt
    exact ⟨b1, o1, e1, n3⟩
  have HSA : Hid (∀ W, Below w.heap.size w W → ∃ bs os, ro = some ⟨bs, os, none⟩ ∧ W.cell? ⟨bs, os + k * 4, none⟩ = some (.int .i64 x.is) ∧ W.cell? ⟨bs, os + k * 4 + 3, none⟩ = some (.int .i64 x.til)) := fun W hb => by
    obtain ⟨bs, os, es, _, d0, _, _, d3⟩ := sa_at (hr.below hb) hx
    exact ⟨bs, os, es, d0, d3⟩
  clear ht hr htt hx hi hrg HAE HSE
  go_enter Tryz.func85, Tryz.ntmps85
  go_wp2_with fail
  refine HI.mono ?_
  rintro e w2 ⟨rfl, hb2⟩
  have Z2 := Z1.on hb2
  have X2 := X1.on hb2
  have B2 := Below.on B1 hb2
  clear x4 Z1 X1 B1 hb2 HI hW1
  have c0 := Z2.c0
  have c1 := Z2.c1
  have c2 := Z2.c2
  have c3 := Z2.c3
  have c4 := Z2.c4
  have c5 := Z2.c5
  have x0 := X2.c0
  have x1 := X2.c1
  have x2 := X2.c2
  have x3 := X2.c3
  have x4 := X2.c4
  go_wp2_with fail
  refine (HUP.out _ B2).mono ?_
  rintro e w3 ⟨rfl, hb3⟩
  have Z3 := Z2.on hb3
  have X3 := X2.on hb3
  have B3 := Below.on B2 hb3
  clear c0 c1 c2 c3 c4 c5 x0 x1 x2 x3 x4 Z2 X2 B2 hb3 HUP
  obtain ⟨b1, o1, e1, n3⟩ := HTA.out w3 B3
  obtain ⟨bs, os, es, d0, d3⟩ := HSA.out w3 B3
  subst e1 es
  obtain ⟨is, tr, tk, tl⟩ := x
  replace d0 : w3.cell? ⟨bs, os + k * 4, none⟩ = some (.int .i64 is) := d0
  replace d3 : w3.cell? ⟨bs, os + k * 4 + 3, none⟩ = some (.int .i64 tl) := d3
  replace HE : Hid (redB ⟨nm, cr, fr, up, cu, ts⟩ ⟨rn, rf, ru, re, st⟩ (k : Int) past now = (decide (is = 0) && (decide (tl ≤ now) && (!A && (past || !t.past))))) := HE
  clear HTA HSA
  have c5 := Z3.c5
  have x4 := X3.c4
  by_cases h0 : is = 0
  case neg =>
    have HE2 : Hid (redB ⟨nm, cr, fr, up, cu, ts⟩ ⟨rn, rf, ru, re, st⟩ (k : Int) past now = false) := by show redB _ _ _ _ _ = false; rw [HE.out, decide_eq_false h0]; rfl
    have h0' : (is == 0) = false := beq_eq_false_iff_ne.2 h0
    clear HE
    go_wp2
    go_ret
    exact ⟨by rw [HE2.out]; rfl, B3⟩
  subst h0
  by_cases h1 : tl ≤ now
  case neg =>
    have HE2 : Hid (redB ⟨nm, cr, fr, up, cu, ts⟩ ⟨rn, rf, ru, re, st⟩ (k : Int) past now = false) := by show redB _ _ _ _ _ = false; rw [HE.out, decide_eq_false h1]; rfl
    have h1' : decide (tl ≤ now) = false := decide_eq_false h1
    clear HE
    go_wp2
    go_ret
    exact ⟨by rw [HE2.out]; rfl, B3⟩
  have h1' : decide (tl ≤ now) = true := decide_eq_true h1
  have HE2 : Hid (redB ⟨nm, cr, fr, up, cu, ts⟩ ⟨rn, rf, ru, re, st⟩ (k : Int) past now = (!A && (past || !t.past))) := by show redB _ _ _ _ _ = _; rw [HE.out, h1']; rfl
  clear HE
  cases A <;> cases past <;> (go_wp2; go_ret; exact ⟨by rw [HE2.out]; rfl, B3⟩)
set_option maxRecDepth 10000 in
set_option maxHeartbeats 4000000 in
theorem specReady_any (ao : Option Addr) (n cap : Nat) (nm cr : ByteArray) (fr up : Int) (cu : Bool) (ts : List Ta) (ro : Option Addr) (rl rc : Nat) (rn : ByteArray) (rf ru re : Int) (st : List Sa) (i : Int) (past : Bool) (now : Int) (w : World) (hd : DagAt w (.slice ao n cap) ⟨nm, cr, fr, up, cu, ts⟩) (hr : Reads w (.slice ro rl rc) st) (hl : rl ≤ 1048577) :
    Calls Tryz.prog 43 #[.agg #[.string nm, .string cr, .int .i64 fr, .int .i64 up, .bool cu, .slice ao n cap], .agg #[.string rn, .int .i64 rf, .int .i64 ru, .int .i64 re, .slice ro rl rc], .int .i64 i, .bool past, .int .i64 now] w fun e w' => e = .returned (.bool (readyB ⟨nm, cr, fr, up, cu, ts⟩ ⟨rn, rf, ru, re, st⟩ i past now)) ∧ Below w.heap.size w w' := by
  have HN : Hid (ts.length = n) := by
    obtain ⟨ao', cap', e⟩ := hd.tasks.slice
    injection e with _ e2 _
    exact e2.symm
  obtain ⟨q, HQ⟩ : ∃ q, Hid (runB ⟨nm, cr, fr, up, cu, ts⟩ ⟨rn, rf, ru, re, st⟩ = q) := ⟨_, rfl⟩
  have HD : Hid (∀ W, Below w.heap.size w W → Calls Tryz.prog 41 #[.agg #[.string nm, .string cr, .int .i64 fr, .int .i64 up, .bool cu, .slice ao n cap], .agg #[.string rn, .int .i64 rf, .int .i64 ru, .int .i64 re, .slice ro rl rc]] W fun e w' => e = .returned (.bool q) ∧ Below W.heap.size W w') := fun W hb => by
    have := specRunOk_any ao n cap nm cr fr up cu ts ro rl rc rn rf ru re st W (hd.below hb) (hr.below hb) hl
    rw [HQ.out] at this
    exact this
  have HR : Hid (q = true → ∀ W, Below w.heap.size w W → Calls Tryz.prog 85 #[.agg #[.string nm, .string cr, .int .i64 fr, .int .i64 up, .bool cu, .slice ao n cap], .agg #[.string rn, .int .i64 rf, .int .i64 ru, .int .i64 re, .slice ro rl rc], .int .i64 i, .bool past, .int .i64 now] W fun e w' => e = .returned (.bool (redB ⟨nm, cr, fr, up, cu, ts⟩ ⟨rn, rf, ru, re, st⟩ i past now)) ∧ Below W.heap.size W w') := fun h W hb => l14Ready_any ao n cap nm cr fr up cu ts ro rl rc rn rf ru re st i past now W (hd.tasks.below hb) (rg_of (run_parts (HQ.out.trans h)).1) (hr.below hb) (by have := run_len (HQ.out.trans h); rw [hr.len, ← HN.out]; exact this)
  have HRB : Hid (readyB ⟨nm, cr, fr, up, cu, ts⟩ ⟨rn, rf, ru, re, st⟩ i past now = (q && redB ⟨nm, cr, fr, up, cu, ts⟩ ⟨rn, rf, ru, re, st⟩ i past now)) := by show readyB _ _ _ _ _ = _; rw [ready_eq, HQ.out]
  rw [HRB.out]
  clear hd hr HQ
  obtain ⟨W1, hW1⟩ : ∃ W1, (w.alloc (.cells #[.string nm, .string cr, .int .i64 fr, .int .i64 up, .bool cu, .slice ao n cap] 26)).alloc (.cells #[.string rn, .int .i64 rf, .int .i64 ru, .int .i64 re, .slice ro rl rc] 31) = W1 := ⟨_, rfl⟩
  have Z1 : P6 W1 w.heap.size nm cr fr up cu (.slice ao n cap) := by rw [← hW1]; exact (P6.new _ _ _ _ _ _ _).on (ba (Below.refl _ _) _)
  have X1 : R5 W1 (w.heap.size + 1) rn rf ru re (.slice ro rl rc) := by
    rw [← hW1]
    have := R5.new (w.alloc (.cells #[.string nm, .string cr, .int .i64 fr, .int .i64 up, .bool cu, .slice ao n cap] 26)) rn rf ru re (.slice ro rl rc)
    simpa using this
  have B1 : Below w.heap.size w W1 := by rw [← hW1]; exact ba (ba (Below.refl _ _) _) _
  have c0 := Z1.c0
  have c1 := Z1.c1
  have c2 := Z1.c2
  have c3 := Z1.c3
  have c4 := Z1.c4
  have c5 := Z1.c5
  have x0 := X1.c0
  have x1 := X1.c1
  have x2 := X1.c2
  have x3 := X1.c3
  have x4 := X1.c4
  go_enter Tryz.func43, Tryz.ntmps43
  go_wp2_with fail
  refine (HD.out _ B1).mono ?_
  rintro e w2 ⟨rfl, hb2⟩
  have Z2 := Z1.on hb2
  have X2 := X1.on hb2
  have B2 := Below.on B1 hb2
  clear c0 c1 c2 c3 c4 c5 x0 x1 x2 x3 x4 Z1 X1 B1 hb2 HD hW1
  cases q with
  | false =>
    go_wp2
    go_ret
    exact ⟨rfl, B2⟩
  | true =>
    have HR2 := HR.out rfl
    have HR3 : Hid (∀ W, Below w.heap.size w W → Calls Tryz.prog 85 #[.agg #[.string nm, .string cr, .int .i64 fr, .int .i64 up, .bool cu, .slice ao n cap], .agg #[.string rn, .int .i64 rf, .int .i64 ru, .int .i64 re, .slice ro rl rc], .int .i64 i, .bool past, .int .i64 now] W fun e w' => e = .returned (.bool (redB ⟨nm, cr, fr, up, cu, ts⟩ ⟨rn, rf, ru, re, st⟩ i past now)) ∧ Below W.heap.size W w') := HR2
    clear HR HR2
    have c0 := Z2.c0
    have c1 := Z2.c1
    have c2 := Z2.c2
    have c3 := Z2.c3
    have c4 := Z2.c4
    have c5 := Z2.c5
    have x0 := X2.c0
    have x1 := X2.c1
    have x2 := X2.c2
    have x3 := X2.c3
    have x4 := X2.c4
    go_wp2_with fail
    refine (HR3.out _ B2).mono ?_
    rintro e w3 ⟨rfl, hb3⟩
    have B3 := Below.on B2 hb3
    go_wp2
    go_ret
    exact ⟨rfl, B3⟩
set_option maxRecDepth 10000 in
set_option maxHeartbeats 8000000 in
theorem implReady_any (ao : Option Addr) (n cap : Nat) (nm cr : ByteArray) (fr up : Int) (cu : Bool) (ts : List Ta) (ro : Option Addr) (rl rc : Nat) (rn : ByteArray) (rf ru re : Int) (st : List Sa) (i : Int) (past : Bool) (now : Int) (w : World) (hd : DagI w ao n cap ⟨nm, cr, fr, up, cu, ts⟩) (hg : Gl w) (hr : Reads w (.slice ro rl rc) st) (hl : rl ≤ 1048577) :
    Calls Tryz.prog 16 #[.agg #[.string nm, .string cr, .int .i64 fr, .int .i64 up, .bool cu, .slice ao n cap], .agg #[.string rn, .int .i64 rf, .int .i64 ru, .int .i64 re, .slice ro rl rc], .int .i64 i, .bool past, .int .i64 now] w fun e w' => e = .returned (.bool (readyB ⟨nm, cr, fr, up, cu, ts⟩ ⟨rn, rf, ru, re, st⟩ i past now)) ∧ Below w.heap.size w w' := by
  have HN : Hid (ts.length = n) := by
    obtain ⟨ao', cap', e⟩ := hd.tasks.slice
    injection e with _ e2 _
    exact e2.symm
  have HRN : Hid (st.length = rl) := hr.len.symm
  obtain ⟨q, HQ⟩ : ∃ q, Hid (runB ⟨nm, cr, fr, up, cu, ts⟩ ⟨rn, rf, ru, re, st⟩ = q) := ⟨_, rfl⟩
  have HD : Hid (∀ W, Below w.heap.size w W → Calls Tryz.prog 15 #[.agg #[.string nm, .string cr, .int .i64 fr, .int .i64 up, .bool cu, .slice ao n cap], .agg #[.string rn, .int .i64 rf, .int .i64 ru, .int .i64 re, .slice ro rl rc]] W fun e w' => e = .returned (.bool q) ∧ Below W.heap.size W w') := fun W hb => by
    have := implRunOk_any ao n cap nm cr fr up cu ts ro rl rc rn rf ru re st W (hd.below hb) (hg.up hb) (hr.below hb) hl
    rw [HQ.out] at this
    exact this
  obtain ⟨z, HZ⟩ : ∃ z, Hid (isN st i 0 = z) := ⟨_, rfl⟩
  have HWT : Hid (∀ W : World, Below w.heap.size w W → Calls Tryz.prog 55 #[.agg #[.string rn, .int .i64 rf, .int .i64 ru, .int .i64 re, .slice ro rl rc], .int .i64 i] W fun e w' => e = .returned (.bool z) ∧ Below W.heap.size W w') := fun W hb => by
    have := isWaiting_any ro rl rc rn rf ru re st i W (hr.below hb) hl
    rw [HZ.out] at this
    exact this
  have HRB : Hid (readyB ⟨nm, cr, fr, up, cu, ts⟩ ⟨rn, rf, ru, re, st⟩ i past now = (q && redB ⟨nm, cr, fr, up, cu, ts⟩ ⟨rn, rf, ru, re, st⟩ i past now)) := by show readyB _ _ _ _ _ = _; rw [ready_eq, HQ.out]
  have HRG : Hid (q = true → Rg4 ts ∧ rl = n) := fun h => ⟨rg_of (run_parts (HQ.out.trans h)).1, by have := run_len (HQ.out.trans h); rw [← HRN.out, ← HN.out]; exact this⟩
  have HDI : Hid (∀ W, Below w.heap.size w W → DagI W ao n cap ⟨nm, cr, fr, up, cu, ts⟩) := fun W hb => hd.below hb
  have HRD : Hid (∀ W, Below w.heap.size w W → Reads W (.slice ro rl rc) st) := fun W hb => hr.below hb
  rw [HRB.out]
  clear hd hr HQ hg
  obtain ⟨W1, hW1⟩ : ∃ W1, (w.alloc (.cells #[.string nm, .string cr, .int .i64 fr, .int .i64 up, .bool cu, .slice ao n cap] 26)).alloc (.cells #[.string rn, .int .i64 rf, .int .i64 ru, .int .i64 re, .slice ro rl rc] 31) = W1 := ⟨_, rfl⟩
  have Z1 : P6 W1 w.heap.size nm cr fr up cu (.slice ao n cap) := by rw [← hW1]; exact (P6.new _ _ _ _ _ _ _).on (ba (Below.refl _ _) _)
  have X1 : R5 W1 (w.heap.size + 1) rn rf ru re (.slice ro rl rc) := by
    rw [← hW1]
    have := R5.new (w.alloc (.cells #[.string nm, .string cr, .int .i64 fr, .int .i64 up, .bool cu, .slice ao n cap] 26)) rn rf ru re (.slice ro rl rc)
    simpa using this
  have B1 : Below w.heap.size w W1 := by rw [← hW1]; exact ba (ba (Below.refl _ _) _) _
  have c0 := Z1.c0
  have c1 := Z1.c1
  have c2 := Z1.c2
  have c3 := Z1.c3
  have c4 := Z1.c4
  have c5 := Z1.c5
  have x0 := X1.c0
  have x1 := X1.c1
  have x2 := X1.c2
  have x3 := X1.c3
  have x4 := X1.c4
  go_enter Tryz.func16, Tryz.ntmps16
  go_wp2_with fail
  refine (HD.out _ B1).mono ?_
  rintro e w2 ⟨rfl, hb2⟩
  have Z2 := Z1.on hb2
  have X2 := X1.on hb2
  have B2 := Below.on B1 hb2
  clear c0 c1 c2 c3 c4 c5 x0 x1 x2 x3 x4 Z1 X1 B1 hb2 HD hW1
  cases q with
  | false =>
    go_wp2
    go_ret
    exact ⟨rfl, B2⟩
  | true =>
    have HRG1 := HRG.out rfl
    have HRG2 : Hid (Rg4 ts ∧ rl = n) := HRG1
    clear HRG HRG1
    have c0 := Z2.c0
    have c1 := Z2.c1
    have c2 := Z2.c2
    have c3 := Z2.c3
    have c4 := Z2.c4
    have c5 := Z2.c5
    have x0 := X2.c0
    have x1 := X2.c1
    have x2 := X2.c2
    have x3 := X2.c3
    have x4 := X2.c4
    go_wp2_with fail
    refine (HWT.out _ B2).mono ?_
    rintro e w3 ⟨rfl, hb3⟩
    have Z3 := Z2.on hb3
    have X3 := X2.on hb3
    have B3 := Below.on B2 hb3
    clear c0 c1 c2 c3 c4 c5 x0 x1 x2 x3 x4 Z2 X2 B2 hb3 HWT
    cases z with
    | false =>
      have HE : Hid (redB ⟨nm, cr, fr, up, cu, ts⟩ ⟨rn, rf, ru, re, st⟩ i past now = false) := by show redB _ _ _ _ _ = false; unfold redB; rw [show isN (Rr.st ⟨rn, rf, ru, re, st⟩) i 0 = false from HZ.out]; rfl
      go_wp2
      go_ret
      exact ⟨by rw [HE.out]; rfl, B3⟩
    | true =>
    obtain ⟨k, x, ei, hx, hx0⟩ := isN_true HZ.out
    subst ei
    have hk : k < rl := by rw [← HRN.out]; exact (List.getElem?_eq_some_iff.1 hx).1
    obtain ⟨hrg, hln⟩ := HRG2.out
    have HRG3 : Hid (Rg4 ts) := hrg
    subst hln
    clear HRG2 hrg
    obtain ⟨t, ht⟩ : ∃ t, ts[k]? = some t := ⟨_, List.getElem?_eq_getElem (by rw [HN.out]; exact hk)⟩
    obtain ⟨A, HAE⟩ : ∃ A, Hid ((upsA ts (k : Int)).any (undoneB st) = A) := ⟨_, rfl⟩
    have HE : Hid (redB ⟨nm, cr, fr, up, cu, ts⟩ ⟨rn, rf, ru, re, st⟩ (k : Int) past now = (decide (x.til ≤ now) && (!A && (past || !t.past)))) := by
      show redB _ _ _ _ _ = _
      rw [red_at (d := ⟨nm, cr, fr, up, cu, ts⟩) (r := ⟨rn, rf, ru, re, st⟩) hx ht, decide_eq_true hx0]
      show (true && (decide (x.til ≤ now) && (!(upsA ts (k : Int)).any (undoneB st) && (past || !t.past)))) = _
      rw [HAE.out]
      rfl
    obtain ⟨b1, o1, av, e1, hb1, -, -, -, n3, -, -⟩ := (HDI.out w3 B3).tasks.at ht
    obtain ⟨bs, os, es, hbs, -, -, -, d3⟩ := sa_at (HRD.out w3 B3) hx
    subst e1 es
    obtain ⟨is, tr, tk, tl⟩ := x
    obtain ⟨nn, np, nr, pa, naf⟩ := t
    replace d3 : w3.cell? ⟨bs, os + k * 4 + 3, none⟩ = some (.int .i64 tl) := d3
    replace n3 : w3.cell? ⟨b1, o1 + k * 5 + 3, none⟩ = some (.bool pa) := n3
    replace HE : Hid (redB ⟨nm, cr, fr, up, cu, ts⟩ ⟨rn, rf, ru, re, st⟩ (k : Int) past now = (decide (tl ≤ now) && (!A && (past || !pa)))) := HE
    clear hx hx0 ht HZ
    by_cases h1 : tl ≤ now
    case neg =>
      have HE2 : Hid (redB ⟨nm, cr, fr, up, cu, ts⟩ ⟨rn, rf, ru, re, st⟩ (k : Int) past now = false) := by show redB _ _ _ _ _ = false; rw [HE.out, decide_eq_false h1]; rfl
      have h1' : decide (tl ≤ now) = false := decide_eq_false h1
      clear HE
      have q0 := Wd.cell Z3.c0
      have q1 := Wd.cell Z3.c1
      have q2 := Wd.cell Z3.c2
      have q3 := Wd.cell Z3.c3
      have q4 := Wd.cell Z3.c4
      have q5 := Wd.cell Z3.c5
      have p0 := Wd.cell X3.c0
      have p1 := Wd.cell X3.c1
      have p2 := Wd.cell X3.c2
      have p3 := Wd.cell X3.c3
      have p4 := Wd.cell X3.c4
      have qd := Wd.cell d3
      have qn := Wd.cell n3
      go_wp2_with fail
      refine wp_region_wd (by kernel_rfl) (by kernel_rfl) ?_
      repeat (go_big_quiet_step (fail))
      refine wpQuiet_nil ?_
      rintro _ ⟨y, rfl⟩
      have B4 := Below.on B3 y.ok
      go_wp2
      go_ret
      exact ⟨by rw [HE2.out]; rfl, B4⟩
    have h1' : decide (tl ≤ now) = true := decide_eq_true h1
    have HE2 : Hid (redB ⟨nm, cr, fr, up, cu, ts⟩ ⟨rn, rf, ru, re, st⟩ (k : Int) past now = (!A && (past || !pa))) := by show redB _ _ _ _ _ = _; rw [HE.out, h1']; rfl
    clear HE
    have HLU : Hid ((upsA ts (k : Int)).length ≤ 4) := ups_len HRG3.out _
    have HU : Hid (∀ W, Below w.heap.size w W → Calls Tryz.prog 54 #[.agg #[.string nm, .string cr, .int .i64 fr, .int .i64 up, .bool cu, .slice (some ⟨b1, o1, none⟩) rl cap], .int .i64 k] W fun e w' => ∃ (va : Option Addr) (vc : Nat), e = .returned (.slice va (upsA ts (k : Int)).length vc) ∧ ownsR w' W.heap.size 3 (.slice va (upsA ts (k : Int)).length vc) (upsA ts (k : Int)) ∧ Below W.heap.size W w') := fun W hb => upsR_any _ rl cap nm cr fr up cu ts k W (HDI.out W hb) HRG3.out hk
    obtain ⟨U, HUE⟩ : ∃ U, Hid (upsA ts (k : Int) = U) := ⟨_, rfl⟩
    rw [HUE.out] at HAE HLU HU
    obtain ⟨ul, HUL⟩ : ∃ ul, Hid (U.length = ul) := ⟨_, rfl⟩
    rw [HUL.out] at HLU HU
    have HCT : Hid (∀ (ua : Option Addr) (uc : Nat) W, Below w.heap.size w W → Reads W (.slice ua ul uc) U → Calls Tryz.prog 56 #[.slice ua ul uc, .func (.func 57) #[.agg #[.string rn, .int .i64 rf, .int .i64 ru, .int .i64 re, .slice (some ⟨bs, os, none⟩) rl rc]] #[]] W fun e w' => e = .returned (.bool A) ∧ Below W.heap.size W w') := fun ua uc W hb hu => by
      have := cont_isNotDone ua ul uc U (some ⟨bs, os, none⟩) rl rc rn rf ru re st W (HRD.out W hb) hl hu (by have := HLU.out; omega)
      rw [HAE.out] at this
      exact this
    clear HUE HUL HLU HAE HRD HDI
    have q0 := Wd.cell Z3.c0
    have q1 := Wd.cell Z3.c1
    have q2 := Wd.cell Z3.c2
    have q3 := Wd.cell Z3.c3
    have q4 := Wd.cell Z3.c4
    have q5 := Wd.cell Z3.c5
    have p0 := Wd.cell X3.c0
    have p1 := Wd.cell X3.c1
    have p2 := Wd.cell X3.c2
    have p3 := Wd.cell X3.c3
    have p4 := Wd.cell X3.c4
    have qd := Wd.cell d3
    have qn := Wd.cell n3
    go_wp2_with fail
    have hdr : Below w3.heap.size w3 w3.drew := (Below.refl _ _).drew
    cases A <;> cases past
    all_goals
      refine wp_region_pick (fun w' => ∃ x : Wd w3, w' = x.at') [0, 1, 2, 3, 4, 5, 6, 7, 8, 9, 10, 12] 29 17 (by kernel_rfl) (by decide) (by decide) (by kernel_rfl) (fun _ _ d _ _ h => by cases d <;> exact h) ⟨⟨w3.drew, hdr⟩, rfl⟩ ?_
      (repeat (refine wpTakes_l rfl (by first | (intro x h; cases h; done) | (intro x h; cases h; exact ⟨_, rfl⟩)) ?_; go_big_quiet_step (fail); refine wpQuiet_nil ?_)); refine takes_nil ?_
      refine pk_twoW (fuel := 16) (i := 11) (j := 13) (by kernel_rfl) rfl rfl (by kernel_rfl) (by kernel_rfl) ?_ ?_
      · intro K hK
        go_wp2_with fail
        refine (HU.out _ (Below.on B3 hdr)).mono ?_
        rintro e w6 ⟨ua, uc, rfl, ho6, hb6⟩
        have B6 : Below w3.heap.size w3 w6 := Below.on hdr hb6
        have hr6 := ho6.reads
        clear ho6 hb6
        go_wp2
        refine hK.out _ _ ⟨⟨w6, B6⟩, rfl⟩ ?_
        clear hK K
        refine pk_oneW (fuel := 15) (i := 13) (by kernel_rfl) rfl (by kernel_rfl) ?_
        intro K hK
        go_wp2
        refine hK.out _ _ ⟨⟨w6, B6⟩, rfl⟩ ?_
        clear hK K
        refine pk_oneW (fuel := 14) (i := 14) (by kernel_rfl) rfl (by kernel_rfl) ?_
        intro K hK
        go_wp2_with fail
        refine (HCT.out _ _ _ (Below.on B3 B6) hr6).mono ?_
        rintro e w7 ⟨rfl, hb7⟩
        have B7 : Below w3.heap.size w3 w7 := Below.on B6 hb7
        clear hb7
        go_wp2
        refine hK.out _ _ ⟨⟨w7, B7⟩, rfl⟩ ?_
        clear hK K
        refine pk_takes [15, 16, 17, 18, 19, 20, 21, 22, 23, 24, 25, 26, 27, 28] 29 0 ⟨⟨w7, B7⟩, rfl⟩ (by kernel_rfl) (fun _ _ d _ _ h => by cases d <;> exact h) ?_
        (repeat (refine wpTakes_l rfl (by first | (intro x h; cases h; done) | (intro x h; cases h; exact ⟨_, rfl⟩)) ?_; go_big_quiet_step (fail); refine wpQuiet_nil ?_)); refine takes_nil ?_
        refine any_done (by kernel_rfl) ?_
        simp only [List.drop_succ_cons, List.drop_zero]
        have B8 := Below.on B3 B7
        go_wp2
        go_ret
        exact ⟨by rw [HE2.out]; rfl, B8⟩
      · intro K hK
        go_wp2
        refine hK.out _ _ ⟨⟨w3.drew, hdr⟩, rfl⟩ ?_
        clear hK K
        refine pk_oneW (fuel := 15) (i := 11) (by kernel_rfl) rfl (by kernel_rfl) ?_
        intro K hK
        go_wp2_with fail
        refine (HU.out _ (Below.on B3 hdr)).mono ?_
        rintro e w6 ⟨ua, uc, rfl, ho6, hb6⟩
        have B6 : Below w3.heap.size w3 w6 := Below.on hdr hb6
        have hr6 := ho6.reads
        clear ho6 hb6
        go_wp2
        refine hK.out _ _ ⟨⟨w6, B6⟩, rfl⟩ ?_
        clear hK K
        refine pk_oneW (fuel := 14) (i := 14) (by kernel_rfl) rfl (by kernel_rfl) ?_
        intro K hK
        go_wp2_with fail
        refine (HCT.out _ _ _ (Below.on B3 B6) hr6).mono ?_
        rintro e w7 ⟨rfl, hb7⟩
        have B7 : Below w3.heap.size w3 w7 := Below.on B6 hb7
        clear hb7
        go_wp2
        refine hK.out _ _ ⟨⟨w7, B7⟩, rfl⟩ ?_
        clear hK K
        refine pk_takes [15, 16, 17, 18, 19, 20, 21, 22, 23, 24, 25, 26, 27, 28] 29 0 ⟨⟨w7, B7⟩, rfl⟩ (by kernel_rfl) (fun _ _ d _ _ h => by cases d <;> exact h) ?_
        (repeat (refine wpTakes_l rfl (by first | (intro x h; cases h; done) | (intro x h; cases h; exact ⟨_, rfl⟩)) ?_; go_big_quiet_step (fail); refine wpQuiet_nil ?_)); refine takes_nil ?_
        refine any_done (by kernel_rfl) ?_
        simp only [List.drop_succ_cons, List.drop_zero]
        have B8 := Below.on B3 B7
        go_wp2
        go_ret
        exact ⟨by rw [HE2.out]; rfl, B8⟩
end Go.Proofs.YtbaooljchilkhaaGreatDoor
