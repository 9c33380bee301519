/-
  Runs: plain facts beside a plan. Places gone through with a question bound to its run (slices.ContainsFunc at method values): the walks.
-/
import Derived.Test.YtjmclcjhimcehaaGreatDoorG19
import Derived.Test.YtjmclcjhimcehaaGreatDoorG1
import Derived.Test.YtjmclcjhimcehaaGreatDoorG3
namespace Go.Proofs.YtjmclcjhimcehaaGreatDoor
open Go Go.RowKit
set_option linter.unusedVariables false

def stuckB (st : List Sa) (i : Int) : Bool := isN st i 3 || isN st i 4
def undoneB (st : List Sa) (i : Int) : Bool := !isN st i 2
/-- Whether a state may stand behind these. -/
def standB (st : List Sa) (ups : List Int) (s : Int) : Bool :=
  if s = 1 ∨ s = 2 then !(ups.any (undoneB st)) else if s = 4 then ups.any (stuckB st) else if s = 0 then !(ups.any (stuckB st)) else decide (s = 3)
def saB (s : Sa) (ret : Int) : Bool := decide (0 ≤ s.tries ∧ s.tries ≤ ret + 1 ∧ 0 ≤ s.tok ∧ s.tok ≤ 1000000000 ∧ (0 < s.tok ↔ s.is = 1) ∧ 0 ≤ s.til ∧ s.til ≤ 68374179)
def retN (ts : List Ta) (i : Nat) : Int := (ts[i]?.map fun t => t.ret).getD 0
def pastN (ts : List Ta) (i : Nat) : Bool := (ts[i]?.map fun t => t.past).getD false
theorem retN_at {ts : List Ta} {i : Nat} {t : Ta} (h : ts[i]? = some t) : retN ts i = t.ret := by unfold retN; rw [h]; rfl
theorem pastN_at {ts : List Ta} {i : Nat} {t : Ta} (h : ts[i]? = some t) : pastN ts i = t.past := by unfold pastN; rw [h]; rfl
def okAt (ts : List Ta) (st : List Sa) (i : Nat) : Bool := saB (sAt st i) (retN ts i) && standB st (upsA ts (i : Int)) (sAt st i).is
def spanB (fr up : Int) : Bool := decide (0 ≤ fr ∧ fr < up ∧ up ≤ 68374079)
def headB (d : Dg) (r : Rr) : Bool := decide (r.nm = d.name ∧ spanB r.fr r.up = true ∧ 0 ≤ r.ep ∧ r.ep ≤ 1000 ∧ r.st.length = d.tasks.length)
def runB (d : Dg) (r : Rr) : Bool := dagB d && (headB d r && (List.range d.tasks.length).all (okAt d.tasks r.st))
/-- What the specification asks of one state. -/
def specAt (ts : List Ta) (st : List Sa) (i : Nat) : Bool :=
  decide (0 ≤ (sAt st i).is ∧ (sAt st i).is ≤ 4) && (saB (sAt st i) (retN ts i) &&
    !((decide ((sAt st i).is = 1) || decide ((sAt st i).is = 2)) && (upsA ts (i : Int)).any (undoneB st) || (decide ((sAt st i).is = 4) && !(upsA ts (i : Int)).any (stuckB st) || decide ((sAt st i).is = 0) && (upsA ts (i : Int)).any (stuckB st))))
theorem spec_ok (ts : List Ta) (st : List Sa) (i : Nat) : specAt ts st i = okAt ts st i := by
  unfold specAt okAt standB
  generalize (sAt st i).is = s
  generalize saB (sAt st i) (retN ts i) = q
  generalize (upsA ts (i : Int)).any (undoneB st) = a
  generalize (upsA ts (i : Int)).any (stuckB st) = b
  by_cases h1 : s = 1
  · subst h1; cases q <;> cases a <;> cases b <;> decide
  by_cases h2 : s = 2
  · subst h2; cases q <;> cases a <;> cases b <;> decide
  by_cases h3 : s = 4
  · subst h3; cases q <;> cases a <;> cases b <;> decide
  by_cases h4 : s = 0
  · subst h4; cases q <;> cases a <;> cases b <;> decide
  by_cases h5 : s = 3
  · subst h5; cases q <;> cases a <;> cases b <;> decide
  · rw [decide_eq_false (p := 0 ≤ s ∧ s ≤ 4) (by omega), if_neg (by omega), if_neg h3, if_neg h4, decide_eq_false h5]
    cases q <;> rfl
def readyB (d : Dg) (r : Rr) (i : Int) (past : Bool) (now : Int) : Bool :=
  runB d r && (isN r.st i 0 && (decide ((sAt r.st i.toNat).til ≤ now) && (!(upsA d.tasks i).any (undoneB r.st) && (past || !pastN d.tasks i.toNat))))
/-- One more is blocked, if it waits behind one that is stuck. -/
def blockS (ts : List Ta) (st : List Sa) (a : Int) : List Sa := if isN st a 0 && (upsA ts a).any (stuckB st) then st.set a.toNat ⟨4, (sAt st a.toNat).tries, (sAt st a.toNat).tok, 0⟩ else st
def blockL (ts : List Ta) (st : List Sa) : List Sa := (orderL ts).foldl (blockS ts) st
theorem blockS_len (ts : List Ta) (st : List Sa) (a : Int) : (blockS ts st a).length = st.length := by
  unfold blockS
  split
  · exact List.length_set ..
  · rfl
theorem blockF_len (ts : List Ta) : ∀ (O : List Int) (st : List Sa), (O.foldl (blockS ts) st).length = st.length
  | [], _ => rfl
  | a :: O, st => by rw [List.foldl_cons, blockF_len ts O, blockS_len]
theorem blockL_len (ts : List Ta) (st : List Sa) : (blockL ts st).length = st.length := blockF_len ts _ st
def blockR (d : Dg) (st : List Sa) : List Sa := if dagB d = true ∧ st.length = d.tasks.length then blockL d.tasks st else st
/-- A state behind a fault. -/
def failS (s : Sa) (ret now : Int) : Sa := if ret < min s.tries ret + 1 then ⟨3, min s.tries ret + 1, 0, 0⟩ else ⟨0, min s.tries ret + 1, 0, now + backN (min s.tries ret + 1)⟩
def finB (d : Dg) (r : Rr) (i now : Int) : Bool := runB d r && (isN r.st i 1 && decide (0 ≤ now ∧ now ≤ 68374079))
def finishS (d : Dg) (r : Rr) (i : Int) (good : Bool) (now : Int) : List Sa :=
  if good = true then r.st.set i.toNat ⟨2, (sAt r.st i.toNat).tries, 0, 0⟩ else blockL d.tasks (r.st.set i.toNat (failS (sAt r.st i.toNat) (retN d.tasks i.toNat) now))
def clearL (st : List Sa) (l : List Int) : List Sa := l.foldl (fun s a => s.set a.toNat default) st
def clearB (d : Dg) (r : Rr) (i : Int) : Bool :=
  runB d r && (decide (0 ≤ i ∧ i < (r.st.length : Int) ∧ r.ep ≠ 1000) && (!((downC d.tasks i ++ [i]).any fun a => isN r.st a 1) && !(upsA d.tasks i).any (stuckB r.st)))
def clearS (d : Dg) (r : Rr) (i : Int) : List Sa := blockL d.tasks (clearL r.st (downC d.tasks i ++ [i]))
theorem clearL_len : ∀ (l : List Int) (st : List Sa), (clearL st l).length = st.length
  | [], _ => rfl
  | a :: l, st => by
    show (clearL (st.set a.toNat default) l).length = _
    rw [clearL_len l, List.length_set]
theorem clearL_at : ∀ (l : List Int) (st : List Sa) (k : Nat), (clearL st l)[k]? = if (∃ a ∈ l, a.toNat = k) ∧ k < st.length then some default else st[k]?
  | [], st, k => by
    rw [if_neg (fun h => by obtain ⟨⟨a, ha, _⟩, _⟩ := h; cases ha)]; rfl
  | a :: l, st, k => by
    show (clearL (st.set a.toNat default) l)[k]? = _
    rw [clearL_at l, List.length_set]
    by_cases hk : k < st.length
    · by_cases ha : a.toNat = k
      · rw [if_pos (c := (∃ b ∈ a :: l, b.toNat = k) ∧ k < st.length) ⟨⟨a, List.mem_cons_self .., ha⟩, hk⟩]
        split
        · rfl
        · subst ha; exact List.getElem?_set_self hk
      · rw [List.getElem?_set_ne ha]
        by_cases hl : ∃ b ∈ l, b.toNat = k
        · rw [if_pos ⟨hl, hk⟩, if_pos ⟨by obtain ⟨b, hb, e⟩ := hl; exact ⟨b, List.mem_cons_of_mem _ hb, e⟩, hk⟩]
        · rw [if_neg (fun h => hl h.1), if_neg]
          rintro ⟨⟨b, hb, e⟩, _⟩
          rcases List.mem_cons.1 hb with rfl | hb
          · exact ha e
          · exact hl ⟨b, hb, e⟩
    · rw [if_neg (fun h => hk h.2), if_neg (fun h => hk h.2), List.getElem?_set]
      split
      · rename_i e; rw [if_neg (by omega), List.getElem?_eq_none (by omega)]
      · rfl
theorem clearL_comm (st : List Sa) (l : List Int) (i : Int) : clearL st (i :: l) = clearL st (l ++ [i]) := by
  apply List.ext_getElem?
  intro k
  rw [clearL_at, clearL_at]
  have : (∃ a ∈ i :: l, a.toNat = k) ↔ (∃ a ∈ l ++ [i], a.toNat = k) := by
    constructor
    · rintro ⟨a, ha, e⟩
      exact ⟨a, by rcases List.mem_cons.1 ha with rfl | h <;> simp_all, e⟩
    · rintro ⟨a, ha, e⟩
      exact ⟨a, by rcases List.mem_append.1 ha with h | h <;> simp_all, e⟩
  by_cases hq : (∃ a ∈ i :: l, a.toNat = k) ∧ k < st.length
  · rw [if_pos hq, if_pos ⟨this.1 hq.1, hq.2⟩]
  · rw [if_neg hq, if_neg fun h => hq ⟨this.2 h.1, h.2⟩]
/-- Where nothing that waits stands behind what is stuck, nothing more is blocked. -/
theorem blockF_none {ts : List Ta} {st : List Sa} (h : ∀ a, isN st a 0 = true → (upsA ts a).any (stuckB st) = false) : ∀ (O : List Int), O.foldl (blockS ts) st = st
  | [] => rfl
  | a :: O => by
    rw [List.foldl_cons]
    have e : blockS ts st a = st := by
      unfold blockS
      rw [if_neg]
      intro hq
      rw [Bool.and_eq_true] at hq
      rw [h a hq.1] at hq
      exact absurd hq.2 (by decide)
    rw [e, blockF_none h O]
theorem run_parts {d : Dg} {r : Rr} (h : runB d r = true) : dagB d = true ∧ headB d r = true ∧ ∀ i, i < d.tasks.length → okAt d.tasks r.st i = true := by
  unfold runB at h
  rw [Bool.and_eq_true, Bool.and_eq_true, List.all_eq_true] at h
  exact ⟨h.1, h.2.1, fun i hi => h.2.2 i (List.mem_range.2 hi)⟩
theorem run_len {d : Dg} {r : Rr} (h : runB d r = true) : r.st.length = d.tasks.length := (of_decide_eq_true (run_parts h).2.1).2.2.2.2
theorem ok_stand {ts : List Ta} {st : List Sa} {i : Nat} (h : okAt ts st i = true) : saB (sAt st i) (retN ts i) = true ∧ standB st (upsA ts (i : Int)) (sAt st i).is = true := by
  unfold okAt at h; rw [Bool.and_eq_true] at h; exact h
theorem stand_done {st : List Sa} {ups : List Int} {s : Int} (hs : s = 1 ∨ s = 2) (h : standB st ups s = true) : ∀ u ∈ ups, isN st u 2 = true := by
  unfold standB at h
  rw [if_pos hs, Bool.not_eq_true', List.any_eq_false] at h
  intro u hu
  have := h u hu
  unfold undoneB at this
  simpa using this
theorem stand_wait {st : List Sa} {ups : List Int} (h : standB st ups 0 = true) : ups.any (stuckB st) = false := by
  unfold standB at h
  rw [if_neg (by decide), if_neg (by decide), if_pos rfl, Bool.not_eq_true'] at h
  exact h
/-- A task that is to be tried again blocks nothing. -/
theorem again_none {d : Dg} {r : Rr} {i : Nat} {x : Sa} (h : runB d r = true) (hi : isN r.st (i : Int) 1 = true) (hx : x.is = 0) : blockL d.tasks (r.st.set i x) = r.st.set i x := by
  have hok := (run_parts h).2.2
  have hl := run_len h
  obtain ⟨k, y, e, hy, hy1⟩ := isN_true hi
  have : i = k := by omega
  subst this
  have hil := (List.getElem?_eq_some_iff.1 hy).1
  have hst : ∀ u, stuckB r.st u = false → stuckB (r.st.set i x) u = false := fun u hu => by
    by_cases hui : u = (i : Int)
    · subst hui
      unfold stuckB
      rw [isN_set_self hil, isN_set_self hil, hx]
      decide
    · unfold stuckB at hu ⊢
      rw [isN_set_ne hui, isN_set_ne hui]
      exact hu
  refine blockF_none (fun a ha => ?_) _
  obtain ⟨m, z, rfl, hz, hz0⟩ := isN_true ha
  have hml : m < d.tasks.length := by have := (List.getElem?_eq_some_iff.1 hz).1; rw [List.length_set] at this; omega
  have hs := (ok_stand (hok m hml)).2
  have hm : ∀ u ∈ upsA d.tasks (m : Int), stuckB r.st u = false := by
    by_cases hmi : m = i
    · subst hmi
      rw [sAt_at hy] at hs
      intro u hu
      have := stand_done (.inl hy1) hs u hu
      unfold stuckB
      rw [isN_two this (by decide), isN_two this (by decide)]
      rfl
    · rw [List.getElem?_set_ne (fun e => hmi e.symm)] at hz
      rw [sAt_at hz, hz0] at hs
      have := stand_wait hs
      rw [List.any_eq_false] at this
      intro u hu
      have := this u hu
      simpa using this
  rw [List.any_eq_false]
  intro u hu
  rw [hst u (hm u hu)]
  decide
end Go.Proofs.YtjmclcjhimcehaaGreatDoor

namespace Go.Proofs.YtjmclcjhimcehaaGreatDoor
open Go Go.RowKit
set_option linter.unusedVariables false

theorem anyR_at {p : Int → Bool} {l : List Int} {k : Nat} {x : Int} (h : l[k]? = some x) : (l.drop k).any p = (p x || (l.drop (k + 1)).any p) := by
  obtain ⟨hk, rfl⟩ := List.getElem?_eq_some_iff.1 h
  rw [List.drop_eq_getElem_cons hk]
  rfl
theorem anyR_end {p : Int → Bool} {l : List Int} {k : Nat} (h : k = l.length) : (l.drop k).any p = false := by subst h; rw [List.drop_length]; rfl
set_option maxRecDepth 10000 in
set_option maxHeartbeats 2000000 in
theorem isNotDone_any (ao : Option Addr) (n cap : Nat) (nm : ByteArray) (fr up ep : Int) (st : List Sa) (i : Int) (w : World) (hr : Reads w (.slice ao n cap) st) (hn : n ≤ 1048577) :
    Calls Tryz.prog 55 #[.agg #[.string nm, .int .i64 fr, .int .i64 up, .int .i64 ep, .slice ao n cap], .int .i64 i] w fun e w' => e = .returned (.bool (undoneB st i)) ∧ Below w.heap.size w w' := by
  have H1 : Hid (∀ W s, Below w.heap.size w W → Calls Tryz.prog 106 #[.agg #[.string nm, .int .i64 fr, .int .i64 up, .int .i64 ep, .slice ao n cap], .int .i64 i, .int .i64 s] W fun e w' => e = .returned (.bool (isN st i s)) ∧ Below W.heap.size W w') := fun W s hb => isIn_any ao n cap nm fr up ep st i s W (hr.below hb) hn
  clear hr
  go_enter Tryz.func55, Tryz.ntmps55
  go_wp2_with fail
  refine (H1.out _ _ (ba (Below.refl _ _) _)).mono ?_
  rintro e w1 ⟨rfl, hb1⟩
  go_wp2
  go_ret
  exact ⟨rfl, below_new hb1⟩
set_option maxRecDepth 10000 in
set_option maxHeartbeats 2000000 in
theorem isStuck_any (ao : Option Addr) (n cap : Nat) (nm : ByteArray) (fr up ep : Int) (st : List Sa) (i : Int) (w : World) (hr : Reads w (.slice ao n cap) st) (hn : n ≤ 1048577) :
    Calls Tryz.prog 68 #[.agg #[.string nm, .int .i64 fr, .int .i64 up, .int .i64 ep, .slice ao n cap], .int .i64 i] w fun e w' => e = .returned (.bool (stuckB st i)) ∧ Below w.heap.size w w' := by
  have H1 : Hid (∀ W s, Below w.heap.size w W → Calls Tryz.prog 106 #[.agg #[.string nm, .int .i64 fr, .int .i64 up, .int .i64 ep, .slice ao n cap], .int .i64 i, .int .i64 s] W fun e w' => e = .returned (.bool (isN st i s)) ∧ Below W.heap.size W w') := fun W s hb => isIn_any ao n cap nm fr up ep st i s W (hr.below hb) hn
  have HQ : Hid (stuckB st i = (isN st i 3 || isN st i 4)) := rfl
  rw [HQ.out]
  clear hr
  obtain ⟨W1, hW1⟩ : ∃ W1, w.alloc (.cells #[.string nm, .int .i64 fr, .int .i64 up, .int .i64 ep, .slice ao n cap] 31) = W1 := ⟨_, rfl⟩
  have Z1 : R5 W1 w.heap.size nm fr up ep (.slice ao n cap) := by rw [← hW1]; exact R5.new _ _ _ _ _ _
  have B1 : Below w.heap.size w W1 := by rw [← hW1]; exact ba (Below.refl _ _) _
  have c0 := Z1.c0
  have c1 := Z1.c1
  have c2 := Z1.c2
  have c3 := Z1.c3
  have c4 := Z1.c4
  go_enter Tryz.func68, Tryz.ntmps68
  go_wp2_with fail
  refine (H1.out _ _ B1).mono ?_
  rintro e w1 ⟨rfl, hb1⟩
  have Z2 := Z1.on hb1
  have B2 := Below.on B1 hb1
  clear c0 c1 c2 c3 c4 Z1 B1 hb1 hW1
  obtain ⟨q, HE⟩ : ∃ q, Hid (isN st i 3 = q) := ⟨_, rfl⟩
  rw [HE.out]
  cases q with
  | true =>
    go_wp2
    go_ret
    exact ⟨by rw [HE.out]; rfl, B2⟩
  | false =>
    have c0 := Z2.c0
    have c1 := Z2.c1
    have c2 := Z2.c2
    have c3 := Z2.c3
    have c4 := Z2.c4
    go_wp2_with fail
    refine (H1.out _ _ B2).mono ?_
    rintro e w2 ⟨rfl, hb2⟩
    have B3 := Below.on B2 hb2
    go_wp2
    go_ret
    exact ⟨by rw [HE.out]; rfl, B3⟩
set_option maxRecDepth 10000 in
set_option maxHeartbeats 2000000 in
theorem idx_isNotDone (uo : Option Addr) (un uc : Nat) (U : List Int) (ao : Option Addr) (n cap : Nat) (nm : ByteArray) (fr up ep : Int) (st : List Sa) (w : World) (hr : Reads w (.slice ao n cap) st) (hn : n ≤ 1048577) (hu : Reads w (.slice uo un uc) U) (hun : un ≤ 1048577) :
    Calls Tryz.prog 107 #[.slice uo un uc, .func (.func 55) #[.agg #[.string nm, .int .i64 fr, .int .i64 up, .int .i64 ep, .slice ao n cap]] #[]] w fun e w' => ∃ r : Int, e = .returned (.int .i64 r) ∧ decide (0 ≤ r) = U.any (undoneB st) ∧ Below w.heap.size w w' := by
  have HC : Hid (∀ (W : World) (x : Int), Below w.heap.size w W → Calls Tryz.prog 55 #[.agg #[.string nm, .int .i64 fr, .int .i64 up, .int .i64 ep, .slice ao n cap], .int .i64 x] W fun e w' => e = .returned (.bool (undoneB st x)) ∧ Below W.heap.size W w') := fun W x hb => isNotDone_any ao n cap nm fr up ep st x W (hr.below hb) hn
  obtain ⟨pr, HP⟩ : ∃ pr : Int → Bool, Hid (undoneB st = pr) := ⟨_, rfl⟩
  have HC1 : Hid (∀ (W : World) (x : Int), Below w.heap.size w W → Calls Tryz.prog 55 #[.agg #[.string nm, .int .i64 fr, .int .i64 up, .int .i64 ep, .slice ao n cap], .int .i64 x] W fun e w' => e = .returned (.bool (pr x)) ∧ Below W.heap.size W w') := by rw [← HP.out]; exact HC
  have HN : Hid (un = U.length) := hu.len
  have HR : Hid (∀ W, Below w.heap.size w W → Reads W (.slice uo un uc) U) := fun W hb => hu.below hb
  rw [HP.out]
  clear hr hn hu HC HP
  go_enter Tryz.func107, Tryz.ntmps107
  go_wp2
  go_loopw [8] (fun iv wr => ∃ k : Nat, k ≤ un ∧ iv = .int .i64 k ∧ Hid (U.any pr = (U.drop k).any pr) ∧ Below w.heap.size w wr) (fun iv _ => un - (intOf iv).toNat)
  case atStart => exact ⟨0, Nat.zero_le _, rfl, (by show _ = (U.drop 0).any _; rw [List.drop_zero]), Below.refl _ _⟩
  case round =>
    obtain ⟨k, hk, rfl, HE, hbel⟩ := hrel
    by_cases hlt : k < un
    · obtain ⟨t, ht⟩ : ∃ t, U[k]? = some t := ⟨_, List.getElem?_eq_getElem (by rw [← HN.out]; exact hlt)⟩
      obtain ⟨b', o, eb, hb, c0⟩ := int_at (HR.out wr hbel) ht
      subst eb
      obtain ⟨q, HQ⟩ : ∃ q, Hid (pr t = q) := ⟨_, rfl⟩
      have HC2 : Hid (Calls Tryz.prog 55 #[.agg #[.string nm, .int .i64 fr, .int .i64 up, .int .i64 ep, .slice ao n cap], .int .i64 t] wr fun e w' => e = .returned (.bool q) ∧ Below wr.heap.size wr w') := by
        have := HC1.out wr t hbel
        rwa [HQ.out] at this
      have HA : Hid (U.any pr = (q || (U.drop (k + 1)).any pr)) := HE.out.trans (by rw [anyR_at ht, HQ.out])
      clear ht HC1 HQ HE
      cases q with
      | true =>
        have HF : Hid (true = U.any pr) := HA.out.symm
        go_wp2_with fail
        refine HC2.out.mono ?_
        rintro e w1 ⟨rfl, hb1⟩
        have B1 := Below.on hbel hb1
        go_wp2
        go_ret
        exact ⟨_, rfl, (decide_eq_true (by omega)).trans HF.out, B1⟩
      | false =>
        have HF : Hid (U.any pr = (U.drop (k + 1)).any pr) := HA.out
        go_wp2_with fail
        refine HC2.out.mono ?_
        rintro e w1 ⟨rfl, hb1⟩
        have B1 := Below.on hbel hb1
        clear c0 hb1 hbel
        go_wp2
        go_roundw
        case rel => exact ⟨k + 1, by omega, by go_num, HF, B1⟩
        case measure => simp [intOf]; omega
    · have HF : Hid (false = U.any pr) := (HE.out.trans (anyR_end (by rw [← HN.out]; omega))).symm
      go_wp2
      go_ret
      exact ⟨_, rfl, (decide_eq_false (by omega)).trans HF.out, hbel⟩
theorem cont_isNotDone (uo : Option Addr) (un uc : Nat) (U : List Int) (ao : Option Addr) (n cap : Nat) (nm : ByteArray) (fr up ep : Int) (st : List Sa) (w : World) (hr : Reads w (.slice ao n cap) st) (hn : n ≤ 1048577) (hu : Reads w (.slice uo un uc) U) (hun : un ≤ 1048577) :
    Calls Tryz.prog 53 #[.slice uo un uc, .func (.func 55) #[.agg #[.string nm, .int .i64 fr, .int .i64 up, .int .i64 ep, .slice ao n cap]] #[]] w fun e w' => e = .returned (.bool (U.any (undoneB st))) ∧ Below w.heap.size w w' := by
  have HI := idx_isNotDone uo un uc U ao n cap nm fr up ep st w hr hn hu hun
  clear hr hn hu
  go_enter Tryz.func53, Tryz.ntmps53
  go_wp2_with fail
  refine HI.mono ?_
  rintro e w1 ⟨r, rfl, hd, hb1⟩
  go_wp2
  go_ret
  exact ⟨by rw [← hd]; rfl, hb1⟩
set_option maxRecDepth 10000 in
set_option maxHeartbeats 2000000 in
theorem idx_isStuck (uo : Option Addr) (un uc : Nat) (U : List Int) (ao : Option Addr) (n cap : Nat) (nm : ByteArray) (fr up ep : Int) (st : List Sa) (w : World) (hr : Reads w (.slice ao n cap) st) (hn : n ≤ 1048577) (hu : Reads w (.slice uo un uc) U) (hun : un ≤ 1048577) :
    Calls Tryz.prog 107 #[.slice uo un uc, .func (.func 68) #[.agg #[.string nm, .int .i64 fr, .int .i64 up, .int .i64 ep, .slice ao n cap]] #[]] w fun e w' => ∃ r : Int, e = .returned (.int .i64 r) ∧ decide (0 ≤ r) = U.any (stuckB st) ∧ Below w.heap.size w w' := by
  have HC : Hid (∀ (W : World) (x : Int), Below w.heap.size w W → Calls Tryz.prog 68 #[.agg #[.string nm, .int .i64 fr, .int .i64 up, .int .i64 ep, .slice ao n cap], .int .i64 x] W fun e w' => e = .returned (.bool (stuckB st x)) ∧ Below W.heap.size W w') := fun W x hb => isStuck_any ao n cap nm fr up ep st x W (hr.below hb) hn
  obtain ⟨pr, HP⟩ : ∃ pr : Int → Bool, Hid (stuckB st = pr) := ⟨_, rfl⟩
  have HC1 : Hid (∀ (W : World) (x : Int), Below w.heap.size w W → Calls Tryz.prog 68 #[.agg #[.string nm, .int .i64 fr, .int .i64 up, .int .i64 ep, .slice ao n cap], .int .i64 x] W fun e w' => e = .returned (.bool (pr x)) ∧ Below W.heap.size W w') := by rw [← HP.out]; exact HC
  have HN : Hid (un = U.length) := hu.len
  have HR : Hid (∀ W, Below w.heap.size w W → Reads W (.slice uo un uc) U) := fun W hb => hu.below hb
  rw [HP.out]
  clear hr hn hu HC HP
  go_enter Tryz.func107, Tryz.ntmps107
  go_wp2
  go_loopw [8] (fun iv wr => ∃ k : Nat, k ≤ un ∧ iv = .int .i64 k ∧ Hid (U.any pr = (U.drop k).any pr) ∧ Below w.heap.size w wr) (fun iv _ => un - (intOf iv).toNat)
  case atStart => exact ⟨0, Nat.zero_le _, rfl, (by show _ = (U.drop 0).any _; rw [List.drop_zero]), Below.refl _ _⟩
  case round =>
    obtain ⟨k, hk, rfl, HE, hbel⟩ := hrel
    by_cases hlt : k < un
    · obtain ⟨t, ht⟩ : ∃ t, U[k]? = some t := ⟨_, List.getElem?_eq_getElem (by rw [← HN.out]; exact hlt)⟩
      obtain ⟨b', o, eb, hb, c0⟩ := int_at (HR.out wr hbel) ht
      subst eb
      obtain ⟨q, HQ⟩ : ∃ q, Hid (pr t = q) := ⟨_, rfl⟩
      have HC2 : Hid (Calls Tryz.prog 68 #[.agg #[.string nm, .int .i64 fr, .int .i64 up, .int .i64 ep, .slice ao n cap], .int .i64 t] wr fun e w' => e = .returned (.bool q) ∧ Below wr.heap.size wr w') := by
        have := HC1.out wr t hbel
        rwa [HQ.out] at this
      have HA : Hid (U.any pr = (q || (U.drop (k + 1)).any pr)) := HE.out.trans (by rw [anyR_at ht, HQ.out])
      clear ht HC1 HQ HE
      cases q with
      | true =>
        have HF : Hid (true = U.any pr) := HA.out.symm
        go_wp2_with fail
        refine HC2.out.mono ?_
        rintro e w1 ⟨rfl, hb1⟩
        have B1 := Below.on hbel hb1
        go_wp2
        go_ret
        exact ⟨_, rfl, (decide_eq_true (by omega)).trans HF.out, B1⟩
      | false =>
        have HF : Hid (U.any pr = (U.drop (k + 1)).any pr) := HA.out
        go_wp2_with fail
        refine HC2.out.mono ?_
        rintro e w1 ⟨rfl, hb1⟩
        have B1 := Below.on hbel hb1
        clear c0 hb1 hbel
        go_wp2
        go_roundw
        case rel => exact ⟨k + 1, by omega, by go_num, HF, B1⟩
        case measure => simp [intOf]; omega
    · have HF : Hid (false = U.any pr) := (HE.out.trans (anyR_end (by rw [← HN.out]; omega))).symm
      go_wp2
      go_ret
      exact ⟨_, rfl, (decide_eq_false (by omega)).trans HF.out, hbel⟩
theorem cont_isStuck (uo : Option Addr) (un uc : Nat) (U : List Int) (ao : Option Addr) (n cap : Nat) (nm : ByteArray) (fr up ep : Int) (st : List Sa) (w : World) (hr : Reads w (.slice ao n cap) st) (hn : n ≤ 1048577) (hu : Reads w (.slice uo un uc) U) (hun : un ≤ 1048577) :
    Calls Tryz.prog 53 #[.slice uo un uc, .func (.func 68) #[.agg #[.string nm, .int .i64 fr, .int .i64 up, .int .i64 ep, .slice ao n cap]] #[]] w fun e w' => e = .returned (.bool (U.any (stuckB st))) ∧ Below w.heap.size w w' := by
  have HI := idx_isStuck uo un uc U ao n cap nm fr up ep st w hr hn hu hun
  clear hr hn hu
  go_enter Tryz.func53, Tryz.ntmps53
  go_wp2_with fail
  refine HI.mono ?_
  rintro e w1 ⟨r, rfl, hd, hb1⟩
  go_wp2
  go_ret
  exact ⟨by rw [← hd]; rfl, hb1⟩
set_option maxRecDepth 10000 in
set_option maxHeartbeats 2000000 in
theorem idx_isRunning (uo : Option Addr) (un uc : Nat) (U : List Int) (ao : Option Addr) (n cap : Nat) (nm : ByteArray) (fr up ep : Int) (st : List Sa) (w : World) (hr : Reads w (.slice ao n cap) st) (hn : n ≤ 1048577) (hu : Reads w (.slice uo un uc) U) (hun : un ≤ 1048577) :
    Calls Tryz.prog 107 #[.slice uo un uc, .func (.func 60) #[.agg #[.string nm, .int .i64 fr, .int .i64 up, .int .i64 ep, .slice ao n cap]] #[]] w fun e w' => ∃ r : Int, e = .returned (.int .i64 r) ∧ decide (0 ≤ r) = U.any (fun a => isN st a 1) ∧ Below w.heap.size w w' := by
  have HC : Hid (∀ (W : World) (x : Int), Below w.heap.size w W → Calls Tryz.prog 60 #[.agg #[.string nm, .int .i64 fr, .int .i64 up, .int .i64 ep, .slice ao n cap], .int .i64 x] W fun e w' => e = .returned (.bool ((fun a => isN st a 1) x)) ∧ Below W.heap.size W w') := fun W x hb => isRunning_any ao n cap nm fr up ep st x W (hr.below hb) hn
  obtain ⟨pr, HP⟩ : ∃ pr : Int → Bool, Hid ((fun a => isN st a 1) = pr) := ⟨_, rfl⟩
  have HC1 : Hid (∀ (W : World) (x : Int), Below w.heap.size w W → Calls Tryz.prog 60 #[.agg #[.string nm, .int .i64 fr, .int .i64 up, .int .i64 ep, .slice ao n cap], .int .i64 x] W fun e w' => e = .returned (.bool (pr x)) ∧ Below W.heap.size W w') := by rw [← HP.out]; exact HC
  have HN : Hid (un = U.length) := hu.len
  have HR : Hid (∀ W, Below w.heap.size w W → Reads W (.slice uo un uc) U) := fun W hb => hu.below hb
  rw [HP.out]
  clear hr hn hu HC HP
  go_enter Tryz.func107, Tryz.ntmps107
  go_wp2
  go_loopw [8] (fun iv wr => ∃ k : Nat, k ≤ un ∧ iv = .int .i64 k ∧ Hid (U.any pr = (U.drop k).any pr) ∧ Below w.heap.size w wr) (fun iv _ => un - (intOf iv).toNat)
  case atStart => exact ⟨0, Nat.zero_le _, rfl, (by show _ = (U.drop 0).any _; rw [List.drop_zero]), Below.refl _ _⟩
  case round =>
    obtain ⟨k, hk, rfl, HE, hbel⟩ := hrel
    by_cases hlt : k < un
    · obtain ⟨t, ht⟩ : ∃ t, U[k]? = some t := ⟨_, List.getElem?_eq_getElem (by rw [← HN.out]; exact hlt)⟩
      obtain ⟨b', o, eb, hb, c0⟩ := int_at (HR.out wr hbel) ht
      subst eb
      obtain ⟨q, HQ⟩ : ∃ q, Hid (pr t = q) := ⟨_, rfl⟩
      have HC2 : Hid (Calls Tryz.prog 60 #[.agg #[.string nm, .int .i64 fr, .int .i64 up, .int .i64 ep, .slice ao n cap], .int .i64 t] wr fun e w' => e = .returned (.bool q) ∧ Below wr.heap.size wr w') := by
        have := HC1.out wr t hbel
        rwa [HQ.out] at this
      have HA : Hid (U.any pr = (q || (U.drop (k + 1)).any pr)) := HE.out.trans (by rw [anyR_at ht, HQ.out])
      clear ht HC1 HQ HE
      cases q with
      | true =>
        have HF : Hid (true = U.any pr) := HA.out.symm
        go_wp2_with fail
        refine HC2.out.mono ?_
        rintro e w1 ⟨rfl, hb1⟩
        have B1 := Below.on hbel hb1
        go_wp2
        go_ret
        exact ⟨_, rfl, (decide_eq_true (by omega)).trans HF.out, B1⟩
      | false =>
        have HF : Hid (U.any pr = (U.drop (k + 1)).any pr) := HA.out
        go_wp2_with fail
        refine HC2.out.mono ?_
        rintro e w1 ⟨rfl, hb1⟩
        have B1 := Below.on hbel hb1
        clear c0 hb1 hbel
        go_wp2
        go_roundw
        case rel => exact ⟨k + 1, by omega, by go_num, HF, B1⟩
        case measure => simp [intOf]; omega
    · have HF : Hid (false = U.any pr) := (HE.out.trans (anyR_end (by rw [← HN.out]; omega))).symm
      go_wp2
      go_ret
      exact ⟨_, rfl, (decide_eq_false (by omega)).trans HF.out, hbel⟩
theorem cont_isRunning (uo : Option Addr) (un uc : Nat) (U : List Int) (ao : Option Addr) (n cap : Nat) (nm : ByteArray) (fr up ep : Int) (st : List Sa) (w : World) (hr : Reads w (.slice ao n cap) st) (hn : n ≤ 1048577) (hu : Reads w (.slice uo un uc) U) (hun : un ≤ 1048577) :
    Calls Tryz.prog 53 #[.slice uo un uc, .func (.func 60) #[.agg #[.string nm, .int .i64 fr, .int .i64 up, .int .i64 ep, .slice ao n cap]] #[]] w fun e w' => e = .returned (.bool (U.any (fun a => isN st a 1))) ∧ Below w.heap.size w w' := by
  have HI := idx_isRunning uo un uc U ao n cap nm fr up ep st w hr hn hu hun
  clear hr hn hu
  go_enter Tryz.func53, Tryz.ntmps53
  go_wp2_with fail
  refine HI.mono ?_
  rintro e w1 ⟨r, rfl, hd, hb1⟩
  go_wp2
  go_ret
  exact ⟨by rw [← hd]; rfl, hb1⟩
end Go.Proofs.YtjmclcjhimcehaaGreatDoor
