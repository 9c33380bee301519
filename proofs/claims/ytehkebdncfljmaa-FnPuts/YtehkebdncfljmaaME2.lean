/-
  A region that draws its order: what only yields is taken first, in any order that is told; what makes and appends comes up in every order; the last operation waits for all. Over any program. A line of a task, as the specification takes it into a plan: the walk. A line of a plan's head, as the specification takes it: the walk.
-/
import Derived.Test.YtehkebdncfljmaaME1
import Derived.Test.YtehkebdncfljmaaSv
import Derived.Test.YtehkebdncfljmaaPi
namespace Go.Proofs.Ytehkebdncfljmaa
open Go Go.RowKit

section
variable {P : Program} {ops : Array Oper} {md : Region.Mode} {C : World → Prop} {Q : Exit → Act → World → Prop}
theorem nil_yields {o : Oper} {x : Operand} {v : Value} {p : Addr} {a : Act} (ho : o.op = .nilCheck x) (hx : a.eval x = .pointer (some p)) (hy : YieldsIn P ops C o v a) : YieldsIf P ops C o v a := by
  rcases hy with ⟨hw, hq⟩ | h2
  · refine .inl ⟨hw, fun w hC => ?_⟩
    have h3 := hq w hC
    unfold Oper.quietAt at h3
    have hr : (execOp a.eval o).run P w = .ok (.value (.pointer (some p))) w := by
      unfold execOp
      rw [ho]
      simp only [hx]
      rfl
    rw [hr] at h3 ⊢
    simp only [Oper.quietUpon] at h3
    rw [h3.2]
  · exact .inr h2

/-- Whether an operation only yields: a nil check of a temporary is asked at its time. -/
def yieldB (o : Oper) : Bool := valueOp o.op || (match o.op with
  | .nilCheck _ => true
  | _ => false)
def takesL : List Nat → Array Bool → Array Bool
  | [], listed => listed
  | k :: ts, listed => takesL ts (listed.setIfInBounds k true)
def takesB (md : Region.Mode) (ops : Array Oper) : List Nat → Array Bool → Bool
  | [], _ => true
  | k :: ts, listed => (Region.ready md ops listed).contains k && Region.free md ops listed k && ((ops[k]?).map yieldB).getD false && takesB md ops ts (listed.setIfInBounds k true)
/-- The operations that are taken first, one behind the other; a nil check of a pointer that is none. -/
def wpTakes (P : Program) (ops : Array Oper) (C : World → Prop) (K : Act → Prop) : List Nat → Act → Prop
  | [], a => K a
  | k :: ts, a => (∀ o, ops[k]? = some o → ∀ x, o.op = .nilCheck x → ∃ p, a.eval x = .pointer (some p)) ∧ qOp P ops C k (wpTakes P ops C K ts) a
theorem wpAnyU_takes {R : Act → World → Prop} {L : Array Bool} {m : Nat} {w : World} (hw : C w) (hs : Region.noSelect ops = true) (hQ : ∀ c a d v w, Q (.panic c) (Act.put a d v) w → Q (.panic c) a w) (hL : ∀ j ∈ Region.ready md ops L, j = m) (hwt : waitsAll md ops m = true) (fuel : Nat) :
    ∀ (ts : List Nat) (listed : Array Bool) (a : Act), (∀ k ∈ ts, k < m) → takesB md ops ts listed = true → wpTakes P ops C (fun a' => wpAnyU P md ops Q C L R fuel (takesL ts listed) a' w) ts a → wpAnyU P md ops Q C L R (fuel + ts.length) listed a w
  | [], _, _, _, _, h => h
  | k :: ts, listed, a, hk, hB, h => by
    simp only [takesB, Bool.and_eq_true] at hB
    obtain ⟨⟨⟨hr, hf⟩, hv⟩, hB'⟩ := hB
    cases h0 : ops[k]? with
    | none => rw [h0] at hv; cases hv
    | some o =>
      rw [h0] at hv
      simp only [Option.map_some, Option.getD_some] at hv
      obtain ⟨v, hy, hK⟩ := yieldsIn_of_qOp h0 h.2
      have hyf : YieldsIf P ops C o v a := by
        unfold yieldB at hv
        cases hvo : valueOp o.op with
        | true => exact yieldsIf_of_in hvo hy
        | false =>
          rw [hvo, Bool.false_or] at hv
          split at hv
          · rename_i x hx
            obtain ⟨p, hp⟩ := h.1 o h0 x hx
            exact nil_yields hx hp hy
          · cases hv
      have ih := wpAnyU_takes hw hs hQ hL hwt fuel ts (listed.setIfInBounds k true) (a.put o.dst v) (fun j hj => hk j (List.mem_cons_of_mem _ hj)) hB' hK
      refine wpAnyU_first h0 (Region.noSelect_spec hs) (fun c a w => hQ c a _ _ w) hL (fun om hom => ?_) (fuel + ts.length) listed a w (Region.free_spec h0 hf) (by simpa using hr) hyf hw ih
      unfold waitsAll at hwt
      rw [List.all_eq_true] at hwt
      have := hwt k (List.mem_range.2 (hk k (List.mem_cons_self ..)))
      rw [hom] at this
      simp only [Array.any_eq_true', Bool.and_eq_true, beq_iff_eq] at this
      obtain ⟨e, he, hb, heq⟩ := this
      exact ⟨e, he, hb, heq⟩
/-- What comes up next, one. -/
theorem wpAnyU_one {R : Act → World → Prop} {L listed : Array Bool} {fuel i : Nat} {o : Oper} {a : Act} {w : World} (hr : Region.ready md ops listed = [i]) (ho : ops[i]? = some o) (hg : o.guard = none)
    (h : ∀ K : Act → World → Prop, Hid (∀ a' w', C w' → wpAnyU P md ops Q C L R fuel (listed.setIfInBounds i true) a' w' → K a' w') → wpList P ops (Exit.then K Q) [o] a w) : wpAnyU P md ops Q C L R (fuel + 1) listed a w := by
  refine ⟨by rw [hr]; simp, fun j hj => ?_⟩
  rw [hr] at hj
  simp only [List.mem_singleton] at hj
  subst hj
  have h1 := h (fun a' w' => C w' ∧ wpAnyU P md ops Q C L R fuel (listed.setIfInBounds j true) a' w') (fun a' w' h1 h2 => ⟨h1, h2⟩)
  have hw : Region.wanted o (yielded ops a.tmps) = true := by simp [Region.wanted, hg]
  unfold wpOp
  simp only [ho]
  unfold wpList at h1
  rw [if_pos hw] at h1 ⊢
  exact h1
/-- What comes up next, one of two. -/
theorem wpAnyU_two {R : Act → World → Prop} {L listed : Array Bool} {fuel i j : Nat} {o p : Oper} {a : Act} {w : World} (hr : Region.ready md ops listed = [i, j]) (ho : ops[i]? = some o) (hp : ops[j]? = some p) (hg : o.guard = none) (hgp : p.guard = none)
    (h : ∀ K : Act → World → Prop, Hid (∀ a' w', C w' → wpAnyU P md ops Q C L R fuel (listed.setIfInBounds i true) a' w' → K a' w') → wpList P ops (Exit.then K Q) [o] a w)
    (h' : ∀ K : Act → World → Prop, Hid (∀ a' w', C w' → wpAnyU P md ops Q C L R fuel (listed.setIfInBounds j true) a' w' → K a' w') → wpList P ops (Exit.then K Q) [p] a w) : wpAnyU P md ops Q C L R (fuel + 1) listed a w := by
  refine ⟨by rw [hr]; simp, fun k hk => ?_⟩
  rw [hr] at hk
  simp only [List.mem_cons, List.not_mem_nil, or_false] at hk
  rcases hk with hk | hk
  · subst hk
    have h1 := h (fun a' w' => C w' ∧ wpAnyU P md ops Q C L R fuel (listed.setIfInBounds k true) a' w') (fun a' w' h1 h2 => ⟨h1, h2⟩)
    have hw : Region.wanted o (yielded ops a.tmps) = true := by simp [Region.wanted, hg]
    unfold wpOp
    simp only [ho]
    unfold wpList at h1
    rw [if_pos hw] at h1 ⊢
    exact h1
  · subst hk
    have h1 := h' (fun a' w' => C w' ∧ wpAnyU P md ops Q C L R fuel (listed.setIfInBounds k true) a' w') (fun a' w' h1 h2 => ⟨h1, h2⟩)
    have hw : Region.wanted p (yielded ops a.tmps) = true := by simp [Region.wanted, hgp]
    unfold wpOp
    simp only [hp]
    unfold wpList at h1
    rw [if_pos hw] at h1 ⊢
    exact h1
/-- The kernel's look: the last operations behind m come one behind the other and wait for all. -/
def pickB (ops : Array Oper) (ts : List Nat) (m : Nat) : Bool :=
  let L := (Array.range ops.size).map fun i => decide (i < m)
  Region.noSelect ops && (Region.ready .any ops L).all (· == m) && waitsAll .any ops m && takesB .any ops ts (Array.replicate ops.size false) && forcedB .any ops (ops.size - m) m L && ts.all (fun k => decide (k < m))
theorem wp_region_pick {id : Nat} {a : Act} {w : World} {l : List Oper} (C : World → Prop) (ts : List Nat) (m fuel : Nat) (hm : P.follows .mixedOrders = true) (hml : m ≤ l.length) (hf : fuel + ts.length = m) (hB : pickB l.toArray ts m = true) (hQ : ∀ c a d v w, Q (.panic c) (Act.put a d v) w → Q (.panic c) a w) (hC : C w.drew)
    (h : wpTakes P l.toArray C (fun a' => wpAnyU P .any l.toArray Q C ((Array.range l.toArray.size).map fun i => decide (i < m)) (fun a'' w'' => wpList P l.toArray Q (l.drop m) a'' w'') fuel (takesL ts (Array.replicate l.toArray.size false)) a' w.drew) ts a) : (Code.region id l.toArray true).wp P Q a w := by
  simp only [pickB, Bool.and_eq_true] at hB
  obtain ⟨⟨⟨⟨⟨h1, h2⟩, h3⟩, h4⟩, h5⟩, h6⟩ := hB
  refine wp_region_any hm ?_
  have hdrop : (l.drop m).length = l.length - m := by simp
  have hT := wpAnyU_takes (P := P) (Q := Q) (C := C) (md := .any) hC h1 hQ (fun j hj => by
    rw [List.all_eq_true] at h2
    simpa using h2 j hj) h3 fuel ts (Array.replicate l.toArray.size false) a (fun k hk => by
      rw [List.all_eq_true] at h6
      simpa using h6 k hk) h4 h
  have := wpAny_of_U (Q := Q) (f := (l.drop m).length) (fun a' w' hR => wpAny_forced (md := .any) (l.drop m) m _ a' w' (fun j hj => by simp) (by rw [hdrop]; simpa using h5) hR) _ _ a _ hT
  have e : (l.drop m).length + (fuel + ts.length) = l.toArray.size := by simp; omega
  rw [e] at this
  exact this
end
end Go.Proofs.Ytehkebdncfljmaa

namespace Go.Proofs.Ytehkebdncfljmaa
open Go Go.RowKit

theorem task_list : (⟨#[116, 97, 115, 107]⟩ : ByteArray).toList = [116, 97, 115, 107] := (ByteArray.toList_eq _).trans rfl
theorem free_list : (⟨#[102, 114, 101, 101]⟩ : ByteArray).toList = [102, 114, 101, 101] := (ByteArray.toList_eq _).trans rfl
theorem past_list : (⟨#[112, 97, 115, 116]⟩ : ByteArray).toList = [112, 97, 115, 116] := (ByteArray.toList_eq _).trans rfl
theorem wpTakes_cons {P : Program} {ops : Array Oper} {C : World → Prop} {K : Act → Prop} {k : Nat} {ts : List Nat} {a : Act} {o : Oper} (ho : ops[k]? = some o) (hn : ∀ x, o.op = .nilCheck x → ∃ p, a.eval x = .pointer (some p)) (h : wpQuiet P ops C (wpTakes P ops C K ts) [o] a) : wpTakes P ops C K (k :: ts) a := by
  refine ⟨fun o' ho' => ?_, ?_⟩
  · rw [ho] at ho'
    cases ho'
    exact hn
  · unfold qOp
    simp only [ho]
    exact h
/-- A plan's block. -/
def D6 (w : World) (g : Nat) (nm cr : ByteArray) (fr up : Int) (cu : Bool) (tv : Value) : Prop := w.heap[g]? = some (.cells #[.string nm, .string cr, .int .i64 fr, .int .i64 up, .bool cu, tv] 115)
section
variable {w : World} {g : Nat} {nm cr : ByteArray} {fr up : Int} {cu : Bool} {tv : Value}
theorem D6.lt (h : D6 w g nm cr fr up cu tv) : g < w.heap.size := (Array.getElem?_eq_some_iff.1 h).1
theorem D6.c5 (h : D6 w g nm cr fr up cu tv) : w.cell? ⟨g, 5, none⟩ = some tv := by simp [World.cell?, show w.heap[g]? = _ from h]
theorem D6.fz (h : D6 w g nm cr fr up cu tv) (k : Nat) : w.frozen? ⟨g, k, none⟩ = false := by simp [World.frozen?, show w.heap[g]? = _ from h]
theorem D6.s5 (h : D6 w g nm cr fr up cu tv) (u : Value) : D6 (w.setCell ⟨g, 5, none⟩ u) g nm cr fr up cu u := by simp [D6, World.setCell, Array.getElem?_modify, show w.heap[g]? = _ from h]
theorem D6.on {w' : World} {B : Nat} (h : D6 w g nm cr fr up cu tv) (hb : Below B w w') (hg : g < B) : D6 w' g nm cr fr up cu tv := (hb.block _ hg).trans h
end
/-- What a line of a task is. -/
def lineT (ts : List Ta) (p0 p1 p2 p3 p4 : ByteArray) : Bool := decide (p0 = ⟨#[116, 97, 115, 107]⟩) && (!decide (ts.length = 4) && ((decide (p4 = ⟨#[102, 114, 101, 101]⟩) || decide (p4 = ⟨#[112, 97, 115, 116]⟩)) && (nameB p1 && (decide (atN ts p1 < 0) && (!decide (poolN p2 = 0) && ((rd p3).2 && decide ((rd p3).1 ≤ 3)))))))

set_option maxRecDepth 10000 in
set_option maxHeartbeats 8000000 in
theorem line_no5 (g : Nat) (pv tv : Value) (nm cr : ByteArray) (fr up : Int) (cu : Bool) (ts : List Ta) (p0 p1 p2 p3 p4 : ByteArray) (w : World) (hp : Reads w pv [p0, p1, p2, p3, p4]) (hd : D6 w g nm cr fr up cu tv) (ht : Tasks w tv ts) (hn : ts.length ≤ 100000) (hs : ∀ s ∈ [p0, p1, p2, p3, p4], s.size ≤ 100000) (hno : lineT ts p0 p1 p2 p3 p4 = false) :
    Calls Try.prog 90 #[.pointer (some ⟨g, 0, none⟩), pv] w fun e w' => e = .returned (.bool false) ∧ Below w.heap.size w w' := by
  obtain ⟨po, pc, rfl, -⟩ := id hp
  obtain ⟨ao, cap, rfl⟩ := ht.slice
  obtain ⟨pb0, pp0, hq0, hlt0, c0⟩ := text_at hp (k := 0) rfl
  subst hq0
  rw [Nat.add_zero] at c0
  obtain ⟨pb1, pp1, hq1, hlt1, c1⟩ := text_at hp (k := 1) rfl
  simp only [Option.some.injEq, Addr.mk.injEq, and_true] at hq1
  obtain ⟨e1, e2⟩ := hq1
  subst e1 e2
  obtain ⟨pb2, pp2, hq2, hlt2, c2⟩ := text_at hp (k := 2) rfl
  simp only [Option.some.injEq, Addr.mk.injEq, and_true] at hq2
  obtain ⟨e1, e2⟩ := hq2
  subst e1 e2
  obtain ⟨pb3, pp3, hq3, hlt3, c3⟩ := text_at hp (k := 3) rfl
  simp only [Option.some.injEq, Addr.mk.injEq, and_true] at hq3
  obtain ⟨e1, e2⟩ := hq3
  subst e1 e2
  obtain ⟨pb4, pp4, hq4, hlt4, c4⟩ := text_at hp (k := 4) rfl
  simp only [Option.some.injEq, Addr.mk.injEq, and_true] at hq4
  obtain ⟨e1, e2⟩ := hq4
  subst e1 e2
  have c5g := hd.c5
  have hgl := hd.lt
  have HNA : Hid (∀ W, Calls Try.prog 79 #[.string p1] W fun e w' => e = .returned (.bool (nameB p1)) ∧ w' = W) := fun W => nameOk_any p1 W (by have := hs p1 (by simp); omega)
  have HAT : Hid (∀ x : Wd w, Calls Try.prog 100 #[.slice ao ts.length cap, .string p1] x.at' fun e w' => e = .returned (.int .i64 (atN ts p1)) ∧ w' = x.at') := fun x => l12At_any p1 (ht.below x.ok) (by omega)
  have HPO : Hid (∀ W, Calls Try.prog 101 #[.string p2] W fun e w' => e = .returned (.int .i64 (poolN p2)) ∧ w' = W) := fun W => poolSize_any p2 W
  have HRD : Hid (∀ W, Calls Try.prog 99 #[.string p3] W fun e w' => e = .returned (.tuple #[.int .i64 (rd p3).1, .bool (rd p3).2]) ∧ Below W.heap.size W w') := fun W => specReadDec_all p3 W (by have := hs p3 (by simp); omega)
  have HNO : Hid (lineT ts p0 p1 p2 p3 p4 = false) := hno
  unfold lineT at HNO
  obtain ⟨A, HA⟩ : ∃ A, Hid (atN ts p1 = A) := ⟨_, rfl⟩
  obtain ⟨PN, HPN⟩ : ∃ A, Hid (poolN p2 = A) := ⟨_, rfl⟩
  obtain ⟨q1, HQ1⟩ : ∃ A, Hid (nameB p1 = A) := ⟨_, rfl⟩
  obtain ⟨rn, rb, HRR⟩ : ∃ A B, Hid (rd p3 = (A, B)) := ⟨_, _, rfl⟩
  rw [HA.out] at HAT HNO
  rw [HPN.out] at HPO HNO
  rw [HQ1.out] at HNA HNO
  rw [HRR.out] at HRD HNO
  clear HA HPN HQ1 HRR hno hs hp ht
  obtain ⟨nt, HNT⟩ : ∃ nt, Hid (ts.length = nt) := ⟨_, rfl⟩
  rw [HNT.out] at HAT HNO hn c5g hd
  clear HNT hd
  have q5 := Wd.cell c5g
  have k0 := Wd.cell c0
  have k1 := Wd.cell c1
  have k2 := Wd.cell c2
  have k3 := Wd.cell c3
  have k4 := Wd.cell c4
  by_cases h0 : p0 = ⟨#[116, 97, 115, 107]⟩
  case neg =>
    have e0 : (p0.toList == [116, 97, 115, 107]) = false := by rw [← task_list]; exact ne_list h0
    go_enter Try.func90, Try.ntmps90
    go_wp2
    refine wp_region_wd (by kernel_rfl) (by kernel_rfl) ?_
    repeat (go_big_quiet_step (first | (go_at_call 79; refine calls_wd_same (v := .bool q1) ?_; with_reducible exact HNA.out _) | (go_at_call 100; refine calls_wd_same (v := .int .i64 A) ?_; with_reducible exact HAT.out _) | (go_at_call 101; refine calls_wd_same (v := .int .i64 PN) ?_; with_reducible exact HPO.out _)))
    refine wpQuiet_nil ?_
    rintro _ ⟨x, rfl⟩
    go_wp2
    go_ret
    exact ⟨rfl, x.ok⟩
  have e0 : (p0.toList == [116, 97, 115, 107]) = true := by rw [← task_list]; exact eq_list h0
  by_cases h1 : nt = 4
  case pos =>
    subst h1
    go_enter Try.func90, Try.ntmps90
    go_wp2
    refine wp_region_wd (by kernel_rfl) (by kernel_rfl) ?_
    repeat (go_big_quiet_step (first | (go_at_call 79; refine calls_wd_same (v := .bool q1) ?_; with_reducible exact HNA.out _) | (go_at_call 100; refine calls_wd_same (v := .int .i64 A) ?_; with_reducible exact HAT.out _) | (go_at_call 101; refine calls_wd_same (v := .int .i64 PN) ?_; with_reducible exact HPO.out _)))
    refine wpQuiet_nil ?_
    rintro _ ⟨x, rfl⟩
    go_wp2
    go_ret
    exact ⟨rfl, x.ok⟩
  have e1 : ((nt : Int) == 4) = false := beq_eq_false_iff_ne.2 (by omega)
  by_cases h2 : p4 = ⟨#[102, 114, 101, 101]⟩ ∨ p4 = ⟨#[112, 97, 115, 116]⟩
  case neg =>
    have e2 : (p4.toList == [102, 114, 101, 101]) = false := by rw [← free_list]; exact ne_list fun e => h2 (.inl e)
    have e3 : (p4.toList == [112, 97, 115, 116]) = false := by rw [← past_list]; exact ne_list fun e => h2 (.inr e)
    go_enter Try.func90, Try.ntmps90
    go_wp2
    refine wp_region_wd (by kernel_rfl) (by kernel_rfl) ?_
    repeat (go_big_quiet_step (first | (go_at_call 79; refine calls_wd_same (v := .bool q1) ?_; with_reducible exact HNA.out _) | (go_at_call 100; refine calls_wd_same (v := .int .i64 A) ?_; with_reducible exact HAT.out _) | (go_at_call 101; refine calls_wd_same (v := .int .i64 PN) ?_; with_reducible exact HPO.out _)))
    refine wpQuiet_nil ?_
    rintro _ ⟨x, rfl⟩
    go_wp2
    go_ret
    exact ⟨rfl, x.ok⟩
  have hfp : (p4.toList == [102, 114, 101, 101]) = true ∨ ((p4.toList == [102, 114, 101, 101]) = false ∧ (p4.toList == [112, 97, 115, 116]) = true) := by
    rcases h2 with e | e
    · left; rw [← free_list]; exact eq_list e
    · right; subst e; exact ⟨by rw [past_list]; rfl, by rw [past_list]; rfl⟩
  have HN2 : Hid ((q1 && (decide (A < 0) && (!decide (PN = 0) && (rb && decide (rn ≤ 3))))) = false) := by
    have h := HNO.out
    rw [decide_eq_true h0, decide_eq_false h1] at h
    have h3 : (decide (p4 = ⟨#[102, 114, 101, 101]⟩) || decide (p4 = ⟨#[112, 97, 115, 116]⟩)) = true := by rcases h2 with e | e <;> simp [e]
    rw [h3] at h
    exact h
  clear HNO h2 h0
  rcases hfp with e2 | ⟨e2, e3⟩
  · cases q1
    case false =>
      go_enter Try.func90, Try.ntmps90
      go_wp2
      refine wp_region_wd (by kernel_rfl) (by kernel_rfl) ?_
      repeat (go_big_quiet_step (first | (go_at_call 79; refine calls_wd_same (v := .bool false) ?_; with_reducible exact HNA.out _) | (go_at_call 100; refine calls_wd_same (v := .int .i64 A) ?_; with_reducible exact HAT.out _) | (go_at_call 101; refine calls_wd_same (v := .int .i64 PN) ?_; with_reducible exact HPO.out _)))
      refine wpQuiet_nil ?_
      rintro _ ⟨x, rfl⟩
      go_wp2
      go_ret
      exact ⟨rfl, x.ok⟩
    by_cases h4 : A < 0
    case neg =>
      have g4 : decide (0 ≤ A) = true := decide_eq_true (by omega)
      go_enter Try.func90, Try.ntmps90
      go_wp2
      refine wp_region_wd (by kernel_rfl) (by kernel_rfl) ?_
      repeat (go_big_quiet_step (first | (go_at_call 79; refine calls_wd_same (v := .bool true) ?_; with_reducible exact HNA.out _) | (go_at_call 100; refine calls_wd_same (v := .int .i64 A) ?_; with_reducible exact HAT.out _) | (go_at_call 101; refine calls_wd_same (v := .int .i64 PN) ?_; with_reducible exact HPO.out _)))
      refine wpQuiet_nil ?_
      rintro _ ⟨x, rfl⟩
      go_wp2
      go_ret
      exact ⟨rfl, x.ok⟩
    have g4 : decide (0 ≤ A) = false := decide_eq_false (by omega)
    by_cases h5 : PN = 0
    case pos =>
      subst h5
      go_enter Try.func90, Try.ntmps90
      go_wp2
      refine wp_region_wd (by kernel_rfl) (by kernel_rfl) ?_
      repeat (go_big_quiet_step (first | (go_at_call 79; refine calls_wd_same (v := .bool true) ?_; with_reducible exact HNA.out _) | (go_at_call 100; refine calls_wd_same (v := .int .i64 A) ?_; with_reducible exact HAT.out _) | (go_at_call 101; refine calls_wd_same (v := .int .i64 0) ?_; with_reducible exact HPO.out _)))
      refine wpQuiet_nil ?_
      rintro _ ⟨x, rfl⟩
      go_wp2
      go_ret
      exact ⟨rfl, x.ok⟩
    have e5 : (PN == 0) = false := beq_eq_false_iff_ne.2 h5
    have HN3 : Hid ((rb && decide (rn ≤ 3)) = false) := by
      have h := HN2.out
      rw [decide_eq_true h4, decide_eq_false h5] at h
      exact h
    clear HN2
    go_enter Try.func90, Try.ntmps90
    go_wp2
    refine wp_region_wd (by kernel_rfl) (by kernel_rfl) ?_
    repeat (go_big_quiet_step (first | (go_at_call 79; refine calls_wd_same (v := .bool true) ?_; with_reducible exact HNA.out _) | (go_at_call 100; refine calls_wd_same (v := .int .i64 A) ?_; with_reducible exact HAT.out _) | (go_at_call 101; refine calls_wd_same (v := .int .i64 PN) ?_; with_reducible exact HPO.out _)))
    refine wpQuiet_nil ?_
    rintro _ ⟨x, rfl⟩

    have m3 := Wd.cell c3 x
    clear q5 k0 k1 k2 k3 k4
    cases rb
    · go_wp2_with (go_at_call 99; refine (HRD.out _).mono ?_; rintro e w2 ⟨rfl, hb2⟩)
      go_ret
      exact ⟨rfl, Below.on x.ok hb2⟩
    · have h6 : ¬ rn ≤ 3 := fun e => by have := HN3.out; rw [decide_eq_true e] at this; cases this
      go_wp2_with (go_at_call 99; refine (HRD.out _).mono ?_; rintro e w2 ⟨rfl, hb2⟩)
      go_ret
      exact ⟨rfl, Below.on x.ok hb2⟩
  · cases q1
    case false =>
      go_enter Try.func90, Try.ntmps90
      go_wp2
      refine wp_region_wd (by kernel_rfl) (by kernel_rfl) ?_
      repeat (go_big_quiet_step (first | (go_at_call 79; refine calls_wd_same (v := .bool false) ?_; with_reducible exact HNA.out _) | (go_at_call 100; refine calls_wd_same (v := .int .i64 A) ?_; with_reducible exact HAT.out _) | (go_at_call 101; refine calls_wd_same (v := .int .i64 PN) ?_; with_reducible exact HPO.out _)))
      refine wpQuiet_nil ?_
      rintro _ ⟨x, rfl⟩
      go_wp2
      go_ret
      exact ⟨rfl, x.ok⟩
    by_cases h4 : A < 0
    case neg =>
      have g4 : decide (0 ≤ A) = true := decide_eq_true (by omega)
      go_enter Try.func90, Try.ntmps90
      go_wp2
      refine wp_region_wd (by kernel_rfl) (by kernel_rfl) ?_
      repeat (go_big_quiet_step (first | (go_at_call 79; refine calls_wd_same (v := .bool true) ?_; with_reducible exact HNA.out _) | (go_at_call 100; refine calls_wd_same (v := .int .i64 A) ?_; with_reducible exact HAT.out _) | (go_at_call 101; refine calls_wd_same (v := .int .i64 PN) ?_; with_reducible exact HPO.out _)))
      refine wpQuiet_nil ?_
      rintro _ ⟨x, rfl⟩
      go_wp2
      go_ret
      exact ⟨rfl, x.ok⟩
    have g4 : decide (0 ≤ A) = false := decide_eq_false (by omega)
    by_cases h5 : PN = 0
    case pos =>
      subst h5
      go_enter Try.func90, Try.ntmps90
      go_wp2
      refine wp_region_wd (by kernel_rfl) (by kernel_rfl) ?_
      repeat (go_big_quiet_step (first | (go_at_call 79; refine calls_wd_same (v := .bool true) ?_; with_reducible exact HNA.out _) | (go_at_call 100; refine calls_wd_same (v := .int .i64 A) ?_; with_reducible exact HAT.out _) | (go_at_call 101; refine calls_wd_same (v := .int .i64 0) ?_; with_reducible exact HPO.out _)))
      refine wpQuiet_nil ?_
      rintro _ ⟨x, rfl⟩
      go_wp2
      go_ret
      exact ⟨rfl, x.ok⟩
    have e5 : (PN == 0) = false := beq_eq_false_iff_ne.2 h5
    have HN3 : Hid ((rb && decide (rn ≤ 3)) = false) := by
      have h := HN2.out
      rw [decide_eq_true h4, decide_eq_false h5] at h
      exact h
    clear HN2
    go_enter Try.func90, Try.ntmps90
    go_wp2
    refine wp_region_wd (by kernel_rfl) (by kernel_rfl) ?_
    repeat (go_big_quiet_step (first | (go_at_call 79; refine calls_wd_same (v := .bool true) ?_; with_reducible exact HNA.out _) | (go_at_call 100; refine calls_wd_same (v := .int .i64 A) ?_; with_reducible exact HAT.out _) | (go_at_call 101; refine calls_wd_same (v := .int .i64 PN) ?_; with_reducible exact HPO.out _)))
    refine wpQuiet_nil ?_
    rintro _ ⟨x, rfl⟩

    have m3 := Wd.cell c3 x
    clear q5 k0 k1 k2 k3 k4
    cases rb
    · go_wp2_with (go_at_call 99; refine (HRD.out _).mono ?_; rintro e w2 ⟨rfl, hb2⟩)
      go_ret
      exact ⟨rfl, Below.on x.ok hb2⟩
    · have h6 : ¬ rn ≤ 3 := fun e => by have := HN3.out; rw [decide_eq_true e] at this; cases this
      go_wp2_with (go_at_call 99; refine (HRD.out _).mono ?_; rintro e w2 ⟨rfl, hb2⟩)
      go_ret
      exact ⟨rfl, Below.on x.ok hb2⟩

set_option maxRecDepth 10000 in
set_option maxHeartbeats 8000000 in
theorem line_no6 (g : Nat) (pv tv : Value) (nm cr : ByteArray) (fr up : Int) (cu : Bool) (ts : List Ta) (p0 p1 p2 p3 p4 p5 : ByteArray) (w : World) (hp : Reads w pv [p0, p1, p2, p3, p4, p5]) (hd : D6 w g nm cr fr up cu tv) (ht : Tasks w tv ts) (hn : ts.length ≤ 100000) (hs : ∀ s ∈ [p0, p1, p2, p3, p4, p5], s.size ≤ 100000) (hno : lineT ts p0 p1 p2 p3 p4 = false) :
    Calls Try.prog 90 #[.pointer (some ⟨g, 0, none⟩), pv] w fun e w' => e = .returned (.bool false) ∧ Below w.heap.size w w' := by
  obtain ⟨po, pc, rfl, -⟩ := id hp
  obtain ⟨ao, cap, rfl⟩ := ht.slice
  obtain ⟨pb0, pp0, hq0, hlt0, c0⟩ := text_at hp (k := 0) rfl
  subst hq0
  rw [Nat.add_zero] at c0
  obtain ⟨pb1, pp1, hq1, hlt1, c1⟩ := text_at hp (k := 1) rfl
  simp only [Option.some.injEq, Addr.mk.injEq, and_true] at hq1
  obtain ⟨e1, e2⟩ := hq1
  subst e1 e2
  obtain ⟨pb2, pp2, hq2, hlt2, c2⟩ := text_at hp (k := 2) rfl
  simp only [Option.some.injEq, Addr.mk.injEq, and_true] at hq2
  obtain ⟨e1, e2⟩ := hq2
  subst e1 e2
  obtain ⟨pb3, pp3, hq3, hlt3, c3⟩ := text_at hp (k := 3) rfl
  simp only [Option.some.injEq, Addr.mk.injEq, and_true] at hq3
  obtain ⟨e1, e2⟩ := hq3
  subst e1 e2
  obtain ⟨pb4, pp4, hq4, hlt4, c4⟩ := text_at hp (k := 4) rfl
  simp only [Option.some.injEq, Addr.mk.injEq, and_true] at hq4
  obtain ⟨e1, e2⟩ := hq4
  subst e1 e2
  obtain ⟨pb5, pp5, hq5, hlt5, c5⟩ := text_at hp (k := 5) rfl
  simp only [Option.some.injEq, Addr.mk.injEq, and_true] at hq5
  obtain ⟨e1, e2⟩ := hq5
  subst e1 e2
  have c5g := hd.c5
  have hgl := hd.lt
  have HNA : Hid (∀ W, Calls Try.prog 79 #[.string p1] W fun e w' => e = .returned (.bool (nameB p1)) ∧ w' = W) := fun W => nameOk_any p1 W (by have := hs p1 (by simp); omega)
  have HAT : Hid (∀ x : Wd w, Calls Try.prog 100 #[.slice ao ts.length cap, .string p1] x.at' fun e w' => e = .returned (.int .i64 (atN ts p1)) ∧ w' = x.at') := fun x => l12At_any p1 (ht.below x.ok) (by omega)
  have HPO : Hid (∀ W, Calls Try.prog 101 #[.string p2] W fun e w' => e = .returned (.int .i64 (poolN p2)) ∧ w' = W) := fun W => poolSize_any p2 W
  have HRD : Hid (∀ W, Calls Try.prog 99 #[.string p3] W fun e w' => e = .returned (.tuple #[.int .i64 (rd p3).1, .bool (rd p3).2]) ∧ Below W.heap.size W w') := fun W => specReadDec_all p3 W (by have := hs p3 (by simp); omega)
  have HNO : Hid (lineT ts p0 p1 p2 p3 p4 = false) := hno
  unfold lineT at HNO
  obtain ⟨A, HA⟩ : ∃ A, Hid (atN ts p1 = A) := ⟨_, rfl⟩
  obtain ⟨PN, HPN⟩ : ∃ A, Hid (poolN p2 = A) := ⟨_, rfl⟩
  obtain ⟨q1, HQ1⟩ : ∃ A, Hid (nameB p1 = A) := ⟨_, rfl⟩
  obtain ⟨rn, rb, HRR⟩ : ∃ A B, Hid (rd p3 = (A, B)) := ⟨_, _, rfl⟩
  rw [HA.out] at HAT HNO
  rw [HPN.out] at HPO HNO
  rw [HQ1.out] at HNA HNO
  rw [HRR.out] at HRD HNO
  clear HA HPN HQ1 HRR hno hs hp ht
  obtain ⟨nt, HNT⟩ : ∃ nt, Hid (ts.length = nt) := ⟨_, rfl⟩
  rw [HNT.out] at HAT HNO hn c5g hd
  clear HNT hd
  have q5 := Wd.cell c5g
  have k0 := Wd.cell c0
  have k1 := Wd.cell c1
  have k2 := Wd.cell c2
  have k3 := Wd.cell c3
  have k4 := Wd.cell c4
  have k5 := Wd.cell c5
  by_cases h0 : p0 = ⟨#[116, 97, 115, 107]⟩
  case neg =>
    have e0 : (p0.toList == [116, 97, 115, 107]) = false := by rw [← task_list]; exact ne_list h0
    go_enter Try.func90, Try.ntmps90
    go_wp2
    refine wp_region_wd (by kernel_rfl) (by kernel_rfl) ?_
    repeat (go_big_quiet_step (first | (go_at_call 79; refine calls_wd_same (v := .bool q1) ?_; with_reducible exact HNA.out _) | (go_at_call 100; refine calls_wd_same (v := .int .i64 A) ?_; with_reducible exact HAT.out _) | (go_at_call 101; refine calls_wd_same (v := .int .i64 PN) ?_; with_reducible exact HPO.out _)))
    refine wpQuiet_nil ?_
    rintro _ ⟨x, rfl⟩
    go_wp2
    go_ret
    exact ⟨rfl, x.ok⟩
  have e0 : (p0.toList == [116, 97, 115, 107]) = true := by rw [← task_list]; exact eq_list h0
  by_cases h1 : nt = 4
  case pos =>
    subst h1
    go_enter Try.func90, Try.ntmps90
    go_wp2
    refine wp_region_wd (by kernel_rfl) (by kernel_rfl) ?_
    repeat (go_big_quiet_step (first | (go_at_call 79; refine calls_wd_same (v := .bool q1) ?_; with_reducible exact HNA.out _) | (go_at_call 100; refine calls_wd_same (v := .int .i64 A) ?_; with_reducible exact HAT.out _) | (go_at_call 101; refine calls_wd_same (v := .int .i64 PN) ?_; with_reducible exact HPO.out _)))
    refine wpQuiet_nil ?_
    rintro _ ⟨x, rfl⟩
    go_wp2
    go_ret
    exact ⟨rfl, x.ok⟩
  have e1 : ((nt : Int) == 4) = false := beq_eq_false_iff_ne.2 (by omega)
  by_cases h2 : p4 = ⟨#[102, 114, 101, 101]⟩ ∨ p4 = ⟨#[112, 97, 115, 116]⟩
  case neg =>
    have e2 : (p4.toList == [102, 114, 101, 101]) = false := by rw [← free_list]; exact ne_list fun e => h2 (.inl e)
    have e3 : (p4.toList == [112, 97, 115, 116]) = false := by rw [← past_list]; exact ne_list fun e => h2 (.inr e)
    go_enter Try.func90, Try.ntmps90
    go_wp2
    refine wp_region_wd (by kernel_rfl) (by kernel_rfl) ?_
    repeat (go_big_quiet_step (first | (go_at_call 79; refine calls_wd_same (v := .bool q1) ?_; with_reducible exact HNA.out _) | (go_at_call 100; refine calls_wd_same (v := .int .i64 A) ?_; with_reducible exact HAT.out _) | (go_at_call 101; refine calls_wd_same (v := .int .i64 PN) ?_; with_reducible exact HPO.out _)))
    refine wpQuiet_nil ?_
    rintro _ ⟨x, rfl⟩
    go_wp2
    go_ret
    exact ⟨rfl, x.ok⟩
  have hfp : (p4.toList == [102, 114, 101, 101]) = true ∨ ((p4.toList == [102, 114, 101, 101]) = false ∧ (p4.toList == [112, 97, 115, 116]) = true) := by
    rcases h2 with e | e
    · left; rw [← free_list]; exact eq_list e
    · right; subst e; exact ⟨by rw [past_list]; rfl, by rw [past_list]; rfl⟩
  have HN2 : Hid ((q1 && (decide (A < 0) && (!decide (PN = 0) && (rb && decide (rn ≤ 3))))) = false) := by
    have h := HNO.out
    rw [decide_eq_true h0, decide_eq_false h1] at h
    have h3 : (decide (p4 = ⟨#[102, 114, 101, 101]⟩) || decide (p4 = ⟨#[112, 97, 115, 116]⟩)) = true := by rcases h2 with e | e <;> simp [e]
    rw [h3] at h
    exact h
  clear HNO h2 h0
  rcases hfp with e2 | ⟨e2, e3⟩
  · cases q1
    case false =>
      go_enter Try.func90, Try.ntmps90
      go_wp2
      refine wp_region_wd (by kernel_rfl) (by kernel_rfl) ?_
      repeat (go_big_quiet_step (first | (go_at_call 79; refine calls_wd_same (v := .bool false) ?_; with_reducible exact HNA.out _) | (go_at_call 100; refine calls_wd_same (v := .int .i64 A) ?_; with_reducible exact HAT.out _) | (go_at_call 101; refine calls_wd_same (v := .int .i64 PN) ?_; with_reducible exact HPO.out _)))
      refine wpQuiet_nil ?_
      rintro _ ⟨x, rfl⟩
      go_wp2
      go_ret
      exact ⟨rfl, x.ok⟩
    by_cases h4 : A < 0
    case neg =>
      have g4 : decide (0 ≤ A) = true := decide_eq_true (by omega)
      go_enter Try.func90, Try.ntmps90
      go_wp2
      refine wp_region_wd (by kernel_rfl) (by kernel_rfl) ?_
      repeat (go_big_quiet_step (first | (go_at_call 79; refine calls_wd_same (v := .bool true) ?_; with_reducible exact HNA.out _) | (go_at_call 100; refine calls_wd_same (v := .int .i64 A) ?_; with_reducible exact HAT.out _) | (go_at_call 101; refine calls_wd_same (v := .int .i64 PN) ?_; with_reducible exact HPO.out _)))
      refine wpQuiet_nil ?_
      rintro _ ⟨x, rfl⟩
      go_wp2
      go_ret
      exact ⟨rfl, x.ok⟩
    have g4 : decide (0 ≤ A) = false := decide_eq_false (by omega)
    by_cases h5 : PN = 0
    case pos =>
      subst h5
      go_enter Try.func90, Try.ntmps90
      go_wp2
      refine wp_region_wd (by kernel_rfl) (by kernel_rfl) ?_
      repeat (go_big_quiet_step (first | (go_at_call 79; refine calls_wd_same (v := .bool true) ?_; with_reducible exact HNA.out _) | (go_at_call 100; refine calls_wd_same (v := .int .i64 A) ?_; with_reducible exact HAT.out _) | (go_at_call 101; refine calls_wd_same (v := .int .i64 0) ?_; with_reducible exact HPO.out _)))
      refine wpQuiet_nil ?_
      rintro _ ⟨x, rfl⟩
      go_wp2
      go_ret
      exact ⟨rfl, x.ok⟩
    have e5 : (PN == 0) = false := beq_eq_false_iff_ne.2 h5
    have HN3 : Hid ((rb && decide (rn ≤ 3)) = false) := by
      have h := HN2.out
      rw [decide_eq_true h4, decide_eq_false h5] at h
      exact h
    clear HN2
    go_enter Try.func90, Try.ntmps90
    go_wp2
    refine wp_region_wd (by kernel_rfl) (by kernel_rfl) ?_
    repeat (go_big_quiet_step (first | (go_at_call 79; refine calls_wd_same (v := .bool true) ?_; with_reducible exact HNA.out _) | (go_at_call 100; refine calls_wd_same (v := .int .i64 A) ?_; with_reducible exact HAT.out _) | (go_at_call 101; refine calls_wd_same (v := .int .i64 PN) ?_; with_reducible exact HPO.out _)))
    refine wpQuiet_nil ?_
    rintro _ ⟨x, rfl⟩

    have m3 := Wd.cell c3 x
    clear q5 k0 k1 k2 k3 k4 k5
    cases rb
    · go_wp2_with (go_at_call 99; refine (HRD.out _).mono ?_; rintro e w2 ⟨rfl, hb2⟩)
      go_ret
      exact ⟨rfl, Below.on x.ok hb2⟩
    · have h6 : ¬ rn ≤ 3 := fun e => by have := HN3.out; rw [decide_eq_true e] at this; cases this
      go_wp2_with (go_at_call 99; refine (HRD.out _).mono ?_; rintro e w2 ⟨rfl, hb2⟩)
      go_ret
      exact ⟨rfl, Below.on x.ok hb2⟩
  · cases q1
    case false =>
      go_enter Try.func90, Try.ntmps90
      go_wp2
      refine wp_region_wd (by kernel_rfl) (by kernel_rfl) ?_
      repeat (go_big_quiet_step (first | (go_at_call 79; refine calls_wd_same (v := .bool false) ?_; with_reducible exact HNA.out _) | (go_at_call 100; refine calls_wd_same (v := .int .i64 A) ?_; with_reducible exact HAT.out _) | (go_at_call 101; refine calls_wd_same (v := .int .i64 PN) ?_; with_reducible exact HPO.out _)))
      refine wpQuiet_nil ?_
      rintro _ ⟨x, rfl⟩
      go_wp2
      go_ret
      exact ⟨rfl, x.ok⟩
    by_cases h4 : A < 0
    case neg =>
      have g4 : decide (0 ≤ A) = true := decide_eq_true (by omega)
      go_enter Try.func90, Try.ntmps90
      go_wp2
      refine wp_region_wd (by kernel_rfl) (by kernel_rfl) ?_
      repeat (go_big_quiet_step (first | (go_at_call 79; refine calls_wd_same (v := .bool true) ?_; with_reducible exact HNA.out _) | (go_at_call 100; refine calls_wd_same (v := .int .i64 A) ?_; with_reducible exact HAT.out _) | (go_at_call 101; refine calls_wd_same (v := .int .i64 PN) ?_; with_reducible exact HPO.out _)))
      refine wpQuiet_nil ?_
      rintro _ ⟨x, rfl⟩
      go_wp2
      go_ret
      exact ⟨rfl, x.ok⟩
    have g4 : decide (0 ≤ A) = false := decide_eq_false (by omega)
    by_cases h5 : PN = 0
    case pos =>
      subst h5
      go_enter Try.func90, Try.ntmps90
      go_wp2
      refine wp_region_wd (by kernel_rfl) (by kernel_rfl) ?_
      repeat (go_big_quiet_step (first | (go_at_call 79; refine calls_wd_same (v := .bool true) ?_; with_reducible exact HNA.out _) | (go_at_call 100; refine calls_wd_same (v := .int .i64 A) ?_; with_reducible exact HAT.out _) | (go_at_call 101; refine calls_wd_same (v := .int .i64 0) ?_; with_reducible exact HPO.out _)))
      refine wpQuiet_nil ?_
      rintro _ ⟨x, rfl⟩
      go_wp2
      go_ret
      exact ⟨rfl, x.ok⟩
    have e5 : (PN == 0) = false := beq_eq_false_iff_ne.2 h5
    have HN3 : Hid ((rb && decide (rn ≤ 3)) = false) := by
      have h := HN2.out
      rw [decide_eq_true h4, decide_eq_false h5] at h
      exact h
    clear HN2
    go_enter Try.func90, Try.ntmps90
    go_wp2
    refine wp_region_wd (by kernel_rfl) (by kernel_rfl) ?_
    repeat (go_big_quiet_step (first | (go_at_call 79; refine calls_wd_same (v := .bool true) ?_; with_reducible exact HNA.out _) | (go_at_call 100; refine calls_wd_same (v := .int .i64 A) ?_; with_reducible exact HAT.out _) | (go_at_call 101; refine calls_wd_same (v := .int .i64 PN) ?_; with_reducible exact HPO.out _)))
    refine wpQuiet_nil ?_
    rintro _ ⟨x, rfl⟩

    have m3 := Wd.cell c3 x
    clear q5 k0 k1 k2 k3 k4 k5
    cases rb
    · go_wp2_with (go_at_call 99; refine (HRD.out _).mono ?_; rintro e w2 ⟨rfl, hb2⟩)
      go_ret
      exact ⟨rfl, Below.on x.ok hb2⟩
    · have h6 : ¬ rn ≤ 3 := fun e => by have := HN3.out; rw [decide_eq_true e] at this; cases this
      go_wp2_with (go_at_call 99; refine (HRD.out _).mono ?_; rintro e w2 ⟨rfl, hb2⟩)
      go_ret
      exact ⟨rfl, Below.on x.ok hb2⟩

end Go.Proofs.Ytehkebdncfljmaa

namespace Go.Proofs.Ytehkebdncfljmaa
open Go Go.RowKit

section
variable {w : World} {g : Nat} {nm cr : ByteArray} {fr up : Int} {cu : Bool} {tv : Value}
theorem D6.c0 (h : D6 w g nm cr fr up cu tv) : w.cell? ⟨g, 0, none⟩ = some (.string nm) := by simp [World.cell?, show w.heap[g]? = _ from h]
theorem D6.c1 (h : D6 w g nm cr fr up cu tv) : w.cell? ⟨g, 1, none⟩ = some (.string cr) := by simp [World.cell?, show w.heap[g]? = _ from h]
theorem D6.c2 (h : D6 w g nm cr fr up cu tv) : w.cell? ⟨g, 2, none⟩ = some (.int .i64 fr) := by simp [World.cell?, show w.heap[g]? = _ from h]
theorem D6.c3 (h : D6 w g nm cr fr up cu tv) : w.cell? ⟨g, 3, none⟩ = some (.int .i64 up) := by simp [World.cell?, show w.heap[g]? = _ from h]
theorem D6.c4 (h : D6 w g nm cr fr up cu tv) : w.cell? ⟨g, 4, none⟩ = some (.bool cu) := by simp [World.cell?, show w.heap[g]? = _ from h]
theorem D6.s0 (h : D6 w g nm cr fr up cu tv) (u : ByteArray) : D6 (w.setCell ⟨g, 0, none⟩ (.string u)) g u cr fr up cu tv := by simp [D6, World.setCell, Array.getElem?_modify, show w.heap[g]? = _ from h]
theorem D6.s1 (h : D6 w g nm cr fr up cu tv) (u : ByteArray) : D6 (w.setCell ⟨g, 1, none⟩ (.string u)) g nm u fr up cu tv := by simp [D6, World.setCell, Array.getElem?_modify, show w.heap[g]? = _ from h]
theorem D6.s2 (h : D6 w g nm cr fr up cu tv) (u : Int) : D6 (w.setCell ⟨g, 2, none⟩ (.int .i64 u)) g nm cr u up cu tv := by simp [D6, World.setCell, Array.getElem?_modify, show w.heap[g]? = _ from h]
theorem D6.s3 (h : D6 w g nm cr fr up cu tv) (u : Int) : D6 (w.setCell ⟨g, 3, none⟩ (.int .i64 u)) g nm cr fr u cu tv := by simp [D6, World.setCell, Array.getElem?_modify, show w.heap[g]? = _ from h]
theorem D6.s4 (h : D6 w g nm cr fr up cu tv) (u : Bool) : D6 (w.setCell ⟨g, 4, none⟩ (.bool u)) g nm cr fr up u tv := by simp [D6, World.setCell, Array.getElem?_modify, show w.heap[g]? = _ from h]
end
theorem save_set {w w' : World} {g : Nat} (h : Below w.heap.size w w') (k : Nat) (u : Value) : Save g w (w'.setCell ⟨g, k, none⟩ u) := Save.setCell (p := ⟨g, k, none⟩) (Save.of_below h) rfl _

theorem dag_list : (⟨#[100, 97, 103]⟩ : ByteArray).toList = [100, 97, 103] := (ByteArray.toList_eq _).trans rfl
theorem cron_list : (⟨#[99, 114, 111, 110]⟩ : ByteArray).toList = [99, 114, 111, 110] := (ByteArray.toList_eq _).trans rfl
theorem from_list : (⟨#[102, 114, 111, 109]⟩ : ByteArray).toList = [102, 114, 111, 109] := (ByteArray.toList_eq _).trans rfl
theorem to_list : (⟨#[116, 111]⟩ : ByteArray).toList = [116, 111] := (ByteArray.toList_eq _).trans rfl
theorem catchup_list : (⟨#[99, 97, 116, 99, 104, 117, 112]⟩ : ByteArray).toList = [99, 97, 116, 99, 104, 117, 112] := (ByteArray.toList_eq _).trans rfl
theorem latest_list : (⟨#[108, 97, 116, 101, 115, 116]⟩ : ByteArray).toList = [108, 97, 116, 101, 115, 116] := (ByteArray.toList_eq _).trans rfl
set_option maxRecDepth 10000 in
set_option maxHeartbeats 4000000 in
theorem head0_no (g : Nat) (pv tv : Value) (nm cr ln : ByteArray) (fr up : Int) (cu : Bool) (p : List ByteArray) (x : ByteArray) (k : Nat) (w : World) (hp : Reads w pv p) (hd : D6 w g nm cr fr up cu tv) (hk : p.length = k + 1) (hx : p[k]? = some x) (h2 : k ≠ 1) (hn : k ≤ 1048577) :
    Calls Try.prog 89 #[.pointer (some ⟨g, 0, none⟩), .int .i64 0, .string ln, pv] w fun e w' => e = .returned (.bool false) ∧ Save g w w' := by
  obtain ⟨po, pc, rfl, -⟩ := id hp
  obtain ⟨pb, pp, rfl, hlt, ck⟩ := text_at hp hx
  rw [hk]
  have c0 := hd.c0
  have f0 := hd.fz 0
  have hgl := hd.lt
  have e2 : ((k : Int) + 1 == 2) = false := beq_eq_false_iff_ne.2 (by omega)
  have wk : IntKind.i64.wrap (k : Int) = k := by go_arith
  clear hp hd hx hk h2
  go_enter Try.func89, Try.ntmps89
  go_wp2
  go_ret
  exact ⟨rfl, save_set (Below.refl _ _) 0 _⟩

set_option maxRecDepth 10000 in
set_option maxHeartbeats 4000000 in
theorem head0_two (g : Nat) (pv tv : Value) (nm cr ln : ByteArray) (fr up : Int) (cu : Bool) (p0 p1 : ByteArray) (w : World) (hp : Reads w pv [p0, p1]) (hd : D6 w g nm cr fr up cu tv) (hs : p1.size ≤ 100000) (hpg : ∀ b o n c, pv = .slice (some ⟨b, o, none⟩) n c → b ≠ g) :
    Calls Try.prog 89 #[.pointer (some ⟨g, 0, none⟩), .int .i64 0, .string ln, pv] w fun e w' => e = .returned (.bool (p0.toList == [100, 97, 103] && nameB p1)) ∧ D6 w' g p1 cr fr up cu tv ∧ Save g w w' := by
  obtain ⟨po, pc, rfl, -⟩ := id hp
  obtain ⟨pb, pp, hq, hlt, c0⟩ := text_at hp (k := 0) rfl
  subst hq
  rw [Nat.add_zero] at c0
  obtain ⟨pb1, pp1, hq, hlt1, c1⟩ := text_at hp (k := 1) rfl
  simp only [Option.some.injEq, Addr.mk.injEq, and_true] at hq
  obtain ⟨e1, e2⟩ := hq
  subst e1 e2
  have g0 := hd.c0
  have f0 := hd.fz 0
  have hgl := hd.lt
  have HEND : Hid (D6 (w.setCell ⟨g, 0, none⟩ (.string p1)) g p1 cr fr up cu tv) := hd.s0 p1
  obtain ⟨b, HB⟩ : ∃ b, Hid (nameB p1 = b) := ⟨_, rfl⟩
  have HNA : Hid (∀ W, Calls Try.prog 79 #[.string p1] W fun e w' => e = .returned (.bool b) ∧ w' = W) := by intro W; rw [← HB.out]; exact nameOk_any p1 W (by omega)
  rw [HB.out]
  have d0 : (w.setCell ⟨g, 0, none⟩ (.string p1)).cell? ⟨pb, pp, none⟩ = some (.string p0) := by
    rw [World.cell?_setCell_other _ _ _ _ (fun e => hpg pb pp _ _ rfl (congrArg Addr.block e).symm)]
    exact c0
  clear hp hd
  cases e0 : (p0.toList == [100, 97, 103])
  · go_enter Try.func89, Try.ntmps89
    go_wp2
    go_ret
    exact ⟨rfl, HEND.out, save_set (Below.refl _ _) 0 _⟩
  · go_enter Try.func89, Try.ntmps89
    go_wp2_with (go_at_call 79; refine (HNA.out _).mono ?_; rintro e w' ⟨rfl, hw⟩; have hw2 := hw.symm; subst hw2)
    go_ret
    exact ⟨by simp, HEND.out, save_set (Below.refl _ _) 0 _⟩

set_option maxRecDepth 10000 in
set_option maxHeartbeats 4000000 in
theorem head2_no (g : Nat) (pv : Value) (ln : ByteArray) (p : List ByteArray) (x : ByteArray) (k : Nat) (w : World) (hp : Reads w pv p) (hk : p.length = k + 1) (hx : p[k]? = some x) (h2 : k ≠ 1) (hn : k ≤ 1048577) (hs : x.size ≤ 100000) :
    Calls Try.prog 89 #[.pointer (some ⟨g, 0, none⟩), .int .i64 2, .string ln, pv] w fun e w' => e = .returned (.bool false) ∧ Save g w w' := by
  obtain ⟨po, pc, rfl, -⟩ := id hp
  obtain ⟨pb, pp, rfl, hlt, ck⟩ := text_at hp hx
  rw [hk]
  have e2 : ¬ ((k : Int) + 1 = 2) := by omega
  have wk : IntKind.i64.wrap (k : Int) = k := by go_arith
  have HRD : Hid (∀ W, Calls Try.prog 99 #[.string x] W fun e w' => e = .returned (.tuple #[.int .i64 (rd x).1, .bool (rd x).2]) ∧ Below W.heap.size W w') := fun W => specReadDec_all x W (by omega)
  generalize (rd x).1 = rn at HRD
  generalize (rd x).2 = ro at HRD
  clear hp hx hk h2
  go_enter Try.func89, Try.ntmps89
  go_wp2_with fail
  refine (HRD.out _).mono ?_
  rintro e w2 ⟨rfl, hb⟩
  go_wp2
  go_ret
  exact ⟨rfl, Save.of_below hb⟩

set_option maxRecDepth 10000 in
set_option maxHeartbeats 4000000 in
theorem head2_bad (g : Nat) (pv : Value) (ln : ByteArray) (p0 p1 : ByteArray) (w : World) (hp : Reads w pv [p0, p1]) (hs : p1.size ≤ 100000) (hbad : ((rd p1).2 && decide ((rd p1).1 ≤ 68374079)) = false) :
    Calls Try.prog 89 #[.pointer (some ⟨g, 0, none⟩), .int .i64 2, .string ln, pv] w fun e w' => e = .returned (.bool false) ∧ Save g w w' := by
  obtain ⟨po, pc, rfl, -⟩ := id hp
  obtain ⟨pb, pp, hq, hlt, c0⟩ := text_at hp (k := 0) rfl
  subst hq
  rw [Nat.add_zero] at c0
  obtain ⟨pb1, pp1, hq, hlt1, c1⟩ := text_at hp (k := 1) rfl
  simp only [Option.some.injEq, Addr.mk.injEq, and_true] at hq
  obtain ⟨e1, e2⟩ := hq
  subst e1 e2
  have HRD : Hid (∀ W, Calls Try.prog 99 #[.string p1] W fun e w' => e = .returned (.tuple #[.int .i64 (rd p1).1, .bool (rd p1).2]) ∧ Below W.heap.size W w') := fun W => specReadDec_all p1 W (by omega)
  generalize (rd p1).1 = rn at HRD hbad
  generalize (rd p1).2 = ro at HRD hbad
  clear hp
  cases ro
  · clear hbad
    go_enter Try.func89, Try.ntmps89
    go_wp2_with fail
    refine (HRD.out _).mono ?_
    rintro e w2 ⟨rfl, hb⟩
    go_wp2
    go_ret
    exact ⟨rfl, Save.of_below hb⟩
  · simp only [Bool.true_and, decide_eq_false_iff_not] at hbad
    have hb1 : decide (68374079 < rn) = true := decide_eq_true (by omega)
    have hb2 : 68374079 < rn := by omega
    clear hbad
    go_enter Try.func89, Try.ntmps89
    go_wp2_with fail
    refine (HRD.out _).mono ?_
    rintro e w2 ⟨rfl, hb⟩
    go_wp2
    go_ret
    exact ⟨rfl, Save.of_below hb⟩

set_option maxRecDepth 10000 in
set_option maxHeartbeats 4000000 in
theorem head2_two (g : Nat) (pv tv : Value) (nm cr ln : ByteArray) (fr up : Int) (cu : Bool) (p0 p1 : ByteArray) (rn : Int) (w : World) (hp : Reads w pv [p0, p1]) (hd : D6 w g nm cr fr up cu tv) (hs : p1.size ≤ 100000) (hpg : ∀ b o n c, pv = .slice (some ⟨b, o, none⟩) n c → b ≠ g) (hok : rd p1 = (rn, true)) (hrn : rn ≤ 68374079) :
    Calls Try.prog 89 #[.pointer (some ⟨g, 0, none⟩), .int .i64 2, .string ln, pv] w fun e w' => e = .returned (.bool (p0.toList == [102, 114, 111, 109])) ∧ D6 w' g nm cr rn up cu tv ∧ Save g w w' := by
  obtain ⟨po, pc, rfl, -⟩ := id hp
  obtain ⟨pb, pp, hq, hlt, c0⟩ := text_at hp (k := 0) rfl
  subst hq
  rw [Nat.add_zero] at c0
  obtain ⟨pb1, pp1, hq, hlt1, c1⟩ := text_at hp (k := 1) rfl
  simp only [Option.some.injEq, Addr.mk.injEq, and_true] at hq
  obtain ⟨e1, e2⟩ := hq
  subst e1 e2
  have HRD : Hid (∀ W, Calls Try.prog 99 #[.string p1] W fun e w' => e = .returned (.tuple #[.int .i64 rn, .bool true]) ∧ Below W.heap.size W w') := by intro W; have := specReadDec_all p1 W (by omega); rw [hok] at this; exact this
  have hr1 : decide (68374079 < rn) = false := decide_eq_false (by omega)
  have hgl := hd.lt
  have HD : Hid (D6 w g nm cr fr up cu tv) := hd
  clear hp hd hok
  cases e0 : (p0.toList == [102, 114, 111, 109])
  · go_enter Try.func89, Try.ntmps89
    go_wp2_with fail
    refine (HRD.out _).mono ?_
    rintro e w2 ⟨rfl, hb⟩
    have d0 : (w2.setCell ⟨g, 2, none⟩ (.int .i64 rn)).cell? ⟨pb, pp, none⟩ = some (.string p0) := by
      rw [World.cell?_setCell_other _ _ _ _ (fun e => hpg pb pp _ _ rfl (congrArg Addr.block e).symm)]
      exact (hb.cell hlt).trans c0
    have HD2 := HD.out.on hb hgl
    have HEND : Hid (D6 (w2.setCell ⟨g, 2, none⟩ (.int .i64 rn)) g nm cr rn up cu tv) := HD2.s2 rn
    have gc := HD2.c2
    have gf := HD2.fz 2
    have hnone := True.intro
    clear HD2
    go_wp2
    go_ret
    exact ⟨rfl, HEND.out, save_set hb 2 _⟩
  · go_enter Try.func89, Try.ntmps89
    go_wp2_with fail
    refine (HRD.out _).mono ?_
    rintro e w2 ⟨rfl, hb⟩
    have d0 : (w2.setCell ⟨g, 2, none⟩ (.int .i64 rn)).cell? ⟨pb, pp, none⟩ = some (.string p0) := by
      rw [World.cell?_setCell_other _ _ _ _ (fun e => hpg pb pp _ _ rfl (congrArg Addr.block e).symm)]
      exact (hb.cell hlt).trans c0
    have HD2 := HD.out.on hb hgl
    have HEND : Hid (D6 (w2.setCell ⟨g, 2, none⟩ (.int .i64 rn)) g nm cr rn up cu tv) := HD2.s2 rn
    have gc := HD2.c2
    have gf := HD2.fz 2
    have hnone := True.intro
    clear HD2
    go_wp2
    go_ret
    exact ⟨rfl, HEND.out, save_set hb 2 _⟩

set_option maxRecDepth 10000 in
set_option maxHeartbeats 4000000 in
theorem head3_no (g : Nat) (pv : Value) (ln : ByteArray) (p : List ByteArray) (x : ByteArray) (k : Nat) (w : World) (hp : Reads w pv p) (hk : p.length = k + 1) (hx : p[k]? = some x) (h2 : k ≠ 1) (hn : k ≤ 1048577) (hs : x.size ≤ 100000) :
    Calls Try.prog 89 #[.pointer (some ⟨g, 0, none⟩), .int .i64 3, .string ln, pv] w fun e w' => e = .returned (.bool false) ∧ Save g w w' := by
  obtain ⟨po, pc, rfl, -⟩ := id hp
  obtain ⟨pb, pp, rfl, hlt, ck⟩ := text_at hp hx
  rw [hk]
  have e2 : ¬ ((k : Int) + 1 = 2) := by omega
  have wk : IntKind.i64.wrap (k : Int) = k := by go_arith
  have HRD : Hid (∀ W, Calls Try.prog 99 #[.string x] W fun e w' => e = .returned (.tuple #[.int .i64 (rd x).1, .bool (rd x).2]) ∧ Below W.heap.size W w') := fun W => specReadDec_all x W (by omega)
  generalize (rd x).1 = rn at HRD
  generalize (rd x).2 = ro at HRD
  clear hp hx hk h2
  go_enter Try.func89, Try.ntmps89
  go_wp2_with fail
  refine (HRD.out _).mono ?_
  rintro e w2 ⟨rfl, hb⟩
  go_wp2
  go_ret
  exact ⟨rfl, Save.of_below hb⟩

set_option maxRecDepth 10000 in
set_option maxHeartbeats 4000000 in
theorem head3_bad (g : Nat) (pv : Value) (ln : ByteArray) (p0 p1 : ByteArray) (w : World) (hp : Reads w pv [p0, p1]) (hs : p1.size ≤ 100000) (hbad : ((rd p1).2 && decide ((rd p1).1 ≤ 68374079)) = false) :
    Calls Try.prog 89 #[.pointer (some ⟨g, 0, none⟩), .int .i64 3, .string ln, pv] w fun e w' => e = .returned (.bool false) ∧ Save g w w' := by
  obtain ⟨po, pc, rfl, -⟩ := id hp
  obtain ⟨pb, pp, hq, hlt, c0⟩ := text_at hp (k := 0) rfl
  subst hq
  rw [Nat.add_zero] at c0
  obtain ⟨pb1, pp1, hq, hlt1, c1⟩ := text_at hp (k := 1) rfl
  simp only [Option.some.injEq, Addr.mk.injEq, and_true] at hq
  obtain ⟨e1, e2⟩ := hq
  subst e1 e2
  have HRD : Hid (∀ W, Calls Try.prog 99 #[.string p1] W fun e w' => e = .returned (.tuple #[.int .i64 (rd p1).1, .bool (rd p1).2]) ∧ Below W.heap.size W w') := fun W => specReadDec_all p1 W (by omega)
  generalize (rd p1).1 = rn at HRD hbad
  generalize (rd p1).2 = ro at HRD hbad
  clear hp
  cases ro
  · clear hbad
    go_enter Try.func89, Try.ntmps89
    go_wp2_with fail
    refine (HRD.out _).mono ?_
    rintro e w2 ⟨rfl, hb⟩
    go_wp2
    go_ret
    exact ⟨rfl, Save.of_below hb⟩
  · simp only [Bool.true_and, decide_eq_false_iff_not] at hbad
    have hb1 : decide (68374079 < rn) = true := decide_eq_true (by omega)
    have hb2 : 68374079 < rn := by omega
    clear hbad
    go_enter Try.func89, Try.ntmps89
    go_wp2_with fail
    refine (HRD.out _).mono ?_
    rintro e w2 ⟨rfl, hb⟩
    go_wp2
    go_ret
    exact ⟨rfl, Save.of_below hb⟩

set_option maxRecDepth 10000 in
set_option maxHeartbeats 4000000 in
theorem head3_two (g : Nat) (pv tv : Value) (nm cr ln : ByteArray) (fr up : Int) (cu : Bool) (p0 p1 : ByteArray) (rn : Int) (w : World) (hp : Reads w pv [p0, p1]) (hd : D6 w g nm cr fr up cu tv) (hs : p1.size ≤ 100000) (hpg : ∀ b o n c, pv = .slice (some ⟨b, o, none⟩) n c → b ≠ g) (hok : rd p1 = (rn, true)) (hrn : rn ≤ 68374079) :
    Calls Try.prog 89 #[.pointer (some ⟨g, 0, none⟩), .int .i64 3, .string ln, pv] w fun e w' => e = .returned (.bool (p0.toList == [116, 111] && decide (fr ≤ rn))) ∧ D6 w' g nm cr fr rn cu tv ∧ Save g w w' := by
  obtain ⟨po, pc, rfl, -⟩ := id hp
  obtain ⟨pb, pp, hq, hlt, c0⟩ := text_at hp (k := 0) rfl
  subst hq
  rw [Nat.add_zero] at c0
  obtain ⟨pb1, pp1, hq, hlt1, c1⟩ := text_at hp (k := 1) rfl
  simp only [Option.some.injEq, Addr.mk.injEq, and_true] at hq
  obtain ⟨e1, e2⟩ := hq
  subst e1 e2
  have HRD : Hid (∀ W, Calls Try.prog 99 #[.string p1] W fun e w' => e = .returned (.tuple #[.int .i64 rn, .bool true]) ∧ Below W.heap.size W w') := by intro W; have := specReadDec_all p1 W (by omega); rw [hok] at this; exact this
  have hr1 : decide (68374079 < rn) = false := decide_eq_false (by omega)
  have hgl := hd.lt
  have HD : Hid (D6 w g nm cr fr up cu tv) := hd
  clear hp hd hok
  cases e0 : (p0.toList == [116, 111])
  · go_enter Try.func89, Try.ntmps89
    go_wp2_with fail
    refine (HRD.out _).mono ?_
    rintro e w2 ⟨rfl, hb⟩
    have d0 : (w2.setCell ⟨g, 3, none⟩ (.int .i64 rn)).cell? ⟨pb, pp, none⟩ = some (.string p0) := by
      rw [World.cell?_setCell_other _ _ _ _ (fun e => hpg pb pp _ _ rfl (congrArg Addr.block e).symm)]
      exact (hb.cell hlt).trans c0
    have HD2 := HD.out.on hb hgl
    have HEND : Hid (D6 (w2.setCell ⟨g, 3, none⟩ (.int .i64 rn)) g nm cr fr rn cu tv) := HD2.s3 rn
    have gc := HD2.c3
    have gf := HD2.fz 3
    have gr : (w2.setCell ⟨g, 3, none⟩ (.int .i64 rn)).cell? ⟨g, 2, none⟩ = some (.int .i64 fr) := HEND.out.c2
    clear HD2
    go_wp2
    go_ret
    exact ⟨rfl, HEND.out, save_set hb 3 _⟩
  · cases e9 : decide (fr ≤ rn)
    · go_enter Try.func89, Try.ntmps89
      go_wp2_with fail
      refine (HRD.out _).mono ?_
      rintro e w2 ⟨rfl, hb⟩
      have d0 : (w2.setCell ⟨g, 3, none⟩ (.int .i64 rn)).cell? ⟨pb, pp, none⟩ = some (.string p0) := by
        rw [World.cell?_setCell_other _ _ _ _ (fun e => hpg pb pp _ _ rfl (congrArg Addr.block e).symm)]
        exact (hb.cell hlt).trans c0
      have HD2 := HD.out.on hb hgl
      have HEND : Hid (D6 (w2.setCell ⟨g, 3, none⟩ (.int .i64 rn)) g nm cr fr rn cu tv) := HD2.s3 rn
      have gc := HD2.c3
      have gf := HD2.fz 3
      have gr : (w2.setCell ⟨g, 3, none⟩ (.int .i64 rn)).cell? ⟨g, 2, none⟩ = some (.int .i64 fr) := HEND.out.c2
      clear HD2
      go_wp2
      go_ret
      exact ⟨rfl, HEND.out, save_set hb 3 _⟩
    · go_enter Try.func89, Try.ntmps89
      go_wp2_with fail
      refine (HRD.out _).mono ?_
      rintro e w2 ⟨rfl, hb⟩
      have d0 : (w2.setCell ⟨g, 3, none⟩ (.int .i64 rn)).cell? ⟨pb, pp, none⟩ = some (.string p0) := by
        rw [World.cell?_setCell_other _ _ _ _ (fun e => hpg pb pp _ _ rfl (congrArg Addr.block e).symm)]
        exact (hb.cell hlt).trans c0
      have HD2 := HD.out.on hb hgl
      have HEND : Hid (D6 (w2.setCell ⟨g, 3, none⟩ (.int .i64 rn)) g nm cr fr rn cu tv) := HD2.s3 rn
      have gc := HD2.c3
      have gf := HD2.fz 3
      have gr : (w2.setCell ⟨g, 3, none⟩ (.int .i64 rn)).cell? ⟨g, 2, none⟩ = some (.int .i64 fr) := HEND.out.c2
      clear HD2
      go_wp2
      go_ret
      exact ⟨rfl, HEND.out, save_set hb 3 _⟩

set_option maxRecDepth 10000 in
set_option maxHeartbeats 4000000 in
theorem head4_no (g : Nat) (pv tv : Value) (nm cr ln : ByteArray) (fr up : Int) (cu : Bool) (p : List ByteArray) (x : ByteArray) (k : Nat) (w : World) (hp : Reads w pv p) (hd : D6 w g nm cr fr up cu tv) (hk : p.length = k + 1) (hx : p[0]? = some x) (h2 : k ≠ 0) :
    Calls Try.prog 89 #[.pointer (some ⟨g, 0, none⟩), .int .i64 4, .string ln, pv] w fun e w' => e = .returned (.bool false) ∧ Save g w w' := by
  obtain ⟨po, pc, rfl, -⟩ := id hp
  obtain ⟨pb, pp, rfl, hlt, ck⟩ := text_at hp hx
  rw [hk]
  rw [Nat.add_zero] at ck
  have e2 : ((k : Int) + 1 == 1) = false := beq_eq_false_iff_ne.2 (by omega)
  have c4 := hd.c4
  have f4 := hd.fz 4
  have hgl := hd.lt
  clear hp hd hx hk
  go_enter Try.func89, Try.ntmps89
  go_wp2
  go_ret
  exact ⟨rfl, save_set (Below.refl _ _) 4 _⟩

set_option maxRecDepth 10000 in
set_option maxHeartbeats 4000000 in
theorem head4_one (g : Nat) (pv tv : Value) (nm cr ln : ByteArray) (fr up : Int) (cu : Bool) (p0 : ByteArray) (w : World) (hp : Reads w pv [p0]) (hd : D6 w g nm cr fr up cu tv) (hpg : ∀ b o n c, pv = .slice (some ⟨b, o, none⟩) n c → b ≠ g) :
    Calls Try.prog 89 #[.pointer (some ⟨g, 0, none⟩), .int .i64 4, .string ln, pv] w fun e w' => e = .returned (.bool (p0.toList == [99, 97, 116, 99, 104, 117, 112] || p0.toList == [108, 97, 116, 101, 115, 116])) ∧ D6 w' g nm cr fr up (p0.toList == [99, 97, 116, 99, 104, 117, 112]) tv ∧ Save g w w' := by
  obtain ⟨po, pc, rfl, -⟩ := id hp
  obtain ⟨pb, pp, hq, hlt, c0⟩ := text_at hp (k := 0) rfl
  subst hq
  rw [Nat.add_zero] at c0
  have hgl := hd.lt
  have c4 := hd.c4
  have f4 := hd.fz 4
  have HD : Hid (D6 w g nm cr fr up cu tv) := hd
  clear hp hd
  cases e0 : (p0.toList == [99, 97, 116, 99, 104, 117, 112])
  · cases e1 : (p0.toList == [108, 97, 116, 101, 115, 116])
    · have HEND : Hid (D6 (w.setCell ⟨g, 4, none⟩ (.bool false)) g nm cr fr up false tv) := HD.out.s4 _
      have d4 := HEND.out.c4
      have d0 : (w.setCell ⟨g, 4, none⟩ (.bool false)).cell? ⟨pb, pp, none⟩ = some (.string p0) := by
        rw [World.cell?_setCell_other _ _ _ _ (fun e => hpg pb pp _ _ rfl (congrArg Addr.block e).symm)]
        exact c0
      go_enter Try.func89, Try.ntmps89
      go_wp2
      go_ret
      exact ⟨rfl, HEND.out, save_set (Below.refl _ _) 4 _⟩
    · have HEND : Hid (D6 (w.setCell ⟨g, 4, none⟩ (.bool false)) g nm cr fr up false tv) := HD.out.s4 _
      have d4 := HEND.out.c4
      have d0 : (w.setCell ⟨g, 4, none⟩ (.bool false)).cell? ⟨pb, pp, none⟩ = some (.string p0) := by
        rw [World.cell?_setCell_other _ _ _ _ (fun e => hpg pb pp _ _ rfl (congrArg Addr.block e).symm)]
        exact c0
      go_enter Try.func89, Try.ntmps89
      go_wp2
      go_ret
      exact ⟨rfl, HEND.out, save_set (Below.refl _ _) 4 _⟩
  · rw [Bool.true_or]
    have HEND : Hid (D6 (w.setCell ⟨g, 4, none⟩ (.bool true)) g nm cr fr up true tv) := HD.out.s4 _
    have d4 := HEND.out.c4
    have d0 : (w.setCell ⟨g, 4, none⟩ (.bool true)).cell? ⟨pb, pp, none⟩ = some (.string p0) := by
      rw [World.cell?_setCell_other _ _ _ _ (fun e => hpg pb pp _ _ rfl (congrArg Addr.block e).symm)]
      exact c0
    go_enter Try.func89, Try.ntmps89
    go_wp2
    go_ret
    exact ⟨rfl, HEND.out, save_set (Below.refl _ _) 4 _⟩

end Go.Proofs.Ytehkebdncfljmaa
