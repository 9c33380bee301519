/-
  Sixty flags as an array: its cells, held against another one. Over any program. Blocks of sixty flags: read and written whole or flag by flag. A region that draws its order: its first operations only read (their callees turn nothing that lay there before), its last ones can come up in one order alone: one walk serves every order. Over any program.
-/
import Derived.WalkKit
import Derived.ChangeKeysEq
import Derived.Deep.WholeRow
import Derived.Test.YtgeimliibddhmaaDoorProg
import Derived.Test.YtgeimliibddhmaaDoorGn
import Derived.Test.YtgeimliibddhmaaDoorWd
import Derived.Deep.MidRow
import Derived.Laws.CopyOwn
namespace Go.Proofs.YtgeimliibddhmaaDoor
open Go Go.RowKit

/-- Sixty flags, as cells. -/
def fldA (p : Nat → Bool) : Array Value := (Array.range 60).map fun i => .bool (p i)
theorem fldA_size (p : Nat → Bool) : (fldA p).size = 60 := by simp [fldA]
theorem fldA_at {p : Nat → Bool} {i : Nat} (h : i < 60) : (fldA p)[i]? = some (.bool (p i)) := by
  simp [fldA, h]
theorem fldA_ext {p q : Nat → Bool} (h : ∀ i, i < 60 → p i = q i) : fldA p = fldA q := by
  apply Array.ext
  · rw [fldA_size, fldA_size]
  · intro i h1 h2
    have h3 : i < 60 := by rw [fldA_size] at h1; exact h1
    simp [fldA, h i h3]
theorem fldA_set (p : Nat → Bool) (n : Nat) (b : Bool) : (fldA p).setIfInBounds n (.bool b) = fldA fun i => if i = n then b else p i := by
  apply Array.ext_getElem?
  intro i
  rw [Array.getElem?_setIfInBounds]
  by_cases h : n = i
  · subst h
    by_cases h6 : n < 60
    · simp [fldA, h6]
    · simp [fldA, h6]
  · have h' : ¬ i = n := fun e => h e.symm
    by_cases h6 : i < 60
    · simp [fldA, h, h', h6]
    · simp [fldA, h, h6]
theorem fldA_none : Array.replicate 60 (Value.bool false) = fldA fun _ => false := by
  apply Array.ext
  · simp [fldA]
  · intro i h1 h2
    simp [fldA]
def fldE (p q : Nat → Bool) : Bool := (List.range 60).all fun i => p i == q i
theorem fldE_iff {p q : Nat → Bool} : fldE p q = true ↔ ∀ i, i < 60 → p i = q i := by
  simp [fldE]
theorem eqItems_flags {P : Program} (w : World) (d : Nat) (e : TypeId) (hb : P.underlying e = some .bool) (ha : ∀ w, (isAgg e).run P w = .ok false w) (p q : Nat → Bool) : ∀ is : List Nat, (∀ i ∈ is, i < 60) →
    (Op.eqItems (d + 1) e 1 (fldA p) (fldA q) is).run P w = .ok (is.all fun i => p i == q i) w
  | [], _ => by simp [Op.eqItems]
  | i :: is, h => by
    have hi : i < 60 := h i (by simp)
    have ih := eqItems_flags w d e hb ha p q is (fun j hj => h j (by simp [hj]))
    have e1 : (part e (fldA p) (i * 1)).run P w = .ok (.bool (p i)) w := by simp [part, ha, fldA_at hi]
    have e2 : (part e (fldA q) (i * 1)).run P w = .ok (.bool (q i)) w := by simp [part, ha, fldA_at hi]
    have e3 : (Op.equalIn (d + 1) e (.bool (p i)) (.bool (q i))).run P w = .ok (p i == q i) w := by simp [Op.equalIn, run_underlying hb]
    simp only [Op.eqItems, Sem.run_bind, e1, e2, e3, Result.andThen_ok, List.all_cons]
    cases p i == q i
    · simp
    · simpa using ih
theorem equal_flags {P : Program} (w : World) (d : Nat) {t e : TypeId} {i : TypeInfo} (hu : P.underlying t = some (.array 60 e)) (hi : P.info? e = some i) (hc : P.cellsOf e = 1) (hb : P.underlying e = some .bool) (ha : ∀ w, (isAgg e).run P w = .ok false w) (p q : Nat → Bool) :
    (Op.equalIn (d + 2) t (.agg (fldA p)) (.agg (fldA q))).run P w = .ok (fldE p q) w := by
  rw [run_equalIn_array w (d + 1) _ _ hu hi, hc]
  exact eqItems_flags w d e hb ha p q _ (fun i hi => by simpa using hi)
end Go.Proofs.YtgeimliibddhmaaDoor

namespace Go.Proofs.YtgeimliibddhmaaDoor
open Go Go.RowKit

/-- A block of sixty flags. -/
def Fb (t : TypeId) (W : World) (b : Nat) (p : Nat → Bool) : Prop := W.heap[b]? = some (.cells (fldA p) t)
theorem info55 : (Tryd.prog.info? 55).map (·.size) = some 60 := by kernel_rfl
theorem under55 : Tryd.prog.underlying 55 = some (.array 60 4) := by kernel_rfl
theorem fldA_one (p : Nat → Bool) : (fldA p).all (·.oneCell') = true := by
  rw [Array.all_eq_true_iff_forall_mem]
  intro v hv
  simp only [fldA, Array.mem_map, Array.mem_range] at hv
  obtain ⟨i, _, rfl⟩ := hv
  rfl
section
variable {t : TypeId} {W W' : World} {b : Nat} {p : Nat → Bool}
theorem Fb.lt (h : Fb t W b p) : b < W.heap.size := (Array.getElem?_eq_some_iff.1 h).1
theorem Fb.up (h : Fb t W b p) (hb : Below W.heap.size W W') : Fb t W' b p := (hb.block _ h.lt).trans h
theorem Fb.grown {r : Option Nat} (h : Fb t W b p) (hg : W.grownBy W' r) (hr : some b ≠ r) : Fb t W' b p := (hg.block b h.lt hr).trans h
theorem Fb.cell (h : Fb t W b p) {i : Nat} (hi : i < 60) : W.cell? ⟨b, i, none⟩ = some (.bool (p i)) := by simp [World.cell?, show W.heap[b]? = _ from h, fldA_at hi]
theorem Fb.fr (h : Fb t W b p) (o : Nat) : W.frozen? ⟨b, o, none⟩ = false := by simp [World.frozen?, show W.heap[b]? = _ from h]
theorem Fb.set (h : Fb t W b p) (n : Nat) (v : Bool) : Fb t (W.setCell ⟨b, n, none⟩ (.bool v)) b (fun i => if i = n then v else p i) := by
  simp [Fb, World.setCell, Array.getElem?_modify, show W.heap[b]? = _ from h, fldA_set]
theorem Fb.far {q : Addr} (h : Fb t W b p) (hp : q.block ≠ b) (u : Value) : Fb t (W.setCell q u) b p := (heap_setCell_other W q b u (fun e => hp e.symm)).trans h
theorem Fb.row (h : Fb t W b p) (q : Nat → Bool) : Fb t (W.setRow b (fldA q)) b q := setRow_heap W b _ _ t _ h
theorem Fb.rowFar {g : Nat} {cs : Array Value} (h : Fb t W b p) (hp : b ≠ g) : Fb t (W.setRow g cs) b p := (setRow_other W g b cs hp).trans h
theorem Fb.new {b : Nat} (t : TypeId) (W : World) (p : Nat → Bool) (h : b = W.heap.size) : Fb t (W.alloc (.cells (fldA p) t)) b p := by
  subst h
  show (W.heap.push _)[W.heap.size]? = _; simp
theorem Fb.alloc (h : Fb t W b p) (o : Obj) : Fb t (W.alloc o) b p := h.up (ba (Below.refl _ _) _)
theorem Fb.load (h : Fb t W b p) : (Instr.loadAt 55 (.pointer (some ⟨b, 0, none⟩))).run Tryd.prog W = .ok (.agg (fldA p)) W := by
  simp only [Instr.loadAt, Instr.sureAddr, Sem.run_bind, Sem.run_pure, Result.andThen]
  exact run_loadVar_row W b t 55 _ _ _ h under55 rfl (by rw [fldA_size]; exact info55)
theorem Fb.store (h : Fb t W b p) (q : Nat → Bool) : (Instr.storeAt 55 (.pointer (some ⟨b, 0, none⟩)) (.agg (fldA q))).run Tryd.prog W = .ok () (W.setRow b (fldA q)) := by
  simp only [Instr.storeAt, Instr.sureAddr, Sem.run_bind, Sem.run_pure, Result.andThen]
  exact run_storeVar_row W b t 55 _ _ h (by rw [fldA_size]; exact info55) (by rw [fldA_size, fldA_size]) (fldA_one q)
theorem Fb.loadC (h : Fb t W b p) : (loadCellsFrom ⟨b, 0, none⟩ 0 60 #[]).run Tryd.prog W = .ok (fldA p) W := by
  have := run_loadCells_list (P := Tryd.prog) W ⟨b, 0, none⟩ (fldA p).toList (fun j v hv => by
    have hadd : (⟨b, 0, none⟩ : Addr).add j = ⟨b, j, none⟩ := by unfold Addr.add; split <;> simp_all
    rw [hadd, cell_of_row _ _ j (fldA p) t (0, 0) h]
    simpa using hv)
  have e : (fldA p).toList.length = 60 := by rw [Array.length_toList, fldA_size]
  rw [e] at this
  simpa [loadCells] using this
theorem Fb.storeC (h : Fb t W b p) (q : Nat → Bool) : (storeCells ⟨b, 0, none⟩ (fldA q).toList 0).run Tryd.prog W = .ok () (W.setRow b (fldA q)) := by
  have := run_storeVar_row (P := Tryd.prog) W b t 55 _ _ h (by rw [fldA_size]; exact info55) (by rw [fldA_size, fldA_size]) (fldA_one q)
  cases hq : Tryd.prog.info? 55 with
  | none => have := info55; simp [hq] at this
  | some i =>
    have hs : (fldA q).size = i.size := by have := info55; simp [hq] at this; rw [fldA_size]; omega
    simpa [storeVar, sizeOf, typeInfo, hq, Value.cells, hs] using this
theorem wpl_load {ops : Array Oper} {rest : List Oper} {o : Oper} {a : Act} {Q : Exit → Act → World → Prop} (h : Fb t W b p) (x : Operand) (hgd : o.guard = none) (ho : o.op = .load 55 x) (hx : a.eval x = .pointer (some ⟨b, 0, none⟩))
    (k : wpList Tryd.prog ops Q rest (a.put o.dst (.agg (fldA p))) W) : wpList Tryd.prog ops Q (o :: rest) a W :=
  wpList_load_row hgd 55 x ho b hx t _ _ _ h under55 rfl (by rw [fldA_size]; exact info55) k
theorem wpl_store {ops : Array Oper} {rest : List Oper} {o : Oper} {a : Act} {Q : Exit → Act → World → Prop} (h : Fb t W b p) (q : Nat → Bool) (x y : Operand) (hgd : o.guard = none) (ho : o.op = .store 55 x y) (hx : a.eval x = .pointer (some ⟨b, 0, none⟩)) (hy : a.eval y = .agg (fldA q))
    (k : wpList Tryd.prog ops Q rest (a.put o.dst undef) (W.setRow b (fldA q))) : wpList Tryd.prog ops Q (o :: rest) a W :=
  wpList_store_row hgd 55 x y ho b _ hx hy t _ h (by rw [fldA_size]; exact info55) (by rw [fldA_size, fldA_size]) (fldA_one q) k
theorem ret_f {fn : Func} {u : Tmp} {tmps : Array Value} (hr : fn.results = #[.cell u 55]) (hp : tmps.getD u undef = .pointer (some ⟨b, 0, none⟩)) (h : Fb t W b p) : (results fn tmps).run Tryd.prog W = .ok (.agg (fldA p)) W :=
  results_cell_row hr tmps W b t _ _ _ hp h under55 rfl (by rw [fldA_size]; exact info55)
theorem ret_f2 {fn : Func} {u v : Tmp} {x : Value} {tmps : Array Value} (hr : fn.results = #[.cell u 55, .tmp v]) (hp : tmps.getD u undef = .pointer (some ⟨b, 0, none⟩)) (hv : tmps.getD v undef = x) (h : Fb t W b p) : (results fn tmps).run Tryd.prog W = .ok (.tuple #[.agg (fldA p), x]) W := by
  have hp' : tmps[u]?.getD undef = .pointer (some ⟨b, 0, none⟩) := by simpa using hp
  have hv' : tmps[v]?.getD undef = x := by simpa using hv
  simp [results, hr, hp', hv', asAddr, run_loadVar_row (P := Tryd.prog) W b t 55 _ _ _ h under55 rfl (by rw [fldA_size]; exact info55)]
end
theorem none55 : (#[.bool false, .bool false, .bool false, .bool false, .bool false, .bool false, .bool false, .bool false, .bool false, .bool false, .bool false, .bool false, .bool false, .bool false, .bool false, .bool false, .bool false, .bool false, .bool false, .bool false, .bool false, .bool false, .bool false, .bool false, .bool false, .bool false, .bool false, .bool false, .bool false, .bool false, .bool false, .bool false, .bool false, .bool false, .bool false, .bool false, .bool false, .bool false, .bool false, .bool false, .bool false, .bool false, .bool false, .bool false, .bool false, .bool false, .bool false, .bool false, .bool false, .bool false, .bool false, .bool false, .bool false, .bool false, .bool false, .bool false, .bool false, .bool false, .bool false, .bool false] : Array Value) = fldA fun _ => false := by kernel_rfl
theorem built55 : Tryd.prog.built 55 [] = some (fldA fun _ => false) := by kernel_rfl
theorem wpl_build {ops : Array Oper} {rest : List Oper} {o : Oper} {a : Act} {W : World} {Q : Exit → Act → World → Prop} (hg : o.guard = none) (ho : o.op = .build 55 #[])
    (h : wpList Tryd.prog ops Q rest (a.put o.dst (.agg (fldA fun _ => false))) W) : wpList Tryd.prog ops Q (o :: rest) a W := by
  have e : (Array.map (fun x : Nat × Operand => (x.fst, a.eval x.snd)) #[]).toList = [] := by simp
  refine wpList_build hg 55 #[] ho (by rw [e, built55]; rfl) ?_
  rw [e, built55]
  exact h
end Go.Proofs.YtgeimliibddhmaaDoor

namespace Go.Proofs.YtgeimliibddhmaaDoor
open Go Go.RowKit

section
variable {P : Program} {ops : Array Oper} {md : Region.Mode} {C : World → Prop}

/-- Whatever order is picked, as long as 'fuel' operations come up; then all that are listed are L, and R. -/
def wpAnyT (P : Program) (md : Region.Mode) (ops : Array Oper) (C : World → Prop) (L : Array Bool) (R : Act → Prop) : Nat → Array Bool → Act → Prop
  | 0, listed, a => listed = L ∧ R a
  | fuel + 1, listed, a => Region.ready md ops listed ≠ [] ∧ ∀ i ∈ Region.ready md ops listed, qOp P ops C i (wpAnyT P md ops C L R fuel (listed.setIfInBounds i true)) a

theorem wpAnyT_first {R : Act → Prop} {L : Array Bool} {m i : Nat} {oi : Oper} {v : Value} (hi : ops[i]? = some oi) (hsel : ∀ (j : Nat) (o : Oper) cs b, ops[j]? = some o → o.op ≠ .select cs b)
    (hL : ∀ j ∈ Region.ready md ops L, j = m) (hwait : ∀ om, ops[m]? = some om → ∃ e ∈ om.after, Region.binds md e = true ∧ e.on = i) :
    ∀ (fuel : Nat) (listed : Array Bool) (a : Act),
      (∀ j oj, ops[j]? = some oj → j ≠ i → listed.getD j true = false → (∀ e ∈ oj.after, Region.binds md e = true → e.on ≠ i) → oi.apart ops oj = true) →
      i ∈ Region.ready md ops listed → YieldsIn P ops C oi v a →
      wpAnyT P md ops C L R fuel (listed.setIfInBounds i true) (a.put oi.dst v) → wpAnyT P md ops C L R (fuel + 1) listed a := by
  intro fuel
  induction fuel with
  | zero =>
    intro listed a _ hr hy H
    refine ⟨fun h => (by rw [h] at hr; cases hr), fun j hj => ?_⟩
    by_cases hji : j = i
    · subst hji; exact hy.qOp hi H
    · have h1 := ready_mono hj hji
      rw [H.1] at h1
      have hjm := hL j h1
      subst hjm
      obtain ⟨hjun, oj, hoj, hall⟩ := mem_ready.1 hj
      obtain ⟨e, he, hb, heq⟩ := hwait oj hoj
      have h2 := hall e he hb
      have h0 := (mem_ready.1 hr).1
      rw [heq] at h2
      rcases Nat.lt_or_ge i listed.size with h' | h'
      · simp [h'] at h0 h2; rw [h0] at h2; cases h2
      · simp [Array.getElem?_eq_none h'] at h2
  | succ fuel ih =>
    intro listed a hfree hr hy H
    refine ⟨fun h => (by rw [h] at hr; cases hr), fun j hj => ?_⟩
    by_cases hji : j = i
    · subst hji; exact hy.qOp hi H
    · have h1 := H.2 j (ready_mono hj hji)
      obtain ⟨hjun, oj, hoj, hall⟩ := mem_ready.1 hj
      have hnot : ∀ e ∈ oj.after, Region.binds md e = true → e.on ≠ i := fun e he hb heq => by
        have h1 := hall e he hb
        have h0 := (mem_ready.1 hr).1
        rw [heq] at h1
        rcases Nat.lt_or_ge i listed.size with h' | h'
        · simp [h'] at h0 h1; rw [h0] at h1; cases h1
        · simp [Array.getElem?_eq_none h'] at h1
      have h2 := qOp_put hoj (hfree j oj hoj hji hjun hnot) (fun cs b => hsel i oi cs b hi) (fun cs b => hsel j oj cs b hoj) hy h1
      have hfree' : ∀ k ok, ops[k]? = some ok → k ≠ i → (listed.setIfInBounds j true).getD k true = false →
          (∀ e ∈ ok.after, Region.binds md e = true → e.on ≠ i) → oi.apart ops ok = true := fun k ok hk hki hun hno => by
        refine hfree k ok hk hki ?_ hno
        by_cases hjk : j = k
        · subst hjk; exact hjun
        · rw [getD_set_ne true hjk] at hun; exact hun
      refine qOp_mono (fun a' h3 => ih (listed.setIfInBounds j true) a' hfree' (ready_mono hr (Ne.symm hji)) h3.1 ?_) h2
      rw [Array.setIfInBounds_comm _ _ hji]
      exact h3.2

/-- The first operations in the order of the text: each may come up, and is free; behind them the listing is L. -/
def lexTo (md : Region.Mode) (ops : Array Oper) (L : Array Bool) : Nat → Nat → Array Bool → Bool
  | 0, _, listed => decide (listed = L)
  | fuel + 1, k, listed => (Region.ready md ops listed).contains k && Region.free md ops listed k && lexTo md ops L fuel (k + 1) (listed.setIfInBounds k true)
/-- Operation m waits for each of the first ones. -/
def waitsAll (md : Region.Mode) (ops : Array Oper) (m : Nat) : Bool :=
  (List.range m).all fun i => match ops[m]? with
    | none => true
    | some om => om.after.any fun e => Region.binds md e && e.on == i

theorem wpAnyT_lex {R : Act → Prop} {L : Array Bool} {m : Nat} (hs : Region.noSelect ops = true) (hL : ∀ j ∈ Region.ready md ops L, j = m) (hw : waitsAll md ops m = true) : ∀ (l : List Oper) (k : Nat) (listed : Array Bool) (a : Act), k + l.length = m → (∀ j, j < l.length → l[j]? = ops[k + j]?) →
    lexTo md ops L l.length k listed = true → wpQuiet P ops C R l a → wpAnyT P md ops C L R l.length listed a
  | [], _, _, _, _, _, hB, h => ⟨by simpa [lexTo] using hB, h⟩
  | o :: l, k, listed, a, hk, hl, hB, h => by
    have h0 : ops[k]? = some o := by simpa using (hl 0 (by simp)).symm
    simp only [List.length_cons, lexTo, Bool.and_eq_true] at hB
    obtain ⟨⟨hr, hf⟩, hB'⟩ := hB
    have hst : qOp P ops C k (wpQuiet P ops C R l) a := by unfold qOp; simp only [h0]; exact h
    obtain ⟨v, hy, hK⟩ := yieldsIn_of_qOp h0 hst
    refine wpAnyT_first h0 (Region.noSelect_spec hs) hL (fun om hom => ?_) l.length listed a (Region.free_spec h0 hf) (by simpa using hr) hy
      (wpAnyT_lex hs hL hw l (k + 1) _ _ (by simp at hk; omega) (fun j hj => by have := hl (j + 1) (by simpa using hj); simpa [Nat.add_assoc, Nat.add_comm 1 j] using this) hB' hK)
    unfold waitsAll at hw
    rw [List.all_eq_true] at hw
    have := hw k (List.mem_range.2 (by simp at hk; omega))
    rw [hom] at this
    simp only [Array.any_eq_true', Bool.and_eq_true, beq_iff_eq] at this
    obtain ⟨e, he, hb, heq⟩ := this
    exact ⟨e, he, hb, heq⟩

theorem wpAny_of_T {R : Act → Prop} {L : Array Bool} {Q' : Exit → Act → World → Prop} {f : Nat} (hR : ∀ a w, C w → R a → wpAny P md ops Q' f L a w) : ∀ (fuel : Nat) (listed : Array Bool) (a : Act) (w : World), C w →
    wpAnyT P md ops C L R fuel listed a → wpAny P md ops Q' (f + fuel) listed a w
  | 0, _, _, _, hw, h => by obtain ⟨rfl, h⟩ := h; exact hR _ _ hw h
  | fuel + 1, _, _, _, hw, h => ⟨fun h0 => absurd h0 h.1, fun i hi => wpOp_of_qOp hw (fun a' w' hw' => wpAny_of_T hR fuel _ a' w' hw') (h.2 i hi)⟩

/-- The last operations can come up in one order alone. -/
def forcedB (md : Region.Mode) (ops : Array Oper) : Nat → Nat → Array Bool → Bool
  | 0, _, listed => decide (Region.ready md ops listed = [])
  | fuel + 1, k, listed => decide (Region.ready md ops listed = [k]) && forcedB md ops fuel (k + 1) (listed.setIfInBounds k true)

theorem wpAny_forced {Q : Exit → Act → World → Prop} : ∀ (l : List Oper) (k : Nat) (listed : Array Bool) (a : Act) (w : World), (∀ j, j < l.length → l[j]? = ops[k + j]?) →
    forcedB md ops l.length k listed = true → wpList P ops Q l a w → wpAny P md ops Q l.length listed a w
  | [], _, _, _, _, _, hB, h => ⟨by simpa [forcedB] using hB, h⟩
  | o :: l, k, listed, a, w, hl, hB, h => by
    have h0 : ops[k]? = some o := by simpa using (hl 0 (by simp)).symm
    simp only [List.length_cons, forcedB, Bool.and_eq_true, decide_eq_true_eq] at hB
    refine wpAny_all hB.1 (by simp) fun i hi => ?_
    simp only [List.mem_singleton] at hi
    subst hi
    have h1 : wpOp P ops Q i (wpList P ops Q l) a w := by unfold wpOp; simp only [h0]; exact h
    exact wpOp_mono (fun a' w' h' => wpAny_forced l (i + 1) _ a' w' (fun j hj => by have := hl (j + 1) (by simpa using hj); simpa [Nat.add_assoc, Nat.add_comm 1 j] using this) hB.2 h') h1

/-- The kernel's look at a region that is parted behind its first m operations. -/
def tailB (md : Region.Mode) (ops : Array Oper) (m : Nat) : Bool :=
  let L := (Array.range ops.size).map fun i => decide (i < m)
  Region.noSelect ops && (Region.ready md ops L).all (· == m) && waitsAll md ops m && lexTo md ops L m 0 (Array.replicate ops.size false) && forcedB md ops (ops.size - m) m L

theorem wp_region_tail {id : Nat} {Q : Exit → Act → World → Prop} {a : Act} {w : World} {l : List Oper} (m : Nat) (hm : P.follows .mixedOrders = true) (hml : m ≤ l.length) (hB : tailB .any l.toArray m = true)
    (h : wpQuiet P l.toArray (fun w' => ∃ x : Wd w, w' = x.at') (fun a' => ∀ w', (∃ x : Wd w, w' = x.at') → wpList P l.toArray Q (l.drop m) a' w') (l.take m) a) : (Code.region id l.toArray true).wp P Q a w := by
  simp only [tailB, Bool.and_eq_true] at hB
  obtain ⟨⟨⟨⟨h1, h2⟩, h3⟩, h4⟩, h5⟩ := hB
  refine wp_region_any hm ?_
  have hlen : (l.take m).length = m := by simp; omega
  have hdrop : (l.drop m).length = l.length - m := by simp
  have hT := wpAnyT_lex (P := P) (C := fun w' => ∃ x : Wd w, w' = x.at') (md := .any) h1 (fun j hj => by
    rw [List.all_eq_true] at h2
    simpa using h2 j hj) h3 (l.take m) 0 (Array.replicate l.toArray.size false) a (by omega) (fun j hj => by
      rw [List.getElem?_take]
      have : j < m := by omega
      simp [this]) (by rw [hlen]; exact h4) h
  have := wpAny_of_T (Q' := Q) (f := (l.drop m).length) (fun a' w' hw' hR => wpAny_forced (md := .any) (l.drop m) m _ a' w' (fun j hj => by simp) (by rw [hdrop]; simpa using h5) (hR w' hw')) (l.take m).length _ a { w with drawn := w.drawn + 1 } ⟨⟨_, (Below.refl _ w).drew⟩, rfl⟩ hT
  have e : (l.drop m).length + (l.take m).length = l.toArray.size := by simp; omega
  rw [e] at this
  exact this
end
end Go.Proofs.YtgeimliibddhmaaDoor
