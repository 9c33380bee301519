/-
  Sixty flags as an array: its cells, held against another one. Over any program. A region that draws its order, whose own operations only read, and whose callees turn nothing that lay there before: one walk of the lexical order serves every order. Over any program. Blocks of sixty flags: read and written whole or flag by flag. A region that draws its order: its first operations only read (their callees turn nothing that lay there before), its last ones can come up in one order alone: one walk serves every order. Over any program. A region that draws its order: its first operations only read; the next ones come up one behind the other and keep what is read; its last ones wait for all: one walk serves every order. Over any program. A region that draws its order: what only yields is taken first, in any order that is told; what makes and appends comes up in every order; the last operation waits for all. Over any program.
-/
import Derived.WalkKit
import Derived.ChangeKeysEq
import Derived.Deep.WholeRow
import Derived.Deep.QuietTactic
import Derived.BigQuiet
import Derived.Test.YtjmclcjhimcehaaGreatDoorProg
import Derived.Test.YtjmclcjhimcehaaGreatDoorGn
import Derived.Deep.MidRow
import Derived.Laws.CopyOwn
import Derived.OrdersHeld
namespace Go.Proofs.YtjmclcjhimcehaaGreatDoor
open Go Go.RowKit

/-- Sixty flags, as cells. -/
def fldA (p : Nat → Bool) : Array Value := (Array.range 60).map fun i => .bool (p i)
theorem fldA_size (p : Nat → Bool) : (fldA p).size = 60 := by simp [fldA]
theorem fldA_at {p : Nat → Bool} {i : Nat} (h : i < 60) : (fldA p)[i]? = some (.bool (p i)) := by
  simp [fldA, h]
theorem fldA_ext {p q : Nat → Bool} (h : ∀ i, i < 60 → p i = q i) : fldA p = fldA q := by
  apply Array.ext
  · rw [fldA_size, fldA_size]
  · intro i h1 h2
    have h3 : i < 60 := by rw [fldA_size] at h1; exact h1
    simp [fldA, h i h3]
theorem fldA_set (p : Nat → Bool) (n : Nat) (b : Bool) : (fldA p).setIfInBounds n (.bool b) = fldA fun i => if i = n then b else p i := by
  apply Array.ext_getElem?
  intro i
  rw [Array.getElem?_setIfInBounds]
  by_cases h : n = i
  · subst h
    by_cases h6 : n < 60
    · simp [fldA, h6]
    · simp [fldA, h6]
  · have h' : ¬ i = n := fun e => h e.symm
    by_cases h6 : i < 60
    · simp [fldA, h, h', h6]
    · simp [fldA, h, h6]
theorem fldA_none : Array.replicate 60 (Value.bool false) = fldA fun _ => false := by
  apply Array.ext
  · simp [fldA]
  · intro i h1 h2
    simp [fldA]
def fldE (p q : Nat → Bool) : Bool := (List.range 60).all fun i => p i == q i
theorem fldE_iff {p q : Nat → Bool} : fldE p q = true ↔ ∀ i, i < 60 → p i = q i := by
  simp [fldE]
theorem eqItems_flags {P : Program} (w : World) (d : Nat) (e : TypeId) (hb : P.underlying e = some .bool) (ha : ∀ w, (isAgg e).run P w = .ok false w) (p q : Nat → Bool) : ∀ is : List Nat, (∀ i ∈ is, i < 60) →
    (Op.eqItems (d + 1) e 1 (fldA p) (fldA q) is).run P w = .ok (is.all fun i => p i == q i) w
  | [], _ => by simp [Op.eqItems]
  | i :: is, h => by
    have hi : i < 60 := h i (by simp)
    have ih := eqItems_flags w d e hb ha p q is (fun j hj => h j (by simp [hj]))
    have e1 : (part e (fldA p) (i * 1)).run P w = .ok (.bool (p i)) w := by simp [part, ha, fldA_at hi]
    have e2 : (part e (fldA q) (i * 1)).run P w = .ok (.bool (q i)) w := by simp [part, ha, fldA_at hi]
    have e3 : (Op.equalIn (d + 1) e (.bool (p i)) (.bool (q i))).run P w = .ok (p i == q i) w := by simp [Op.equalIn, run_underlying hb]
    simp only [Op.eqItems, Sem.run_bind, e1, e2, e3, Result.andThen_ok, List.all_cons]
    cases p i == q i
    · simp
    · simpa using ih
theorem equal_flags {P : Program} (w : World) (d : Nat) {t e : TypeId} {i : TypeInfo} (hu : P.underlying t = some (.array 60 e)) (hi : P.info? e = some i) (hc : P.cellsOf e = 1) (hb : P.underlying e = some .bool) (ha : ∀ w, (isAgg e).run P w = .ok false w) (p q : Nat → Bool) :
    (Op.equalIn (d + 2) t (.agg (fldA p)) (.agg (fldA q))).run P w = .ok (fldE p q) w := by
  rw [run_equalIn_array w (d + 1) _ _ hu hi, hc]
  exact eqItems_flags w d e hb ha p q _ (fun i hi => by simpa using hi)
end Go.Proofs.YtjmclcjhimcehaaGreatDoor

namespace Go.Proofs.YtjmclcjhimcehaaGreatDoor
open Go Go.RowKit

/-- A world in which nothing that lay in w has turned. -/
structure Wd (w : World) where
  at' : World
  ok : Below w.heap.size w at'
instance {w : World} : Nonempty (Wd w) := ⟨⟨w, Below.refl _ _⟩⟩
theorem Wd.cell {w : World} {a : Addr} {v : Value} (h : w.cell? a = some v) : ∀ x : Wd w, x.at'.cell? a = some v :=
  fun x => (x.ok.cell (World.block_lt_of_cell? w a h)).trans h

theorem wp_region_wd {P : Program} {id : Nat} {Q : Exit → Act → World → Prop} {a : Act} {w : World} {l : List Oper} (hm : P.follows .mixedOrders = true) (hB : Region.lexB .any l.toArray = true)
    (h : wpQuiet P l.toArray (fun w' => ∃ x : Wd w, w' = x.at') (fun a' => ∀ w', (∃ x : Wd w, w' = x.at') → Q .normal a' w') l a) : (Code.region id l.toArray true).wp P Q a w :=
  wp_region_quiet (C := fun w' => ∃ x : Wd w, w' = x.at') hm hB ⟨⟨_, (Below.refl _ w).drew⟩, rfl⟩ (by simpa using h)

theorem calls_wd {P : Program} {f : FuncId} {args : Array Value} {w : World} {x : Wd w} {v : Value}
    (h : Calls P f args x.at' fun e w' => e = .returned v ∧ Below x.at'.heap.size x.at' w') : Calls P f args x.at' fun e w'' => e = .returned v ∧ ∃ y : Wd w, w'' = y.at' :=
  h.mono fun _ w' ⟨he, hb⟩ => ⟨he, ⟨w', x.ok.trans (hb.mono x.ok.size)⟩, rfl⟩
theorem calls_wd_same {P : Program} {f : FuncId} {args : Array Value} {w : World} {x : Wd w} {v : Value}
    (h : Calls P f args x.at' fun e w' => e = .returned v ∧ w' = x.at') : Calls P f args x.at' fun e w'' => e = .returned v ∧ ∃ y : Wd w, w'' = y.at' :=
  h.mono fun _ _ ⟨he, hb⟩ => ⟨he, x, hb⟩
end Go.Proofs.YtjmclcjhimcehaaGreatDoor

namespace Go.Proofs.YtjmclcjhimcehaaGreatDoor
open Go Go.RowKit

/-- A block of sixty flags. -/
def Fb (t : TypeId) (W : World) (b : Nat) (p : Nat → Bool) : Prop := W.heap[b]? = some (.cells (fldA p) t)
theorem info55 : (Tryz.prog.info? 200).map (·.size) = some 60 := by kernel_rfl
theorem under55 : Tryz.prog.underlying 200 = some (.array 60 4) := by kernel_rfl
theorem fldA_one (p : Nat → Bool) : (fldA p).all (·.oneCell') = true := by
  rw [Array.all_eq_true_iff_forall_mem]
  intro v hv
  simp only [fldA, Array.mem_map, Array.mem_range] at hv
  obtain ⟨i, _, rfl⟩ := hv
  rfl
section
variable {t : TypeId} {W W' : World} {b : Nat} {p : Nat → Bool}
theorem Fb.lt (h : Fb t W b p) : b < W.heap.size := (Array.getElem?_eq_some_iff.1 h).1
theorem Fb.up (h : Fb t W b p) (hb : Below W.heap.size W W') : Fb t W' b p := (hb.block _ h.lt).trans h
theorem Fb.grown {r : Option Nat} (h : Fb t W b p) (hg : W.grownBy W' r) (hr : some b ≠ r) : Fb t W' b p := (hg.block b h.lt hr).trans h
theorem Fb.cell (h : Fb t W b p) {i : Nat} (hi : i < 60) : W.cell? ⟨b, i, none⟩ = some (.bool (p i)) := by simp [World.cell?, show W.heap[b]? = _ from h, fldA_at hi]
theorem Fb.fr (h : Fb t W b p) (o : Nat) : W.frozen? ⟨b, o, none⟩ = false := by simp [World.frozen?, show W.heap[b]? = _ from h]
theorem Fb.set (h : Fb t W b p) (n : Nat) (v : Bool) : Fb t (W.setCell ⟨b, n, none⟩ (.bool v)) b (fun i => if i = n then v else p i) := by
  simp [Fb, World.setCell, Array.getElem?_modify, show W.heap[b]? = _ from h, fldA_set]
theorem Fb.far {q : Addr} (h : Fb t W b p) (hp : q.block ≠ b) (u : Value) : Fb t (W.setCell q u) b p := (heap_setCell_other W q b u (fun e => hp e.symm)).trans h
theorem Fb.row (h : Fb t W b p) (q : Nat → Bool) : Fb t (W.setRow b (fldA q)) b q := setRow_heap W b _ _ t _ h
theorem Fb.rowFar {g : Nat} {cs : Array Value} (h : Fb t W b p) (hp : b ≠ g) : Fb t (W.setRow g cs) b p := (setRow_other W g b cs hp).trans h
theorem Fb.new {b : Nat} (t : TypeId) (W : World) (p : Nat → Bool) (h : b = W.heap.size) : Fb t (W.alloc (.cells (fldA p) t)) b p := by
  subst h
  show (W.heap.push _)[W.heap.size]? = _; simp
theorem Fb.alloc (h : Fb t W b p) (o : Obj) : Fb t (W.alloc o) b p := h.up (ba (Below.refl _ _) _)
theorem Fb.load (h : Fb t W b p) : (Instr.loadAt 200 (.pointer (some ⟨b, 0, none⟩))).run Tryz.prog W = .ok (.agg (fldA p)) W := by
  simp only [Instr.loadAt, Instr.sureAddr, Sem.run_bind, Sem.run_pure, Result.andThen]
  exact run_loadVar_row W b t 200 _ _ _ h under55 rfl (by rw [fldA_size]; exact info55)
theorem Fb.store (h : Fb t W b p) (q : Nat → Bool) : (Instr.storeAt 200 (.pointer (some ⟨b, 0, none⟩)) (.agg (fldA q))).run Tryz.prog W = .ok () (W.setRow b (fldA q)) := by
  simp only [Instr.storeAt, Instr.sureAddr, Sem.run_bind, Sem.run_pure, Result.andThen]
  exact run_storeVar_row W b t 200 _ _ h (by rw [fldA_size]; exact info55) (by rw [fldA_size, fldA_size]) (fldA_one q)
theorem Fb.loadC (h : Fb t W b p) : (loadCellsFrom ⟨b, 0, none⟩ 0 60 #[]).run Tryz.prog W = .ok (fldA p) W := by
  have := run_loadCells_list (P := Tryz.prog) W ⟨b, 0, none⟩ (fldA p).toList (fun j v hv => by
    have hadd : (⟨b, 0, none⟩ : Addr).add j = ⟨b, j, none⟩ := by unfold Addr.add; split <;> simp_all
    rw [hadd, cell_of_row _ _ j (fldA p) t (0, 0) h]
    simpa using hv)
  have e : (fldA p).toList.length = 60 := by rw [Array.length_toList, fldA_size]
  rw [e] at this
  simpa [loadCells] using this
theorem Fb.storeC (h : Fb t W b p) (q : Nat → Bool) : (storeCells ⟨b, 0, none⟩ (fldA q).toList 0).run Tryz.prog W = .ok () (W.setRow b (fldA q)) := by
  have := run_storeVar_row (P := Tryz.prog) W b t 200 _ _ h (by rw [fldA_size]; exact info55) (by rw [fldA_size, fldA_size]) (fldA_one q)
  cases hq : Tryz.prog.info? 200 with
  | none => have := info55; simp [hq] at this
  | some i =>
    have hs : (fldA q).size = i.size := by have := info55; simp [hq] at this; rw [fldA_size]; omega
    simpa [storeVar, sizeOf, typeInfo, hq, Value.cells, hs] using this
theorem wpl_load {ops : Array Oper} {rest : List Oper} {o : Oper} {a : Act} {Q : Exit → Act → World → Prop} (h : Fb t W b p) (x : Operand) (hgd : o.guard = none) (ho : o.op = .load 200 x) (hx : a.eval x = .pointer (some ⟨b, 0, none⟩))
    (k : wpList Tryz.prog ops Q rest (a.put o.dst (.agg (fldA p))) W) : wpList Tryz.prog ops Q (o :: rest) a W :=
  wpList_load_row hgd 200 x ho b hx t _ _ _ h under55 rfl (by rw [fldA_size]; exact info55) k
theorem wpl_store {ops : Array Oper} {rest : List Oper} {o : Oper} {a : Act} {Q : Exit → Act → World → Prop} (h : Fb t W b p) (q : Nat → Bool) (x y : Operand) (hgd : o.guard = none) (ho : o.op = .store 200 x y) (hx : a.eval x = .pointer (some ⟨b, 0, none⟩)) (hy : a.eval y = .agg (fldA q))
    (k : wpList Tryz.prog ops Q rest (a.put o.dst undef) (W.setRow b (fldA q))) : wpList Tryz.prog ops Q (o :: rest) a W :=
  wpList_store_row hgd 200 x y ho b _ hx hy t _ h (by rw [fldA_size]; exact info55) (by rw [fldA_size, fldA_size]) (fldA_one q) k
theorem ret_f {fn : Func} {u : Tmp} {tmps : Array Value} (hr : fn.results = #[.cell u 200]) (hp : tmps.getD u undef = .pointer (some ⟨b, 0, none⟩)) (h : Fb t W b p) : (results fn tmps).run Tryz.prog W = .ok (.agg (fldA p)) W :=
  results_cell_row hr tmps W b t _ _ _ hp h under55 rfl (by rw [fldA_size]; exact info55)
theorem ret_f2 {fn : Func} {u v : Tmp} {x : Value} {tmps : Array Value} (hr : fn.results = #[.cell u 200, .tmp v]) (hp : tmps.getD u undef = .pointer (some ⟨b, 0, none⟩)) (hv : tmps.getD v undef = x) (h : Fb t W b p) : (results fn tmps).run Tryz.prog W = .ok (.tuple #[.agg (fldA p), x]) W := by
  have hp' : tmps[u]?.getD undef = .pointer (some ⟨b, 0, none⟩) := by simpa using hp
  have hv' : tmps[v]?.getD undef = x := by simpa using hv
  simp [results, hr, hp', hv', asAddr, run_loadVar_row (P := Tryz.prog) W b t 200 _ _ _ h under55 rfl (by rw [fldA_size]; exact info55)]
end
theorem none55 : (#[.bool false, .bool false, .bool false, .bool false, .bool false, .bool false, .bool false, .bool false, .bool false, .bool false, .bool false, .bool false, .bool false, .bool false, .bool false, .bool false, .bool false, .bool false, .bool false, .bool false, .bool false, .bool false, .bool false, .bool false, .bool false, .bool false, .bool false, .bool false, .bool false, .bool false, .bool false, .bool false, .bool false, .bool false, .bool false, .bool false, .bool false, .bool false, .bool false, .bool false, .bool false, .bool false, .bool false, .bool false, .bool false, .bool false, .bool false, .bool false, .bool false, .bool false, .bool false, .bool false, .bool false, .bool false, .bool false, .bool false, .bool false, .bool false, .bool false, .bool false] : Array Value) = fldA fun _ => false := by kernel_rfl
theorem built55 : Tryz.prog.built 200 [] = some (fldA fun _ => false) := by kernel_rfl
theorem wpl_build {ops : Array Oper} {rest : List Oper} {o : Oper} {a : Act} {W : World} {Q : Exit → Act → World → Prop} (hg : o.guard = none) (ho : o.op = .build 200 #[])
    (h : wpList Tryz.prog ops Q rest (a.put o.dst (.agg (fldA fun _ => false))) W) : wpList Tryz.prog ops Q (o :: rest) a W := by
  have e : (Array.map (fun x : Nat × Operand => (x.fst, a.eval x.snd)) #[]).toList = [] := by simp
  refine wpList_build hg 200 #[] ho (by rw [e, built55]; rfl) ?_
  rw [e, built55]
  exact h
end Go.Proofs.YtjmclcjhimcehaaGreatDoor

namespace Go.Proofs.YtjmclcjhimcehaaGreatDoor
open Go Go.RowKit

section
variable {P : Program} {ops : Array Oper} {md : Region.Mode} {C : World → Prop}

/-- Whatever order is picked, as long as 'fuel' operations come up; then all that are listed are L, and R. -/
def wpAnyT (P : Program) (md : Region.Mode) (ops : Array Oper) (C : World → Prop) (L : Array Bool) (R : Act → Prop) : Nat → Array Bool → Act → Prop
  | 0, listed, a => listed = L ∧ R a
  | fuel + 1, listed, a => Region.ready md ops listed ≠ [] ∧ ∀ i ∈ Region.ready md ops listed, qOp P ops C i (wpAnyT P md ops C L R fuel (listed.setIfInBounds i true)) a

theorem wpAnyT_first {R : Act → Prop} {L : Array Bool} {m i : Nat} {oi : Oper} {v : Value} (hi : ops[i]? = some oi) (hsel : ∀ (j : Nat) (o : Oper) cs b, ops[j]? = some o → o.op ≠ .select cs b)
    (hL : ∀ j ∈ Region.ready md ops L, j = m) (hwait : ∀ om, ops[m]? = some om → ∃ e ∈ om.after, Region.binds md e = true ∧ e.on = i) :
    ∀ (fuel : Nat) (listed : Array Bool) (a : Act),
      (∀ j oj, ops[j]? = some oj → j ≠ i → listed.getD j true = false → (∀ e ∈ oj.after, Region.binds md e = true → e.on ≠ i) → oi.apart ops oj = true) →
      i ∈ Region.ready md ops listed → YieldsIn P ops C oi v a →
      wpAnyT P md ops C L R fuel (listed.setIfInBounds i true) (a.put oi.dst v) → wpAnyT P md ops C L R (fuel + 1) listed a := by
  intro fuel
  induction fuel with
  | zero =>
    intro listed a _ hr hy H
    refine ⟨fun h => (by rw [h] at hr; cases hr), fun j hj => ?_⟩
    by_cases hji : j = i
    · subst hji; exact hy.qOp hi H
    · have h1 := ready_mono hj hji
      rw [H.1] at h1
      have hjm := hL j h1
      subst hjm
      obtain ⟨hjun, oj, hoj, hall⟩ := mem_ready.1 hj
      obtain ⟨e, he, hb, heq⟩ := hwait oj hoj
      have h2 := hall e he hb
      have h0 := (mem_ready.1 hr).1
      rw [heq] at h2
      rcases Nat.lt_or_ge i listed.size with h' | h'
      · simp [h'] at h0 h2; rw [h0] at h2; cases h2
      · simp [Array.getElem?_eq_none h'] at h2
  | succ fuel ih =>
    intro listed a hfree hr hy H
    refine ⟨fun h => (by rw [h] at hr; cases hr), fun j hj => ?_⟩
    by_cases hji : j = i
    · subst hji; exact hy.qOp hi H
    · have h1 := H.2 j (ready_mono hj hji)
      obtain ⟨hjun, oj, hoj, hall⟩ := mem_ready.1 hj
      have hnot : ∀ e ∈ oj.after, Region.binds md e = true → e.on ≠ i := fun e he hb heq => by
        have h1 := hall e he hb
        have h0 := (mem_ready.1 hr).1
        rw [heq] at h1
        rcases Nat.lt_or_ge i listed.size with h' | h'
        · simp [h'] at h0 h1; rw [h0] at h1; cases h1
        · simp [Array.getElem?_eq_none h'] at h1
      have h2 := qOp_put hoj (hfree j oj hoj hji hjun hnot) (fun cs b => hsel i oi cs b hi) (fun cs b => hsel j oj cs b hoj) hy h1
      have hfree' : ∀ k ok, ops[k]? = some ok → k ≠ i → (listed.setIfInBounds j true).getD k true = false →
          (∀ e ∈ ok.after, Region.binds md e = true → e.on ≠ i) → oi.apart ops ok = true := fun k ok hk hki hun hno => by
        refine hfree k ok hk hki ?_ hno
        by_cases hjk : j = k
        · subst hjk; exact hjun
        · rw [getD_set_ne true hjk] at hun; exact hun
      refine qOp_mono (fun a' h3 => ih (listed.setIfInBounds j true) a' hfree' (ready_mono hr (Ne.symm hji)) h3.1 ?_) h2
      rw [Array.setIfInBounds_comm _ _ hji]
      exact h3.2

/-- The first operations in the order of the text: each may come up, and is free; behind them the listing is L. -/
def lexTo (md : Region.Mode) (ops : Array Oper) (L : Array Bool) : Nat → Nat → Array Bool → Bool
  | 0, _, listed => decide (listed = L)
  | fuel + 1, k, listed => (Region.ready md ops listed).contains k && Region.free md ops listed k && lexTo md ops L fuel (k + 1) (listed.setIfInBounds k true)
/-- Operation m waits for each of the first ones. -/
def waitsAll (md : Region.Mode) (ops : Array Oper) (m : Nat) : Bool :=
  (List.range m).all fun i => match ops[m]? with
    | none => true
    | some om => om.after.any fun e => Region.binds md e && e.on == i

theorem wpAnyT_lex {R : Act → Prop} {L : Array Bool} {m : Nat} (hs : Region.noSelect ops = true) (hL : ∀ j ∈ Region.ready md ops L, j = m) (hw : waitsAll md ops m = true) : ∀ (l : List Oper) (k : Nat) (listed : Array Bool) (a : Act), k + l.length = m → (∀ j, j < l.length → l[j]? = ops[k + j]?) →
    lexTo md ops L l.length k listed = true → wpQuiet P ops C R l a → wpAnyT P md ops C L R l.length listed a
  | [], _, _, _, _, _, hB, h => ⟨by simpa [lexTo] using hB, h⟩
  | o :: l, k, listed, a, hk, hl, hB, h => by
    have h0 : ops[k]? = some o := by simpa using (hl 0 (by simp)).symm
    simp only [List.length_cons, lexTo, Bool.and_eq_true] at hB
    obtain ⟨⟨hr, hf⟩, hB'⟩ := hB
    have hst : qOp P ops C k (wpQuiet P ops C R l) a := by unfold qOp; simp only [h0]; exact h
    obtain ⟨v, hy, hK⟩ := yieldsIn_of_qOp h0 hst
    refine wpAnyT_first h0 (Region.noSelect_spec hs) hL (fun om hom => ?_) l.length listed a (Region.free_spec h0 hf) (by simpa using hr) hy
      (wpAnyT_lex hs hL hw l (k + 1) _ _ (by simp at hk; omega) (fun j hj => by have := hl (j + 1) (by simpa using hj); simpa [Nat.add_assoc, Nat.add_comm 1 j] using this) hB' hK)
    unfold waitsAll at hw
    rw [List.all_eq_true] at hw
    have := hw k (List.mem_range.2 (by simp at hk; omega))
    rw [hom] at this
    simp only [Array.any_eq_true', Bool.and_eq_true, beq_iff_eq] at this
    obtain ⟨e, he, hb, heq⟩ := this
    exact ⟨e, he, hb, heq⟩

theorem wpAny_of_T {R : Act → Prop} {L : Array Bool} {Q' : Exit → Act → World → Prop} {f : Nat} (hR : ∀ a w, C w → R a → wpAny P md ops Q' f L a w) : ∀ (fuel : Nat) (listed : Array Bool) (a : Act) (w : World), C w →
    wpAnyT P md ops C L R fuel listed a → wpAny P md ops Q' (f + fuel) listed a w
  | 0, _, _, _, hw, h => by obtain ⟨rfl, h⟩ := h; exact hR _ _ hw h
  | fuel + 1, _, _, _, hw, h => ⟨fun h0 => absurd h0 h.1, fun i hi => wpOp_of_qOp hw (fun a' w' hw' => wpAny_of_T hR fuel _ a' w' hw') (h.2 i hi)⟩

/-- The last operations can come up in one order alone. -/
def forcedB (md : Region.Mode) (ops : Array Oper) : Nat → Nat → Array Bool → Bool
  | 0, _, listed => decide (Region.ready md ops listed = [])
  | fuel + 1, k, listed => decide (Region.ready md ops listed = [k]) && forcedB md ops fuel (k + 1) (listed.setIfInBounds k true)

theorem wpAny_forced {Q : Exit → Act → World → Prop} : ∀ (l : List Oper) (k : Nat) (listed : Array Bool) (a : Act) (w : World), (∀ j, j < l.length → l[j]? = ops[k + j]?) →
    forcedB md ops l.length k listed = true → wpList P ops Q l a w → wpAny P md ops Q l.length listed a w
  | [], _, _, _, _, _, hB, h => ⟨by simpa [forcedB] using hB, h⟩
  | o :: l, k, listed, a, w, hl, hB, h => by
    have h0 : ops[k]? = some o := by simpa using (hl 0 (by simp)).symm
    simp only [List.length_cons, forcedB, Bool.and_eq_true, decide_eq_true_eq] at hB
    refine wpAny_all hB.1 (by simp) fun i hi => ?_
    simp only [List.mem_singleton] at hi
    subst hi
    have h1 : wpOp P ops Q i (wpList P ops Q l) a w := by unfold wpOp; simp only [h0]; exact h
    exact wpOp_mono (fun a' w' h' => wpAny_forced l (i + 1) _ a' w' (fun j hj => by have := hl (j + 1) (by simpa using hj); simpa [Nat.add_assoc, Nat.add_comm 1 j] using this) hB.2 h') h1

/-- The kernel's look at a region that is parted behind its first m operations. -/
def tailB (md : Region.Mode) (ops : Array Oper) (m : Nat) : Bool :=
  let L := (Array.range ops.size).map fun i => decide (i < m)
  Region.noSelect ops && (Region.ready md ops L).all (· == m) && waitsAll md ops m && lexTo md ops L m 0 (Array.replicate ops.size false) && forcedB md ops (ops.size - m) m L

theorem wp_region_tail {id : Nat} {Q : Exit → Act → World → Prop} {a : Act} {w : World} {l : List Oper} (m : Nat) (hm : P.follows .mixedOrders = true) (hml : m ≤ l.length) (hB : tailB .any l.toArray m = true)
    (h : wpQuiet P l.toArray (fun w' => ∃ x : Wd w, w' = x.at') (fun a' => ∀ w', (∃ x : Wd w, w' = x.at') → wpList P l.toArray Q (l.drop m) a' w') (l.take m) a) : (Code.region id l.toArray true).wp P Q a w := by
  simp only [tailB, Bool.and_eq_true] at hB
  obtain ⟨⟨⟨⟨h1, h2⟩, h3⟩, h4⟩, h5⟩ := hB
  refine wp_region_any hm ?_
  have hlen : (l.take m).length = m := by simp; omega
  have hdrop : (l.drop m).length = l.length - m := by simp
  have hT := wpAnyT_lex (P := P) (C := fun w' => ∃ x : Wd w, w' = x.at') (md := .any) h1 (fun j hj => by
    rw [List.all_eq_true] at h2
    simpa using h2 j hj) h3 (l.take m) 0 (Array.replicate l.toArray.size false) a (by omega) (fun j hj => by
      rw [List.getElem?_take]
      have : j < m := by omega
      simp [this]) (by rw [hlen]; exact h4) h
  have := wpAny_of_T (Q' := Q) (f := (l.drop m).length) (fun a' w' hw' hR => wpAny_forced (md := .any) (l.drop m) m _ a' w' (fun j hj => by simp) (by rw [hdrop]; simpa using h5) (hR w' hw')) (l.take m).length _ a { w with drawn := w.drawn + 1 } ⟨⟨_, (Below.refl _ w).drew⟩, rfl⟩ hT
  have e : (l.drop m).length + (l.take m).length = l.toArray.size := by simp; omega
  rw [e] at this
  exact this
end
end Go.Proofs.YtjmclcjhimcehaaGreatDoor

namespace Go.Proofs.YtjmclcjhimcehaaGreatDoor
open Go Go.RowKit

/-- Operations that yield a value, or halt. -/
def valueOp : Op → Bool
  | .move _ | .assign _ | .pick .. | .build .. | .load .. | .binOp .. | .unOp .. | .convert .. | .slice .. | .fieldAddr .. | .field .. | .indexAddr .. | .index .. | .lookup .. | .extract .. => true
  | _ => false

theorem andThen_value {s : Result Value} {n : Next} {w' : World} (h : (s.andThen fun a w => Result.ok (Next.value a) w) = .ok n w') : ∃ v, n = .value v := by
  cases s with
  | ok v w => simp only [Result.andThen, Result.ok.injEq] at h; exact ⟨v, h.1.symm⟩
  | halt x w => simp [Result.andThen] at h

theorem value_only {P : Program} {o : Oper} (h : valueOp o.op = true) {ρ : Operand → Value} {w w' : World} {n : Next} (hr : (execOp ρ o).run P w = .ok n w') : ∃ v, n = .value v := by
  unfold execOp at hr
  cases ho : o.op <;> rw [ho] at h hr <;> first
    | (simp [valueOp] at h; done)
    | (simp only [Sem.run_pure, Result.ok.injEq] at hr; exact ⟨_, hr.1.symm⟩)
    | (simp only [Sem.run_bind, Sem.run_pure] at hr; exact andThen_value hr)
    | (simp only [Sem.run_bind, Sem.run_pure] at hr
       generalize hs : (asBool _).run P w = s at hr
       cases s with
       | ok v w => simp only [Result.andThen, Result.ok.injEq] at hr; exact ⟨_, hr.1.symm⟩
       | halt x w => simp [Result.andThen] at hr)

section
variable {P : Program} {ops : Array Oper} {md : Region.Mode} {C : World → Prop} {Q : Exit → Act → World → Prop}

theorem yieldsIf_of_in {o : Oper} {v : Value} {a : Act} (h : valueOp o.op = true) (hy : YieldsIn P ops C o v a) : YieldsIf P ops C o v a := by
  rcases hy with ⟨hw, hq⟩ | h2
  · refine .inl ⟨hw, fun w hC => ?_⟩
    have h3 := hq w hC
    unfold Oper.quietAt at h3
    cases hr : (execOp a.eval o).run P w with
    | ok n w' =>
      obtain ⟨u, rfl⟩ := value_only h hr
      rw [hr] at h3
      simp only [Oper.quietUpon] at h3
      rw [h3.1, h3.2]
    | halt x w' => rw [hr] at h3; simp only [Oper.quietUpon] at h3
  · exact .inr h2

/-- Whatever order is picked, as long as 'fuel' operations come up, C holding behind each; then all that are listed are L, and R. -/
def wpAnyU (P : Program) (md : Region.Mode) (ops : Array Oper) (Q : Exit → Act → World → Prop) (C : World → Prop) (L : Array Bool) (R : Act → World → Prop) : Nat → Array Bool → Act → World → Prop
  | 0, listed, a, w => listed = L ∧ R a w
  | fuel + 1, listed, a, w => Region.ready md ops listed ≠ [] ∧ ∀ i ∈ Region.ready md ops listed, wpOp P ops Q i (fun a' w' => C w' ∧ wpAnyU P md ops Q C L R fuel (listed.setIfInBounds i true) a' w') a w

theorem wpAny_of_U {R : Act → World → Prop} {L : Array Bool} {f : Nat} (hR : ∀ a w, R a w → wpAny P md ops Q f L a w) : ∀ (fuel : Nat) (listed : Array Bool) (a : Act) (w : World),
    wpAnyU P md ops Q C L R fuel listed a w → wpAny P md ops Q (f + fuel) listed a w
  | 0, _, _, _, h => by obtain ⟨rfl, h⟩ := h; exact hR _ _ h
  | fuel + 1, _, _, _, h => ⟨fun h0 => absurd h0 h.1, fun i hi => wpOp_mono (fun a' w' h' => wpAny_of_U hR fuel _ a' w' h'.2) (h.2 i hi)⟩

theorem wpAnyU_first {R : Act → World → Prop} {L : Array Bool} {m i : Nat} {oi : Oper} {v : Value} (hi : ops[i]? = some oi) (hsel : ∀ (j : Nat) (o : Oper) cs b, ops[j]? = some o → o.op ≠ .select cs b)
    (hQ : ∀ c a w, Q (.panic c) (a.put oi.dst v) w → Q (.panic c) a w)
    (hL : ∀ j ∈ Region.ready md ops L, j = m) (hwait : ∀ om, ops[m]? = some om → ∃ e ∈ om.after, Region.binds md e = true ∧ e.on = i) :
    ∀ (fuel : Nat) (listed : Array Bool) (a : Act) (w : World),
      (∀ j oj, ops[j]? = some oj → j ≠ i → listed.getD j true = false → (∀ e ∈ oj.after, Region.binds md e = true → e.on ≠ i) → oi.apart ops oj = true) →
      i ∈ Region.ready md ops listed → YieldsIf P ops C oi v a → C w →
      wpAnyU P md ops Q C L R fuel (listed.setIfInBounds i true) (a.put oi.dst v) w → wpAnyU P md ops Q C L R (fuel + 1) listed a w := by
  intro fuel
  induction fuel with
  | zero =>
    intro listed a w _ hr hy hS H
    refine ⟨fun h => (by rw [h] at hr; cases hr), fun j hj => ?_⟩
    by_cases hji : j = i
    · subst hji; exact hy.wpOp hi hS ⟨hS, H⟩
    · have h1 := ready_mono hj hji
      rw [H.1] at h1
      have hjm := hL j h1
      subst hjm
      obtain ⟨hjun, oj, hoj, hall⟩ := mem_ready.1 hj
      obtain ⟨e, he, hb, heq⟩ := hwait oj hoj
      have h2 := hall e he hb
      have h0 := (mem_ready.1 hr).1
      rw [heq] at h2
      rcases Nat.lt_or_ge i listed.size with h' | h'
      · simp [h'] at h0 h2; rw [h0] at h2; cases h2
      · simp [Array.getElem?_eq_none h'] at h2
  | succ fuel ih =>
    intro listed a w hfree hr hy hS H
    refine ⟨fun h => (by rw [h] at hr; cases hr), fun j hj => ?_⟩
    by_cases hji : j = i
    · subst hji; exact hy.wpOp hi hS ⟨hS, H⟩
    · have h1 := H.2 j (ready_mono hj hji)
      obtain ⟨hjun, oj, hoj, hall⟩ := mem_ready.1 hj
      have hnot : ∀ e ∈ oj.after, Region.binds md e = true → e.on ≠ i := fun e he hb heq => by
        have h1 := hall e he hb
        have h0 := (mem_ready.1 hr).1
        rw [heq] at h1
        rcases Nat.lt_or_ge i listed.size with h' | h'
        · simp [h'] at h0 h1; rw [h0] at h1; cases h1
        · simp [Array.getElem?_eq_none h'] at h1
      have h2 := wpOp_putIf hoj (hfree j oj hoj hji hjun hnot) (fun cs b => hsel i oi cs b hi) (fun cs b => hsel j oj cs b hoj) hQ hy h1
      have hfree' : ∀ k ok, ops[k]? = some ok → k ≠ i → (listed.setIfInBounds j true).getD k true = false →
          (∀ e ∈ ok.after, Region.binds md e = true → e.on ≠ i) → oi.apart ops ok = true := fun k ok hk hki hun hno => by
        refine hfree k ok hk hki ?_ hno
        by_cases hjk : j = k
        · subst hjk; exact hjun
        · rw [getD_set_ne true hjk] at hun; exact hun
      refine wpOp_mono (fun a' w' h3 => ⟨h3.2.1, ih (listed.setIfInBounds j true) a' w' hfree' (ready_mono hr (Ne.symm hji)) h3.1 h3.2.1 ?_⟩) h2
      rw [Array.setIfInBounds_comm _ _ hji]
      exact h3.2.2

/-- Operations one behind the other, C holding behind each. -/
def wpForced (P : Program) (ops : Array Oper) (Q : Exit → Act → World → Prop) (C : World → Prop) (R : Act → World → Prop) : List Oper → Act → World → Prop
  | [], a, w => R a w
  | o :: l, a, w => if Region.wanted o (yielded ops a.tmps) then o.wp P a w (fun a' w' => C w' ∧ wpForced P ops Q C R l a' w') Q ∨ (o.asks P a w ∧ LetsOut Q) else C w ∧ wpForced P ops Q C R l (a.put o.dst undef) w

theorem wpForced_nil {R : Act → World → Prop} {a : Act} {w : World} (h : R a w) : wpForced P ops Q C R [] a w := h
theorem wpForced_cons {R : Act → World → Prop} {o : Oper} {l : List Oper} {a : Act} {w : World} (hg : o.guard = none)
    (h : ∀ K : Act → World → Prop, Hid (∀ a' w', C w' → wpForced P ops Q C R l a' w' → K a' w') → wpList P ops (Exit.then K Q) [o] a w) : wpForced P ops Q C R (o :: l) a w := by
  have h1 := h (fun a' w' => C w' ∧ wpForced P ops Q C R l a' w') (fun a' w' h1 h2 => ⟨h1, h2⟩)
  have hw : Region.wanted o (yielded ops a.tmps) = true := by simp [Region.wanted, hg]
  unfold wpForced
  unfold wpList at h1
  rw [if_pos hw] at h1 ⊢
  exact h1

def forcedTo (md : Region.Mode) (ops : Array Oper) (L : Array Bool) : Nat → Nat → Array Bool → Bool
  | 0, _, listed => decide (listed = L)
  | fuel + 1, k, listed => decide (Region.ready md ops listed = [k]) && forcedTo md ops L fuel (k + 1) (listed.setIfInBounds k true)
def lexMix (md : Region.Mode) (ops : Array Oper) (L : Array Bool) (m2 : Nat) : Nat → Nat → Array Bool → Bool
  | 0, k, listed => forcedTo md ops L (m2 - k) k listed
  | fuel + 1, k, listed => (Region.ready md ops listed).contains k && Region.free md ops listed k && ((ops[k]?).map fun o => valueOp o.op).getD false && lexMix md ops L m2 fuel (k + 1) (listed.setIfInBounds k true)

theorem wpAnyU_forced {R : Act → World → Prop} {L : Array Bool} : ∀ (l : List Oper) (k : Nat) (listed : Array Bool) (a : Act) (w : World), (∀ j, j < l.length → l[j]? = ops[k + j]?) →
    forcedTo md ops L l.length k listed = true → wpForced P ops Q C R l a w → wpAnyU P md ops Q C L R l.length listed a w
  | [], _, _, _, _, _, hB, h => ⟨by simpa [forcedTo] using hB, h⟩
  | o :: l, k, listed, a, w, hl, hB, h => by
    have h0 : ops[k]? = some o := by simpa using (hl 0 (by simp)).symm
    simp only [List.length_cons, forcedTo, Bool.and_eq_true, decide_eq_true_eq] at hB
    refine ⟨by rw [hB.1]; simp, fun i hi => ?_⟩
    rw [hB.1] at hi
    simp only [List.mem_singleton] at hi
    subst hi
    have h1 : wpOp P ops Q i (fun a' w' => C w' ∧ wpForced P ops Q C R l a' w') a w := by unfold wpOp; simp only [h0]; exact h
    exact wpOp_mono (fun a' w' h' => ⟨h'.1, wpAnyU_forced l (i + 1) _ a' w' (fun j hj => by have := hl (j + 1) (by simpa using hj); simpa [Nat.add_assoc, Nat.add_comm 1 j] using this) hB.2 h'.2⟩) h1

theorem wpAnyU_lex {R : Act → World → Prop} {L : Array Bool} {m m2 : Nat} {w : World} (hw : C w) (hs : Region.noSelect ops = true) (hQ : ∀ c a d v w, Q (.panic c) (Act.put a d v) w → Q (.panic c) a w) (hL : ∀ j ∈ Region.ready md ops L, j = m) (hwt : waitsAll md ops m = true)
    (l2 : List Oper) (hm2 : m2 ≤ m) (k2 : Nat) (hk2 : ∀ j, j < l2.length → l2[j]? = ops[k2 + j]?) (hl2 : l2.length = m2 - k2) : ∀ (l : List Oper) (k : Nat) (listed : Array Bool) (a : Act), k + l.length = k2 → k2 ≤ m2 → (∀ j, j < l.length → l[j]? = ops[k + j]?) →
    lexMix md ops L m2 l.length k listed = true → wpQuiet P ops C (fun a' => wpForced P ops Q C R l2 a' w) l a → wpAnyU P md ops Q C L R (l2.length + l.length) listed a w
  | [], k, listed, a, hk, _, _, hB, h => by
    simp only [List.length_nil, Nat.add_zero] at hk ⊢
    subst hk
    simp only [List.length_nil, lexMix] at hB
    rw [← hl2] at hB
    exact wpAnyU_forced l2 k listed a w hk2 hB h
  | o :: l, k, listed, a, hk, hkm, hl, hB, h => by
    have h0 : ops[k]? = some o := by simpa using (hl 0 (by simp)).symm
    simp only [List.length_cons, lexMix, Bool.and_eq_true] at hB
    obtain ⟨⟨⟨hr, hf⟩, hv⟩, hB'⟩ := hB
    rw [h0] at hv
    simp only [Option.map_some, Option.getD_some] at hv
    have hst : qOp P ops C k (wpQuiet P ops C (fun a' => wpForced P ops Q C R l2 a' w) l) a := by unfold qOp; simp only [h0]; exact h
    obtain ⟨v, hy, hK⟩ := yieldsIn_of_qOp h0 hst
    refine wpAnyU_first h0 (Region.noSelect_spec hs) (fun c a w => hQ c a _ _ w) hL (fun om hom => ?_) (l2.length + l.length) listed a w (Region.free_spec h0 hf) (by simpa using hr) (yieldsIf_of_in hv hy) hw
      (wpAnyU_lex hw hs hQ hL hwt l2 hm2 k2 hk2 hl2 l (k + 1) _ _ (by simp at hk; omega) hkm (fun j hj => by have := hl (j + 1) (by simpa using hj); simpa [Nat.add_assoc, Nat.add_comm 1 j] using this) hB' hK)
    unfold waitsAll at hwt
    rw [List.all_eq_true] at hwt
    have := hwt k (List.mem_range.2 (by simp at hk; omega))
    rw [hom] at this
    simp only [Array.any_eq_true', Bool.and_eq_true, beq_iff_eq] at this
    obtain ⟨e, he, hb, heq⟩ := this
    exact ⟨e, he, hb, heq⟩

/-- The kernel's look at a region that is parted behind its first m1 and its first m2 operations. -/
def mixB (md : Region.Mode) (ops : Array Oper) (m1 m2 : Nat) : Bool :=
  let L := (Array.range ops.size).map fun i => decide (i < m2)
  Region.noSelect ops && (Region.ready md ops L).all (· == m2) && waitsAll md ops m2 && lexMix md ops L m2 m1 0 (Array.replicate ops.size false) && forcedB md ops (ops.size - m2) m2 L

theorem wp_region_mix {id : Nat} {a : Act} {w : World} {l : List Oper} (C : World → Prop) (m1 m2 : Nat) (hm : P.follows .mixedOrders = true) (h12 : m1 ≤ m2) (hml : m2 ≤ l.length) (hB : mixB .any l.toArray m1 m2 = true) (hQ : ∀ c a d v w, Q (.panic c) (Act.put a d v) w → Q (.panic c) a w) (hC : C w.drew)
    (h : wpQuiet P l.toArray C (fun a' => wpForced P l.toArray Q C (fun a'' w'' => wpList P l.toArray Q (l.drop m2) a'' w'') ((l.drop m1).take (m2 - m1)) a' w.drew) (l.take m1) a) : (Code.region id l.toArray true).wp P Q a w := by
  simp only [mixB, Bool.and_eq_true] at hB
  obtain ⟨⟨⟨⟨h1, h2⟩, h3⟩, h4⟩, h5⟩ := hB
  refine wp_region_any hm ?_
  have hlen : (l.take m1).length = m1 := by simp; omega
  have hmid : ((l.drop m1).take (m2 - m1)).length = m2 - m1 := by simp; omega
  have hdrop : (l.drop m2).length = l.length - m2 := by simp
  have hT := wpAnyU_lex (P := P) (Q := Q) (C := C) (md := .any) hC h1 hQ (fun j hj => by
    rw [List.all_eq_true] at h2
    simpa using h2 j hj) h3 ((l.drop m1).take (m2 - m1)) (Nat.le_refl _) m1 (fun j hj => by
      rw [List.getElem?_take]
      have : j < m2 - m1 := by omega
      simp [this]) hmid (l.take m1) 0 (Array.replicate l.toArray.size false) a (by omega) h12 (fun j hj => by
      rw [List.getElem?_take]
      have : j < m1 := by omega
      simp [this]) (by rw [hlen]; exact h4) h
  have := wpAny_of_U (Q := Q) (f := (l.drop m2).length) (fun a' w' hR => wpAny_forced (md := .any) (l.drop m2) m2 _ a' w' (fun j hj => by simp) (by rw [hdrop]; simpa using h5) hR) _ _ a _ hT
  have e : (l.drop m2).length + (((l.drop m1).take (m2 - m1)).length + (l.take m1).length) = l.toArray.size := by simp; omega
  rw [e] at this
  exact this
end

/-- A world that meets S. -/
structure Sw (S : World → Prop) where
  at' : World
  ok : S at'
theorem wp_region_sw {P : Program} {Q : Exit → Act → World → Prop} {id : Nat} {a : Act} {w : World} {l : List Oper} (S : World → Prop) (m1 m2 : Nat) (hm : P.follows .mixedOrders = true) (h12 : m1 ≤ m2) (hml : m2 ≤ l.length) (hB : mixB .any l.toArray m1 m2 = true) (hQ : ∀ c a d v w, Q (.panic c) (Act.put a d v) w → Q (.panic c) a w) (hS : S w.drew)
    (h : wpQuiet P l.toArray (fun w' => ∃ x : Sw S, w' = x.at') (fun a' => wpForced P l.toArray Q (fun w' => ∃ x : Sw S, w' = x.at') (fun a'' w'' => wpList P l.toArray Q (l.drop m2) a'' w'') ((l.drop m1).take (m2 - m1)) a' w.drew) (l.take m1) a) : (Code.region id l.toArray true).wp P Q a w :=
  wp_region_mix (fun w' => ∃ x : Sw S, w' = x.at') m1 m2 hm h12 hml hB hQ ⟨⟨w.drew, hS⟩, rfl⟩ h
theorem sw_ok {S : World → Prop} {w : World} (h : S w) : ∃ x : Sw S, w = x.at' := ⟨⟨w, h⟩, rfl⟩
end Go.Proofs.YtjmclcjhimcehaaGreatDoor

namespace Go.Proofs.YtjmclcjhimcehaaGreatDoor
open Go Go.RowKit

section
variable {P : Program} {ops : Array Oper} {md : Region.Mode} {C : World → Prop} {Q : Exit → Act → World → Prop}
theorem nil_yields {o : Oper} {x : Operand} {v : Value} {p : Addr} {a : Act} (ho : o.op = .nilCheck x) (hx : a.eval x = .pointer (some p)) (hy : YieldsIn P ops C o v a) : YieldsIf P ops C o v a := by
  rcases hy with ⟨hw, hq⟩ | h2
  · refine .inl ⟨hw, fun w hC => ?_⟩
    have h3 := hq w hC
    unfold Oper.quietAt at h3
    have hr : (execOp a.eval o).run P w = .ok (.value (.pointer (some p))) w := by
      unfold execOp
      rw [ho]
      simp only [hx]
      rfl
    rw [hr] at h3 ⊢
    simp only [Oper.quietUpon] at h3
    rw [h3.2]
  · exact .inr h2

/-- Whether an operation only yields: a nil check of a temporary is asked at its time. -/
def yieldB (o : Oper) : Bool := valueOp o.op || (match o.op with
  | .nilCheck _ => true
  | _ => false)
def takesL : List Nat → Array Bool → Array Bool
  | [], listed => listed
  | k :: ts, listed => takesL ts (listed.setIfInBounds k true)
def takesB (md : Region.Mode) (ops : Array Oper) : List Nat → Array Bool → Bool
  | [], _ => true
  | k :: ts, listed => (Region.ready md ops listed).contains k && Region.free md ops listed k && ((ops[k]?).map yieldB).getD false && takesB md ops ts (listed.setIfInBounds k true)
/-- The operations that are taken first, one behind the other; a nil check of a pointer that is none. -/
def wpTakes (P : Program) (ops : Array Oper) (C : World → Prop) (K : Act → Prop) : List Nat → Act → Prop
  | [], a => K a
  | k :: ts, a => (∀ o, ops[k]? = some o → ∀ x, o.op = .nilCheck x → ∃ p, a.eval x = .pointer (some p)) ∧ qOp P ops C k (wpTakes P ops C K ts) a
theorem wpAnyU_takes {R : Act → World → Prop} {L : Array Bool} {m : Nat} {w : World} (hw : C w) (hs : Region.noSelect ops = true) (hQ : ∀ c a d v w, Q (.panic c) (Act.put a d v) w → Q (.panic c) a w) (hL : ∀ j ∈ Region.ready md ops L, j = m) (hwt : waitsAll md ops m = true) (fuel : Nat) :
    ∀ (ts : List Nat) (listed : Array Bool) (a : Act), (∀ k ∈ ts, k < m) → takesB md ops ts listed = true → wpTakes P ops C (fun a' => wpAnyU P md ops Q C L R fuel (takesL ts listed) a' w) ts a → wpAnyU P md ops Q C L R (fuel + ts.length) listed a w
  | [], _, _, _, _, h => h
  | k :: ts, listed, a, hk, hB, h => by
    simp only [takesB, Bool.and_eq_true] at hB
    obtain ⟨⟨⟨hr, hf⟩, hv⟩, hB'⟩ := hB
    cases h0 : ops[k]? with
    | none => rw [h0] at hv; cases hv
    | some o =>
      rw [h0] at hv
      simp only [Option.map_some, Option.getD_some] at hv
      obtain ⟨v, hy, hK⟩ := yieldsIn_of_qOp h0 h.2
      have hyf : YieldsIf P ops C o v a := by
        unfold yieldB at hv
        cases hvo : valueOp o.op with
        | true => exact yieldsIf_of_in hvo hy
        | false =>
          rw [hvo, Bool.false_or] at hv
          split at hv
          · rename_i x hx
            obtain ⟨p, hp⟩ := h.1 o h0 x hx
            exact nil_yields hx hp hy
          · cases hv
      have ih := wpAnyU_takes hw hs hQ hL hwt fuel ts (listed.setIfInBounds k true) (a.put o.dst v) (fun j hj => hk j (List.mem_cons_of_mem _ hj)) hB' hK
      refine wpAnyU_first h0 (Region.noSelect_spec hs) (fun c a w => hQ c a _ _ w) hL (fun om hom => ?_) (fuel + ts.length) listed a w (Region.free_spec h0 hf) (by simpa using hr) hyf hw ih
      unfold waitsAll at hwt
      rw [List.all_eq_true] at hwt
      have := hwt k (List.mem_range.2 (hk k (List.mem_cons_self ..)))
      rw [hom] at this
      simp only [Array.any_eq_true', Bool.and_eq_true, beq_iff_eq] at this
      obtain ⟨e, he, hb, heq⟩ := this
      exact ⟨e, he, hb, heq⟩
/-- What comes up next, one. -/
theorem wpAnyU_one {R : Act → World → Prop} {L listed : Array Bool} {fuel i : Nat} {o : Oper} {a : Act} {w : World} (hr : Region.ready md ops listed = [i]) (ho : ops[i]? = some o) (hg : o.guard = none)
    (h : ∀ K : Act → World → Prop, Hid (∀ a' w', C w' → wpAnyU P md ops Q C L R fuel (listed.setIfInBounds i true) a' w' → K a' w') → wpList P ops (Exit.then K Q) [o] a w) : wpAnyU P md ops Q C L R (fuel + 1) listed a w := by
  refine ⟨by rw [hr]; simp, fun j hj => ?_⟩
  rw [hr] at hj
  simp only [List.mem_singleton] at hj
  subst hj
  have h1 := h (fun a' w' => C w' ∧ wpAnyU P md ops Q C L R fuel (listed.setIfInBounds j true) a' w') (fun a' w' h1 h2 => ⟨h1, h2⟩)
  have hw : Region.wanted o (yielded ops a.tmps) = true := by simp [Region.wanted, hg]
  unfold wpOp
  simp only [ho]
  unfold wpList at h1
  rw [if_pos hw] at h1 ⊢
  exact h1
/-- What comes up next, one of two. -/
theorem wpAnyU_two {R : Act → World → Prop} {L listed : Array Bool} {fuel i j : Nat} {o p : Oper} {a : Act} {w : World} (hr : Region.ready md ops listed = [i, j]) (ho : ops[i]? = some o) (hp : ops[j]? = some p) (hg : o.guard = none) (hgp : p.guard = none)
    (h : ∀ K : Act → World → Prop, Hid (∀ a' w', C w' → wpAnyU P md ops Q C L R fuel (listed.setIfInBounds i true) a' w' → K a' w') → wpList P ops (Exit.then K Q) [o] a w)
    (h' : ∀ K : Act → World → Prop, Hid (∀ a' w', C w' → wpAnyU P md ops Q C L R fuel (listed.setIfInBounds j true) a' w' → K a' w') → wpList P ops (Exit.then K Q) [p] a w) : wpAnyU P md ops Q C L R (fuel + 1) listed a w := by
  refine ⟨by rw [hr]; simp, fun k hk => ?_⟩
  rw [hr] at hk
  simp only [List.mem_cons, List.not_mem_nil, or_false] at hk
  rcases hk with hk | hk
  · subst hk
    have h1 := h (fun a' w' => C w' ∧ wpAnyU P md ops Q C L R fuel (listed.setIfInBounds k true) a' w') (fun a' w' h1 h2 => ⟨h1, h2⟩)
    have hw : Region.wanted o (yielded ops a.tmps) = true := by simp [Region.wanted, hg]
    unfold wpOp
    simp only [ho]
    unfold wpList at h1
    rw [if_pos hw] at h1 ⊢
    exact h1
  · subst hk
    have h1 := h' (fun a' w' => C w' ∧ wpAnyU P md ops Q C L R fuel (listed.setIfInBounds k true) a' w') (fun a' w' h1 h2 => ⟨h1, h2⟩)
    have hw : Region.wanted p (yielded ops a.tmps) = true := by simp [Region.wanted, hgp]
    unfold wpOp
    simp only [hp]
    unfold wpList at h1
    rw [if_pos hw] at h1 ⊢
    exact h1
/-- The kernel's look: the last operations behind m come one behind the other and wait for all. -/
def pickB (ops : Array Oper) (ts : List Nat) (m : Nat) : Bool :=
  let L := (Array.range ops.size).map fun i => decide (i < m)
  Region.noSelect ops && (Region.ready .any ops L).all (· == m) && waitsAll .any ops m && takesB .any ops ts (Array.replicate ops.size false) && forcedB .any ops (ops.size - m) m L && ts.all (fun k => decide (k < m))
theorem wp_region_pick {id : Nat} {a : Act} {w : World} {l : List Oper} (C : World → Prop) (ts : List Nat) (m fuel : Nat) (hm : P.follows .mixedOrders = true) (hml : m ≤ l.length) (hf : fuel + ts.length = m) (hB : pickB l.toArray ts m = true) (hQ : ∀ c a d v w, Q (.panic c) (Act.put a d v) w → Q (.panic c) a w) (hC : C w.drew)
    (h : wpTakes P l.toArray C (fun a' => wpAnyU P .any l.toArray Q C ((Array.range l.toArray.size).map fun i => decide (i < m)) (fun a'' w'' => wpList P l.toArray Q (l.drop m) a'' w'') fuel (takesL ts (Array.replicate l.toArray.size false)) a' w.drew) ts a) : (Code.region id l.toArray true).wp P Q a w := by
  simp only [pickB, Bool.and_eq_true] at hB
  obtain ⟨⟨⟨⟨⟨h1, h2⟩, h3⟩, h4⟩, h5⟩, h6⟩ := hB
  refine wp_region_any hm ?_
  have hdrop : (l.drop m).length = l.length - m := by simp
  have hT := wpAnyU_takes (P := P) (Q := Q) (C := C) (md := .any) hC h1 hQ (fun j hj => by
    rw [List.all_eq_true] at h2
    simpa using h2 j hj) h3 fuel ts (Array.replicate l.toArray.size false) a (fun k hk => by
      rw [List.all_eq_true] at h6
      simpa using h6 k hk) h4 h
  have := wpAny_of_U (Q := Q) (f := (l.drop m).length) (fun a' w' hR => wpAny_forced (md := .any) (l.drop m) m _ a' w' (fun j hj => by simp) (by rw [hdrop]; simpa using h5) hR) _ _ a _ hT
  have e : (l.drop m).length + (fuel + ts.length) = l.toArray.size := by simp; omega
  rw [e] at this
  exact this
end
end Go.Proofs.YtjmclcjhimcehaaGreatDoor
