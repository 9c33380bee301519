/-
  Blocks of five times sixty flags: read and written whole or field by field. The flags of a list of numbers, as the program makes them. The flags of a rule's five lists, as the program makes them.
-/
import Derived.Test.YtgeimliibddhmaaDoorC2
import Derived.Test.YtgeimliibddhmaaDoorCrl
import Derived.Test.YtgeimliibddhmaaDoorCrk
namespace Go.Proofs.YtgeimliibddhmaaDoor
open Go Go.RowKit
set_option linter.unusedVariables false

/-- Five fields of flags, as cells. -/
def rulA (r : Nat → Nat → Bool) : Array Value := (Array.range 300).map fun i => .bool (r (i / 60) (i % 60))
theorem rulA_size (r : Nat → Nat → Bool) : (rulA r).size = 300 := by simp [rulA]
theorem rulA_at {r : Nat → Nat → Bool} {i : Nat} (h : i < 300) : (rulA r)[i]? = some (.bool (r (i / 60) (i % 60))) := by simp [rulA, h]
theorem rulA_ext {r s : Nat → Nat → Bool} (h : ∀ k i, k < 5 → i < 60 → r k i = s k i) : rulA r = rulA s := by
  apply Array.ext
  · rw [rulA_size, rulA_size]
  · intro i h1 h2
    have h3 : i < 300 := by rw [rulA_size] at h1; exact h1
    simp only [rulA, Array.getElem_map, Array.getElem_range]
    rw [h (i / 60) (i % 60) (by omega) (by omega)]
theorem rulA_one (r : Nat → Nat → Bool) : (rulA r).all (·.oneCell') = true := by
  rw [Array.all_eq_true_iff_forall_mem]
  intro v hv
  simp only [rulA, Array.mem_map, Array.mem_range] at hv
  obtain ⟨i, _, rfl⟩ := hv
  rfl
theorem info57 : (Tryd.prog.info? 57).map (·.size) = some 300 := by kernel_rfl
theorem under57 : Tryd.prog.underlying 57 = some (.array 5 55) := by kernel_rfl
theorem zero57 : (Tryd.prog.info? 57).map (fun i => (i.zero, i.size)) = some (some (.agg (rulA fun _ _ => false)), 300) := by kernel_rfl
theorem built57 : Tryd.prog.built 57 [] = some (rulA fun _ _ => false) := by kernel_rfl
/-- A block of five fields of flags. -/
def Rb (W : World) (b : Nat) (r : Nat → Nat → Bool) : Prop := b < W.heap.size ∧ ∀ j, j < 300 → W.cell? ⟨b, j, none⟩ = some (.bool (r (j / 60) (j % 60))) ∧ W.frozen? ⟨b, j, none⟩ = false
theorem size_setCells (b : Nat) : ∀ (vs : List Value) (o : Nat) (w : World), (w.setCells b o vs).heap.size = w.heap.size
  | [], _, _ => rfl
  | v :: r, o, w => by rw [World.setCells, size_setCells b r]; simp
theorem below_setCells {B b : Nat} {w0 : World} (hb : B ≤ b) : ∀ (vs : List Value) (o : Nat) (w : World), Below B w0 w → Below B w0 (w.setCells b o vs)
  | [], _, _, h => h
  | v :: r, o, w, h => by rw [World.setCells]; exact below_setCells hb r _ _ (h.setCell hb v)
section
variable {W W' : World} {b : Nat} {r : Nat → Nat → Bool}
theorem Rb.lt (h : Rb W b r) : b < W.heap.size := h.1
theorem Rb.up (h : Rb W b r) (hb : Below W.heap.size W W') : Rb W' b r := ⟨Nat.lt_of_lt_of_le h.1 hb.size, fun j hj => ⟨(hb.cell (p := ⟨b, j, none⟩) h.1).trans (h.2 j hj).1, (hb.frozen (p := ⟨b, j, none⟩) h.1).trans (h.2 j hj).2⟩⟩
theorem Rb.cell (h : Rb W b r) {k i : Nat} (hk : k < 5) (hi : i < 60) : W.cell? ⟨b, k * 60 + i, none⟩ = some (.bool (r k i)) := by
  have := (h.2 (k * 60 + i) (by omega)).1
  rw [show (k * 60 + i) / 60 = k by omega, show (k * 60 + i) % 60 = i by omega] at this
  exact this
theorem Rb.all (h : Rb W b r) : W.rangeAt b 0 (rulA r).toList := fun j v hv => by
  have hj : j < 300 := by have := (List.getElem?_eq_some_iff.1 hv).1; rw [Array.length_toList, rulA_size] at this; exact this
  rw [Array.getElem?_toList, rulA_at hj] at hv
  rw [Nat.zero_add, (h.2 j hj).1]
  exact hv
theorem Rb.sub (h : Rb W b r) {k : Nat} (hk : k < 5) : W.rangeAt b (k * 60) (fldA (r k)).toList := fun j v hv => by
  have hj : j < 60 := by have := (List.getElem?_eq_some_iff.1 hv).1; rw [Array.length_toList, fldA_size] at this; exact this
  rw [Array.getElem?_toList, fldA_at hj] at hv
  rw [h.cell hk hj]
  exact hv
theorem Rb.thereAll (h : Rb W b r) : W.there b 0 300 := fun j hj => by
  rw [Nat.zero_add]
  exact ⟨by rw [(h.2 j hj).1]; rfl, (h.2 j hj).2⟩
theorem Rb.there (h : Rb W b r) {k : Nat} (hk : k < 5) : W.there b (k * 60) 60 := fun j hj => by
  obtain ⟨h1, h2⟩ := h.2 (k * 60 + j) (by omega)
  exact ⟨by rw [h1]; rfl, h2⟩
theorem Rb.setAll (h : Rb W b r) (s : Nat → Nat → Bool) : Rb (W.setCells b 0 (rulA s).toList) b s := by
  refine ⟨by rw [size_setCells]; exact h.1, fun j hj => ⟨?_, by rw [World.frozen?_setCells]; exact (h.2 j hj).2⟩⟩
  have hl : (rulA s).toList.length = 300 := by rw [Array.length_toList, rulA_size]
  have := World.cell?_setCells_in b (rulA s).toList 0 W (fun i hi => by rw [hl] at hi; rw [Nat.zero_add, (h.2 i hi).1]; rfl) j (by rw [hl]; exact hj)
  rw [Nat.zero_add] at this
  rw [this, ← List.getElem?_eq_getElem, Array.getElem?_toList, rulA_at hj]
theorem Rb.setSub (h : Rb W b r) {k : Nat} (hk : k < 5) (p : Nat → Bool) : Rb (W.setCells b (k * 60) (fldA p).toList) b (fun m => if m = k then p else r m) := by
  have hl : (fldA p).toList.length = 60 := by rw [Array.length_toList, fldA_size]
  refine ⟨by rw [size_setCells]; exact h.1, fun j hj => ⟨?_, by rw [World.frozen?_setCells]; exact (h.2 j hj).2⟩⟩
  by_cases e : j / 60 = k
  · have hm : j % 60 < 60 := by omega
    have := World.cell?_setCells_in b (fldA p).toList (k * 60) W (fun i hi => by rw [hl] at hi; rw [h.cell hk hi]; rfl) (j % 60) (by rw [hl]; exact hm)
    rw [show k * 60 + j % 60 = j by omega] at this
    rw [this, ← List.getElem?_eq_getElem, Array.getElem?_toList, fldA_at hm]
    show _ = some (Value.bool ((if j / 60 = k then p else r (j / 60)) (j % 60)))
    rw [if_pos e]
  · rw [World.cell?_setCells_out b (fldA p).toList (k * 60) W ⟨b, j, none⟩ (fun _ _ => by show j < k * 60 ∨ k * 60 + _ ≤ j; rw [hl]; omega)]
    show _ = some (Value.bool ((if j / 60 = k then p else r (j / 60)) (j % 60)))
    rw [if_neg e]
    exact (h.2 j hj).1
theorem Rb.far {g o : Nat} {vs : List Value} (h : Rb W b r) (hg : b ≠ g) : Rb (W.setCells g o vs) b r := by
  refine ⟨by rw [size_setCells]; exact h.1, fun j hj => ⟨?_, by rw [World.frozen?_setCells]; exact (h.2 j hj).2⟩⟩
  rw [World.cell?_setCells_out g vs o W ⟨b, j, none⟩ (fun e _ => absurd e hg)]
  exact (h.2 j hj).1
theorem Rb.new (W : World) (r : Nat → Nat → Bool) (t : TypeId) (h : b = W.heap.size) : Rb (W.alloc (.cells (rulA r) t)) b r := by
  subst h
  have hb : (W.alloc (.cells (rulA r) t)).heap[W.heap.size]? = some (.cells (rulA r) t) := heap_alloc_last W _
  refine ⟨(Array.getElem?_eq_some_iff.1 hb).1, fun j hj => ⟨?_, ?_⟩⟩
  · unfold World.cell?
    simp only [hb]
    exact rulA_at hj
  · unfold World.frozen?
    simp only [hb]
    simp
theorem Rb.alloc (h : Rb W b r) (o : Obj) : Rb (W.alloc o) b r := h.up (ba (Below.refl _ _) _)
theorem listA (r : Nat → Nat → Bool) : (rulA r).toList.toArray = rulA r := by simp
theorem wpr_load {ops : Array Oper} {rest : List Oper} {o : Oper} {a : Act} {Q : Exit → Act → World → Prop} (h : Rb W b r) (x : Operand) (hgd : o.guard = none) (ho : o.op = .load 57 x) (hx : a.eval x = .pointer (some ⟨b, 0, none⟩))
    (k : wpList Tryd.prog ops Q rest (a.put o.dst (.agg (rulA r))) W) : wpList Tryd.prog ops Q (o :: rest) a W :=
  wpList_load_mid hgd 57 x ho b 0 hx (rulA r).toList _ h.all under57 rfl (by rw [Array.length_toList, rulA_size]; exact info57) (by rw [listA]; exact k)
theorem wpr_store {ops : Array Oper} {rest : List Oper} {o : Oper} {a : Act} {Q : Exit → Act → World → Prop} (h : Rb W b r) (s : Nat → Nat → Bool) (x y : Operand) (hgd : o.guard = none) (ho : o.op = .store 57 x y) (hx : a.eval x = .pointer (some ⟨b, 0, none⟩)) (hy : a.eval y = .agg (rulA s))
    (k : wpList Tryd.prog ops Q rest (a.put o.dst undef) (W.setCells b 0 (rulA s).toList)) : wpList Tryd.prog ops Q (o :: rest) a W :=
  wpList_store_mid hgd 57 x y ho b 0 _ hx hy (by rw [rulA_size]; exact h.thereAll) (by rw [rulA_size]; exact info57) (rulA_one s) k
theorem wpr_storeSub {ops : Array Oper} {rest : List Oper} {o : Oper} {a : Act} {Q : Exit → Act → World → Prop} (h : Rb W b r) (n : Nat) (hn : n < 5) (p : Nat → Bool) (x y : Operand) (hgd : o.guard = none) (ho : o.op = .store 55 x y) (hx : a.eval x = .pointer (some ⟨b, n * 60, none⟩)) (hy : a.eval y = .agg (fldA p))
    (k : wpList Tryd.prog ops Q rest (a.put o.dst undef) (W.setCells b (n * 60) (fldA p).toList)) : wpList Tryd.prog ops Q (o :: rest) a W :=
  wpList_store_mid hgd 55 x y ho b (n * 60) _ hx hy (by rw [fldA_size]; exact h.there hn) (by rw [fldA_size]; exact info55) (fldA_one p) k
theorem wpr_build {ops : Array Oper} {rest : List Oper} {o : Oper} {a : Act} {Q : Exit → Act → World → Prop} (hg : o.guard = none) (ho : o.op = .build 57 #[])
    (h : wpList Tryd.prog ops Q rest (a.put o.dst (.agg (rulA fun _ _ => false))) W) : wpList Tryd.prog ops Q (o :: rest) a W := by
  have e : (Array.map (fun x : Nat × Operand => (x.fst, a.eval x.snd)) #[]).toList = [] := by simp
  refine wpList_build hg 57 #[] ho (by rw [e, built57]; rfl) ?_
  rw [e, built57]
  exact h
theorem ret_r2 {fn : Func} {u v : Tmp} {x : Value} {tmps : Array Value} (hr : fn.results = #[.cell u 57, .tmp v]) (hp : tmps.getD u undef = .pointer (some ⟨b, 0, none⟩)) (hv : tmps.getD v undef = x) (h : Rb W b r) : (results fn tmps).run Tryd.prog W = .ok (.tuple #[.agg (rulA r), x]) W := by
  have hp' : tmps[u]?.getD undef = .pointer (some ⟨b, 0, none⟩) := by simpa using hp
  have hv' : tmps[v]?.getD undef = x := by simpa using hv
  have hl := run_loadVar_mid (P := Tryd.prog) W b 0 57 (rulA r).toList _ h.all under57 rfl (by rw [Array.length_toList, rulA_size]; exact info57)
  rw [listA] at hl
  simp [results, hr, hp', hv', asAddr, hl]
/-- A field's new block. -/
theorem wpl_alloc {ops : Array Oper} {rest : List Oper} {o : Oper} {a : Act} {Q : Exit → Act → World → Prop} (hgd : o.guard = none) (ho : o.op = .alloc 55)
    (k : wpList Tryd.prog ops Q rest (a.put o.dst (.pointer (some ⟨W.heap.size, 0, none⟩))) (W.alloc (.cells (fldA fun _ => false) 55))) : wpList Tryd.prog ops Q (o :: rest) a W := by
  refine wpList_plain hgd fun K hK => ?_
  unfold Oper.wp
  have hz := (zero_of_info (P := Tryd.prog) (t := 55) (v := .agg (fldA fun _ => false)) (n := 60) (by kernel_rfl)).1 W
  simp [execOp, ho, Instr.alloc, hz, go_sem]
  exact hK _ _ k
theorem wpr_alloc {ops : Array Oper} {rest : List Oper} {o : Oper} {a : Act} {Q : Exit → Act → World → Prop} (hgd : o.guard = none) (ho : o.op = .alloc 57)
    (k : wpList Tryd.prog ops Q rest (a.put o.dst (.pointer (some ⟨W.heap.size, 0, none⟩))) (W.alloc (.cells (rulA fun _ _ => false) 57))) : wpList Tryd.prog ops Q (o :: rest) a W := by
  refine wpList_plain hgd fun K hK => ?_
  unfold Oper.wp
  have hz := (zero_of_info (P := Tryd.prog) (t := 57) (v := .agg (rulA fun _ _ => false)) (n := 300) zero57).1 W
  simp [execOp, ho, Instr.alloc, hz, go_sem]
  exact hK _ _ k
theorem wpl_store_new {ops : Array Oper} {rest : List Oper} {o : Oper} {a : Act} {Q : Exit → Act → World → Prop} {p : Nat → Bool} (q : Nat → Bool) (x y : Operand) (hgd : o.guard = none) (ho : o.op = .store 55 x y) (hx : a.eval x = .pointer (some ⟨W.heap.size, 0, none⟩)) (hy : a.eval y = .agg (fldA q))
    (k : wpList Tryd.prog ops Q rest (a.put o.dst undef) (W.alloc (.cells (fldA q) 55))) : wpList Tryd.prog ops Q (o :: rest) a (W.alloc (.cells (fldA p) 55)) :=
  wpl_store (Fb.new 55 W p rfl) q x y hgd ho hx hy (by rw [World.setRow_alloc_new]; exact k)
end
end Go.Proofs.YtgeimliibddhmaaDoor

namespace Go.Proofs.YtgeimliibddhmaaDoor
open Go Go.RowKit
set_option linter.unusedVariables false

/-- A list's numbers, as flags. -/
def memP (l : List Int) (i : Nat) : Bool := decide ((i : Int) ∈ l)
theorem memP_next {l : List Int} {k : Nat} {x : Nat} (h : l[k]? = some (x : Int)) (i : Nat) : memP (l.take (k + 1)) i = if i = x then true else memP (l.take k) i := by
  unfold memP
  rw [List.take_add_one, h]
  by_cases e : i = x
  · subst e; simp
  · rw [if_neg e]
    congr 1
    apply propext
    simp only [Option.toList_some, List.mem_append, List.mem_singleton]
    exact ⟨fun h => h.resolve_right (by omega), .inl⟩
/-- What fieldOf answers. -/
def fldO (lo hi : Int) (l : List Int) : Nat → Bool := if listB lo hi l = true then memP l else fun _ => false
theorem fldO_yes {lo hi : Int} {l : List Int} (h : listB lo hi l = true) : fldO lo hi l = memP l := if_pos h
theorem fldO_no {lo hi : Int} {l : List Int} (h : listB lo hi l = false) : fldO lo hi l = fun _ => false := if_neg (by rw [h]; exact Bool.false_ne_true)
theorem riseB_up2 {lo hi : Int} : ∀ (l : List Int) (p : Option Int), riseB lo hi p l = true → ∀ x ∈ l, lo ≤ x ∧ x ≤ hi
  | [], _, _, x, hx => by cases hx
  | y :: r, p, h, x, hx => by
    unfold riseB at h
    simp only [Bool.and_eq_true, decide_eq_true_eq] at h
    rcases List.mem_cons.1 hx with rfl | hx
    · exact h.1.1
    · exact riseB_up2 r _ h.2 x hx
/-- What lies there in the round. -/
structure FoS (w : World) (B : Nat) (lo hi : Int) (W : World) (p : Nat → Bool) : Prop where
  z1 : ∃ q, Fb 55 W (B + 1) q
  z2 : Fb 55 W (B + 1 + 1) p
  c0 : W.cell? ⟨B, 0, none⟩ = some (.int .i64 lo)
  c1 : W.cell? ⟨B, 1, none⟩ = some (.int .i64 hi)
  be : Below B w W
theorem cell_not {W : World} {p q : Addr} {x : Value} (h : W.cell? q = some x) (hne : q.block ≠ p.block) (u : Value) : (W.setCell p u).cell? q = some x := by
  have e := heap_setCell_other W p q.block u hne
  unfold World.cell? at h ⊢
  rw [e]
  exact h
theorem FoS.put {w W : World} {B : Nat} {lo hi : Int} {p : Nat → Bool} (h : FoS w B lo hi W p) (n : Nat) : FoS w B lo hi (W.setCell ⟨B + 1 + 1, n, none⟩ (.bool true)) (fun i => if i = n then true else p i) := by
  obtain ⟨⟨q, z1⟩, z2, c0, c1, be⟩ := h
  exact ⟨⟨q, z1.far (by show B + 1 + 1 ≠ B + 1; omega) _⟩, z2.set n true, cell_not c0 (by show B ≠ B + 1 + 1; omega) _, cell_not c1 (by show B ≠ B + 1 + 1; omega) _, be.setCell (by show B ≤ B + 1 + 1; omega) _⟩

set_option maxRecDepth 10000 in
set_option maxHeartbeats 2000000 in
theorem fieldOf_try (ao : Option Addr) (n c : Nat) (l : List Int) (lo hi : Int) (w : World) (hr : Reads w (.slice ao n c) l) (hn : n ≤ 1048577) (h0 : 0 ≤ lo) (hl : lo ≤ 60) (h1 : hi ≤ 59) :
    Calls Tryd.prog 66 #[.slice ao n c, .agg #[.int .i64 lo, .int .i64 hi]] w fun e w' => e = .returned (.tuple #[.agg (fldA (fldO lo hi l)), .bool (listB lo hi l)]) ∧ Below w.heap.size w w' := by
  have HR : Hid (Reads w (.slice ao n c) l) := hr
  have HN : Hid (n = l.length) := hr.len
  clear hr
  go_enter Tryd.func66, Tryd.ntmps66
  go_wp2
  rw [none55]
  obtain ⟨W, hW⟩ : ∃ W, ((w.alloc (.cells #[.int .i64 lo, .int .i64 hi] 63)).alloc (.cells (fldA fun _ => false) 55)).alloc (.cells (fldA fun _ => false) 55) = W := ⟨_, rfl⟩
  have Z1 : Fb 55 W (w.heap.size + 1) (fun _ => false) := by rw [← hW]; exact ((Fb.new 55 (w.alloc (.cells #[.int .i64 lo, .int .i64 hi] 63)) _ (by simp)).alloc _)
  have Z2 : Fb 55 W (w.heap.size + 1 + 1) (fun _ => false) := by rw [← hW]; exact (Fb.new 55 _ _ (by simp))
  have c0 : W.cell? ⟨w.heap.size, 0, none⟩ = some (.int .i64 lo) := by rw [← hW]; simp [go_sem]
  have c1 : W.cell? ⟨w.heap.size, 1, none⟩ = some (.int .i64 hi) := by rw [← hW]; simp [go_sem]
  have hb : Below w.heap.size w W := by rw [← hW]; exact ba (ba (ba (Below.refl _ _) _) _) _
  rw [hW]
  clear hW
  have HZ : Hid (FoS w w.heap.size lo hi W fun _ => false) := ⟨⟨_, Z1⟩, Z2, c0, c1, hb⟩
  clear Z1 Z2 c0 c1 hb
  have HRB : Hid (∀ wr, Below w.heap.size w wr → Reads wr (.slice ao n c) l) := fun wr hb => HR.out.below hb
  generalize hB : w.heap.size = B at *
  go_loopw [7, 15] (fun a i wr => ∃ (k : Nat) (y : Int) (p : Nat → Bool) (pr : Option Int), k ≤ n ∧ i = .int .i64 k ∧ a = .int .i64 y ∧ lo - 1 ≤ y ∧ y ≤ 59 ∧ Hid (riseB lo hi none l = riseB lo hi pr (l.drop k) ∧ (pr = none → y = lo - 1) ∧ (∀ z, pr = some z → z = y) ∧ ∀ i, p i = memP (l.take k) i) ∧ Hid (FoS w B lo hi wr p)) (fun _ i _ => n - (intOf i).toNat)
  case atStart => exact ⟨0, lo - 1, _, none, Nat.zero_le _, rfl, by go_num, by omega, by omega, ⟨rfl, fun _ => rfl, fun z hz => (by cases hz), fun i => (by simp [memP])⟩, HZ⟩
  case round =>
    obtain ⟨k, y, p, pr, hk, rfl, rfl, hy0, hy1, HE, HS⟩ := hrel
    have c1 := HS.out.c1
    by_cases hlt : k < n
    · obtain ⟨x, hx⟩ : ∃ x, l[k]? = some x := ⟨_, List.getElem?_eq_getElem (by rw [← HN.out]; exact hlt)⟩
      have HX : Hid (l[k]? = some x) := hx
      have HA : Hid (riseB lo hi none l = ((decide (lo ≤ x) && decide (x ≤ hi)) && pr.all (fun y => decide (y < x)) && riseB lo hi (some x) (l.drop (k + 1)))) := HE.out.1.trans (riseB_at hx)
      obtain ⟨b, o, rfl, hb, d0⟩ := int_at (HRB.out _ HS.out.be) hx
      clear hx
      by_cases hgo : y < x ∧ x ≤ hi
      · obtain ⟨hyx, hxh⟩ := hgo
        obtain ⟨m, rfl⟩ : ∃ m : Nat, x = (m : Int) := ⟨x.toNat, by omega⟩
        have f0 := HS.out.z2.fr m
        have e0 := HS.out.z2.cell (i := m) (by omega)
        have HNX : Hid (riseB lo hi none l = riseB lo hi (some (m : Int)) (l.drop (k + 1)) ∧ (some (m : Int) = none → (m : Int) = lo - 1) ∧ (∀ z, some (m : Int) = some z → z = m) ∧ ∀ i, (if i = m then true else p i) = memP (l.take (k + 1)) i) := by
          refine ⟨HA.out.trans ?_, fun h => (by cases h), fun z hz => (Option.some.inj hz).symm, fun i => ?_⟩
          · have h2 : pr.all (fun y => decide (y < (m : Int))) = true := by
              cases pr with
              | none => rfl
              | some z => have := HE.out.2.2.1 z rfl
                          subst this
                          simpa using hyx
            rw [h2]
            simp [show lo ≤ (m : Int) by omega, hxh]
          · rw [memP_next HX.out, HE.out.2.2.2 i]
        have HT : Hid (FoS w B lo hi (wr.setCell ⟨B + 1 + 1, m, none⟩ (.bool true)) (fun i => if i = m then true else p i)) := HS.out.put m
        have g1 : decide ((m : Int) ≤ y) = false := decide_eq_false (by omega)
        have g2 : decide (hi < (m : Int)) = false := decide_eq_false (by omega)
        go_wp2
        go_roundw
        case rel => exact ⟨k + 1, m, _, some (m : Int), by omega, by go_num, rfl, by omega, by omega, HNX, HT⟩
        case measure => simp [intOf]; omega
      · have HF : Hid (listB lo hi l = false) := listB_no (HA.out.trans (by
          by_cases h3 : x ≤ hi
          · have h4 : ¬ y < x := fun h => hgo ⟨h, h3⟩
            cases pr with
            | none => have := HE.out.2.1 rfl
                      have h5 : decide (lo ≤ x) = false := decide_eq_false (by omega)
                      rw [h5]; rfl
            | some z => have := HE.out.2.2.1 z rfl
                        subst this
                        simp [h4]
          · simp [h3]))
        obtain ⟨q1, z1⟩ := HS.out.z1
        have HZ1 : Hid (Fb 55 wr (B + 1) q1) := z1
        have HRR : Hid (Fb 55 (wr.setRow (B + 1) (fldA fun _ => false)) (B + 1) (fun _ => false) ∧ Below B w (wr.setRow (B + 1) (fldA fun _ => false))) := ⟨z1.row _, below_setRow HS.out.be (by omega) _⟩
        clear z1
        by_cases h3 : x ≤ y
        · have g1 : decide (x ≤ y) = true := decide_eq_true h3
          go_wp2_with (first | (refine wpl_build rfl rfl ?_) | (refine wpl_store HZ1.out (fun _ => false) (.tmp 4) (.tmp 28) rfl rfl rfl rfl ?_))
          refine bodyPost_ret (ret_f2 rfl rfl rfl HRR.out.1) rfl ?_
          subst hB
          exact ⟨by rw [HF.out, fldO_no HF.out]; rfl, HRR.out.2⟩
        · have g1 : decide (x ≤ y) = false := decide_eq_false h3
          have g2 : decide (hi < x) = true := decide_eq_true (by omega)
          go_wp2_with (first | (refine wpl_build rfl rfl ?_) | (refine wpl_store HZ1.out (fun _ => false) (.tmp 4) (.tmp 28) rfl rfl rfl rfl ?_))
          refine bodyPost_ret (ret_f2 rfl rfl rfl HRR.out.1) rfl ?_
          subst hB
          exact ⟨by rw [HF.out, fldO_no HF.out]; rfl, HRR.out.2⟩
    · have hkn : k = n := by omega
      have HF : Hid (listB lo hi l = !fldE p (fun _ => false) ∧ fldA p = fldA (fldO lo hi l)) := by
        have hkl : k = l.length := by rw [← HN.out]; omega
        have h2 : riseB lo hi none l = true := HE.out.1.trans (riseB_end hkl)
        have h3 := listB_rise h2
        have hp : ∀ i, p i = memP l i := fun i => by rw [HE.out.2.2.2 i, hkl, List.take_length]
        have hup := riseB_up2 l none h2
        by_cases h4 : 0 < l.length
        · have h5 : listB lo hi l = true := by rw [h3]; exact decide_eq_true h4
          refine ⟨?_, by rw [fldO_yes h5]; exact fldA_ext fun i _ => hp i⟩
          rw [h5]
          cases he : fldE p (fun _ => false) with
          | false => rfl
          | true =>
            exfalso
            obtain ⟨x, hx⟩ : ∃ x, x ∈ l := ⟨l[0], List.getElem_mem h4⟩
            have hb := hup x hx
            have := fldE_iff.1 he x.toNat (by omega)
            rw [hp] at this
            exact absurd hx (by have := of_decide_eq_false this; rw [Int.toNat_of_nonneg (by omega)] at this; exact this)
        · have h5 : listB lo hi l = false := by rw [h3]; exact decide_eq_false h4
          have h6 : l = [] := List.eq_nil_of_length_eq_zero (by omega)
          refine ⟨?_, by rw [fldO_no h5]; exact fldA_ext fun i _ => by rw [hp, h6]; simp [memP]⟩
          rw [h5]
          have : fldE p (fun _ => false) = true := fldE_iff.2 fun i _ => by rw [hp, h6]; simp [memP]
          rw [this]; rfl
      obtain ⟨q1, z1⟩ := HS.out.z1
      have HZ1 : Hid (Fb 55 wr.drew (B + 1) q1) := z1
      have HZ2 : Hid (Fb 55 wr.drew (B + 1 + 1) p) := HS.out.z2
      have HRR : Hid (Fb 55 (wr.drew.setRow (B + 1) (fldA p)) (B + 1) p ∧ Below B w (wr.drew.setRow (B + 1) (fldA p))) := ⟨Fb.row (W := wr.drew) z1 p, below_setRow HS.out.be.drew (by omega) _⟩
      clear z1 hkn
      go_wp2
      refine wp_region_pick (fun w' => Fb 55 w' (B + 1 + 1) p) [0, 1, 2, 3] 5 1 (by kernel_rfl) (by decide) (by decide) (by kernel_rfl) (fun _ _ d _ _ h => by cases d <;> exact h) HZ2.out ?_
      refine wpTakes_l rfl (fun x h => by cases h) (wpq_load (fun _ h => h) (.tmp 6) rfl rfl rfl ?_)
      refine wpQuiet_nil ?_
      refine wpTakes_l rfl (fun x h => by cases h) (wpq_load (fun _ h => h) (.tmp 6) rfl rfl rfl ?_)
      refine wpQuiet_nil ?_
      refine wpTakes_l rfl (fun x h => by cases h) (wpq_build rfl rfl ?_)
      refine wpQuiet_nil ?_
      refine wpTakes_l rfl (fun x h => by cases h) (wpq_neq (.tmp 34) (.tmp 35) rfl rfl rfl rfl ?_)
      refine wpQuiet_nil ?_
      refine takes_nil ?_
      refine any_one (fuel := 0) (i := 4) (by kernel_rfl) rfl rfl ?_
      intro K hK
      refine wpl_store HZ1.out p (.tmp 4) (.tmp 33) rfl rfl rfl rfl ?_
      go_wp2
      refine hK.out _ _ (HZ2.out.rowFar (by omega)) ?_
      clear hK K
      refine any_done (by kernel_rfl) ?_
      simp only [List.drop_succ_cons, List.drop_zero]
      go_wp2
      refine bodyPost_ret (ret_f2 rfl rfl rfl HRR.out.1) rfl ?_
      subst hB
      exact ⟨by rw [HF.out.1, HF.out.2]; rfl, HRR.out.2⟩
theorem fieldOf_any {w : World} {v : Value} {l : List Int} (lo hi : Int) (hr : Reads w v l) (hn : l.length ≤ 1048577) (h0 : 0 ≤ lo) (hl : lo ≤ 60) (h1 : hi ≤ 59) : Calls Tryd.prog 66 #[v, .agg #[.int .i64 lo, .int .i64 hi]] w fun e w' => e = .returned (.tuple #[.agg (fldA (fldO lo hi l)), .bool (listB lo hi l)]) ∧ Below w.heap.size w w' := by
  obtain ⟨ao, c, rfl, _⟩ := id hr
  exact fieldOf_try ao _ c l lo hi w hr hn h0 hl h1
end Go.Proofs.YtgeimliibddhmaaDoor

namespace Go.Proofs.YtgeimliibddhmaaDoor
open Go Go.RowKit
set_option linter.unusedVariables false

/-- The reaches of the five fields. -/
def reachL : List Int := [0, 59, 0, 23, 1, 31, 1, 12, 0, 6]
/-- The program's own table of reaches lies there. -/
def RchIs (w : World) : Prop := 0 < w.heap.size ∧ ∀ j v, reachL[j]? = some v → w.cell? ⟨0, j, none⟩ = some (.int .i64 v)
theorem RchIs.up {w w' : World} (h : RchIs w) (hb : Below w.heap.size w w') : RchIs w' := ⟨Nat.lt_of_lt_of_le h.1 hb.size, fun j v hv => (hb.cell (p := ⟨0, j, none⟩) h.1).trans (h.2 j v hv)⟩
theorem RchIs.at {w : World} (h : RchIs w) (j : Nat) (v : Int) (hv : reachL[j]? = some v) : w.cell? ⟨0, j, none⟩ = some (.int .i64 v) := h.2 j v hv
/-- One of five lists. -/
def fiveL (a b c d e : List Int) : Nat → List Int
  | 0 => a
  | 1 => b
  | 2 => c
  | 3 => d
  | _ => e
def rloN : Nat → Int
  | 2 => 1
  | 3 => 1
  | _ => 0
def rhiN : Nat → Int
  | 0 => 59
  | 1 => 23
  | 2 => 31
  | 3 => 12
  | _ => 6
def okN (a b c d e : List Int) (k : Nat) : Bool := listB (rloN k) (rhiN k) (fiveL a b c d e k)
theorem cronB_all {a b c d e : List Int} (h : ∀ k, k < 5 → okN a b c d e k = true) : cronB a b c d e = true := by
  have h0 : listB 0 59 a = true := h 0 (by decide)
  have h1 : listB 0 23 b = true := h 1 (by decide)
  have h2 : listB 1 31 c = true := h 2 (by decide)
  have h3 : listB 1 12 d = true := h 3 (by decide)
  have h4 : listB 0 6 e = true := h 4 (by decide)
  simp [cronB, h0, h1, h2, h3, h4]
theorem cronB_not {a b c d e : List Int} (k : Nat) (hk : k < 5) (h : okN a b c d e k = false) : cronB a b c d e = false := by
  unfold cronB
  rcases k with _ | _ | _ | _ | _ | k
  · have h0 : listB 0 59 a = false := h
    simp [h0]
  · have h0 : listB 0 23 b = false := h
    simp [h0]
  · have h0 : listB 1 31 c = false := h
    simp [h0]
  · have h0 : listB 1 12 d = false := h
    simp [h0]
  · have h0 : listB 0 6 e = false := h
    simp [h0]
  · omega
/-- The flags of a rule. -/
def mem5 (a b c d e : List Int) (k : Nat) : Nat → Bool := memP (fiveL a b c d e k)
def ruleP (a b c d e : List Int) : Nat → Nat → Bool := if cronB a b c d e = true then mem5 a b c d e else fun _ _ => false
theorem ruleP_yes {a b c d e : List Int} (h : cronB a b c d e = true) : ruleP a b c d e = mem5 a b c d e := if_pos h
theorem ruleP_no {a b c d e : List Int} (h : cronB a b c d e = false) : ruleP a b c d e = fun _ _ => false := if_neg (by rw [h]; exact Bool.false_ne_true)
/-- What lies there in the rounds. -/
structure RoS (w : World) (B : Nat) (W : World) (r : Nat → Nat → Bool) : Prop where
  z1 : ∃ q, Rb W (B + 1) q
  z2 : Rb W (B + 1 + 1) r
  be : Below B w W
theorem RoS.put {w W : World} {B : Nat} {r : Nat → Nat → Bool} (h : RoS w B W r) {k : Nat} (hk : k < 5) (p : Nat → Bool) : RoS w B (W.setCells (B + 1 + 1) (k * 60) (fldA p).toList) (fun m => if m = k then p else r m) := by
  obtain ⟨⟨q, z1⟩, z2, be⟩ := h
  exact ⟨⟨q, z1.far (by omega)⟩, z2.setSub hk p, below_setCells (by omega) _ _ _ be⟩
theorem RoS.up {w W W' : World} {B : Nat} {r : Nat → Nat → Bool} (h : RoS w B W r) (hb : Below W.heap.size W W') (hB : B ≤ W.heap.size) : RoS w B W' r := by
  obtain ⟨⟨q, z1⟩, z2, be⟩ := h
  exact ⟨⟨q, z1.up hb⟩, z2.up hb, be.trans (hb.mono hB)⟩

set_option maxRecDepth 10000 in
set_option maxHeartbeats 4000000 in
theorem ruleOf_any (va vb vc vd ve : Value) (a b c d e : List Int) (w : World) (h1 : Reads w va a) (h2 : Reads w vb b) (h3 : Reads w vc c) (h4 : Reads w vd d) (h5 : Reads w ve e)
    (n1 : a.length ≤ 1048577) (n2 : b.length ≤ 1048577) (n3 : c.length ≤ 1048577) (n4 : d.length ≤ 1048577) (n5 : e.length ≤ 1048577) (hg : RchIs w) :
    Calls Tryd.prog 37 #[.agg #[va, vb, vc, vd, ve]] w fun x w' => x = .returned (.tuple #[.agg (rulA (ruleP a b c d e)), .bool (cronB a b c d e)]) ∧ Below w.heap.size w w' := by
  obtain ⟨ao, ac, rfl, _⟩ := id h1
  obtain ⟨bo, bc, rfl, _⟩ := id h2
  obtain ⟨co, cc, rfl, _⟩ := id h3
  obtain ⟨d0, dc, rfl, _⟩ := id h4
  obtain ⟨eo, ec, rfl, _⟩ := id h5
  have H0 : Hid (∀ w', Below w.heap.size w w' → Calls Tryd.prog 66 #[.slice ao a.length ac, .agg #[.int .i64 0, .int .i64 59]] w' fun x w'' => x = .returned (.tuple #[.agg (fldA (fldO 0 59 a)), .bool (listB 0 59 a)]) ∧ Below w'.heap.size w' w'') := fun w' hb => fieldOf_any 0 59 (h1.below hb) n1 (by decide) (by decide) (by decide)
  have H1 : Hid (∀ w', Below w.heap.size w w' → Calls Tryd.prog 66 #[.slice bo b.length bc, .agg #[.int .i64 0, .int .i64 23]] w' fun x w'' => x = .returned (.tuple #[.agg (fldA (fldO 0 23 b)), .bool (listB 0 23 b)]) ∧ Below w'.heap.size w' w'') := fun w' hb => fieldOf_any 0 23 (h2.below hb) n2 (by decide) (by decide) (by decide)
  have H2 : Hid (∀ w', Below w.heap.size w w' → Calls Tryd.prog 66 #[.slice co c.length cc, .agg #[.int .i64 1, .int .i64 31]] w' fun x w'' => x = .returned (.tuple #[.agg (fldA (fldO 1 31 c)), .bool (listB 1 31 c)]) ∧ Below w'.heap.size w' w'') := fun w' hb => fieldOf_any 1 31 (h3.below hb) n3 (by decide) (by decide) (by decide)
  have H3 : Hid (∀ w', Below w.heap.size w w' → Calls Tryd.prog 66 #[.slice d0 d.length dc, .agg #[.int .i64 1, .int .i64 12]] w' fun x w'' => x = .returned (.tuple #[.agg (fldA (fldO 1 12 d)), .bool (listB 1 12 d)]) ∧ Below w'.heap.size w' w'') := fun w' hb => fieldOf_any 1 12 (h4.below hb) n4 (by decide) (by decide) (by decide)
  have H4 : Hid (∀ w', Below w.heap.size w w' → Calls Tryd.prog 66 #[.slice eo e.length ec, .agg #[.int .i64 0, .int .i64 6]] w' fun x w'' => x = .returned (.tuple #[.agg (fldA (fldO 0 6 e)), .bool (listB 0 6 e)]) ∧ Below w'.heap.size w' w'') := fun w' hb => fieldOf_any 0 6 (h5.below hb) n5 (by decide) (by decide) (by decide)
  have HG : Hid (RchIs w) := hg
  have HGB : Hid (∀ w', Below w.heap.size w w' → RchIs w') := fun w' hb => HG.out.up hb
  clear h1 h2 h3 h4 h5 hg
  go_enter Tryd.func37, Tryd.ntmps37
  go_wp2_with (refine wpr_alloc rfl rfl ?_)
  obtain ⟨W, hW⟩ : ∃ W, ((w.alloc (.cells #[.slice ao a.length ac, .slice bo b.length bc, .slice co c.length cc, .slice d0 d.length dc, .slice eo e.length ec] 26)).alloc (.cells (rulA fun _ _ => false) 57)).alloc (.cells (rulA fun _ _ => false) 57) = W := ⟨_, rfl⟩
  have hb : Below w.heap.size w W := by rw [← hW]; exact ba (ba (ba (Below.refl _ _) _) _) _
  have Z1 : Rb W (w.heap.size + 1) (fun _ _ => false) := by rw [← hW]; exact (Rb.new _ _ 57 (by simp)).alloc _
  have Z2 : Rb W (w.heap.size + 1 + 1) (fun _ _ => false) := by rw [← hW]; exact Rb.new _ _ 57 (by simp)
  have HZ : Hid (RoS w w.heap.size W fun _ _ => false) := ⟨⟨_, Z1⟩, Z2, hb⟩
  rw [hW]
  clear hW hb Z1 Z2
  generalize hB : w.heap.size = B at *
  have HBW : Hid (∀ W r, RoS w B W r → B ≤ W.heap.size) := fun W r h => by have := h.z2.lt; omega
  go_loopw [20] (fun i wr => ∃ (k : Nat) (r : Nat → Nat → Bool), k ≤ 5 ∧ i = .int .i64 k ∧ Hid ((∀ j, j < k → okN a b c d e j = true) ∧ ∀ j, j < k → r j = memP (fiveL a b c d e j)) ∧ Hid (RoS w B wr r)) (fun i _ => 5 - (intOf i).toNat)
  case atStart => exact ⟨0, _, Nat.zero_le _, rfl, ⟨fun j hj => by omega, fun j hj => by omega⟩, HZ⟩
  case round =>
    obtain ⟨k, r, hk, rfl, HE, HS⟩ := hrel
    clear HZ
    obtain ⟨q1, z1⟩ := HS.out.z1
    have HZ1 : Hid (Rb wr (B + 1) q1) := z1
    clear z1
    obtain rfl | rfl | rfl | rfl | rfl | rfl : k = 0 ∨ k = 1 ∨ k = 2 ∨ k = 3 ∨ k = 4 ∨ k = 5 := by omega
    · have g0 := (HGB.out _ HS.out.be).at (2 * 0) _ rfl
      have g1 := (HGB.out _ HS.out.be).at (2 * 0 + 1) _ rfl
      have hx : (Instr.index 91 (.agg #[.slice ao a.length ac, .slice bo b.length bc, .slice co c.length cc, .slice d0 d.length dc, .slice eo e.length ec]) (.int .i64 0)).run Tryd.prog wr = .ok (.slice ao a.length ac) wr := by kernel_rfl
      go_wp2_with fail
      refine (H0.out _ HS.out.be).mono ?_
      rintro x w1 ⟨rfl, hb1⟩
      have HB1 : Hid (Below wr.heap.size wr w1) := hb1
      have HS1 : Hid (RoS w B w1 r) := HS.out.up hb1 (HBW.out _ _ HS.out)
      clear hb1 g0 g1 hx
      cases hq : listB 0 59 a with
      | false =>
        have HF : Hid (cronB a b c d e = false) := cronB_not 0 (by decide) hq
        have HY : Hid (fldA (fldO 0 59 a) = fldA fun _ => false) := by show _ = _; rw [fldO_no hq]
        obtain ⟨pp, HP⟩ : ∃ pp, Hid (fldO 0 59 a = pp) := ⟨_, rfl⟩
        rw [HP.out]
        have HS2 : Hid (RoS w B (w1.alloc (.cells (fldA pp) 55)) r) := HS1.out.up (ba (Below.refl _ _) _) (HBW.out _ _ HS1.out)
        obtain ⟨q2, z2⟩ := HS2.out.z1
        have HZ2 : Hid (Rb (w1.alloc (.cells (fldA pp) 55)) (B + 1) q2) := z2
        have HRR : Hid (Rb ((w1.alloc (.cells (fldA pp) 55)).setCells (B + 1) 0 (rulA fun _ _ => false).toList) (B + 1) (fun _ _ => false) ∧ Below B w ((w1.alloc (.cells (fldA pp) 55)).setCells (B + 1) 0 (rulA fun _ _ => false).toList)) := ⟨z2.setAll _, below_setCells (by omega) _ _ _ HS2.out.be⟩
        clear z2 hq HE
        go_wp2_with (first | (refine wpl_alloc rfl rfl ?_) | (refine wpl_store_new pp (.tmp 7) (.tmp 30) rfl rfl rfl rfl ?_) | (refine wpr_build rfl rfl ?_) | (refine wpr_store HZ2.out (fun _ _ => false) (.tmp 2) (.tmp 34) rfl rfl rfl rfl ?_))
        refine bodyPost_ret (ret_r2 rfl rfl rfl HRR.out.1) rfl ?_
        subst hB
        exact ⟨by rw [HF.out, ruleP_no HF.out]; rfl, HRR.out.2⟩
      | true =>
        have HY : Hid (fldO 0 59 a = memP a) := fldO_yes hq
        rw [HY.out]
        have HS2 : Hid (RoS w B (w1.alloc (.cells (fldA (memP a)) 55)) r) := HS1.out.up (ba (Below.refl _ _) _) (HBW.out _ _ HS1.out)
        have HFB : Hid (Fb 55 (w1.alloc (.cells (fldA (memP a)) 55)) w1.heap.size (memP a)) := Fb.new 55 _ _ rfl
        have HT : Hid (RoS w B ((w1.alloc (.cells (fldA (memP a)) 55)).setCells (B + 1 + 1) (0 * 60) (fldA (memP a)).toList) (fun m => if m = 0 then memP a else r m)) := HS2.out.put (by decide) _
        have HN : Hid ((∀ j, j < 0 + 1 → okN a b c d e j = true) ∧ ∀ j, j < 0 + 1 → (if j = 0 then memP a else r j) = memP (fiveL a b c d e j)) := by
          refine ⟨fun j hj => ?_, fun j hj => ?_⟩
          · by_cases hjk : j = 0
            · subst hjk; exact hq
            · exact HE.out.1 j (by omega)
          · by_cases hjk : j = 0
            · rw [if_pos hjk]; subst hjk; rfl
            · rw [if_neg hjk]; exact HE.out.2 j (by omega)
        clear hq HE
        go_wp2_with (first | (refine wpl_alloc rfl rfl ?_) | (refine wpl_store_new (memP a) (.tmp 7) (.tmp 30) rfl rfl rfl rfl ?_) | (refine wpl_load HFB.out (.tmp 7) rfl rfl rfl ?_) | (refine wpr_storeSub HS2.out.z2 0 (by decide) (memP a) (.tmp 37) (.tmp 36) rfl rfl rfl rfl ?_))
        go_roundw
        case rel => exact ⟨0 + 1, _, by decide, by go_num, HN, HT⟩
        case measure => simp [intOf]
    · have g0 := (HGB.out _ HS.out.be).at (2 * 1) _ rfl
      have g1 := (HGB.out _ HS.out.be).at (2 * 1 + 1) _ rfl
      have hx : (Instr.index 91 (.agg #[.slice ao a.length ac, .slice bo b.length bc, .slice co c.length cc, .slice d0 d.length dc, .slice eo e.length ec]) (.int .i64 1)).run Tryd.prog wr = .ok (.slice bo b.length bc) wr := by kernel_rfl
      go_wp2_with fail
      refine (H1.out _ HS.out.be).mono ?_
      rintro x w1 ⟨rfl, hb1⟩
      have HB1 : Hid (Below wr.heap.size wr w1) := hb1
      have HS1 : Hid (RoS w B w1 r) := HS.out.up hb1 (HBW.out _ _ HS.out)
      clear hb1 g0 g1 hx
      cases hq : listB 0 23 b with
      | false =>
        have HF : Hid (cronB a b c d e = false) := cronB_not 1 (by decide) hq
        have HY : Hid (fldA (fldO 0 23 b) = fldA fun _ => false) := by show _ = _; rw [fldO_no hq]
        obtain ⟨pp, HP⟩ : ∃ pp, Hid (fldO 0 23 b = pp) := ⟨_, rfl⟩
        rw [HP.out]
        have HS2 : Hid (RoS w B (w1.alloc (.cells (fldA pp) 55)) r) := HS1.out.up (ba (Below.refl _ _) _) (HBW.out _ _ HS1.out)
        obtain ⟨q2, z2⟩ := HS2.out.z1
        have HZ2 : Hid (Rb (w1.alloc (.cells (fldA pp) 55)) (B + 1) q2) := z2
        have HRR : Hid (Rb ((w1.alloc (.cells (fldA pp) 55)).setCells (B + 1) 0 (rulA fun _ _ => false).toList) (B + 1) (fun _ _ => false) ∧ Below B w ((w1.alloc (.cells (fldA pp) 55)).setCells (B + 1) 0 (rulA fun _ _ => false).toList)) := ⟨z2.setAll _, below_setCells (by omega) _ _ _ HS2.out.be⟩
        clear z2 hq HE
        go_wp2_with (first | (refine wpl_alloc rfl rfl ?_) | (refine wpl_store_new pp (.tmp 7) (.tmp 30) rfl rfl rfl rfl ?_) | (refine wpr_build rfl rfl ?_) | (refine wpr_store HZ2.out (fun _ _ => false) (.tmp 2) (.tmp 34) rfl rfl rfl rfl ?_))
        refine bodyPost_ret (ret_r2 rfl rfl rfl HRR.out.1) rfl ?_
        subst hB
        exact ⟨by rw [HF.out, ruleP_no HF.out]; rfl, HRR.out.2⟩
      | true =>
        have HY : Hid (fldO 0 23 b = memP b) := fldO_yes hq
        rw [HY.out]
        have HS2 : Hid (RoS w B (w1.alloc (.cells (fldA (memP b)) 55)) r) := HS1.out.up (ba (Below.refl _ _) _) (HBW.out _ _ HS1.out)
        have HFB : Hid (Fb 55 (w1.alloc (.cells (fldA (memP b)) 55)) w1.heap.size (memP b)) := Fb.new 55 _ _ rfl
        have HT : Hid (RoS w B ((w1.alloc (.cells (fldA (memP b)) 55)).setCells (B + 1 + 1) (1 * 60) (fldA (memP b)).toList) (fun m => if m = 1 then memP b else r m)) := HS2.out.put (by decide) _
        have HN : Hid ((∀ j, j < 1 + 1 → okN a b c d e j = true) ∧ ∀ j, j < 1 + 1 → (if j = 1 then memP b else r j) = memP (fiveL a b c d e j)) := by
          refine ⟨fun j hj => ?_, fun j hj => ?_⟩
          · by_cases hjk : j = 1
            · subst hjk; exact hq
            · exact HE.out.1 j (by omega)
          · by_cases hjk : j = 1
            · rw [if_pos hjk]; subst hjk; rfl
            · rw [if_neg hjk]; exact HE.out.2 j (by omega)
        clear hq HE
        go_wp2_with (first | (refine wpl_alloc rfl rfl ?_) | (refine wpl_store_new (memP b) (.tmp 7) (.tmp 30) rfl rfl rfl rfl ?_) | (refine wpl_load HFB.out (.tmp 7) rfl rfl rfl ?_) | (refine wpr_storeSub HS2.out.z2 1 (by decide) (memP b) (.tmp 37) (.tmp 36) rfl rfl rfl rfl ?_))
        go_roundw
        case rel => exact ⟨1 + 1, _, by decide, by go_num, HN, HT⟩
        case measure => simp [intOf]
    · have g0 := (HGB.out _ HS.out.be).at (2 * 2) _ rfl
      have g1 := (HGB.out _ HS.out.be).at (2 * 2 + 1) _ rfl
      have hx : (Instr.index 91 (.agg #[.slice ao a.length ac, .slice bo b.length bc, .slice co c.length cc, .slice d0 d.length dc, .slice eo e.length ec]) (.int .i64 2)).run Tryd.prog wr = .ok (.slice co c.length cc) wr := by kernel_rfl
      go_wp2_with fail
      refine (H2.out _ HS.out.be).mono ?_
      rintro x w1 ⟨rfl, hb1⟩
      have HB1 : Hid (Below wr.heap.size wr w1) := hb1
      have HS1 : Hid (RoS w B w1 r) := HS.out.up hb1 (HBW.out _ _ HS.out)
      clear hb1 g0 g1 hx
      cases hq : listB 1 31 c with
      | false =>
        have HF : Hid (cronB a b c d e = false) := cronB_not 2 (by decide) hq
        have HY : Hid (fldA (fldO 1 31 c) = fldA fun _ => false) := by show _ = _; rw [fldO_no hq]
        obtain ⟨pp, HP⟩ : ∃ pp, Hid (fldO 1 31 c = pp) := ⟨_, rfl⟩
        rw [HP.out]
        have HS2 : Hid (RoS w B (w1.alloc (.cells (fldA pp) 55)) r) := HS1.out.up (ba (Below.refl _ _) _) (HBW.out _ _ HS1.out)
        obtain ⟨q2, z2⟩ := HS2.out.z1
        have HZ2 : Hid (Rb (w1.alloc (.cells (fldA pp) 55)) (B + 1) q2) := z2
        have HRR : Hid (Rb ((w1.alloc (.cells (fldA pp) 55)).setCells (B + 1) 0 (rulA fun _ _ => false).toList) (B + 1) (fun _ _ => false) ∧ Below B w ((w1.alloc (.cells (fldA pp) 55)).setCells (B + 1) 0 (rulA fun _ _ => false).toList)) := ⟨z2.setAll _, below_setCells (by omega) _ _ _ HS2.out.be⟩
        clear z2 hq HE
        go_wp2_with (first | (refine wpl_alloc rfl rfl ?_) | (refine wpl_store_new pp (.tmp 7) (.tmp 30) rfl rfl rfl rfl ?_) | (refine wpr_build rfl rfl ?_) | (refine wpr_store HZ2.out (fun _ _ => false) (.tmp 2) (.tmp 34) rfl rfl rfl rfl ?_))
        refine bodyPost_ret (ret_r2 rfl rfl rfl HRR.out.1) rfl ?_
        subst hB
        exact ⟨by rw [HF.out, ruleP_no HF.out]; rfl, HRR.out.2⟩
      | true =>
        have HY : Hid (fldO 1 31 c = memP c) := fldO_yes hq
        rw [HY.out]
        have HS2 : Hid (RoS w B (w1.alloc (.cells (fldA (memP c)) 55)) r) := HS1.out.up (ba (Below.refl _ _) _) (HBW.out _ _ HS1.out)
        have HFB : Hid (Fb 55 (w1.alloc (.cells (fldA (memP c)) 55)) w1.heap.size (memP c)) := Fb.new 55 _ _ rfl
        have HT : Hid (RoS w B ((w1.alloc (.cells (fldA (memP c)) 55)).setCells (B + 1 + 1) (2 * 60) (fldA (memP c)).toList) (fun m => if m = 2 then memP c else r m)) := HS2.out.put (by decide) _
        have HN : Hid ((∀ j, j < 2 + 1 → okN a b c d e j = true) ∧ ∀ j, j < 2 + 1 → (if j = 2 then memP c else r j) = memP (fiveL a b c d e j)) := by
          refine ⟨fun j hj => ?_, fun j hj => ?_⟩
          · by_cases hjk : j = 2
            · subst hjk; exact hq
            · exact HE.out.1 j (by omega)
          · by_cases hjk : j = 2
            · rw [if_pos hjk]; subst hjk; rfl
            · rw [if_neg hjk]; exact HE.out.2 j (by omega)
        clear hq HE
        go_wp2_with (first | (refine wpl_alloc rfl rfl ?_) | (refine wpl_store_new (memP c) (.tmp 7) (.tmp 30) rfl rfl rfl rfl ?_) | (refine wpl_load HFB.out (.tmp 7) rfl rfl rfl ?_) | (refine wpr_storeSub HS2.out.z2 2 (by decide) (memP c) (.tmp 37) (.tmp 36) rfl rfl rfl rfl ?_))
        go_roundw
        case rel => exact ⟨2 + 1, _, by decide, by go_num, HN, HT⟩
        case measure => simp [intOf]
    · have g0 := (HGB.out _ HS.out.be).at (2 * 3) _ rfl
      have g1 := (HGB.out _ HS.out.be).at (2 * 3 + 1) _ rfl
      have hx : (Instr.index 91 (.agg #[.slice ao a.length ac, .slice bo b.length bc, .slice co c.length cc, .slice d0 d.length dc, .slice eo e.length ec]) (.int .i64 3)).run Tryd.prog wr = .ok (.slice d0 d.length dc) wr := by kernel_rfl
      go_wp2_with fail
      refine (H3.out _ HS.out.be).mono ?_
      rintro x w1 ⟨rfl, hb1⟩
      have HB1 : Hid (Below wr.heap.size wr w1) := hb1
      have HS1 : Hid (RoS w B w1 r) := HS.out.up hb1 (HBW.out _ _ HS.out)
      clear hb1 g0 g1 hx
      cases hq : listB 1 12 d with
      | false =>
        have HF : Hid (cronB a b c d e = false) := cronB_not 3 (by decide) hq
        have HY : Hid (fldA (fldO 1 12 d) = fldA fun _ => false) := by show _ = _; rw [fldO_no hq]
        obtain ⟨pp, HP⟩ : ∃ pp, Hid (fldO 1 12 d = pp) := ⟨_, rfl⟩
        rw [HP.out]
        have HS2 : Hid (RoS w B (w1.alloc (.cells (fldA pp) 55)) r) := HS1.out.up (ba (Below.refl _ _) _) (HBW.out _ _ HS1.out)
        obtain ⟨q2, z2⟩ := HS2.out.z1
        have HZ2 : Hid (Rb (w1.alloc (.cells (fldA pp) 55)) (B + 1) q2) := z2
        have HRR : Hid (Rb ((w1.alloc (.cells (fldA pp) 55)).setCells (B + 1) 0 (rulA fun _ _ => false).toList) (B + 1) (fun _ _ => false) ∧ Below B w ((w1.alloc (.cells (fldA pp) 55)).setCells (B + 1) 0 (rulA fun _ _ => false).toList)) := ⟨z2.setAll _, below_setCells (by omega) _ _ _ HS2.out.be⟩
        clear z2 hq HE
        go_wp2_with (first | (refine wpl_alloc rfl rfl ?_) | (refine wpl_store_new pp (.tmp 7) (.tmp 30) rfl rfl rfl rfl ?_) | (refine wpr_build rfl rfl ?_) | (refine wpr_store HZ2.out (fun _ _ => false) (.tmp 2) (.tmp 34) rfl rfl rfl rfl ?_))
        refine bodyPost_ret (ret_r2 rfl rfl rfl HRR.out.1) rfl ?_
        subst hB
        exact ⟨by rw [HF.out, ruleP_no HF.out]; rfl, HRR.out.2⟩
      | true =>
        have HY : Hid (fldO 1 12 d = memP d) := fldO_yes hq
        rw [HY.out]
        have HS2 : Hid (RoS w B (w1.alloc (.cells (fldA (memP d)) 55)) r) := HS1.out.up (ba (Below.refl _ _) _) (HBW.out _ _ HS1.out)
        have HFB : Hid (Fb 55 (w1.alloc (.cells (fldA (memP d)) 55)) w1.heap.size (memP d)) := Fb.new 55 _ _ rfl
        have HT : Hid (RoS w B ((w1.alloc (.cells (fldA (memP d)) 55)).setCells (B + 1 + 1) (3 * 60) (fldA (memP d)).toList) (fun m => if m = 3 then memP d else r m)) := HS2.out.put (by decide) _
        have HN : Hid ((∀ j, j < 3 + 1 → okN a b c d e j = true) ∧ ∀ j, j < 3 + 1 → (if j = 3 then memP d else r j) = memP (fiveL a b c d e j)) := by
          refine ⟨fun j hj => ?_, fun j hj => ?_⟩
          · by_cases hjk : j = 3
            · subst hjk; exact hq
            · exact HE.out.1 j (by omega)
          · by_cases hjk : j = 3
            · rw [if_pos hjk]; subst hjk; rfl
            · rw [if_neg hjk]; exact HE.out.2 j (by omega)
        clear hq HE
        go_wp2_with (first | (refine wpl_alloc rfl rfl ?_) | (refine wpl_store_new (memP d) (.tmp 7) (.tmp 30) rfl rfl rfl rfl ?_) | (refine wpl_load HFB.out (.tmp 7) rfl rfl rfl ?_) | (refine wpr_storeSub HS2.out.z2 3 (by decide) (memP d) (.tmp 37) (.tmp 36) rfl rfl rfl rfl ?_))
        go_roundw
        case rel => exact ⟨3 + 1, _, by decide, by go_num, HN, HT⟩
        case measure => simp [intOf]
    · have g0 := (HGB.out _ HS.out.be).at (2 * 4) _ rfl
      have g1 := (HGB.out _ HS.out.be).at (2 * 4 + 1) _ rfl
      have hx : (Instr.index 91 (.agg #[.slice ao a.length ac, .slice bo b.length bc, .slice co c.length cc, .slice d0 d.length dc, .slice eo e.length ec]) (.int .i64 4)).run Tryd.prog wr = .ok (.slice eo e.length ec) wr := by kernel_rfl
      go_wp2_with fail
      refine (H4.out _ HS.out.be).mono ?_
      rintro x w1 ⟨rfl, hb1⟩
      have HB1 : Hid (Below wr.heap.size wr w1) := hb1
      have HS1 : Hid (RoS w B w1 r) := HS.out.up hb1 (HBW.out _ _ HS.out)
      clear hb1 g0 g1 hx
      cases hq : listB 0 6 e with
      | false =>
        have HF : Hid (cronB a b c d e = false) := cronB_not 4 (by decide) hq
        have HY : Hid (fldA (fldO 0 6 e) = fldA fun _ => false) := by show _ = _; rw [fldO_no hq]
        obtain ⟨pp, HP⟩ : ∃ pp, Hid (fldO 0 6 e = pp) := ⟨_, rfl⟩
        rw [HP.out]
        have HS2 : Hid (RoS w B (w1.alloc (.cells (fldA pp) 55)) r) := HS1.out.up (ba (Below.refl _ _) _) (HBW.out _ _ HS1.out)
        obtain ⟨q2, z2⟩ := HS2.out.z1
        have HZ2 : Hid (Rb (w1.alloc (.cells (fldA pp) 55)) (B + 1) q2) := z2
        have HRR : Hid (Rb ((w1.alloc (.cells (fldA pp) 55)).setCells (B + 1) 0 (rulA fun _ _ => false).toList) (B + 1) (fun _ _ => false) ∧ Below B w ((w1.alloc (.cells (fldA pp) 55)).setCells (B + 1) 0 (rulA fun _ _ => false).toList)) := ⟨z2.setAll _, below_setCells (by omega) _ _ _ HS2.out.be⟩
        clear z2 hq HE
        go_wp2_with (first | (refine wpl_alloc rfl rfl ?_) | (refine wpl_store_new pp (.tmp 7) (.tmp 30) rfl rfl rfl rfl ?_) | (refine wpr_build rfl rfl ?_) | (refine wpr_store HZ2.out (fun _ _ => false) (.tmp 2) (.tmp 34) rfl rfl rfl rfl ?_))
        refine bodyPost_ret (ret_r2 rfl rfl rfl HRR.out.1) rfl ?_
        subst hB
        exact ⟨by rw [HF.out, ruleP_no HF.out]; rfl, HRR.out.2⟩
      | true =>
        have HY : Hid (fldO 0 6 e = memP e) := fldO_yes hq
        rw [HY.out]
        have HS2 : Hid (RoS w B (w1.alloc (.cells (fldA (memP e)) 55)) r) := HS1.out.up (ba (Below.refl _ _) _) (HBW.out _ _ HS1.out)
        have HFB : Hid (Fb 55 (w1.alloc (.cells (fldA (memP e)) 55)) w1.heap.size (memP e)) := Fb.new 55 _ _ rfl
        have HT : Hid (RoS w B ((w1.alloc (.cells (fldA (memP e)) 55)).setCells (B + 1 + 1) (4 * 60) (fldA (memP e)).toList) (fun m => if m = 4 then memP e else r m)) := HS2.out.put (by decide) _
        have HN : Hid ((∀ j, j < 4 + 1 → okN a b c d e j = true) ∧ ∀ j, j < 4 + 1 → (if j = 4 then memP e else r j) = memP (fiveL a b c d e j)) := by
          refine ⟨fun j hj => ?_, fun j hj => ?_⟩
          · by_cases hjk : j = 4
            · subst hjk; exact hq
            · exact HE.out.1 j (by omega)
          · by_cases hjk : j = 4
            · rw [if_pos hjk]; subst hjk; rfl
            · rw [if_neg hjk]; exact HE.out.2 j (by omega)
        clear hq HE
        go_wp2_with (first | (refine wpl_alloc rfl rfl ?_) | (refine wpl_store_new (memP e) (.tmp 7) (.tmp 30) rfl rfl rfl rfl ?_) | (refine wpl_load HFB.out (.tmp 7) rfl rfl rfl ?_) | (refine wpr_storeSub HS2.out.z2 4 (by decide) (memP e) (.tmp 37) (.tmp 36) rfl rfl rfl rfl ?_))
        go_roundw
        case rel => exact ⟨4 + 1, _, by decide, by go_num, HN, HT⟩
        case measure => simp [intOf]
    · have HF : Hid (cronB a b c d e = true ∧ rulA r = rulA (ruleP a b c d e)) := by
        have h0 := cronB_all HE.out.1
        refine ⟨h0, ?_⟩
        rw [ruleP_yes h0]
        exact rulA_ext fun j i hj _ => by rw [HE.out.2 j hj]; rfl
      have HRR : Hid (Rb (wr.setCells (B + 1) 0 (rulA r).toList) (B + 1) r ∧ Below B w (wr.setCells (B + 1) 0 (rulA r).toList)) := ⟨HZ1.out.setAll r, below_setCells (by omega) _ _ _ HS.out.be⟩
      go_wp2_with (first | (refine wpr_load HS.out.z2 (.tmp 4) rfl rfl rfl ?_) | (refine wpr_store HZ1.out r (.tmp 2) (.tmp 39) rfl rfl rfl rfl ?_))
      refine bodyPost_ret (ret_r2 rfl rfl rfl HRR.out.1) rfl ?_
      subst hB
      exact ⟨by rw [HF.out.1, HF.out.2]; rfl, HRR.out.2⟩
end Go.Proofs.YtgeimliibddhmaaDoor
