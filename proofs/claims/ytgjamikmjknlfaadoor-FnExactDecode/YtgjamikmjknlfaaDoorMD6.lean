/-
  A region that draws its order: what only yields is taken first, in any order that is told; what makes and appends comes up in every order; the last operation waits for all. Over any program. Operations of a drawn region taken in a told order: small laws. Steps of a region that draws its order: one of two, and several that only yield. Steps of a region that draws its order: one of two, and several that only yield. A region of any order: what one more operation that only yields comes to; a stronger law on the worlds. Over any program.
-/
import Derived.Test.YtgjamikmjknlfaaDoorMD5
namespace Go.Proofs.YtgjamikmjknlfaaDoor
open Go Go.RowKit

section
variable {P : Program} {ops : Array Oper} {md : Region.Mode} {C : World → Prop} {Q : Exit → Act → World → Prop}
theorem nil_yields {o : Oper} {x : Operand} {v : Value} {p : Addr} {a : Act} (ho : o.op = .nilCheck x) (hx : a.eval x = .pointer (some p)) (hy : YieldsIn P ops C o v a) : YieldsIf P ops C o v a := by
  rcases hy with ⟨hw, hq⟩ | h2
  · refine .inl ⟨hw, fun w hC => ?_⟩
    have h3 := hq w hC
    unfold Oper.quietAt at h3
    have hr : (execOp a.eval o).run P w = .ok (.value (.pointer (some p))) w := by
      unfold execOp
      rw [ho]
      simp only [hx]
      rfl
    rw [hr] at h3 ⊢
    simp only [Oper.quietUpon] at h3
    rw [h3.2]
  · exact .inr h2

/-- Whether an operation only yields: a nil check of a temporary is asked at its time. -/
def yieldB (o : Oper) : Bool := valueOp o.op || (match o.op with
  | .nilCheck _ => true
  | _ => false)
def takesL : List Nat → Array Bool → Array Bool
  | [], listed => listed
  | k :: ts, listed => takesL ts (listed.setIfInBounds k true)
def takesB (md : Region.Mode) (ops : Array Oper) : List Nat → Array Bool → Bool
  | [], _ => true
  | k :: ts, listed => (Region.ready md ops listed).contains k && Region.free md ops listed k && ((ops[k]?).map yieldB).getD false && takesB md ops ts (listed.setIfInBounds k true)
/-- The operations that are taken first, one behind the other; a nil check of a pointer that is none. -/
def wpTakes (P : Program) (ops : Array Oper) (C : World → Prop) (K : Act → Prop) : List Nat → Act → Prop
  | [], a => K a
  | k :: ts, a => (∀ o, ops[k]? = some o → ∀ x, o.op = .nilCheck x → ∃ p, a.eval x = .pointer (some p)) ∧ qOp P ops C k (wpTakes P ops C K ts) a
theorem wpAnyU_takes {R : Act → World → Prop} {L : Array Bool} {m : Nat} {w : World} (hw : C w) (hs : Region.noSelect ops = true) (hQ : ∀ c a d v w, Q (.panic c) (Act.put a d v) w → Q (.panic c) a w) (hL : ∀ j ∈ Region.ready md ops L, j = m) (hwt : waitsAll md ops m = true) (fuel : Nat) :
    ∀ (ts : List Nat) (listed : Array Bool) (a : Act), (∀ k ∈ ts, k < m) → takesB md ops ts listed = true → wpTakes P ops C (fun a' => wpAnyU P md ops Q C L R fuel (takesL ts listed) a' w) ts a → wpAnyU P md ops Q C L R (fuel + ts.length) listed a w
  | [], _, _, _, _, h => h
  | k :: ts, listed, a, hk, hB, h => by
    simp only [takesB, Bool.and_eq_true] at hB
    obtain ⟨⟨⟨hr, hf⟩, hv⟩, hB'⟩ := hB
    cases h0 : ops[k]? with
    | none => rw [h0] at hv; cases hv
    | some o =>
      rw [h0] at hv
      simp only [Option.map_some, Option.getD_some] at hv
      obtain ⟨v, hy, hK⟩ := yieldsIn_of_qOp h0 h.2
      have hyf : YieldsIf P ops C o v a := by
        unfold yieldB at hv
        cases hvo : valueOp o.op with
        | true => exact yieldsIf_of_in hvo hy
        | false =>
          rw [hvo, Bool.false_or] at hv
          split at hv
          · rename_i x hx
            obtain ⟨p, hp⟩ := h.1 o h0 x hx
            exact nil_yields hx hp hy
          · cases hv
      have ih := wpAnyU_takes hw hs hQ hL hwt fuel ts (listed.setIfInBounds k true) (a.put o.dst v) (fun j hj => hk j (List.mem_cons_of_mem _ hj)) hB' hK
      refine wpAnyU_first h0 (Region.noSelect_spec hs) (fun c a w => hQ c a _ _ w) hL (fun om hom => ?_) (fuel + ts.length) listed a w (Region.free_spec h0 hf) (by simpa using hr) hyf hw ih
      unfold waitsAll at hwt
      rw [List.all_eq_true] at hwt
      have := hwt k (List.mem_range.2 (hk k (List.mem_cons_self ..)))
      rw [hom] at this
      simp only [Array.any_eq_true', Bool.and_eq_true, beq_iff_eq] at this
      obtain ⟨e, he, hb, heq⟩ := this
      exact ⟨e, he, hb, heq⟩
/-- What comes up next, one. -/
theorem wpAnyU_one {R : Act → World → Prop} {L listed : Array Bool} {fuel i : Nat} {o : Oper} {a : Act} {w : World} (hr : Region.ready md ops listed = [i]) (ho : ops[i]? = some o) (hg : o.guard = none)
    (h : ∀ K : Act → World → Prop, Hid (∀ a' w', C w' → wpAnyU P md ops Q C L R fuel (listed.setIfInBounds i true) a' w' → K a' w') → wpList P ops (Exit.then K Q) [o] a w) : wpAnyU P md ops Q C L R (fuel + 1) listed a w := by
  refine ⟨by rw [hr]; simp, fun j hj => ?_⟩
  rw [hr] at hj
  simp only [List.mem_singleton] at hj
  subst hj
  have h1 := h (fun a' w' => C w' ∧ wpAnyU P md ops Q C L R fuel (listed.setIfInBounds j true) a' w') (fun a' w' h1 h2 => ⟨h1, h2⟩)
  have hw : Region.wanted o (yielded ops a.tmps) = true := by simp [Region.wanted, hg]
  unfold wpOp
  simp only [ho]
  unfold wpList at h1
  rw [if_pos hw] at h1 ⊢
  exact h1
/-- What comes up next, one of two. -/
theorem wpAnyU_two {R : Act → World → Prop} {L listed : Array Bool} {fuel i j : Nat} {o p : Oper} {a : Act} {w : World} (hr : Region.ready md ops listed = [i, j]) (ho : ops[i]? = some o) (hp : ops[j]? = some p) (hg : o.guard = none) (hgp : p.guard = none)
    (h : ∀ K : Act → World → Prop, Hid (∀ a' w', C w' → wpAnyU P md ops Q C L R fuel (listed.setIfInBounds i true) a' w' → K a' w') → wpList P ops (Exit.then K Q) [o] a w)
    (h' : ∀ K : Act → World → Prop, Hid (∀ a' w', C w' → wpAnyU P md ops Q C L R fuel (listed.setIfInBounds j true) a' w' → K a' w') → wpList P ops (Exit.then K Q) [p] a w) : wpAnyU P md ops Q C L R (fuel + 1) listed a w := by
  refine ⟨by rw [hr]; simp, fun k hk => ?_⟩
  rw [hr] at hk
  simp only [List.mem_cons, List.not_mem_nil, or_false] at hk
  rcases hk with hk | hk
  · subst hk
    have h1 := h (fun a' w' => C w' ∧ wpAnyU P md ops Q C L R fuel (listed.setIfInBounds k true) a' w') (fun a' w' h1 h2 => ⟨h1, h2⟩)
    have hw : Region.wanted o (yielded ops a.tmps) = true := by simp [Region.wanted, hg]
    unfold wpOp
    simp only [ho]
    unfold wpList at h1
    rw [if_pos hw] at h1 ⊢
    exact h1
  · subst hk
    have h1 := h' (fun a' w' => C w' ∧ wpAnyU P md ops Q C L R fuel (listed.setIfInBounds k true) a' w') (fun a' w' h1 h2 => ⟨h1, h2⟩)
    have hw : Region.wanted p (yielded ops a.tmps) = true := by simp [Region.wanted, hgp]
    unfold wpOp
    simp only [hp]
    unfold wpList at h1
    rw [if_pos hw] at h1 ⊢
    exact h1
/-- The kernel's look: the last operations behind m come one behind the other and wait for all. -/
def pickB (ops : Array Oper) (ts : List Nat) (m : Nat) : Bool :=
  let L := (Array.range ops.size).map fun i => decide (i < m)
  Region.noSelect ops && (Region.ready .any ops L).all (· == m) && waitsAll .any ops m && takesB .any ops ts (Array.replicate ops.size false) && forcedB .any ops (ops.size - m) m L && ts.all (fun k => decide (k < m))
theorem wp_region_pick {id : Nat} {a : Act} {w : World} {l : List Oper} (C : World → Prop) (ts : List Nat) (m fuel : Nat) (hm : P.follows .mixedOrders = true) (hml : m ≤ l.length) (hf : fuel + ts.length = m) (hB : pickB l.toArray ts m = true) (hQ : ∀ c a d v w, Q (.panic c) (Act.put a d v) w → Q (.panic c) a w) (hC : C w.drew)
    (h : wpTakes P l.toArray C (fun a' => wpAnyU P .any l.toArray Q C ((Array.range l.toArray.size).map fun i => decide (i < m)) (fun a'' w'' => wpList P l.toArray Q (l.drop m) a'' w'') fuel (takesL ts (Array.replicate l.toArray.size false)) a' w.drew) ts a) : (Code.region id l.toArray true).wp P Q a w := by
  simp only [pickB, Bool.and_eq_true] at hB
  obtain ⟨⟨⟨⟨⟨h1, h2⟩, h3⟩, h4⟩, h5⟩, h6⟩ := hB
  refine wp_region_any hm ?_
  have hdrop : (l.drop m).length = l.length - m := by simp
  have hT := wpAnyU_takes (P := P) (Q := Q) (C := C) (md := .any) hC h1 hQ (fun j hj => by
    rw [List.all_eq_true] at h2
    simpa using h2 j hj) h3 fuel ts (Array.replicate l.toArray.size false) a (fun k hk => by
      rw [List.all_eq_true] at h6
      simpa using h6 k hk) h4 h
  have := wpAny_of_U (Q := Q) (f := (l.drop m).length) (fun a' w' hR => wpAny_forced (md := .any) (l.drop m) m _ a' w' (fun j hj => by simp) (by rw [hdrop]; simpa using h5) hR) _ _ a _ hT
  have e : (l.drop m).length + (fuel + ts.length) = l.toArray.size := by simp; omega
  rw [e] at this
  exact this
end
end Go.Proofs.YtgjamikmjknlfaaDoor

namespace Go.Proofs.YtgjamikmjknlfaaDoor
open Go Go.RowKit

theorem wpTakes_l {P : Program} {l : List Oper} {C : World → Prop} {K : Act → Prop} {k : Nat} {ts : List Nat} {a : Act} {o : Oper} (ho : l[k]? = some o) (hn : ∀ x, o.op = .nilCheck x → ∃ p, a.eval x = .pointer (some p)) (h : wpQuiet P l.toArray C (wpTakes P l.toArray C K ts) [o] a) : wpTakes P l.toArray C K (k :: ts) a := by
  refine ⟨fun o' ho' => ?_, ?_⟩
  · have : o' = o := Option.some.inj (ho'.symm.trans (by simpa using ho))
    subst this
    exact hn
  · have ho2 : l.toArray[k]? = some o := by simpa using ho
    unfold qOp
    simp only [ho2]
    exact h
theorem takes_nil {P : Program} {ops : Array Oper} {C : World → Prop} {K : Act → Prop} {a : Act} (h : K a) : wpTakes P ops C K [] a := h
theorem any_one {P : Program} {l : List Oper} {Q : Exit → Act → World → Prop} {C : World → Prop} {R : Act → World → Prop} {L listed : Array Bool} {fuel i : Nat} {o : Oper} {a : Act} {w : World} (hr : Region.ready .any l.toArray listed = [i]) (ho : l[i]? = some o) (hg : o.guard = none)
    (h : ∀ K : Act → World → Prop, Hid (∀ a' w', C w' → wpAnyU P .any l.toArray Q C L R fuel (listed.setIfInBounds i true) a' w' → K a' w') → wpList P l.toArray (Exit.then K Q) [o] a w) : wpAnyU P .any l.toArray Q C L R (fuel + 1) listed a w := wpAnyU_one hr (by simpa using ho) hg h
theorem any_done {P : Program} {ops : Array Oper} {md : Region.Mode} {Q : Exit → Act → World → Prop} {C : World → Prop} {R : Act → World → Prop} {L listed : Array Bool} {a : Act} {w : World} (hl : listed = L) (h : R a w) : wpAnyU P md ops Q C L R 0 listed a w := ⟨hl, h⟩
end Go.Proofs.YtgjamikmjknlfaaDoor

namespace Go.Proofs.YtgjamikmjknlfaaDoor
open Go Go.RowKit

theorem pk_two {P : Program} {l : List Oper} {Q : Exit → Act → World → Prop} {C : World → Prop} {R : Act → World → Prop} {L listed : Array Bool} {fuel i j : Nat} {o p : Oper} {a : Act} {w : World} (hr : Region.ready .any l.toArray listed = [i, j]) (ho : l[i]? = some o) (hp : l[j]? = some p) (hg : o.guard = none) (hgp : p.guard = none)
    (h : ∀ K : Act → World → Prop, Hid (∀ a' w', C w' → wpAnyU P .any l.toArray Q C L R fuel (listed.setIfInBounds i true) a' w' → K a' w') → wpList P l.toArray (Exit.then K Q) [o] a w)
    (h' : ∀ K : Act → World → Prop, Hid (∀ a' w', C w' → wpAnyU P .any l.toArray Q C L R fuel (listed.setIfInBounds j true) a' w' → K a' w') → wpList P l.toArray (Exit.then K Q) [p] a w) : wpAnyU P .any l.toArray Q C L R (fuel + 1) listed a w := wpAnyU_two hr (by simpa using ho) (by simpa using hp) hg hgp h h'
def moreB9 (ops : Array Oper) (L listed : Array Bool) (ts : List Nat) (m : Nat) : Bool :=
  Region.noSelect ops && (Region.ready .any ops L).all (· == m) && waitsAll .any ops m && takesB .any ops ts listed && ts.all (fun k => decide (k < m))
theorem pk_takes {P : Program} {l : List Oper} {Q : Exit → Act → World → Prop} {C : World → Prop} {R : Act → World → Prop} {L listed : Array Bool} {a : Act} {w : World} (ts : List Nat) (m fuel : Nat) (hw : C w) (hB : moreB9 l.toArray L listed ts m = true) (hQ : ∀ c a d v w, Q (.panic c) (Act.put a d v) w → Q (.panic c) a w)
    (h : wpTakes P l.toArray C (fun a' => wpAnyU P .any l.toArray Q C L R fuel (takesL ts listed) a' w) ts a) : wpAnyU P .any l.toArray Q C L R (fuel + ts.length) listed a w := by
  simp only [moreB9, Bool.and_eq_true] at hB
  obtain ⟨⟨⟨⟨h1, h2⟩, h3⟩, h4⟩, h6⟩ := hB
  exact wpAnyU_takes (P := P) (Q := Q) (C := C) (md := .any) hw h1 hQ (fun j hj => by
    rw [List.all_eq_true] at h2
    simpa using h2 j hj) h3 fuel ts listed a (fun k hk => by
      rw [List.all_eq_true] at h6
      simpa using h6 k hk) h4 h
end Go.Proofs.YtgjamikmjknlfaaDoor

namespace Go.Proofs.YtgjamikmjknlfaaDoor
open Go Go.RowKit

/-- What comes up next, one, whose guard is on. -/
theorem pk_oneW {P : Program} {l : List Oper} {Q : Exit → Act → World → Prop} {C : World → Prop} {R : Act → World → Prop} {L listed : Array Bool} {fuel i : Nat} {o : Oper} {a : Act} {w : World} (hr : Region.ready .any l.toArray listed = [i]) (ho : l[i]? = some o) (hw : Region.wanted o (yielded l.toArray a.tmps) = true)
    (h : ∀ K : Act → World → Prop, Hid (∀ a' w', C w' → wpAnyU P .any l.toArray Q C L R fuel (listed.setIfInBounds i true) a' w' → K a' w') → wpList P l.toArray (Exit.then K Q) [o] a w) : wpAnyU P .any l.toArray Q C L R (fuel + 1) listed a w := by
  refine ⟨by rw [hr]; simp, fun j hj => ?_⟩
  rw [hr] at hj
  simp only [List.mem_singleton] at hj
  subst hj
  have h1 := h (fun a' w' => C w' ∧ wpAnyU P .any l.toArray Q C L R fuel (listed.setIfInBounds j true) a' w') (fun a' w' h1 h2 => ⟨h1, h2⟩)
  have ho' : l.toArray[j]? = some o := by simpa using ho
  unfold wpOp
  simp only [ho']
  unfold wpList at h1
  rw [if_pos hw] at h1 ⊢
  exact h1
/-- One of two, whose guards are on. -/
theorem pk_twoW {P : Program} {l : List Oper} {Q : Exit → Act → World → Prop} {C : World → Prop} {R : Act → World → Prop} {L listed : Array Bool} {fuel i j : Nat} {o p : Oper} {a : Act} {w : World} (hr : Region.ready .any l.toArray listed = [i, j]) (ho : l[i]? = some o) (hp : l[j]? = some p) (hw : Region.wanted o (yielded l.toArray a.tmps) = true) (hv : Region.wanted p (yielded l.toArray a.tmps) = true)
    (h : ∀ K : Act → World → Prop, Hid (∀ a' w', C w' → wpAnyU P .any l.toArray Q C L R fuel (listed.setIfInBounds i true) a' w' → K a' w') → wpList P l.toArray (Exit.then K Q) [o] a w)
    (h' : ∀ K : Act → World → Prop, Hid (∀ a' w', C w' → wpAnyU P .any l.toArray Q C L R fuel (listed.setIfInBounds j true) a' w' → K a' w') → wpList P l.toArray (Exit.then K Q) [p] a w) : wpAnyU P .any l.toArray Q C L R (fuel + 1) listed a w := by
  have ho' : l.toArray[i]? = some o := by simpa using ho
  have hp' : l.toArray[j]? = some p := by simpa using hp
  refine ⟨by rw [hr]; simp, fun k hk => ?_⟩
  rw [hr] at hk
  simp only [List.mem_cons, List.not_mem_nil, or_false] at hk
  rcases hk with hk | hk
  · subst hk
    have h1 := h (fun a' w' => C w' ∧ wpAnyU P .any l.toArray Q C L R fuel (listed.setIfInBounds k true) a' w') (fun a' w' h1 h2 => ⟨h1, h2⟩)
    unfold wpOp
    simp only [ho']
    unfold wpList at h1
    rw [if_pos hw] at h1 ⊢
    exact h1
  · subst hk
    have h1 := h' (fun a' w' => C w' ∧ wpAnyU P .any l.toArray Q C L R fuel (listed.setIfInBounds k true) a' w') (fun a' w' h1 h2 => ⟨h1, h2⟩)
    unfold wpOp
    simp only [hp']
    unfold wpList at h1
    rw [if_pos hv] at h1 ⊢
    exact h1
end Go.Proofs.YtgjamikmjknlfaaDoor

namespace Go.Proofs.YtgjamikmjknlfaaDoor
open Go Go.RowKit

section
variable {P : Program} {Q : Exit → Act → World → Prop} {R : Act → World → Prop}
def firstB (ops : Array Oper) (L listed : Array Bool) (i m : Nat) : Bool :=
  Region.noSelect ops && (Region.ready .any ops L).all (· == m) && waitsAll .any ops m && (Region.ready .any ops listed).contains i && Region.free .any ops listed i && decide (i < m)
theorem any_first {l : List Oper} {C : World → Prop} {L listed : Array Bool} {fuel : Nat} {o : Oper} {a : Act} {w : World} (i m : Nat) (v : Value) (ho : l[i]? = some o) (hB : firstB l.toArray L listed i m = true) (hQ : ∀ c a d v w, Q (.panic c) (Act.put a d v) w → Q (.panic c) a w) (hw : C w)
    (hwt : Region.wanted o (yielded l.toArray a.tmps) = true) (hy : ∀ w, C w → (execOp a.eval o).run P w = .ok (.value v) w)
    (h : wpAnyU P .any l.toArray Q C L R fuel (listed.setIfInBounds i true) (a.put o.dst v) w) : wpAnyU P .any l.toArray Q C L R (fuel + 1) listed a w := by
  simp only [firstB, Bool.and_eq_true] at hB
  obtain ⟨⟨⟨⟨⟨h1, h2⟩, h3⟩, h4⟩, h5⟩, h6⟩ := hB
  have ho' : l.toArray[i]? = some o := by simpa using ho
  refine wpAnyU_first (m := m) ho' (Region.noSelect_spec h1) (fun c a w => hQ c a _ _ w) (fun j hj => ?_) (fun om hom => ?_) fuel listed a w (Region.free_spec ho' h5) (by simpa using h4) (.inl ⟨hwt, hy⟩) hw h
  · rw [List.all_eq_true] at h2
    simpa using h2 j hj
  · unfold waitsAll at h3
    rw [List.all_eq_true] at h3
    have := h3 i (List.mem_range.2 (by simpa using h6))
    rw [hom] at this
    simp only [Array.any_eq_true', Bool.and_eq_true, beq_iff_eq] at this
    obtain ⟨e, he, hb, heq⟩ := this
    exact ⟨e, he, hb, heq⟩
theorem wpAnyU_strong {md : Region.Mode} {ops : Array Oper} {C C' : World → Prop} {L : Array Bool} (h : ∀ w, C' w → C w) : ∀ (fuel : Nat) (listed : Array Bool) (a : Act) (w : World), wpAnyU P md ops Q C' L R fuel listed a w → wpAnyU P md ops Q C L R fuel listed a w
  | 0, _, _, _, H => H
  | fuel + 1, _, _, _, H => ⟨H.1, fun i hi => wpOp_mono (fun a' w' h' => ⟨h _ h'.1, wpAnyU_strong h fuel _ a' w' h'.2⟩) (H.2 i hi)⟩
end
/-- A world in which nothing that lay in w has turned, and one more block is there. -/
structure Wx (w : World) (X : Nat) (o : Obj) where
  at' : World
  ok : Below w.heap.size w at'
  blk : at'.heap[X]? = some o
theorem Wx.cell {w : World} {X : Nat} {o : Obj} {a : Addr} {v : Value} (h : w.cell? a = some v) : ∀ x : Wx w X o, x.at'.cell? a = some v :=
  fun x => (x.ok.cell (World.block_lt_of_cell? w a h)).trans h
def Wx.up {w : World} {X : Nat} {o : Obj} (x : Wx w X o) {w' : World} (hb : Below x.at'.heap.size x.at' w') : Wx w X o := ⟨w', x.ok.trans (hb.mono x.ok.size), (hb.block _ (Array.getElem?_eq_some_iff.1 x.blk).1).trans x.blk⟩
end Go.Proofs.YtgjamikmjknlfaaDoor
