/-
  A region that draws its order: its first operations only read (their callees turn nothing that lay there before), its last ones can come up in one order alone: one walk serves every order. Over any program.
-/
import Derived.Test.YtgjamikmjknlfaaDoorWd
namespace Go.Proofs.YtgjamikmjknlfaaDoor
open Go Go.RowKit

section
variable {P : Program} {ops : Array Oper} {md : Region.Mode} {C : World → Prop}

/-- Whatever order is picked, as long as 'fuel' operations come up; then all that are listed are L, and R. -/
def wpAnyT (P : Program) (md : Region.Mode) (ops : Array Oper) (C : World → Prop) (L : Array Bool) (R : Act → Prop) : Nat → Array Bool → Act → Prop
  | 0, listed, a => listed = L ∧ R a
  | fuel + 1, listed, a => Region.ready md ops listed ≠ [] ∧ ∀ i ∈ Region.ready md ops listed, qOp P ops C i (wpAnyT P md ops C L R fuel (listed.setIfInBounds i true)) a

theorem wpAnyT_first {R : Act → Prop} {L : Array Bool} {m i : Nat} {oi : Oper} {v : Value} (hi : ops[i]? = some oi) (hsel : ∀ (j : Nat) (o : Oper) cs b, ops[j]? = some o → o.op ≠ .select cs b)
    (hL : ∀ j ∈ Region.ready md ops L, j = m) (hwait : ∀ om, ops[m]? = some om → ∃ e ∈ om.after, Region.binds md e = true ∧ e.on = i) :
    ∀ (fuel : Nat) (listed : Array Bool) (a : Act),
      (∀ j oj, ops[j]? = some oj → j ≠ i → listed.getD j true = false → (∀ e ∈ oj.after, Region.binds md e = true → e.on ≠ i) → oi.apart ops oj = true) →
      i ∈ Region.ready md ops listed → YieldsIn P ops C oi v a →
      wpAnyT P md ops C L R fuel (listed.setIfInBounds i true) (a.put oi.dst v) → wpAnyT P md ops C L R (fuel + 1) listed a := by
  intro fuel
  induction fuel with
  | zero =>
    intro listed a _ hr hy H
    refine ⟨fun h => (by rw [h] at hr; cases hr), fun j hj => ?_⟩
    by_cases hji : j = i
    · subst hji; exact hy.qOp hi H
    · have h1 := ready_mono hj hji
      rw [H.1] at h1
      have hjm := hL j h1
      subst hjm
      obtain ⟨hjun, oj, hoj, hall⟩ := mem_ready.1 hj
      obtain ⟨e, he, hb, heq⟩ := hwait oj hoj
      have h2 := hall e he hb
      have h0 := (mem_ready.1 hr).1
      rw [heq] at h2
      rcases Nat.lt_or_ge i listed.size with h' | h'
      · simp [h'] at h0 h2; rw [h0] at h2; cases h2
      · simp [Array.getElem?_eq_none h'] at h2
  | succ fuel ih =>
    intro listed a hfree hr hy H
    refine ⟨fun h => (by rw [h] at hr; cases hr), fun j hj => ?_⟩
    by_cases hji : j = i
    · subst hji; exact hy.qOp hi H
    · have h1 := H.2 j (ready_mono hj hji)
      obtain ⟨hjun, oj, hoj, hall⟩ := mem_ready.1 hj
      have hnot : ∀ e ∈ oj.after, Region.binds md e = true → e.on ≠ i := fun e he hb heq => by
        have h1 := hall e he hb
        have h0 := (mem_ready.1 hr).1
        rw [heq] at h1
        rcases Nat.lt_or_ge i listed.size with h' | h'
        · simp [h'] at h0 h1; rw [h0] at h1; cases h1
        · simp [Array.getElem?_eq_none h'] at h1
      have h2 := qOp_put hoj (hfree j oj hoj hji hjun hnot) (fun cs b => hsel i oi cs b hi) (fun cs b => hsel j oj cs b hoj) hy h1
      have hfree' : ∀ k ok, ops[k]? = some ok → k ≠ i → (listed.setIfInBounds j true).getD k true = false →
          (∀ e ∈ ok.after, Region.binds md e = true → e.on ≠ i) → oi.apart ops ok = true := fun k ok hk hki hun hno => by
        refine hfree k ok hk hki ?_ hno
        by_cases hjk : j = k
        · subst hjk; exact hjun
        · rw [getD_set_ne true hjk] at hun; exact hun
      refine qOp_mono (fun a' h3 => ih (listed.setIfInBounds j true) a' hfree' (ready_mono hr (Ne.symm hji)) h3.1 ?_) h2
      rw [Array.setIfInBounds_comm _ _ hji]
      exact h3.2

/-- The first operations in the order of the text: each may come up, and is free; behind them the listing is L. -/
def lexTo (md : Region.Mode) (ops : Array Oper) (L : Array Bool) : Nat → Nat → Array Bool → Bool
  | 0, _, listed => decide (listed = L)
  | fuel + 1, k, listed => (Region.ready md ops listed).contains k && Region.free md ops listed k && lexTo md ops L fuel (k + 1) (listed.setIfInBounds k true)
/-- Operation m waits for each of the first ones. -/
def waitsAll (md : Region.Mode) (ops : Array Oper) (m : Nat) : Bool :=
  (List.range m).all fun i => match ops[m]? with
    | none => true
    | some om => om.after.any fun e => Region.binds md e && e.on == i

theorem wpAnyT_lex {R : Act → Prop} {L : Array Bool} {m : Nat} (hs : Region.noSelect ops = true) (hL : ∀ j ∈ Region.ready md ops L, j = m) (hw : waitsAll md ops m = true) : ∀ (l : List Oper) (k : Nat) (listed : Array Bool) (a : Act), k + l.length = m → (∀ j, j < l.length → l[j]? = ops[k + j]?) →
    lexTo md ops L l.length k listed = true → wpQuiet P ops C R l a → wpAnyT P md ops C L R l.length listed a
  | [], _, _, _, _, _, hB, h => ⟨by simpa [lexTo] using hB, h⟩
  | o :: l, k, listed, a, hk, hl, hB, h => by
    have h0 : ops[k]? = some o := by simpa using (hl 0 (by simp)).symm
    simp only [List.length_cons, lexTo, Bool.and_eq_true] at hB
    obtain ⟨⟨hr, hf⟩, hB'⟩ := hB
    have hst : qOp P ops C k (wpQuiet P ops C R l) a := by unfold qOp; simp only [h0]; exact h
    obtain ⟨v, hy, hK⟩ := yieldsIn_of_qOp h0 hst
    refine wpAnyT_first h0 (Region.noSelect_spec hs) hL (fun om hom => ?_) l.length listed a (Region.free_spec h0 hf) (by simpa using hr) hy
      (wpAnyT_lex hs hL hw l (k + 1) _ _ (by simp at hk; omega) (fun j hj => by have := hl (j + 1) (by simpa using hj); simpa [Nat.add_assoc, Nat.add_comm 1 j] using this) hB' hK)
    unfold waitsAll at hw
    rw [List.all_eq_true] at hw
    have := hw k (List.mem_range.2 (by simp at hk; omega))
    rw [hom] at this
    simp only [Array.any_eq_true', Bool.and_eq_true, beq_iff_eq] at this
    obtain ⟨e, he, hb, heq⟩ := this
    exact ⟨e, he, hb, heq⟩

theorem wpAny_of_T {R : Act → Prop} {L : Array Bool} {Q' : Exit → Act → World → Prop} {f : Nat} (hR : ∀ a w, C w → R a → wpAny P md ops Q' f L a w) : ∀ (fuel : Nat) (listed : Array Bool) (a : Act) (w : World), C w →
    wpAnyT P md ops C L R fuel listed a → wpAny P md ops Q' (f + fuel) listed a w
  | 0, _, _, _, hw, h => by obtain ⟨rfl, h⟩ := h; exact hR _ _ hw h
  | fuel + 1, _, _, _, hw, h => ⟨fun h0 => absurd h0 h.1, fun i hi => wpOp_of_qOp hw (fun a' w' hw' => wpAny_of_T hR fuel _ a' w' hw') (h.2 i hi)⟩

/-- The last operations can come up in one order alone. -/
def forcedB (md : Region.Mode) (ops : Array Oper) : Nat → Nat → Array Bool → Bool
  | 0, _, listed => decide (Region.ready md ops listed = [])
  | fuel + 1, k, listed => decide (Region.ready md ops listed = [k]) && forcedB md ops fuel (k + 1) (listed.setIfInBounds k true)

theorem wpAny_forced {Q : Exit → Act → World → Prop} : ∀ (l : List Oper) (k : Nat) (listed : Array Bool) (a : Act) (w : World), (∀ j, j < l.length → l[j]? = ops[k + j]?) →
    forcedB md ops l.length k listed = true → wpList P ops Q l a w → wpAny P md ops Q l.length listed a w
  | [], _, _, _, _, _, hB, h => ⟨by simpa [forcedB] using hB, h⟩
  | o :: l, k, listed, a, w, hl, hB, h => by
    have h0 : ops[k]? = some o := by simpa using (hl 0 (by simp)).symm
    simp only [List.length_cons, forcedB, Bool.and_eq_true, decide_eq_true_eq] at hB
    refine wpAny_all hB.1 (by simp) fun i hi => ?_
    simp only [List.mem_singleton] at hi
    subst hi
    have h1 : wpOp P ops Q i (wpList P ops Q l) a w := by unfold wpOp; simp only [h0]; exact h
    exact wpOp_mono (fun a' w' h' => wpAny_forced l (i + 1) _ a' w' (fun j hj => by have := hl (j + 1) (by simpa using hj); simpa [Nat.add_assoc, Nat.add_comm 1 j] using this) hB.2 h') h1

/-- The kernel's look at a region that is parted behind its first m operations. -/
def tailB (md : Region.Mode) (ops : Array Oper) (m : Nat) : Bool :=
  let L := (Array.range ops.size).map fun i => decide (i < m)
  Region.noSelect ops && (Region.ready md ops L).all (· == m) && waitsAll md ops m && lexTo md ops L m 0 (Array.replicate ops.size false) && forcedB md ops (ops.size - m) m L

theorem wp_region_tail {id : Nat} {Q : Exit → Act → World → Prop} {a : Act} {w : World} {l : List Oper} (m : Nat) (hm : P.follows .mixedOrders = true) (hml : m ≤ l.length) (hB : tailB .any l.toArray m = true)
    (h : wpQuiet P l.toArray (fun w' => ∃ x : Wd w, w' = x.at') (fun a' => ∀ w', (∃ x : Wd w, w' = x.at') → wpList P l.toArray Q (l.drop m) a' w') (l.take m) a) : (Code.region id l.toArray true).wp P Q a w := by
  simp only [tailB, Bool.and_eq_true] at hB
  obtain ⟨⟨⟨⟨h1, h2⟩, h3⟩, h4⟩, h5⟩ := hB
  refine wp_region_any hm ?_
  have hlen : (l.take m).length = m := by simp; omega
  have hdrop : (l.drop m).length = l.length - m := by simp
  have hT := wpAnyT_lex (P := P) (C := fun w' => ∃ x : Wd w, w' = x.at') (md := .any) h1 (fun j hj => by
    rw [List.all_eq_true] at h2
    simpa using h2 j hj) h3 (l.take m) 0 (Array.replicate l.toArray.size false) a (by omega) (fun j hj => by
      rw [List.getElem?_take]
      have : j < m := by omega
      simp [this]) (by rw [hlen]; exact h4) h
  have := wpAny_of_T (Q' := Q) (f := (l.drop m).length) (fun a' w' hw' hR => wpAny_forced (md := .any) (l.drop m) m _ a' w' (fun j hj => by simp) (by rw [hdrop]; simpa using h5) (hR w' hw')) (l.take m).length _ a { w with drawn := w.drawn + 1 } ⟨⟨_, (Below.refl _ w).drew⟩, rfl⟩ hT
  have e : (l.drop m).length + (l.take m).length = l.toArray.size := by simp; omega
  rw [e] at this
  exact this
end
end Go.Proofs.YtgjamikmjknlfaaDoor
