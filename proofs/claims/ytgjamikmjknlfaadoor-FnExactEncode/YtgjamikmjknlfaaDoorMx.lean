/-
  A region that draws its order: its first operations only read; the next ones come up one behind the other and keep what is read; its last ones wait for all: one walk serves every order. Over any program.
-/
import Derived.Test.YtgjamikmjknlfaaDoorTl
import Derived.OrdersHeld
namespace Go.Proofs.YtgjamikmjknlfaaDoor
open Go Go.RowKit

/-- Operations that yield a value, or halt. -/
def valueOp : Op → Bool
  | .move _ | .assign _ | .pick .. | .build .. | .load .. | .binOp .. | .unOp .. | .convert .. | .slice .. | .fieldAddr .. | .field .. | .indexAddr .. | .index .. | .lookup .. | .extract .. => true
  | _ => false

theorem andThen_value {s : Result Value} {n : Next} {w' : World} (h : (s.andThen fun a w => Result.ok (Next.value a) w) = .ok n w') : ∃ v, n = .value v := by
  cases s with
  | ok v w => simp only [Result.andThen, Result.ok.injEq] at h; exact ⟨v, h.1.symm⟩
  | halt x w => simp [Result.andThen] at h

theorem value_only {P : Program} {o : Oper} (h : valueOp o.op = true) {ρ : Operand → Value} {w w' : World} {n : Next} (hr : (execOp ρ o).run P w = .ok n w') : ∃ v, n = .value v := by
  unfold execOp at hr
  cases ho : o.op <;> rw [ho] at h hr <;> first
    | (simp [valueOp] at h; done)
    | (simp only [Sem.run_pure, Result.ok.injEq] at hr; exact ⟨_, hr.1.symm⟩)
    | (simp only [Sem.run_bind, Sem.run_pure] at hr; exact andThen_value hr)
    | (simp only [Sem.run_bind, Sem.run_pure] at hr
       generalize hs : (asBool _).run P w = s at hr
       cases s with
       | ok v w => simp only [Result.andThen, Result.ok.injEq] at hr; exact ⟨_, hr.1.symm⟩
       | halt x w => simp [Result.andThen] at hr)

section
variable {P : Program} {ops : Array Oper} {md : Region.Mode} {C : World → Prop} {Q : Exit → Act → World → Prop}

theorem yieldsIf_of_in {o : Oper} {v : Value} {a : Act} (h : valueOp o.op = true) (hy : YieldsIn P ops C o v a) : YieldsIf P ops C o v a := by
  rcases hy with ⟨hw, hq⟩ | h2
  · refine .inl ⟨hw, fun w hC => ?_⟩
    have h3 := hq w hC
    unfold Oper.quietAt at h3
    cases hr : (execOp a.eval o).run P w with
    | ok n w' =>
      obtain ⟨u, rfl⟩ := value_only h hr
      rw [hr] at h3
      simp only [Oper.quietUpon] at h3
      rw [h3.1, h3.2]
    | halt x w' => rw [hr] at h3; simp only [Oper.quietUpon] at h3
  · exact .inr h2

/-- Whatever order is picked, as long as 'fuel' operations come up, C holding behind each; then all that are listed are L, and R. -/
def wpAnyU (P : Program) (md : Region.Mode) (ops : Array Oper) (Q : Exit → Act → World → Prop) (C : World → Prop) (L : Array Bool) (R : Act → World → Prop) : Nat → Array Bool → Act → World → Prop
  | 0, listed, a, w => listed = L ∧ R a w
  | fuel + 1, listed, a, w => Region.ready md ops listed ≠ [] ∧ ∀ i ∈ Region.ready md ops listed, wpOp P ops Q i (fun a' w' => C w' ∧ wpAnyU P md ops Q C L R fuel (listed.setIfInBounds i true) a' w') a w

theorem wpAny_of_U {R : Act → World → Prop} {L : Array Bool} {f : Nat} (hR : ∀ a w, R a w → wpAny P md ops Q f L a w) : ∀ (fuel : Nat) (listed : Array Bool) (a : Act) (w : World),
    wpAnyU P md ops Q C L R fuel listed a w → wpAny P md ops Q (f + fuel) listed a w
  | 0, _, _, _, h => by obtain ⟨rfl, h⟩ := h; exact hR _ _ h
  | fuel + 1, _, _, _, h => ⟨fun h0 => absurd h0 h.1, fun i hi => wpOp_mono (fun a' w' h' => wpAny_of_U hR fuel _ a' w' h'.2) (h.2 i hi)⟩

theorem wpAnyU_first {R : Act → World → Prop} {L : Array Bool} {m i : Nat} {oi : Oper} {v : Value} (hi : ops[i]? = some oi) (hsel : ∀ (j : Nat) (o : Oper) cs b, ops[j]? = some o → o.op ≠ .select cs b)
    (hQ : ∀ c a w, Q (.panic c) (a.put oi.dst v) w → Q (.panic c) a w)
    (hL : ∀ j ∈ Region.ready md ops L, j = m) (hwait : ∀ om, ops[m]? = some om → ∃ e ∈ om.after, Region.binds md e = true ∧ e.on = i) :
    ∀ (fuel : Nat) (listed : Array Bool) (a : Act) (w : World),
      (∀ j oj, ops[j]? = some oj → j ≠ i → listed.getD j true = false → (∀ e ∈ oj.after, Region.binds md e = true → e.on ≠ i) → oi.apart ops oj = true) →
      i ∈ Region.ready md ops listed → YieldsIf P ops C oi v a → C w →
      wpAnyU P md ops Q C L R fuel (listed.setIfInBounds i true) (a.put oi.dst v) w → wpAnyU P md ops Q C L R (fuel + 1) listed a w := by
  intro fuel
  induction fuel with
  | zero =>
    intro listed a w _ hr hy hS H
    refine ⟨fun h => (by rw [h] at hr; cases hr), fun j hj => ?_⟩
    by_cases hji : j = i
    · subst hji; exact hy.wpOp hi hS ⟨hS, H⟩
    · have h1 := ready_mono hj hji
      rw [H.1] at h1
      have hjm := hL j h1
      subst hjm
      obtain ⟨hjun, oj, hoj, hall⟩ := mem_ready.1 hj
      obtain ⟨e, he, hb, heq⟩ := hwait oj hoj
      have h2 := hall e he hb
      have h0 := (mem_ready.1 hr).1
      rw [heq] at h2
      rcases Nat.lt_or_ge i listed.size with h' | h'
      · simp [h'] at h0 h2; rw [h0] at h2; cases h2
      · simp [Array.getElem?_eq_none h'] at h2
  | succ fuel ih =>
    intro listed a w hfree hr hy hS H
    refine ⟨fun h => (by rw [h] at hr; cases hr), fun j hj => ?_⟩
    by_cases hji : j = i
    · subst hji; exact hy.wpOp hi hS ⟨hS, H⟩
    · have h1 := H.2 j (ready_mono hj hji)
      obtain ⟨hjun, oj, hoj, hall⟩ := mem_ready.1 hj
      have hnot : ∀ e ∈ oj.after, Region.binds md e = true → e.on ≠ i := fun e he hb heq => by
        have h1 := hall e he hb
        have h0 := (mem_ready.1 hr).1
        rw [heq] at h1
        rcases Nat.lt_or_ge i listed.size with h' | h'
        · simp [h'] at h0 h1; rw [h0] at h1; cases h1
        · simp [Array.getElem?_eq_none h'] at h1
      have h2 := wpOp_putIf hoj (hfree j oj hoj hji hjun hnot) (fun cs b => hsel i oi cs b hi) (fun cs b => hsel j oj cs b hoj) hQ hy h1
      have hfree' : ∀ k ok, ops[k]? = some ok → k ≠ i → (listed.setIfInBounds j true).getD k true = false →
          (∀ e ∈ ok.after, Region.binds md e = true → e.on ≠ i) → oi.apart ops ok = true := fun k ok hk hki hun hno => by
        refine hfree k ok hk hki ?_ hno
        by_cases hjk : j = k
        · subst hjk; exact hjun
        · rw [getD_set_ne true hjk] at hun; exact hun
      refine wpOp_mono (fun a' w' h3 => ⟨h3.2.1, ih (listed.setIfInBounds j true) a' w' hfree' (ready_mono hr (Ne.symm hji)) h3.1 h3.2.1 ?_⟩) h2
      rw [Array.setIfInBounds_comm _ _ hji]
      exact h3.2.2

/-- Operations one behind the other, C holding behind each. -/
def wpForced (P : Program) (ops : Array Oper) (Q : Exit → Act → World → Prop) (C : World → Prop) (R : Act → World → Prop) : List Oper → Act → World → Prop
  | [], a, w => R a w
  | o :: l, a, w => if Region.wanted o (yielded ops a.tmps) then o.wp P a w (fun a' w' => C w' ∧ wpForced P ops Q C R l a' w') Q ∨ (o.asks P a w ∧ LetsOut Q) else C w ∧ wpForced P ops Q C R l (a.put o.dst undef) w

theorem wpForced_nil {R : Act → World → Prop} {a : Act} {w : World} (h : R a w) : wpForced P ops Q C R [] a w := h
theorem wpForced_cons {R : Act → World → Prop} {o : Oper} {l : List Oper} {a : Act} {w : World} (hg : o.guard = none)
    (h : ∀ K : Act → World → Prop, Hid (∀ a' w', C w' → wpForced P ops Q C R l a' w' → K a' w') → wpList P ops (Exit.then K Q) [o] a w) : wpForced P ops Q C R (o :: l) a w := by
  have h1 := h (fun a' w' => C w' ∧ wpForced P ops Q C R l a' w') (fun a' w' h1 h2 => ⟨h1, h2⟩)
  have hw : Region.wanted o (yielded ops a.tmps) = true := by simp [Region.wanted, hg]
  unfold wpForced
  unfold wpList at h1
  rw [if_pos hw] at h1 ⊢
  exact h1

def forcedTo (md : Region.Mode) (ops : Array Oper) (L : Array Bool) : Nat → Nat → Array Bool → Bool
  | 0, _, listed => decide (listed = L)
  | fuel + 1, k, listed => decide (Region.ready md ops listed = [k]) && forcedTo md ops L fuel (k + 1) (listed.setIfInBounds k true)
def lexMix (md : Region.Mode) (ops : Array Oper) (L : Array Bool) (m2 : Nat) : Nat → Nat → Array Bool → Bool
  | 0, k, listed => forcedTo md ops L (m2 - k) k listed
  | fuel + 1, k, listed => (Region.ready md ops listed).contains k && Region.free md ops listed k && ((ops[k]?).map fun o => valueOp o.op).getD false && lexMix md ops L m2 fuel (k + 1) (listed.setIfInBounds k true)

theorem wpAnyU_forced {R : Act → World → Prop} {L : Array Bool} : ∀ (l : List Oper) (k : Nat) (listed : Array Bool) (a : Act) (w : World), (∀ j, j < l.length → l[j]? = ops[k + j]?) →
    forcedTo md ops L l.length k listed = true → wpForced P ops Q C R l a w → wpAnyU P md ops Q C L R l.length listed a w
  | [], _, _, _, _, _, hB, h => ⟨by simpa [forcedTo] using hB, h⟩
  | o :: l, k, listed, a, w, hl, hB, h => by
    have h0 : ops[k]? = some o := by simpa using (hl 0 (by simp)).symm
    simp only [List.length_cons, forcedTo, Bool.and_eq_true, decide_eq_true_eq] at hB
    refine ⟨by rw [hB.1]; simp, fun i hi => ?_⟩
    rw [hB.1] at hi
    simp only [List.mem_singleton] at hi
    subst hi
    have h1 : wpOp P ops Q i (fun a' w' => C w' ∧ wpForced P ops Q C R l a' w') a w := by unfold wpOp; simp only [h0]; exact h
    exact wpOp_mono (fun a' w' h' => ⟨h'.1, wpAnyU_forced l (i + 1) _ a' w' (fun j hj => by have := hl (j + 1) (by simpa using hj); simpa [Nat.add_assoc, Nat.add_comm 1 j] using this) hB.2 h'.2⟩) h1

theorem wpAnyU_lex {R : Act → World → Prop} {L : Array Bool} {m m2 : Nat} {w : World} (hw : C w) (hs : Region.noSelect ops = true) (hQ : ∀ c a d v w, Q (.panic c) (Act.put a d v) w → Q (.panic c) a w) (hL : ∀ j ∈ Region.ready md ops L, j = m) (hwt : waitsAll md ops m = true)
    (l2 : List Oper) (hm2 : m2 ≤ m) (k2 : Nat) (hk2 : ∀ j, j < l2.length → l2[j]? = ops[k2 + j]?) (hl2 : l2.length = m2 - k2) : ∀ (l : List Oper) (k : Nat) (listed : Array Bool) (a : Act), k + l.length = k2 → k2 ≤ m2 → (∀ j, j < l.length → l[j]? = ops[k + j]?) →
    lexMix md ops L m2 l.length k listed = true → wpQuiet P ops C (fun a' => wpForced P ops Q C R l2 a' w) l a → wpAnyU P md ops Q C L R (l2.length + l.length) listed a w
  | [], k, listed, a, hk, _, _, hB, h => by
    simp only [List.length_nil, Nat.add_zero] at hk ⊢
    subst hk
    simp only [List.length_nil, lexMix] at hB
    rw [← hl2] at hB
    exact wpAnyU_forced l2 k listed a w hk2 hB h
  | o :: l, k, listed, a, hk, hkm, hl, hB, h => by
    have h0 : ops[k]? = some o := by simpa using (hl 0 (by simp)).symm
    simp only [List.length_cons, lexMix, Bool.and_eq_true] at hB
    obtain ⟨⟨⟨hr, hf⟩, hv⟩, hB'⟩ := hB
    rw [h0] at hv
    simp only [Option.map_some, Option.getD_some] at hv
    have hst : qOp P ops C k (wpQuiet P ops C (fun a' => wpForced P ops Q C R l2 a' w) l) a := by unfold qOp; simp only [h0]; exact h
    obtain ⟨v, hy, hK⟩ := yieldsIn_of_qOp h0 hst
    refine wpAnyU_first h0 (Region.noSelect_spec hs) (fun c a w => hQ c a _ _ w) hL (fun om hom => ?_) (l2.length + l.length) listed a w (Region.free_spec h0 hf) (by simpa using hr) (yieldsIf_of_in hv hy) hw
      (wpAnyU_lex hw hs hQ hL hwt l2 hm2 k2 hk2 hl2 l (k + 1) _ _ (by simp at hk; omega) hkm (fun j hj => by have := hl (j + 1) (by simpa using hj); simpa [Nat.add_assoc, Nat.add_comm 1 j] using this) hB' hK)
    unfold waitsAll at hwt
    rw [List.all_eq_true] at hwt
    have := hwt k (List.mem_range.2 (by simp at hk; omega))
    rw [hom] at this
    simp only [Array.any_eq_true', Bool.and_eq_true, beq_iff_eq] at this
    obtain ⟨e, he, hb, heq⟩ := this
    exact ⟨e, he, hb, heq⟩

/-- The kernel's look at a region that is parted behind its first m1 and its first m2 operations. -/
def mixB (md : Region.Mode) (ops : Array Oper) (m1 m2 : Nat) : Bool :=
  let L := (Array.range ops.size).map fun i => decide (i < m2)
  Region.noSelect ops && (Region.ready md ops L).all (· == m2) && waitsAll md ops m2 && lexMix md ops L m2 m1 0 (Array.replicate ops.size false) && forcedB md ops (ops.size - m2) m2 L

theorem wp_region_mix {id : Nat} {a : Act} {w : World} {l : List Oper} (C : World → Prop) (m1 m2 : Nat) (hm : P.follows .mixedOrders = true) (h12 : m1 ≤ m2) (hml : m2 ≤ l.length) (hB : mixB .any l.toArray m1 m2 = true) (hQ : ∀ c a d v w, Q (.panic c) (Act.put a d v) w → Q (.panic c) a w) (hC : C w.drew)
    (h : wpQuiet P l.toArray C (fun a' => wpForced P l.toArray Q C (fun a'' w'' => wpList P l.toArray Q (l.drop m2) a'' w'') ((l.drop m1).take (m2 - m1)) a' w.drew) (l.take m1) a) : (Code.region id l.toArray true).wp P Q a w := by
  simp only [mixB, Bool.and_eq_true] at hB
  obtain ⟨⟨⟨⟨h1, h2⟩, h3⟩, h4⟩, h5⟩ := hB
  refine wp_region_any hm ?_
  have hlen : (l.take m1).length = m1 := by simp; omega
  have hmid : ((l.drop m1).take (m2 - m1)).length = m2 - m1 := by simp; omega
  have hdrop : (l.drop m2).length = l.length - m2 := by simp
  have hT := wpAnyU_lex (P := P) (Q := Q) (C := C) (md := .any) hC h1 hQ (fun j hj => by
    rw [List.all_eq_true] at h2
    simpa using h2 j hj) h3 ((l.drop m1).take (m2 - m1)) (Nat.le_refl _) m1 (fun j hj => by
      rw [List.getElem?_take]
      have : j < m2 - m1 := by omega
      simp [this]) hmid (l.take m1) 0 (Array.replicate l.toArray.size false) a (by omega) h12 (fun j hj => by
      rw [List.getElem?_take]
      have : j < m1 := by omega
      simp [this]) (by rw [hlen]; exact h4) h
  have := wpAny_of_U (Q := Q) (f := (l.drop m2).length) (fun a' w' hR => wpAny_forced (md := .any) (l.drop m2) m2 _ a' w' (fun j hj => by simp) (by rw [hdrop]; simpa using h5) hR) _ _ a _ hT
  have e : (l.drop m2).length + (((l.drop m1).take (m2 - m1)).length + (l.take m1).length) = l.toArray.size := by simp; omega
  rw [e] at this
  exact this
end

/-- A world that meets S. -/
structure Sw (S : World → Prop) where
  at' : World
  ok : S at'
theorem wp_region_sw {P : Program} {Q : Exit → Act → World → Prop} {id : Nat} {a : Act} {w : World} {l : List Oper} (S : World → Prop) (m1 m2 : Nat) (hm : P.follows .mixedOrders = true) (h12 : m1 ≤ m2) (hml : m2 ≤ l.length) (hB : mixB .any l.toArray m1 m2 = true) (hQ : ∀ c a d v w, Q (.panic c) (Act.put a d v) w → Q (.panic c) a w) (hS : S w.drew)
    (h : wpQuiet P l.toArray (fun w' => ∃ x : Sw S, w' = x.at') (fun a' => wpForced P l.toArray Q (fun w' => ∃ x : Sw S, w' = x.at') (fun a'' w'' => wpList P l.toArray Q (l.drop m2) a'' w'') ((l.drop m1).take (m2 - m1)) a' w.drew) (l.take m1) a) : (Code.region id l.toArray true).wp P Q a w :=
  wp_region_mix (fun w' => ∃ x : Sw S, w' = x.at') m1 m2 hm h12 hml hB hQ ⟨⟨w.drew, hS⟩, rfl⟩ h
theorem sw_ok {S : World → Prop} {w : World} (h : S w) : ∃ x : Sw S, w = x.at' := ⟨⟨w, h⟩, rfl⟩
end Go.Proofs.YtgjamikmjknlfaaDoor
