/-
  What runs on a board: plain facts.
-/
import Derived.Test.YtjmclcjhimcehaaPat
namespace Go.Proofs.Ytjmclcjhimcehaa
open Go Go.RowKit
set_option linter.unusedVariables false

def stAt (rs : List Rr) (k : Nat) : List Sa := ((rs[k]?).map (·.st)).getD []
def nmAt (rs : List Rr) (k : Nat) : ByteArray := ((rs[k]?).map (·.nm)).getD ⟨#[]⟩
theorem stAt_at {rs : List Rr} {k : Nat} {r : Rr} (h : rs[k]? = some r) : stAt rs k = r.st := by unfold stAt; rw [h]; rfl
theorem nmAt_at {rs : List Rr} {k : Nat} {r : Rr} (h : rs[k]? = some r) : nmAt rs k = r.nm := by unfold nmAt; rw [h]; rfl
theorem stAt_le {rs : List Rr} {M : Nat} (h : ∀ r ∈ rs, r.st.length ≤ M) (k : Nat) : (stAt rs k).length ≤ M := by
  unfold stAt
  cases hk : rs[k]? with
  | none => exact Nat.zero_le _
  | some r => exact h r (List.mem_of_getElem? hk)
/-- The places below one that run. -/
def runI (st : List Sa) (j : Nat) : List Nat := (List.range j).filter fun i => isN st (i : Int) 1
theorem runI_succ (st : List Sa) (j : Nat) : runI st (j + 1) = runI st j ++ if isN st (j : Int) 1 then [j] else [] := by
  unfold runI
  rw [List.range_succ, List.filter_append]
  congr 1
  cases h : isN st (j : Int) 1 <;> simp [h]
theorem runI_len (st : List Sa) (j : Nat) : (runI st j).length ≤ j := by
  have := List.length_filter_le (fun i : Nat => isN st (i : Int) 1) (List.range j)
  rw [List.length_range] at this
  exact this
/-- The places of all that runs, of the runs ahead of k and of run k below j. -/
def rpA (rs : List Rr) (k : Nat) : List (Nat × Nat) := (List.range k).flatMap fun m => (runI (stAt rs m) (stAt rs m).length).map fun i => (m, i)
def rpTo (rs : List Rr) (k j : Nat) : List (Nat × Nat) := rpA rs k ++ (runI (stAt rs k) j).map fun i => (k, i)
def rp (rs : List Rr) : List (Nat × Nat) := rpA rs rs.length
theorem rpTo_zero (rs : List Rr) (k : Nat) : rpTo rs k 0 = rpA rs k := by unfold rpTo runI; simp
theorem rpTo_on {rs : List Rr} {k j : Nat} (h : isN (stAt rs k) (j : Int) 1 = true) : rpTo rs k (j + 1) = rpTo rs k j ++ [(k, j)] := by
  unfold rpTo
  rw [runI_succ, h, if_pos rfl, List.map_append, ← List.append_assoc]
  rfl
theorem rpTo_off {rs : List Rr} {k j : Nat} (h : isN (stAt rs k) (j : Int) 1 = false) : rpTo rs k (j + 1) = rpTo rs k j := by
  unfold rpTo
  rw [runI_succ, h, if_neg (by decide), List.append_nil]
theorem rpTo_row {rs : List Rr} {k j : Nat} (h : (stAt rs k).length = j) : rpTo rs (k + 1) 0 = rpTo rs k j := by
  rw [rpTo_zero]
  unfold rpA rpTo
  rw [List.range_succ, List.flatMap_append, ← h]
  unfold rpA
  simp
theorem rpA_len {rs : List Rr} {M : Nat} (h : ∀ m, (stAt rs m).length ≤ M) : ∀ k, (rpA rs k).length ≤ k * M
  | 0 => by simp [rpA]
  | k + 1 => by
    have ih := rpA_len h k
    have e : rpA rs (k + 1) = rpTo rs k (stAt rs k).length := by rw [← rpTo_row rfl, rpTo_zero]
    rw [e]
    unfold rpTo
    rw [List.length_append, List.length_map]
    have h1 := runI_len (stAt rs k) (stAt rs k).length
    have h2 := h k
    rw [Nat.add_mul]
    omega
theorem rpTo_len {rs : List Rr} {M : Nat} (h : ∀ m, (stAt rs m).length ≤ M) (k j : Nat) : (rpTo rs k j).length ≤ k * M + j := by
  unfold rpTo
  rw [List.length_append, List.length_map]
  have h1 := runI_len (stAt rs k) j
  have h2 := rpA_len h k
  omega
/-- How many are so. -/
def cnt {α : Type} (q : α → Bool) (l : List α) : Nat := (l.filter q).length
theorem cnt_le {α : Type} (q : α → Bool) (l : List α) : cnt q l ≤ l.length := List.length_filter_le _ _
theorem cnt_snoc {α : Type} (q : α → Bool) (l : List α) (x : α) : cnt q (l ++ [x]) = cnt q l + if q x then 1 else 0 := by
  unfold cnt
  rw [List.filter_append, List.length_append]
  cases h : q x <;> simp [h]
def actQ (rs : List Rr) (s : ByteArray) : Nat × Nat → Bool := fun p => decide (nmAt rs p.1 = s)
def actN (rs : List Rr) (s : ByteArray) : Int := cnt (actQ rs s) (rp rs)
/-- The pool of a task of the plan of a name. -/
def poolOf (ps : List Po) (nm : ByteArray) (i : Nat) : Option ByteArray := (ps.find? fun p => decide (p.name = nm)).bind fun p => (p.tasks[i]?).map (·.pool)
def useQ (ps : List Po) (rs : List Rr) (s : ByteArray) : Nat × Nat → Bool := fun p => decide (poolOf ps (nmAt rs p.1) p.2 = some s)
def useN (ps : List Po) (rs : List Rr) (s : ByteArray) : Int := cnt (useQ ps rs s) (rp rs)
theorem idxG_find {α : Type} (q : α → Bool) : ∀ (l : List α) (k : Nat), (l.find? q = none ∧ idxG q k l = -1) ∨ ∃ (j : Nat) (x : α), l[j]? = some x ∧ l.find? q = some x ∧ idxG q k l = ((k + j : Nat) : Int)
  | [], k => .inl ⟨rfl, rfl⟩
  | x :: r, k => by
    cases h : q x with
    | true => exact .inr ⟨0, x, rfl, by simp [h], by unfold idxG; rw [h]; simp⟩
    | false =>
      rcases idxG_find q r (k + 1) with ⟨h1, h2⟩ | ⟨j, y, h1, h2, h3⟩
      · exact .inl ⟨by simp [h, h1], by unfold idxG; rw [h]; simpa using h2⟩
      · exact .inr ⟨j + 1, y, by simpa using h1, by simp [h, h2], by unfold idxG; rw [h]; simp only [Bool.false_eq_true, if_false]; rw [h3]; congr 1; omega⟩
theorem plan_find (ps : List Po) (s : ByteArray) : (ps.find? (fun p => decide (p.name = s)) = none ∧ planIx ps s = -1) ∨ ∃ (j : Nat) (x : Po), ps[j]? = some x ∧ ps.find? (fun p => decide (p.name = s)) = some x ∧ planIx ps s = (j : Int) := by
  rcases idxG_find (fun p : Po => decide (p.name = s)) ps 0 with h | ⟨j, x, h1, h2, h3⟩
  · exact .inl h
  · exact .inr ⟨j, x, h1, h2, by unfold planIx; rw [h3]; simp⟩
end Go.Proofs.Ytjmclcjhimcehaa
