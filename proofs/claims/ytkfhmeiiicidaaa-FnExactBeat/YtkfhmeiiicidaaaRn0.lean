/-
  Runs: plain facts on states.
-/
import Derived.Test.YtkfhmeiiicidaaaRec
namespace Go.Proofs.Ytkfhmeiiicidaaa
open Go Go.RowKit
set_option linter.unusedVariables false

/-- The state of one task. -/
structure Sa where
  is : Int
  tries : Int
  tok : Int
  til : Int
instance : Inhabited Sa := ⟨⟨0, 0, 0, 0⟩⟩
/-- A run. -/
structure Rr where
  nm : ByteArray
  fr : Int
  up : Int
  ep : Int
  st : List Sa
def sAt (st : List Sa) (i : Nat) : Sa := (st[i]?).getD default
theorem sAt_at {st : List Sa} {i : Nat} {s : Sa} (h : st[i]? = some s) : sAt st i = s := by unfold sAt; rw [h]; rfl
theorem sAt_set_self {st : List Sa} {i : Nat} {s : Sa} (h : i < st.length) : sAt (st.set i s) i = s := sAt_at (List.getElem?_set_self h)
theorem sAt_set_ne {st : List Sa} {i j : Nat} {s : Sa} (h : i ≠ j) : sAt (st.set i s) j = sAt st j := by unfold sAt; rw [List.getElem?_set_ne h]
def isN (st : List Sa) (i s : Int) : Bool := decide (0 ≤ i) && (decide (i < (st.length : Int)) && decide ((sAt st i.toNat).is = s))
theorem isN_out {st : List Sa} {i : Int} (h : i < 0 ∨ (st.length : Int) ≤ i) (s : Int) : isN st i s = false := by
  unfold isN
  rcases h with h | h
  · rw [decide_eq_false (p := 0 ≤ i) (by omega)]; rfl
  · rw [decide_eq_false (p := i < (st.length : Int)) (by omega)]; simp
theorem isN_in {st : List Sa} {i : Nat} {x : Sa} (h : st[i]? = some x) (s : Int) : isN st (i : Int) s = decide (x.is = s) := by
  have hl := (List.getElem?_eq_some_iff.1 h).1
  unfold isN
  rw [Int.toNat_natCast, sAt_at h, decide_eq_true (p := (0 : Int) ≤ (i : Int)) (by omega), decide_eq_true (p := ((i : Nat) : Int) < (st.length : Int)) (by omega)]
  simp
theorem isN_true {st : List Sa} {i s : Int} (h : isN st i s = true) : ∃ (k : Nat) (x : Sa), i = (k : Int) ∧ st[k]? = some x ∧ x.is = s := by
  unfold isN at h
  rw [Bool.and_eq_true, Bool.and_eq_true, decide_eq_true_eq, decide_eq_true_eq, decide_eq_true_eq] at h
  obtain ⟨h0, h1, h2⟩ := h
  have hl : i.toNat < st.length := by omega
  refine ⟨i.toNat, st[i.toNat], by omega, List.getElem?_eq_getElem hl, ?_⟩
  rw [← h2, sAt_at (List.getElem?_eq_getElem hl)]
theorem isN_set_ne {st : List Sa} {i : Nat} {x : Sa} {a s : Int} (h : a ≠ (i : Int)) : isN (st.set i x) a s = isN st a s := by
  unfold isN
  rw [List.length_set]
  by_cases h0 : 0 ≤ a
  · rw [sAt_set_ne (by omega)]
  · rw [decide_eq_false h0]; rfl
theorem isN_set_self {st : List Sa} {i : Nat} {x : Sa} {s : Int} (h : i < st.length) : isN (st.set i x) (i : Int) s = decide (x.is = s) := isN_in (List.getElem?_set_self h) s
theorem isN_two {st : List Sa} {a s t : Int} (h : isN st a s = true) (hst : s ≠ t) : isN st a t = false := by
  obtain ⟨k, x, rfl, hx, hs⟩ := isN_true h
  rw [isN_in hx]
  exact decide_eq_false (by omega)
theorem range_all_succ (n : Nat) (p : Nat → Bool) : (List.range (n + 1)).all p = ((List.range n).all p && p n) := by
  rw [List.range_succ, List.all_append]; simp
theorem range_all_no {n i : Nat} {p : Nat → Bool} (hi : i < n) (h : p i = false) : (List.range n).all p = false := by
  cases hq : (List.range n).all p
  · rfl
  · rw [List.all_eq_true] at hq
    exact absurd (hq i (List.mem_range.2 hi)) (by rw [h]; decide)
def overB (st : List Sa) : Bool := (List.range st.length).all fun i => !(isN st (i : Int) 0 || isN st (i : Int) 1)
def beginS (st : List Sa) (i tok til : Int) : List Sa := st.set i.toNat ⟨1, (sAt st i.toNat).tries, tok, til⟩
def backN (n : Int) : Int := if n = 0 then 1 else if n = 1 then 2 else if n = 2 then 4 else 8
end Go.Proofs.Ytkfhmeiiicidaaa
