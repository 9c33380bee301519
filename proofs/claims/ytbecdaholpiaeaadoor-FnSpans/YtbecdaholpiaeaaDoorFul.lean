/-
  Rising lists that are full: plain facts.
-/
import Derived.Test.YtbecdaholpiaeaaDoorNfp
namespace Go.Proofs.YtbecdaholpiaeaaDoor
open Go Go.RowKit

/-- Two rising lists with the same numbers are one. -/
theorem rise_ext : ∀ (l m : List Int), l.Pairwise (· < ·) → m.Pairwise (· < ·) → (∀ x, x ∈ l ↔ x ∈ m) → l = m
  | [], [], _, _, _ => rfl
  | [], y :: m, _, _, h => absurd ((h y).2 (List.mem_cons_self ..)) List.not_mem_nil
  | x :: l, [], _, _, h => absurd ((h x).1 (List.mem_cons_self ..)) List.not_mem_nil
  | x :: l, y :: m, hl, hm, h => by
    have hl1 := List.pairwise_cons.1 hl
    have hm1 := List.pairwise_cons.1 hm
    have hxy : x = y := by
      rcases List.mem_cons.1 ((h x).1 (List.mem_cons_self ..)) with e | e
      · exact e
      · rcases List.mem_cons.1 ((h y).2 (List.mem_cons_self ..)) with e2 | e2
        · exact e2.symm
        · have := hl1.1 y e2
          have := hm1.1 x e
          omega
    subst hxy
    congr 1
    refine rise_ext l m hl1.2 hm1.2 fun z => ⟨fun hz => ?_, fun hz => ?_⟩
    · rcases List.mem_cons.1 ((h z).1 (List.mem_cons_of_mem _ hz)) with e | e
      · subst e; exact absurd (hl1.1 z hz) (by omega)
      · exact e
    · rcases List.mem_cons.1 ((h z).2 (List.mem_cons_of_mem _ hz)) with e | e
      · subst e; exact absurd (hm1.1 z hz) (by omega)
      · exact e
theorem low_at {lo : Int} : ∀ (l : List Int) (i : Nat) (x : Int), l.Pairwise (· < ·) → (∀ y ∈ l, lo ≤ y) → l[i]? = some x → lo + i ≤ x
  | [], i, x, _, _, h => by simp at h
  | y :: r, 0, x, _, hl, h => by simp at h; subst h; have := hl y (List.mem_cons_self ..); omega
  | y :: r, i + 1, x, hr, hl, h => by
    have hp := List.pairwise_cons.1 hr
    have := low_at (lo := lo + 1) r i x hp.2 (fun z hz => by have := hp.1 z hz; have := hl y (List.mem_cons_self ..); omega) (by simpa using h)
    omega
theorem high_at {hi : Int} : ∀ (l : List Int) (i : Nat) (x : Int), l.Pairwise (· < ·) → (∀ y ∈ l, y ≤ hi) → l[i]? = some x → x + (l.length - 1 - i : Nat) ≤ hi
  | [], i, x, _, _, h => by simp at h
  | y :: r, 0, x, hr, hl, h => by
    simp at h; subst h
    have hp := List.pairwise_cons.1 hr
    cases r with
    | nil => have := hl y (List.mem_cons_self ..); simp; omega
    | cons z r =>
      have h1 := high_at (z :: r) 0 z hp.2 (fun u hu => hl u (List.mem_cons_of_mem _ hu)) rfl
      have h2 := hp.1 z (List.mem_cons_self ..)
      simp only [List.length_cons] at h1 ⊢
      omega
  | y :: r, i + 1, x, hr, hl, h => by
    have hp := List.pairwise_cons.1 hr
    have := high_at r i x hp.2 (fun u hu => hl u (List.mem_cons_of_mem _ hu)) (by simpa using h)
    simp only [List.length_cons]
    omega
/-- A rising list of as many numbers as the field has, has all. -/
theorem full_list {lo hi : Int} {l : List Int} (hl : ∀ x ∈ l, lo ≤ x ∧ x ≤ hi) (hr : l.Pairwise (· < ·)) (hn : (l.length : Int) = hi - lo + 1) {x : Int} (h0 : lo ≤ x) (h1 : x ≤ hi) : x ∈ l := by
  have hi' : (x - lo).toNat < l.length := by omega
  have hg : l[(x - lo).toNat]? = some l[(x - lo).toNat] := List.getElem?_eq_getElem hi'
  have a := low_at l _ _ hr (fun y hy => (hl y hy).1) hg
  have b := high_at l _ _ hr (fun y hy => (hl y hy).2) hg
  have e : l[(x - lo).toNat] = x := by omega
  rw [← e]
  exact List.getElem_mem hi'
theorem list_len {lo hi : Int} {l : List Int} (hB : listB lo hi l = true) : (l.length : Int) ≤ hi - lo + 1 := by
  obtain ⟨hl, hr, hn⟩ := listB_up hB
  have hg : l[0]? = some l[0] := List.getElem?_eq_getElem hn
  have a := high_at l 0 _ hr (fun y hy => (hl y hy).2) hg
  have b := (hl _ (List.getElem_mem hn)).1
  omega
theorem rise_of {lo hi : Int} : ∀ (l : List Int) (p : Option Int), l.Pairwise (· < ·) → (∀ x ∈ l, lo ≤ x ∧ x ≤ hi) → (∀ y, p = some y → ∀ x ∈ l, y < x) → riseB lo hi p l = true
  | [], _, _, _, _ => rfl
  | x :: r, p, hr, hl, hp => by
    have h1 := List.pairwise_cons.1 hr
    have hx := hl x (List.mem_cons_self ..)
    unfold riseB
    rw [rise_of r (some x) h1.2 (fun y hy => hl y (List.mem_cons_of_mem _ hy)) (fun y hy z hz => by cases hy; exact h1.1 z hz), decide_eq_true hx.1, decide_eq_true hx.2]
    cases p with
    | none => rfl
    | some y => simp [hp y rfl x (List.mem_cons_self ..)]
end Go.Proofs.YtbecdaholpiaeaaDoor
