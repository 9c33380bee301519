/-
  What begins, ends or is cleared keeps a run right: plain facts. What FnOrder asks of a right plan's order, plain: what a task is after stands ahead of it, what is behind it stands behind it. A right plan's order is what its runs want: plain facts.
-/
import Derived.Test.YtjmclcjhimcehaaGreatDoorG20
import Derived.Test.YtjmclcjhimcehaaGreatDoorG19
namespace Go.Proofs.YtjmclcjhimcehaaGreatDoor
open Go Go.RowKit
set_option linter.unusedVariables false

/-- What a right plan's order is to its runs. -/
structure Grf (ts : List Ta) : Prop where
  nd : (orderL ts).Nodup
  all : ∀ k : Nat, k < ts.length → (k : Int) ∈ orderL ts
  pl : ∀ x ∈ orderL ts, ∃ k : Nat, k < ts.length ∧ x = (k : Int)
  ahead : ∀ (k j : Nat), (orderL ts)[k]? = some (j : Int) → ∀ u ∈ upsA ts (j : Int), u ∈ (orderL ts).take k
  ups : ∀ (a u : Int), u ∈ upsA ts a → ∃ k : Nat, k < ts.length ∧ u = (k : Int)
  ret : ∀ k : Nat, k < ts.length → 0 ≤ retN ts k ∧ retN ts k ≤ 3
  down : ∀ (k : Nat) (i u : Int), k < ts.length → u ∈ upsA ts (k : Int) → (u = i ∨ u ∈ downC ts i) → (k : Int) ∈ downC ts i
theorem stuck_ne {st : List Sa} {i : Nat} {x : Sa} {u : Int} (h : u ≠ (i : Int)) : stuckB (st.set i x) u = stuckB st u := by
  unfold stuckB; rw [isN_set_ne h, isN_set_ne h]
theorem stuck_at {st : List Sa} {u : Int} (h : stuckB st u = true) : ∃ (k : Nat) (x : Sa), u = (k : Int) ∧ st[k]? = some x ∧ (x.is = 3 ∨ x.is = 4) := by
  unfold stuckB at h
  rw [Bool.or_eq_true] at h
  rcases h with h | h
  · obtain ⟨k, x, e, hx, hs⟩ := isN_true h; exact ⟨k, x, e, hx, .inl hs⟩
  · obtain ⟨k, x, e, hx, hs⟩ := isN_true h; exact ⟨k, x, e, hx, .inr hs⟩
theorem stuck_of {st : List Sa} {k : Nat} {x : Sa} (hx : st[k]? = some x) (h : x.is = 3 ∨ x.is = 4) : stuckB st (k : Int) = true := by
  unfold stuckB
  rw [isN_in hx, isN_in hx]
  rcases h with h | h
  · rw [decide_eq_true h]; rfl
  · rw [decide_eq_true h]; simp
/-- One state among others, told by parts. -/
structure OkS (ts : List Ta) (st : List Sa) (i : Nat) (x : Sa) : Prop where
  right : saB x (retN ts i) = true
  few : 0 ≤ x.is ∧ x.is ≤ 4
  done : x.is = 1 ∨ x.is = 2 → ∀ u ∈ upsA ts (i : Int), isN st u 2 = true
  stuck : x.is = 4 → ∃ u ∈ upsA ts (i : Int), stuckB st u = true
/-- One state of a right run is another, which is neither done nor stuck where it was not done. -/
theorem OkS.other {ts : List Ta} {st : List Sa} {i j : Nat} {x y z : Sa} (h : OkS ts st j y) (hi : st[i]? = some x) (hd : x.is = 2 → z.is = 2) (hs : x.is = 3 ∨ x.is = 4 → z.is = 3 ∨ z.is = 4) : OkS ts (st.set i z) j y := by
  have hil := (List.getElem?_eq_some_iff.1 hi).1
  refine ⟨h.right, h.few, fun hq u hu => ?_, fun hq => ?_⟩
  · have h1 := h.done hq u hu
    by_cases hui : u = (i : Int)
    · subst hui
      rw [isN_in hi] at h1
      rw [isN_set_self hil]
      exact decide_eq_true (hd (of_decide_eq_true h1))
    · rw [isN_set_ne hui]; exact h1
  · obtain ⟨u, hu, h1⟩ := h.stuck hq
    refine ⟨u, hu, ?_⟩
    by_cases hui : u = (i : Int)
    · subst hui
      obtain ⟨k, x', e, hx', h2⟩ := stuck_at h1
      have : i = k := by omega
      subst this
      rw [hi] at hx'
      cases hx'
      exact stuck_of (List.getElem?_set_self hil) (hs h2)
    · rw [stuck_ne hui]; exact h1
end Go.Proofs.YtjmclcjhimcehaaGreatDoor

namespace Go.Proofs.YtjmclcjhimcehaaGreatDoor
open Go Go.RowKit
set_option linter.unusedVariables false

end Go.Proofs.YtjmclcjhimcehaaGreatDoor

namespace Go.Proofs.YtjmclcjhimcehaaGreatDoor
open Go Go.RowKit
set_option linter.unusedVariables false

theorem ret_of {d : Dg} (h : dagB d = true) {k : Nat} {t : Ta} (ht : d.tasks[k]? = some t) : 0 ≤ t.ret ∧ t.ret ≤ 3 := by
  unfold dagB at h
  simp only [Bool.and_eq_true, decide_eq_true_eq] at h
  obtain ⟨_, _, _, _, _, _, h3, _⟩ := h
  have := (tasksB_iff d.tasks 0 rfl).1 h3 k t (Nat.zero_le _) ht
  unfold taskB at this
  simp only [Bool.and_eq_true, decide_eq_true_eq] at this
  exact this.2.2.2.1
end Go.Proofs.YtjmclcjhimcehaaGreatDoor
