/-
  The plain side of decimal figures: no Go in sight.
-/
import Derived.Test.YtehkebdncfljmaaRvm
import Derived.Test.YtehkebdncfljmaaDci
namespace Go.Proofs.Ytehkebdncfljmaa
open Go Go.RowKit

theorem decI_ne : ∀ (f n : Nat), n ≤ f → decI n ≠ []
  | 0, n, h => by rw [decI_one (by omega)]; simp
  | f + 1, n, h => by
    by_cases hn : n < 10
    · rw [decI_one hn]; simp
    · rw [decI_more hn]; simp
theorem decI_head : ∀ (f n : Nat) (t : List Int), n ≤ f → decI n = 48 :: t → n = 0
  | 0, n, t, h, e => by omega
  | f + 1, n, t, h, e => by
    by_cases hn : n < 10
    · rw [decI_one hn] at e
      simp at e
      omega
    · rw [decI_more hn] at e
      match hd : decI (n / 10) with
      | [] => exact absurd hd (decI_ne _ _ (Nat.le_refl _))
      | x :: t' =>
        rw [hd] at e
        simp at e
        obtain ⟨rfl, _⟩ := e
        have := decI_head f (n / 10) t' (by omega) hd
        omega
theorem decI_range : ∀ (f n : Nat), n ≤ f → ∀ x ∈ decI n, 0 ≤ x ∧ x < 256
  | 0, n, h, x, hx => by
    rw [decI_one (by omega)] at hx
    simp at hx; omega
  | f + 1, n, h, x, hx => by
    by_cases hn : n < 10
    · rw [decI_one hn] at hx
      simp at hx; omega
    · rw [decI_more hn] at hx
      rcases List.mem_append.1 hx with hx | hx
      · exact decI_range f (n / 10) (by omega) x hx
      · simp at hx; omega

/-- The number of figures. -/
def valD : List Nat → Nat := fun l => l.foldl (fun a d => 10 * a + d) 0
theorem valD_snoc (l : List Nat) (d : Nat) : valD (l ++ [d]) = 10 * valD l + d := by simp [valD, List.foldl_append]
theorem valD_lt (l : List Nat) : (∀ d ∈ l, d < 10) → valD l < 10 ^ l.length := by
  have h : ∀ (n : Nat) (l : List Nat), l.length = n → (∀ d ∈ l, d < 10) → valD l < 10 ^ l.length := by
    intro n
    induction n with
    | zero => intro l hl _; have : l = [] := List.eq_nil_of_length_eq_zero hl; subst this; simp [valD]
    | succ n ih =>
      intro l hl hd
      have hne : l ≠ [] := by intro e; subst e; simp at hl
      have e := List.dropLast_concat_getLast hne
      rw [← e, valD_snoc]
      have h1 := ih l.dropLast (by simp; omega) (fun d hd' => hd d (List.dropLast_subset l hd'))
      have h2 := hd (l.getLast hne) (List.getLast_mem hne)
      simp only [List.length_append, List.length_cons, List.length_nil, Nat.zero_add, Nat.pow_succ]
      omega
  exact h _ l rfl

def figs (l : List Nat) : List Int := l.map fun (d : Nat) => 48 + Int.ofNat d

theorem valD_pos : ∀ (l : List Nat) (x : Nat) , x ≠ 0 → 0 < valD (x :: l) := by
  intro l x hx
  have h : ∀ (l : List Nat) (a : Nat), 0 < a → 0 < l.foldl (fun a d => 10 * a + d) a := by
    intro l
    induction l with
    | nil => intro a ha; simpa using ha
    | cons y l ih => intro a ha; simp only [List.foldl_cons]; exact ih _ (by omega)
  simp only [valD, List.foldl_cons]
  exact h l _ (by omega)

/-- Figures without a needless nought are those of their number. -/
theorem decI_valD (n : Nat) : ∀ (l : List Nat), l.length = n → l ≠ [] → (∀ d ∈ l, d < 10) → (l.length = 1 ∨ l.head? ≠ some 0) → decI (valD l) = figs l := by
  induction n with
  | zero => intro l hl hne; exact absurd (List.eq_nil_of_length_eq_zero hl) hne
  | succ n ih =>
    intro l hl hne hd hz
    have e := List.dropLast_concat_getLast hne
    have h2 := hd (l.getLast hne) (List.getLast_mem hne)
    rw [← e, valD_snoc]
    by_cases hn : n = 0
    · subst hn
      have : l.dropLast = [] := List.eq_nil_of_length_eq_zero (by simp; omega)
      rw [this]
      simp only [valD, List.foldl_nil, Nat.mul_zero, Nat.zero_add, List.nil_append]
      rw [decI_one h2]
      rfl
    · have hne2 : l.dropLast ≠ [] := by intro e'; have := congrArg List.length e'; simp at this; omega
      match hl' : l.dropLast with
      | [] => exact absurd hl' hne2
      | x :: t =>
        have hx : x ≠ 0 := by
          intro e0; subst e0
          rcases hz with hz | hz
          · omega
          · apply hz
            rw [← e, hl']
            rfl
        have hpos := valD_pos t x hx
        have h1 := ih l.dropLast (by simp; omega) hne2 (fun d hd' => hd d (List.dropLast_subset l hd')) (by rw [hl']; right; simpa using hx)
        rw [hl'] at h1
        rw [decI_more (by omega), show (10 * valD (x :: t) + l.getLast hne) / 10 = valD (x :: t) by omega, h1]
        simp only [figs, List.map_append, List.map_cons, List.map_nil, Int.ofNat_eq_natCast]
        congr 2
        omega

theorem decI_valD_not (l : List Nat) (hl : 1 < l.length) (hz : l.head? = some 0) : decI (valD l) ≠ figs l := by
  match l, hl, hz with
  | x :: y :: t, _, hz =>
    simp at hz
    subst hz
    intro e
    have h0 := decI_head _ _ _ (Nat.le_refl _) (show decI (valD (0 :: y :: t)) = 48 :: figs (y :: t) from e)
    rw [h0, decI_one (by omega)] at e
    have := congrArg List.length e
    simp [figs] at this
end Go.Proofs.Ytehkebdncfljmaa
