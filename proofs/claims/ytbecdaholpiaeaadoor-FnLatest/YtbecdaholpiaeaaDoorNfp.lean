/-
  When a rule fires: plain facts.
-/
import Derived.Test.YtbecdaholpiaeaaDoorCv
import Derived.Test.YtbecdaholpiaeaaDoorCrk
namespace Go.Proofs.YtbecdaholpiaeaaDoor
open Go Go.RowKit

theorem year_ex {D : Int} (h0 : 0 ≤ D) : ∀ k : Nat, D < yearN k → ∃ n : Nat, n < k ∧ yearN n ≤ D ∧ D < yearN (n + 1)
  | 0, h => by have : yearN ((0 : Nat) : Int) = 0 := rfl; omega
  | k + 1, h => by
    by_cases hk : D < yearN k
    · obtain ⟨n, h1, h2, h3⟩ := year_ex h0 k hk
      exact ⟨n, by omega, h2, h3⟩
    · exact ⟨k, by omega, by omega, h⟩
theorem month_ex {y x : Int} (h0 : 0 ≤ x) : ∀ k : Nat, k ≤ 12 → x < monN (leapB y) (k + 1) → ∃ m : Nat, 1 ≤ m ∧ m ≤ k ∧ monN (leapB y) m ≤ x ∧ x < monN (leapB y) m + daysB y m
  | 0, _, h => by rw [show ((0 : Nat) : Int) + 1 = 1 from rfl, monN_one] at h; omega
  | k + 1, hk, h => by
    by_cases hx : x < monN (leapB y) (k + 1)
    · obtain ⟨m, h1, h2, h3⟩ := month_ex h0 k (by omega) hx
      exact ⟨m, h1, by omega, h3⟩
    · have e := monN_next (y := y) (m := (k : Int) + 1) (by omega) (by omega)
      refine ⟨k + 1, by omega, Nat.le_refl _, ?_, ?_⟩
      · rw [show ((k + 1 : Nat) : Int) = (k : Int) + 1 by omega]; omega
      · rw [show ((k + 1 : Nat) : Int) = (k : Int) + 1 by omega] at h ⊢; omega
theorem civ_ex {m : Int} (h0 : 0 ≤ m) (h1 : m ≤ 68374079) : ∃ c, Right c ∧ minC c = m := by
  have e130 : yearN ((130 : Nat) : Int) = 47482 := rfl
  obtain ⟨n, hn, hy0, hy1⟩ := year_ex (D := m / 1440) (by omega) 130 (by omega)
  have e := yearN_next (n := (n : Int)) (by omega) (by omega)
  obtain ⟨k, hk0, hk1, hm0, hm1⟩ := month_ex (y := 1970 + n) (x := m / 1440 - yearN n) (by omega) 12 (Nat.le_refl _) (by rw [show ((12 : Nat) : Int) + 1 = 13 from rfl, monN_end]; omega)
  refine ⟨⟨1970 + n, k, m / 1440 - yearN n - monN (leapB (1970 + n)) k + 1, m % 1440 / 60, m % 1440 % 60⟩, ⟨by show 1970 ≤ 1970 + (n : Int); omega, by show 1970 + (n : Int) ≤ 2099; omega, by show (1 : Int) ≤ k; omega, by show (k : Int) ≤ 12; omega, by show 1 ≤ m / 1440 - yearN n - monN (leapB (1970 + n)) k + 1; omega, by show m / 1440 - yearN n - monN (leapB (1970 + n)) k + 1 ≤ daysB (1970 + n) k; omega, by show 0 ≤ m % 1440 / 60; omega, by show m % 1440 / 60 ≤ 23; omega, by show 0 ≤ m % 1440 % 60; omega, by show m % 1440 % 60 ≤ 59; omega⟩, ?_⟩
  show (yearN (1970 + n - 1970) + monN (leapB (1970 + n)) k + (m / 1440 - yearN n - monN (leapB (1970 + n)) k + 1) - 1) * 1440 + m % 1440 / 60 * 60 + m % 1440 % 60 = m
  rw [show 1970 + (n : Int) - 1970 = n by omega]
  have : yearN n + monN (leapB (1970 + n)) k + (m / 1440 - yearN n - monN (leapB (1970 + n)) k + 1) - 1 = m / 1440 := by omega
  rw [this]
  omega
open Classical in
/-- The day of a minute. -/
noncomputable def civ (m : Int) : Cv := if h : ∃ c, Right c ∧ minC c = m then Classical.choose h else ⟨0, 0, 0, 0, 0⟩
theorem civ_is {c : Cv} {m : Int} (hr : Right c) (hm : minC c = m) : civ m = c := by
  have hx : ∃ c, Right c ∧ minC c = m := ⟨c, hr, hm⟩
  unfold civ
  rw [dif_pos hx]
  have := Classical.choose_spec hx
  exact Right.one this.1 hr (this.2.trans hm.symm)
theorem civ_right {m : Int} (h0 : 0 ≤ m) (h1 : m ≤ 68374079) : Right (civ m) ∧ minC (civ m) = m := by
  obtain ⟨c, hr, hm⟩ := civ_ex h0 h1
  rw [civ_is hr hm]
  exact ⟨hr, hm⟩
/-- The day is the same all the day long. -/
theorem civ_day {m : Int} (h0 : 0 ≤ m) (h1 : m ≤ 68374079) : civ (m / 1440 * 1440) = ⟨(civ m).y, (civ m).mo, (civ m).d, 0, 0⟩ := by
  obtain ⟨hr, hm⟩ := civ_right h0 h1
  refine civ_is ⟨hr.y0, hr.y1, hr.m0, hr.m1, hr.d0, hr.d1, Int.le_refl _, by show (0 : Int) ≤ 23; decide, Int.le_refl _, by show (0 : Int) ≤ 59; decide⟩ ?_
  show dayC (civ m) * 1440 + 0 * 60 + 0 = _
  unfold minC at hm
  have := hr.h0
  have := hr.h1
  have := hr.i0
  have := hr.i1
  omega
theorem week_day {m : Int} (h0 : 0 ≤ m) (h1 : m ≤ 68374079) : weekN (m / 1440 * 1440) = weekN m := by
  unfold weekN
  rw [if_pos ⟨by omega, by omega⟩, if_pos ⟨h0, h1⟩]
  omega
/-- Whether the day of a minute is one of a rule's. -/
noncomputable def dayF (c d e : List Int) (m : Int) : Bool :=
  decide ((civ m).mo ∈ d) && (if c.length = 31 ∨ e.length = 7 then decide ((civ m).d ∈ c) && decide (weekN m ∈ e) else decide ((civ m).d ∈ c) || decide (weekN m ∈ e))
theorem dayF_day {c d e : List Int} {m : Int} (h0 : 0 ≤ m) (h1 : m ≤ 68374079) : dayF c d e (m / 1440 * 1440) = dayF c d e m := by
  unfold dayF
  rw [civ_day h0 h1, week_day h0 h1]
/-- When a right rule fires. -/
noncomputable def firesB (a b c d e : List Int) (m : Int) : Bool := decide (0 ≤ m ∧ m ≤ 68374079) && (decide (m % 60 ∈ a) && (decide (m % 1440 / 60 ∈ b) && dayF c d e m))
theorem fires_iff {a b c d e : List Int} {m : Int} : firesB a b c d e m = true ↔ (0 ≤ m ∧ m ≤ 68374079) ∧ m % 60 ∈ a ∧ m % 1440 / 60 ∈ b ∧ dayF c d e m = true := by
  unfold firesB
  simp only [Bool.and_eq_true, decide_eq_true_eq]

theorem riseB_up {lo hi : Int} : ∀ (l : List Int) (p : Option Int), riseB lo hi p l = true → (∀ x ∈ l, lo ≤ x ∧ x ≤ hi ∧ ∀ y, p = some y → y < x) ∧ l.Pairwise (· < ·)
  | [], _, _ => ⟨fun x hx => (by cases hx), List.Pairwise.nil⟩
  | x :: r, p, h => by
    unfold riseB at h
    simp only [Bool.and_eq_true, decide_eq_true_eq] at h
    obtain ⟨⟨⟨ha, hb⟩, hc⟩, hd⟩ := h
    obtain ⟨h1, h2⟩ := riseB_up r (some x) hd
    have hp : ∀ y, p = some y → y < x := by
      intro y hy
      subst hy
      simpa using hc
    refine ⟨fun z hz => ?_, List.Pairwise.cons (fun z hz => (h1 z hz).2.2 x rfl) h2⟩
    rcases List.mem_cons.1 hz with rfl | hz
    · exact ⟨ha, hb, hp⟩
    · have := h1 z hz
      exact ⟨this.1, this.2.1, fun y hy => Int.lt_trans (hp y hy) (this.2.2 x rfl)⟩
theorem listB_up {lo hi : Int} {l : List Int} (h : listB lo hi l = true) : (∀ x ∈ l, lo ≤ x ∧ x ≤ hi) ∧ l.Pairwise (· < ·) ∧ 0 < l.length := by
  unfold listB at h
  rw [Bool.and_eq_true] at h
  have := riseB_up l none h.2
  refine ⟨fun x hx => ⟨(this.1 x hx).1, (this.1 x hx).2.1⟩, this.2, ?_⟩
  cases l with
  | nil => simp at h
  | cons x r => simp
theorem up_lt {l : List Int} (h : l.Pairwise (· < ·)) {i j : Nat} {x y : Int} (hi : l[i]? = some x) (hj : l[j]? = some y) (hij : i < j) : x < y := by
  obtain ⟨h1, rfl⟩ := List.getElem?_eq_some_iff.1 hi
  obtain ⟨h2, rfl⟩ := List.getElem?_eq_some_iff.1 hj
  exact List.pairwise_iff_getElem.1 h i j h1 h2 hij

/-- The least minute from one on, below an end, when it fires: none, or this one. -/
def Least (f : Int → Bool) (from' upto : Int) : Option Int → Prop
  | none => ∀ m, from' ≤ m → m < upto → f m = false
  | some r => from' ≤ r ∧ r < upto ∧ f r = true ∧ ∀ m, from' ≤ m → m < r → f m = false
theorem Least.one {f : Int → Bool} {a b : Int} : ∀ {o p : Option Int}, Least f a b o → Least f a b p → o = p
  | none, none, _, _ => rfl
  | none, some r, h, k => absurd k.2.2.1 (by rw [h r k.1 k.2.1]; decide)
  | some r, none, h, k => absurd h.2.2.1 (by rw [k r h.1 h.2.1]; decide)
  | some r, some s, h, k => by
    rcases Int.lt_trichotomy r s with e | e | e
    · exact absurd h.2.2.1 (by rw [k.2.2.2 r h.1 e]; decide)
    · rw [e]
    · exact absurd k.2.2.1 (by rw [h.2.2.2 s k.1 e]; decide)

/-- All minutes of a day up to an hour and a minute of the lists are ahead of `from`. -/
def Past (a b : List Int) (D from' : Int) (i k : Nat) : Prop := ∀ (j l : Nat) (x y : Int), b[j]? = some x → a[l]? = some y → (j < i ∨ (j = i ∧ l < k)) → D * 1440 + x * 60 + y < from'
theorem past_start (a b : List Int) (D from' : Int) : Past a b D from' 0 0 := fun j l x y _ _ h => by omega
theorem Past.next {a b : List Int} {D from' x y : Int} {i k : Nat} (h : Past a b D from' i k) (hi : b[i]? = some x) (hk : a[k]? = some y) (hlt : D * 1440 + x * 60 + y < from') : Past a b D from' i (k + 1) := by
  intro j l u v hj hl hc
  by_cases hjl : j = i ∧ l = k
  · obtain ⟨rfl, rfl⟩ := hjl
    rw [hi] at hj
    rw [hk] at hl
    cases hj
    cases hl
    exact hlt
  · exact h j l u v hj hl (by omega)
theorem Past.row {a b : List Int} {D from' : Int} {i : Nat} (h : Past a b D from' i a.length) : Past a b D from' (i + 1) 0 := by
  intro j l u v hj hl hc
  have hl2 := (List.getElem?_eq_some_iff.1 hl).1
  exact h j l u v hj hl (by omega)
theorem fires_at {a b c d e : List Int} {m : Int} (hf : firesB a b c d e m = true) : ∃ (j l : Nat) (x y : Int), b[j]? = some x ∧ a[l]? = some y ∧ m = m / 1440 * 1440 + x * 60 + y := by
  obtain ⟨⟨h0, h1⟩, ha, hb, _⟩ := fires_iff.1 hf
  obtain ⟨l, hl⟩ := List.getElem?_of_mem ha
  obtain ⟨j, hj⟩ := List.getElem?_of_mem hb
  exact ⟨j, l, _, _, hj, hl, by omega⟩
/-- A whole day that is past. -/
theorem Past.day {a b c d e : List Int} {D from' : Int} (h : Past a b D from' b.length 0) (hp : ∀ m, from' ≤ m → m < D * 1440 → firesB a b c d e m = false) : ∀ m, from' ≤ m → m < (D + 1) * 1440 → firesB a b c d e m = false := by
  intro m h0 h1
  by_cases hm : m < D * 1440
  · exact hp m h0 hm
  · cases hf : firesB a b c d e m with
    | false => rfl
    | true =>
      obtain ⟨j, l, x, y, hj, hl, he⟩ := fires_at hf
      have hD : m / 1440 = D := by omega
      rw [hD] at he
      have := h j l x y hj hl (.inl (List.getElem?_eq_some_iff.1 hj).1)
      omega
/-- A day on which the rule does not fire. -/
theorem day_idle {a b c d e : List Int} {D from' : Int} (hd : dayF c d e (D * 1440) = false) (hp : ∀ m, from' ≤ m → m < D * 1440 → firesB a b c d e m = false) : ∀ m, from' ≤ m → m < (D + 1) * 1440 → firesB a b c d e m = false := by
  intro m h2 h3
  by_cases hm : m < D * 1440
  · exact hp m h2 hm
  · cases hf : firesB a b c d e m with
    | false => rfl
    | true =>
      obtain ⟨⟨h4, h5⟩, _, _, h6⟩ := fires_iff.1 hf
      rw [← dayF_day h4 h5, show m / 1440 = D by omega, hd] at h6
      cases h6
/-- The first one of a day that is not past is the least one. -/
theorem Past.least {a b c d e : List Int} {D from' x y : Int} {i k : Nat} (h : Past a b D from' i k) (hA : listB 0 59 a = true) (hB : listB 0 23 b = true) (hD0 : 0 ≤ D) (hD1 : D ≤ 47481) (hd : dayF c d e (D * 1440) = true) (hp : ∀ m, from' ≤ m → m < D * 1440 → firesB a b c d e m = false)
    (hi : b[i]? = some x) (hk : a[k]? = some y) : firesB a b c d e (D * 1440 + x * 60 + y) = true ∧ ∀ m, from' ≤ m → m < D * 1440 + x * 60 + y → firesB a b c d e m = false := by
  obtain ⟨hA1, hA2, _⟩ := listB_up hA
  obtain ⟨hB1, hB2, _⟩ := listB_up hB
  have hx := hB1 x (List.mem_of_getElem? hi)
  have hy := hA1 y (List.mem_of_getElem? hk)
  refine ⟨fires_iff.2 ⟨⟨by omega, by omega⟩, ?_, ?_, ?_⟩, fun m h0 h1 => ?_⟩
  · rw [show (D * 1440 + x * 60 + y) % 60 = y by omega]; exact List.mem_of_getElem? hk
  · rw [show (D * 1440 + x * 60 + y) % 1440 / 60 = x by omega]; exact List.mem_of_getElem? hi
  · rw [← dayF_day (by omega) (by omega), show (D * 1440 + x * 60 + y) / 1440 = D by omega]; exact hd
  · by_cases hm : m < D * 1440
    · exact hp m h0 hm
    · cases hf : firesB a b c d e m with
      | false => rfl
      | true =>
        obtain ⟨j, l, u, v, hj, hl, he⟩ := fires_at hf
        have hmD : m / 1440 = D := by omega
        rw [hmD] at he
        have hu := hB1 u (List.mem_of_getElem? hj)
        have hv := hA1 v (List.mem_of_getElem? hl)
        have hc : j < i ∨ (j = i ∧ l < k) := by
          rcases Nat.lt_trichotomy j i with c | c | c
          · exact .inl c
          · subst c
            rw [hi] at hj
            cases hj
            refine .inr ⟨rfl, ?_⟩
            rcases Nat.lt_trichotomy l k with c | c | c
            · exact c
            · subst c
              rw [hk] at hl
              cases hl
              omega
            · have := up_lt hA2 hk hl c
              omega
          · have := up_lt hB2 hi hj c
            omega
        have := h j l u v hj hl hc
        omega

/-- How many of n minutes from one on fire. -/
def countN (f : Int → Bool) (a : Int) : Nat → Nat
  | 0 => 0
  | n + 1 => countN f a n + if f (a + n) then 1 else 0
theorem countN_le (f : Int → Bool) (a : Int) : ∀ n, countN f a n ≤ n
  | 0 => Nat.le_refl _
  | n + 1 => by have := countN_le f a n; unfold countN; split <;> omega
theorem countN_idle {f : Int → Bool} {a : Int} {i : Nat} : ∀ k : Nat, (∀ m, a + i ≤ m → m < a + i + k → f m = false) → countN f a (i + k) = countN f a i
  | 0, _ => rfl
  | k + 1, h => by
    rw [show i + (k + 1) = i + k + 1 by omega, countN, countN_idle k (fun m h0 h1 => h m h0 (by omega)), h _ (by omega) (by omega)]
    rfl
theorem countN_add (f : Int → Bool) (a : Int) (i : Nat) : ∀ k : Nat, countN f a (i + k) = countN f a i + countN f (a + i) k
  | 0 => rfl
  | k + 1 => by
    rw [show i + (k + 1) = i + k + 1 by omega, countN, countN_add f a i k, countN, show a + (i : Int) + (k : Int) = a + ((i + k : Nat) : Int) by omega]
    omega
/-- One more that fires, and nothing between. -/
theorem countN_one {f : Int → Bool} {a : Int} {i k : Nat} (h : ∀ m, a + i ≤ m → m < a + i + k → f m = false) (hf : f (a + i + k) = true) : countN f a (i + k + 1) = countN f a i + 1 := by
  rw [countN, countN_idle k h, show a + ((i + k : Nat) : Int) = a + i + k by omega, hf]
  rfl
end Go.Proofs.YtbecdaholpiaeaaDoor
