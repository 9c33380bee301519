/-
  The plain side of numbers read from bytes: no Go in sight.
-/
import Derived.Test.YtehkebdncfljmaaAid
namespace Go.Proofs.Ytehkebdncfljmaa
open Go Go.RowKit

/-- The number whose seven bits a byte these are, the lowest first. -/
def valN : List Nat → Nat
  | [] => 0
  | b :: t => b % 128 + 128 * valN t

theorem valN_snoc : ∀ (l : List Nat) (c : Nat), valN (l ++ [c]) = valN l + c % 128 * 128 ^ l.length
  | [], c => by simp [valN]
  | b :: t, c => by
    simp only [List.cons_append, valN, valN_snoc t c, List.length_cons]
    rw [Nat.mul_add, Nat.pow_succ]
    have : 128 * (c % 128 * 128 ^ t.length) = c % 128 * (128 ^ t.length * 128) := by
      rw [Nat.mul_comm 128, Nat.mul_assoc]
    omega

theorem valN_lt : ∀ (l : List Nat), valN l < 128 ^ l.length
  | [] => by simp [valN]
  | b :: t => by
    have := valN_lt t
    simp only [valN, List.length_cons, Nat.pow_succ]
    omega

def ints (l : List Nat) : List Int := l.map Int.ofNat

theorem varI_nought : ∀ (f n : Nat) (q : List Int), n ≤ f → varI n = q ++ [0] → n = 0 ∧ q = []
  | 0, n, q, h, e => by
    have : n = 0 := by omega
    subst this
    rw [varI_last (by omega)] at e
    refine ⟨rfl, ?_⟩
    have := congrArg List.length e
    simp at this
    exact this
  | f + 1, n, q, h, e => by
    by_cases hn : 127 < n
    · rw [varI_more hn] at e
      match q, e with
      | [], e => simp at e; omega
      | x :: q', e =>
        simp at e
        have := (varI_nought f (n / 128) q' (by omega) e.2).1
        omega
    · rw [varI_last hn] at e
      have h1 := congrArg List.length e
      simp at h1
      subst h1
      simp at e
      exact ⟨by omega, rfl⟩

/-- Bytes that go on, and a last one: they are what VarText writes of their number just when the last one is not needless. -/
theorem varI_valN : ∀ (p : List Nat) (c : Nat), (∀ b ∈ p, 128 ≤ b ∧ b < 256) → c < 128 → (p = [] ∨ c ≠ 0) → varI (valN (p ++ [c])) = ints (p ++ [c])
  | [], c, _, hc, _ => by
    have : valN ([] ++ [c]) = c := by simp [valN]; omega
    rw [this, varI_last (by omega)]
    rfl
  | b :: t, c, hb, hc, hne => by
    have hc0 : c ≠ 0 := by simpa using hne
    have ih := varI_valN t c (fun x hx => hb x (by simp [hx])) hc (Or.inr hc0)
    have hb0 := hb b (by simp)
    have hv : 0 < valN (t ++ [c]) := by
      rw [valN_snoc]
      have : 0 < c % 128 * 128 ^ t.length := Nat.mul_pos (by omega) (Nat.pow_pos (by decide))
      omega
    have e : valN (b :: t ++ [c]) = b % 128 + 128 * valN (t ++ [c]) := rfl
    rw [e, varI_more (by omega)]
    have h2 : (b % 128 + 128 * valN (t ++ [c])) / 128 = valN (t ++ [c]) := by omega
    rw [h2, ih]
    show _ = (b : Int) :: ints (t ++ [c])
    congr 1
    omega

theorem varI_valN_not (p : List Nat) (hp : p ≠ []) : varI (valN (p ++ [0])) ≠ ints (p ++ [0]) := by
  intro e
  have : ints (p ++ [0]) = ints p ++ [0] := by simp [ints]
  rw [this] at e
  have := (varI_nought _ _ _ (Nat.le_refl _) e).2
  simp [ints] at this
  exact hp this

/-- What ReadVar comes to: from the place i on, the k-th byte, n read so far. -/
def rvGo (s : ByteArray) : Nat → Nat → Nat → Nat → Int × Int × Bool
  | 0, _, _, _ => (0, 0, false)
  | f + 1, i, k, n =>
    if h : i < s.size then
      if s[i].toNat < 128 then
        if 1000000000 < n + s[i].toNat % 128 * 128 ^ k ∨ (s[i].toNat = 0 ∧ 0 < k) then (0, 0, false)
        else (((n + s[i].toNat % 128 * 128 ^ k : Nat) : Int), (i : Int) + 1, true)
      else rvGo s f (i + 1) (k + 1) (n + s[i].toNat % 128 * 128 ^ k)
    else (0, 0, false)

theorem rvGo_end {s : ByteArray} {f i k n : Nat} (h : ¬ i < s.size) : rvGo s f i k n = (0, 0, false) := by
  cases f with
  | zero => rfl
  | succ f => rw [rvGo, dif_neg h]

theorem rvGo_more {s : ByteArray} {f i k n : Nat} (h : i < s.size) (hb : ¬ s[i].toNat < 128) : rvGo s (f + 1) i k n = rvGo s f (i + 1) (k + 1) (n + s[i].toNat % 128 * 128 ^ k) := by
  rw [rvGo, dif_pos h, if_neg hb]

theorem rvGo_bad {s : ByteArray} {f i k n : Nat} (h : i < s.size) (hb : s[i].toNat < 128) (hx : 1000000000 < n + s[i].toNat % 128 * 128 ^ k ∨ (s[i].toNat = 0 ∧ 0 < k)) : rvGo s (f + 1) i k n = (0, 0, false) := by
  rw [rvGo, dif_pos h, if_pos hb, if_pos hx]

theorem rvGo_ok {s : ByteArray} {f i k n : Nat} (h : i < s.size) (hb : s[i].toNat < 128) (hx : ¬ (1000000000 < n + s[i].toNat % 128 * 128 ^ k ∨ (s[i].toNat = 0 ∧ 0 < k))) :
    rvGo s (f + 1) i k n = (((n + s[i].toNat % 128 * 128 ^ k : Nat) : Int), (i : Int) + 1, true) := by
  rw [rvGo, dif_pos h, if_pos hb, if_neg hx]

def rv (s : ByteArray) (at' : Int) : Int × Int × Bool := if 0 ≤ at' ∧ at' ≤ s.size then rvGo s 5 at'.toNat 0 0 else (0, 0, false)

/-- As a value. -/
def rvV (r : Int × Int × Bool) : Value := .tuple #[.int .i64 r.1, .int .i64 r.2.1, .bool r.2.2]

/-- The k bytes from a place on. -/
def bytesAt (s : ByteArray) (at' : Nat) (p : List Nat) : Prop := at' + p.length ≤ s.size ∧ ∀ j (h : at' + j < s.size), j < p.length → p[j]? = some s[at' + j].toNat

theorem bytesAt_snoc {s : ByteArray} {at' : Nat} {p : List Nat} (h : bytesAt s at' p) (hl : at' + p.length < s.size) : bytesAt s at' (p ++ [s[at' + p.length].toNat]) := by
  refine ⟨by simp; omega, fun j hj hk => ?_⟩
  by_cases e : j < p.length
  · rw [List.getElem?_append_left e]; exact h.2 j hj e
  · have e2 : j = p.length := by simp at hk; omega
    subst e2
    simp

theorem extract_bytesAt {s : ByteArray} {at' : Nat} {p : List Nat} (h : bytesAt s at' p) : s.extract at' (at' + p.length) = bstr (ints p) := by
  apply ByteArray.ext
  apply Array.ext
  · simp [bstr, ints]; have := h.1; have : s.data.size = s.size := rfl; omega
  · intro i h1 h2
    have hi : i < p.length := by simpa [bstr, ints] using h2
    have hs : at' + i < s.size := by have := h.1; omega
    have := h.2 i hs hi
    have e : p[i] = s[at' + i].toNat := by simpa [List.getElem?_eq_getElem hi] using this
    simp [bstr, ints, e]
    rfl

theorem varI_range : ∀ (f n : Nat), n ≤ f → ∀ x ∈ varI n, 0 ≤ x ∧ x < 256
  | 0, n, h, x, hx => by
    rw [varI_last (by omega)] at hx
    simp at hx; omega
  | f + 1, n, h, x, hx => by
    by_cases hn : 127 < n
    · rw [varI_more hn] at hx
      rcases List.mem_cons.1 hx with rfl | hx
      · omega
      · exact varI_range f (n / 128) (by omega) x hx
    · rw [varI_last hn] at hx
      simp at hx; omega

theorem bstr_inj {l m : List Int} (hl : ∀ x ∈ l, 0 ≤ x ∧ x < 256) (hm : ∀ x ∈ m, 0 ≤ x ∧ x < 256) (h : bstr l = bstr m) : l = m := by
  have h1 : (l.map fun n => UInt8.ofNat n.toNat) = m.map fun n => UInt8.ofNat n.toNat := by
    have := congrArg (fun b : ByteArray => b.data.toList) h
    simpa [bstr] using this
  clear h
  induction l generalizing m with
  | nil => simp at h1; exact h1.symm
  | cons x l ih =>
    match m, h1, hm with
    | y :: m, h1, hm =>
      simp only [List.map_cons, List.cons.injEq] at h1
      have hx := hl x (by simp)
      have hy := hm y (by simp)
      have e := congrArg UInt8.toNat h1.1
      simp only [UInt8.toNat_ofNat'] at e
      rw [ih (fun z hz => hl z (by simp [hz])) (fun z hz => hm z (by simp [hz])) h1.2]
      congr 1
      omega

/-- The bytes that were read are what VarText writes of their number just when the last one is not needless. -/
theorem same_bytes {s : ByteArray} {a i N q : Nat} {p : List Nat} (hp : bytesAt s a p) (hk : a + p.length = i) (hq : 128 ^ p.length = q) (h3 : ∀ b ∈ p, 128 ≤ b ∧ b < 256) (hN : N = valN p)
    (hlt : i < s.size) (hb : s[i].toNat < 128) :
    ((bstr (varI (N + s[i].toNat % 128 * q))).toList == (s.extract a (i + 1)).toList) = !(decide (s[i].toNat = 0 ∧ a < i)) := by
  subst hk
  have e1 : s.extract a (a + p.length + 1) = bstr (ints (p ++ [s[a + p.length].toNat])) := by
    rw [← extract_bytesAt (bytesAt_snoc hp hlt)]
    simp [Nat.add_assoc]
  have e2 : N + s[a + p.length].toNat % 128 * q = valN (p ++ [s[a + p.length].toNat]) := by rw [valN_snoc, hq, ← hN]
  rw [e1, e2]
  generalize hc : s[a + p.length].toNat = c at *
  by_cases hz : c = 0 ∧ a < a + p.length
  · obtain ⟨rfl, hz⟩ := hz
    have hne : p ≠ [] := by intro e; subst e; simp at hz
    have := varI_valN_not p hne
    rw [decide_eq_true (show (0 : Nat) = 0 ∧ a < a + p.length from ⟨rfl, hz⟩)]
    refine beq_eq_false_iff_ne.2 ?_
    intro e
    rw [ByteArray.toList_eq, ByteArray.toList_eq] at e
    refine this (bstr_inj (varI_range _ _ (Nat.le_refl _)) ?_ (ByteArray.ext (Array.toList_inj.1 e)))
    intro x hx
    simp [ints] at hx
    rcases hx with ⟨y, hy, rfl⟩ | rfl
    · have := h3 y hy; omega
    · omega
  · rw [varI_valN p c h3 hb ?_]
    · simp only [decide_eq_false hz]; simp
    · by_cases hpe : p = []
      · exact Or.inl hpe
      · right
        intro e
        have : 0 < p.length := List.length_pos_iff.2 hpe
        exact hz ⟨e, by omega⟩

end Go.Proofs.Ytehkebdncfljmaa
