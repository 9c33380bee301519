/-
  The numbers of a field's flags, as the program lists them: the walk. What the functions of numbers in bytes answer: the walks. The plain side of numbers read from bytes: no Go in sight.
-/
import Derived.Test.YteefacjjdalncaaGreatDoorFq
import Derived.Test.YteefacjjdalncaaGreatDoorA1
import Derived.Test.YteefacjjdalncaaGreatDoorA4
import Derived.Test.YteefacjjdalncaaGreatDoorRows
import Derived.Test.YteefacjjdalncaaGreatDoorAid
import Derived.Test.YteefacjjdalncaaGreatDoorInf
import Derived.WalkKit
import Derived.WalkSpells
import Derived.WalkLawsBesides
import Derived.Handy
namespace Go.Proofs.YteefacjjdalncaaGreatDoor
open Go Go.RowKit
set_option linter.unusedVariables false

/-- The numbers below one whose flags are set. -/
def numsTo (p : Nat → Bool) : Nat → List Int
  | 0 => []
  | k + 1 => numsTo p k ++ (if p k then [(k : Int)] else [])
theorem numsTo_len (p : Nat → Bool) : ∀ k, (numsTo p k).length ≤ k
  | 0 => Nat.le_refl _
  | k + 1 => by have := numsTo_len p k; unfold numsTo; split <;> simp <;> omega
theorem numsTo_mem {p : Nat → Bool} {x : Int} : ∀ k, x ∈ numsTo p k ↔ ∃ i : Nat, i < k ∧ x = i ∧ p i = true
  | 0 => ⟨fun h => (by cases h), fun ⟨i, h, _⟩ => (by omega)⟩
  | k + 1 => by
    unfold numsTo
    rw [List.mem_append, numsTo_mem k]
    constructor
    · rintro (⟨i, h1, h2, h3⟩ | h)
      · exact ⟨i, by omega, h2, h3⟩
      · split at h
        · rw [List.mem_singleton] at h
          exact ⟨k, by omega, h, by assumption⟩
        · cases h
    · rintro ⟨i, h1, h2, h3⟩
      by_cases hk : i = k
      · subst hk
        right
        rw [if_pos h3]
        exact List.mem_singleton.2 h2
      · exact .inl ⟨i, by omega, h2, h3⟩
theorem numsTo_rise (p : Nat → Bool) : ∀ k, (numsTo p k).Pairwise (· < ·)
  | 0 => List.Pairwise.nil
  | k + 1 => by
    unfold numsTo
    refine List.pairwise_append.2 ⟨numsTo_rise p k, ?_, ?_⟩
    · split
      · exact List.pairwise_singleton _ _
      · exact List.Pairwise.nil
    · intro a ha b hb
      obtain ⟨i, h1, rfl, _⟩ := (numsTo_mem k).1 ha
      split at hb
      · rw [List.mem_singleton] at hb
        omega
      · cases hb
theorem numsTo_list {lo hi : Int} {l : List Int} (h0 : 0 ≤ lo) (h9 : hi ≤ 59) (hB : listB lo hi l = true) : numsTo (memP l) 60 = l := by
  obtain ⟨h1, h2, _⟩ := listB_up hB
  refine rise_ext _ _ (numsTo_rise _ _) h2 fun x => ?_
  rw [numsTo_mem]
  constructor
  · rintro ⟨i, _, rfl, hp⟩
    exact of_decide_eq_true hp
  · intro hx
    have := h1 x hx
    exact ⟨x.toNat, by omega, by omega, decide_eq_true (by rw [Int.toNat_of_nonneg (by omega)]; exact hx)⟩
theorem index55 {p : Nat → Bool} {k : Nat} (hk : k < 60) (w : World) : (Instr.index 160 (.agg (fldA p)) (.int .i64 (k : Int))).run Tryz.prog w = .ok (.bool (p k)) w := by
  simp [Instr.index, go_sem, run_underlying under55, hk, fldA_at hk, part]

set_option maxRecDepth 10000 in
set_option maxHeartbeats 1000000 in
theorem numbers_any (p : Nat → Bool) (w : World) :
    Calls Tryz.prog 153 #[.agg (fldA p)] w fun x w' => ∃ v, x = .returned v ∧ ownsR w' w.heap.size 3 v (numsTo p 60) ∧ Below w.heap.size w w' := by
  obtain ⟨L, HL⟩ : ∃ L, Hid (∀ n, n = 60 → numsTo p n = L) := ⟨numsTo p 60, fun n hn => by rw [hn]⟩
  rw [HL.out 60 rfl]
  go_enter Tryz.func153, Tryz.ntmps153
  obtain ⟨W, HW⟩ : ∃ W, Hid ((w.alloc (.cells (fldA p) 160)).alloc (.cells #[] 3) = W) := ⟨_, rfl⟩
  have HF : Hid (Fb 160 W w.heap.size p) := by show Fb _ _ _ _; rw [← HW.out]; exact (Fb.new 160 w p rfl).alloc _
  have HB : Hid (Below w.heap.size w W) := by show Below _ _ _; rw [← HW.out]; exact ba (ba (Below.refl _ _) _) _
  have HO : Hid (ownsI W w.heap.size 3 (.slice (some ⟨w.heap.size + 1, 0, none⟩) 0 0) []) := by
    show ownsI _ _ _ _ _
    rw [← HW.out]
    have := ownsI_made (w.alloc (.cells (fldA p) 160)) w.heap.size 0 3 #[] (by simp) (by decide) rfl
    simpa using this
  have HIX : Hid (∀ k : Nat, k < 60 → ∀ wx, (Instr.index 160 (.agg (fldA p)) (.int .i64 (k : Int))).run Tryz.prog wx = .ok (.bool (p k)) wx) := fun k hk wx => index55 hk wx
  go_wp2_with (first | (rw [HW.out]) | (refine wpl_load HF.out (.tmp 1) rfl rfl rfl ?_))
  obtain ⟨F, HFF⟩ : ∃ F, Hid (fldA p = F) := ⟨_, rfl⟩
  rw [HFF.out] at HIX
  rw [HFF.out]
  clear HFF HF HW
  generalize hB : w.heap.size = B at *
  go_loopw [3, 8] (fun out i wr => ∃ (k : Nat) (l : List Int), k ≤ 60 ∧ i = .int .i64 k ∧ l.length ≤ k ∧ Hid (numsTo p k = l) ∧ ownsI wr B 3 out l ∧ Below B w wr) (fun _ i _ => 60 - (intOf i).toNat)
  case atStart => exact ⟨0, [], Nat.zero_le _, rfl, Nat.le_refl _, rfl, HO.out, HB.out⟩
  case round =>
    obtain ⟨k, l, hk, rfl, hl, HE, hown, hbel⟩ := hrel
    clear HB HO
    by_cases hlt : k < 60
    · have hidx := HIX.out k hlt
      cases hp : p k with
      | true =>
        rw [hp] at hidx
        have HN : Hid (numsTo p (k + 1) = l ++ [(k : Int)]) := by show _ = _; rw [numsTo, HE.out, hp]; rfl
        clear hp
        have hBW : B ≤ wr.heap.size := by have := hbel.size; omega
        go_wp2_with (at_builtin; refine wpList_append_int _ w rfl (.tmp 13) (.tmp 15) 37 rfl B 3 Tryz.underlying37 info3 _ l rfl (hown.alloc _) (hbel.alloc hBW _) ⟨wr.heap.size, 0, none⟩ 1 (k : Int) rfl ?c1 ?c2 ?c3 ?_)
        case c1 => simp
        case c2 => omega
        case c3 => simp; omega
        intro v' w1 hown1 hbel1
        clear hown hbel
        go_wp2
        go_roundw
        case rel => exact ⟨k + 1, _, by omega, by go_num, by simp; omega, HN, hown1, hbel1⟩
        case measure => simp [intOf]; omega
      | false =>
        rw [hp] at hidx
        have HN : Hid (numsTo p (k + 1) = l) := by show _ = _; rw [numsTo, HE.out, hp]; simp
        clear hp
        go_wp2
        go_roundw
        case rel => exact ⟨k + 1, l, by omega, by go_num, by omega, HN, hown, hbel⟩
        case measure => simp [intOf]; omega
    · have hkn : k = 60 := by omega
      have HF2 : Hid (L = l) := by show _ = _; rw [← HL.out k hkn]; exact HE.out
      clear hkn HE HL
      go_wp2
      go_ret
      subst hB
      exact ⟨_, rfl, by rw [HF2.out]; unfold ownsR; rw [flat_int]; exact hown, hbel⟩
end Go.Proofs.YteefacjjdalncaaGreatDoor

namespace Go.Proofs.YteefacjjdalncaaGreatDoor
open Go.RowKit


set_option maxRecDepth 10000 in
set_option maxHeartbeats 400000 in
theorem l01In_yes (x a b : Int) (w : World) (h1 : a ≤ x) (h2 : x ≤ b) :
    Calls Tryz.prog 58 #[.int .i64 x, .int .i64 a, .int .i64 b] w fun e w' => e = .returned (.bool true) ∧ w' = w := by
  go_enter Tryz.func58, Tryz.ntmps58
  go_wp2
  go_ret
  exact ⟨rfl, rfl⟩

set_option maxRecDepth 10000 in
set_option maxHeartbeats 400000 in
theorem l01In_no (x a b : Int) (w : World) (h : x < a ∨ b < x) :
    Calls Tryz.prog 58 #[.int .i64 x, .int .i64 a, .int .i64 b] w fun e w' => e = .returned (.bool false) ∧ w' = w := by
  by_cases h1 : a ≤ x
  · have h2 : b < x := by omega
    clear h
    go_enter Tryz.func58, Tryz.ntmps58
    go_wp2
    go_ret
    exact ⟨congrArg Ending.returned (congrArg Value.bool (decide_eq_false (by omega))), rfl⟩
  · clear h
    go_enter Tryz.func58, Tryz.ntmps58
    go_wp2
    go_ret
    exact ⟨rfl, rfl⟩

end Go.Proofs.YteefacjjdalncaaGreatDoor

namespace Go.Proofs.YteefacjjdalncaaGreatDoor
open Go Go.RowKit

/-- The number whose seven bits a byte these are, the lowest first. -/
def valN : List Nat → Nat
  | [] => 0
  | b :: t => b % 128 + 128 * valN t

theorem valN_snoc : ∀ (l : List Nat) (c : Nat), valN (l ++ [c]) = valN l + c % 128 * 128 ^ l.length
  | [], c => by simp [valN]
  | b :: t, c => by
    simp only [List.cons_append, valN, valN_snoc t c, List.length_cons]
    rw [Nat.mul_add, Nat.pow_succ]
    have : 128 * (c % 128 * 128 ^ t.length) = c % 128 * (128 ^ t.length * 128) := by
      rw [Nat.mul_comm 128, Nat.mul_assoc]
    omega

theorem valN_lt : ∀ (l : List Nat), valN l < 128 ^ l.length
  | [] => by simp [valN]
  | b :: t => by
    have := valN_lt t
    simp only [valN, List.length_cons, Nat.pow_succ]
    omega

def ints (l : List Nat) : List Int := l.map Int.ofNat

theorem varI_nought : ∀ (f n : Nat) (q : List Int), n ≤ f → varI n = q ++ [0] → n = 0 ∧ q = []
  | 0, n, q, h, e => by
    have : n = 0 := by omega
    subst this
    rw [varI_last (by omega)] at e
    refine ⟨rfl, ?_⟩
    have := congrArg List.length e
    simp at this
    exact this
  | f + 1, n, q, h, e => by
    by_cases hn : 127 < n
    · rw [varI_more hn] at e
      match q, e with
      | [], e => simp at e; omega
      | x :: q', e =>
        simp at e
        have := (varI_nought f (n / 128) q' (by omega) e.2).1
        omega
    · rw [varI_last hn] at e
      have h1 := congrArg List.length e
      simp at h1
      subst h1
      simp at e
      exact ⟨by omega, rfl⟩

/-- Bytes that go on, and a last one: they are what VarText writes of their number just when the last one is not needless. -/
theorem varI_valN : ∀ (p : List Nat) (c : Nat), (∀ b ∈ p, 128 ≤ b ∧ b < 256) → c < 128 → (p = [] ∨ c ≠ 0) → varI (valN (p ++ [c])) = ints (p ++ [c])
  | [], c, _, hc, _ => by
    have : valN ([] ++ [c]) = c := by simp [valN]; omega
    rw [this, varI_last (by omega)]
    rfl
  | b :: t, c, hb, hc, hne => by
    have hc0 : c ≠ 0 := by simpa using hne
    have ih := varI_valN t c (fun x hx => hb x (by simp [hx])) hc (Or.inr hc0)
    have hb0 := hb b (by simp)
    have hv : 0 < valN (t ++ [c]) := by
      rw [valN_snoc]
      have : 0 < c % 128 * 128 ^ t.length := Nat.mul_pos (by omega) (Nat.pow_pos (by decide))
      omega
    have e : valN (b :: t ++ [c]) = b % 128 + 128 * valN (t ++ [c]) := rfl
    rw [e, varI_more (by omega)]
    have h2 : (b % 128 + 128 * valN (t ++ [c])) / 128 = valN (t ++ [c]) := by omega
    rw [h2, ih]
    show _ = (b : Int) :: ints (t ++ [c])
    congr 1
    omega

theorem varI_valN_not (p : List Nat) (hp : p ≠ []) : varI (valN (p ++ [0])) ≠ ints (p ++ [0]) := by
  intro e
  have : ints (p ++ [0]) = ints p ++ [0] := by simp [ints]
  rw [this] at e
  have := (varI_nought _ _ _ (Nat.le_refl _) e).2
  simp [ints] at this
  exact hp this

/-- What ReadVar comes to: from the place i on, the k-th byte, n read so far. -/
def rvGo (s : ByteArray) : Nat → Nat → Nat → Nat → Int × Int × Bool
  | 0, _, _, _ => (0, 0, false)
  | f + 1, i, k, n =>
    if h : i < s.size then
      if s[i].toNat < 128 then
        if 1000000000 < n + s[i].toNat % 128 * 128 ^ k ∨ (s[i].toNat = 0 ∧ 0 < k) then (0, 0, false)
        else (((n + s[i].toNat % 128 * 128 ^ k : Nat) : Int), (i : Int) + 1, true)
      else rvGo s f (i + 1) (k + 1) (n + s[i].toNat % 128 * 128 ^ k)
    else (0, 0, false)

theorem rvGo_end {s : ByteArray} {f i k n : Nat} (h : ¬ i < s.size) : rvGo s f i k n = (0, 0, false) := by
  cases f with
  | zero => rfl
  | succ f => rw [rvGo, dif_neg h]

theorem rvGo_more {s : ByteArray} {f i k n : Nat} (h : i < s.size) (hb : ¬ s[i].toNat < 128) : rvGo s (f + 1) i k n = rvGo s f (i + 1) (k + 1) (n + s[i].toNat % 128 * 128 ^ k) := by
  rw [rvGo, dif_pos h, if_neg hb]

theorem rvGo_bad {s : ByteArray} {f i k n : Nat} (h : i < s.size) (hb : s[i].toNat < 128) (hx : 1000000000 < n + s[i].toNat % 128 * 128 ^ k ∨ (s[i].toNat = 0 ∧ 0 < k)) : rvGo s (f + 1) i k n = (0, 0, false) := by
  rw [rvGo, dif_pos h, if_pos hb, if_pos hx]

theorem rvGo_ok {s : ByteArray} {f i k n : Nat} (h : i < s.size) (hb : s[i].toNat < 128) (hx : ¬ (1000000000 < n + s[i].toNat % 128 * 128 ^ k ∨ (s[i].toNat = 0 ∧ 0 < k))) :
    rvGo s (f + 1) i k n = (((n + s[i].toNat % 128 * 128 ^ k : Nat) : Int), (i : Int) + 1, true) := by
  rw [rvGo, dif_pos h, if_pos hb, if_neg hx]

def rv (s : ByteArray) (at' : Int) : Int × Int × Bool := if 0 ≤ at' ∧ at' ≤ s.size then rvGo s 5 at'.toNat 0 0 else (0, 0, false)

/-- As a value. -/
def rvV (r : Int × Int × Bool) : Value := .tuple #[.int .i64 r.1, .int .i64 r.2.1, .bool r.2.2]

/-- The k bytes from a place on. -/
def bytesAt (s : ByteArray) (at' : Nat) (p : List Nat) : Prop := at' + p.length ≤ s.size ∧ ∀ j (h : at' + j < s.size), j < p.length → p[j]? = some s[at' + j].toNat

theorem bytesAt_snoc {s : ByteArray} {at' : Nat} {p : List Nat} (h : bytesAt s at' p) (hl : at' + p.length < s.size) : bytesAt s at' (p ++ [s[at' + p.length].toNat]) := by
  refine ⟨by simp; omega, fun j hj hk => ?_⟩
  by_cases e : j < p.length
  · rw [List.getElem?_append_left e]; exact h.2 j hj e
  · have e2 : j = p.length := by simp at hk; omega
    subst e2
    simp

theorem extract_bytesAt {s : ByteArray} {at' : Nat} {p : List Nat} (h : bytesAt s at' p) : s.extract at' (at' + p.length) = bstr (ints p) := by
  apply ByteArray.ext
  apply Array.ext
  · simp [bstr, ints]; have := h.1; have : s.data.size = s.size := rfl; omega
  · intro i h1 h2
    have hi : i < p.length := by simpa [bstr, ints] using h2
    have hs : at' + i < s.size := by have := h.1; omega
    have := h.2 i hs hi
    have e : p[i] = s[at' + i].toNat := by simpa [List.getElem?_eq_getElem hi] using this
    simp [bstr, ints, e]
    rfl

theorem varI_range : ∀ (f n : Nat), n ≤ f → ∀ x ∈ varI n, 0 ≤ x ∧ x < 256
  | 0, n, h, x, hx => by
    rw [varI_last (by omega)] at hx
    simp at hx; omega
  | f + 1, n, h, x, hx => by
    by_cases hn : 127 < n
    · rw [varI_more hn] at hx
      rcases List.mem_cons.1 hx with rfl | hx
      · omega
      · exact varI_range f (n / 128) (by omega) x hx
    · rw [varI_last hn] at hx
      simp at hx; omega

theorem bstr_inj {l m : List Int} (hl : ∀ x ∈ l, 0 ≤ x ∧ x < 256) (hm : ∀ x ∈ m, 0 ≤ x ∧ x < 256) (h : bstr l = bstr m) : l = m := by
  have h1 : (l.map fun n => UInt8.ofNat n.toNat) = m.map fun n => UInt8.ofNat n.toNat := by
    have := congrArg (fun b : ByteArray => b.data.toList) h
    simpa [bstr] using this
  clear h
  induction l generalizing m with
  | nil => simp at h1; exact h1.symm
  | cons x l ih =>
    match m, h1, hm with
    | y :: m, h1, hm =>
      simp only [List.map_cons, List.cons.injEq] at h1
      have hx := hl x (by simp)
      have hy := hm y (by simp)
      have e := congrArg UInt8.toNat h1.1
      simp only [UInt8.toNat_ofNat'] at e
      rw [ih (fun z hz => hl z (by simp [hz])) (fun z hz => hm z (by simp [hz])) h1.2]
      congr 1
      omega

/-- The bytes that were read are what VarText writes of their number just when the last one is not needless. -/
theorem same_bytes {s : ByteArray} {a i N q : Nat} {p : List Nat} (hp : bytesAt s a p) (hk : a + p.length = i) (hq : 128 ^ p.length = q) (h3 : ∀ b ∈ p, 128 ≤ b ∧ b < 256) (hN : N = valN p)
    (hlt : i < s.size) (hb : s[i].toNat < 128) :
    ((bstr (varI (N + s[i].toNat % 128 * q))).toList == (s.extract a (i + 1)).toList) = !(decide (s[i].toNat = 0 ∧ a < i)) := by
  subst hk
  have e1 : s.extract a (a + p.length + 1) = bstr (ints (p ++ [s[a + p.length].toNat])) := by
    rw [← extract_bytesAt (bytesAt_snoc hp hlt)]
    simp [Nat.add_assoc]
  have e2 : N + s[a + p.length].toNat % 128 * q = valN (p ++ [s[a + p.length].toNat]) := by rw [valN_snoc, hq, ← hN]
  rw [e1, e2]
  generalize hc : s[a + p.length].toNat = c at *
  by_cases hz : c = 0 ∧ a < a + p.length
  · obtain ⟨rfl, hz⟩ := hz
    have hne : p ≠ [] := by intro e; subst e; simp at hz
    have := varI_valN_not p hne
    rw [decide_eq_true (show (0 : Nat) = 0 ∧ a < a + p.length from ⟨rfl, hz⟩)]
    refine beq_eq_false_iff_ne.2 ?_
    intro e
    rw [ByteArray.toList_eq, ByteArray.toList_eq] at e
    refine this (bstr_inj (varI_range _ _ (Nat.le_refl _)) ?_ (ByteArray.ext (Array.toList_inj.1 e)))
    intro x hx
    simp [ints] at hx
    rcases hx with ⟨y, hy, rfl⟩ | rfl
    · have := h3 y hy; omega
    · omega
  · rw [varI_valN p c h3 hb ?_]
    · simp only [decide_eq_false hz]; simp
    · by_cases hpe : p = []
      · exact Or.inl hpe
      · right
        intro e
        have : 0 < p.length := List.length_pos_iff.2 hpe
        exact hz ⟨e, by omega⟩

end Go.Proofs.YteefacjjdalncaaGreatDoor
