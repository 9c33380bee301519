/-
  The numbers of a field's flags, as the program lists them: the walk. What the functions of numbers in bytes answer: the walks. The plain side of numbers read from bytes: no Go in sight. What the two readers of numbers answer: the walks. What the model's reader of numbers answers: the walk. Figures of sixteen: the walks of what writes them. The plain side of decimal figures: no Go in sight. Decimal figures read: the walks.
-/
import Derived.Test.YtjmclcjhimcehaaGreatDoorG3
import Derived.Test.YtjmclcjhimcehaaGreatDoorG5
import Derived.Test.YtjmclcjhimcehaaGreatDoorRows
import Derived.Test.YtjmclcjhimcehaaGreatDoorAid
import Derived.Test.YtjmclcjhimcehaaGreatDoorInf
import Derived.WalkKit
import Derived.WalkSpells
import Derived.WalkLawsBesides
import Derived.Handy
import Derived.Deep.QuietTactic
import Derived.BigQuiet
import Derived.Deep.RegionWith
import Derived.Deep.RegionHeld
import Derived.Deep.RegionHeldLaw
import Derived.Test.YtjmclcjhimcehaaGreatDoorDci
import Derived.WalkMore
namespace Go.Proofs.YtjmclcjhimcehaaGreatDoor
open Go Go.RowKit
set_option linter.unusedVariables false

/-- The numbers below one whose flags are set. -/
def numsTo (p : Nat → Bool) : Nat → List Int
  | 0 => []
  | k + 1 => numsTo p k ++ (if p k then [(k : Int)] else [])
theorem numsTo_len (p : Nat → Bool) : ∀ k, (numsTo p k).length ≤ k
  | 0 => Nat.le_refl _
  | k + 1 => by have := numsTo_len p k; unfold numsTo; split <;> simp <;> omega
theorem numsTo_mem {p : Nat → Bool} {x : Int} : ∀ k, x ∈ numsTo p k ↔ ∃ i : Nat, i < k ∧ x = i ∧ p i = true
  | 0 => ⟨fun h => (by cases h), fun ⟨i, h, _⟩ => (by omega)⟩
  | k + 1 => by
    unfold numsTo
    rw [List.mem_append, numsTo_mem k]
    constructor
    · rintro (⟨i, h1, h2, h3⟩ | h)
      · exact ⟨i, by omega, h2, h3⟩
      · split at h
        · rw [List.mem_singleton] at h
          exact ⟨k, by omega, h, by assumption⟩
        · cases h
    · rintro ⟨i, h1, h2, h3⟩
      by_cases hk : i = k
      · subst hk
        right
        rw [if_pos h3]
        exact List.mem_singleton.2 h2
      · exact .inl ⟨i, by omega, h2, h3⟩
theorem numsTo_rise (p : Nat → Bool) : ∀ k, (numsTo p k).Pairwise (· < ·)
  | 0 => List.Pairwise.nil
  | k + 1 => by
    unfold numsTo
    refine List.pairwise_append.2 ⟨numsTo_rise p k, ?_, ?_⟩
    · split
      · exact List.pairwise_singleton _ _
      · exact List.Pairwise.nil
    · intro a ha b hb
      obtain ⟨i, h1, rfl, _⟩ := (numsTo_mem k).1 ha
      split at hb
      · rw [List.mem_singleton] at hb
        omega
      · cases hb
theorem numsTo_list {lo hi : Int} {l : List Int} (h0 : 0 ≤ lo) (h9 : hi ≤ 59) (hB : listB lo hi l = true) : numsTo (memP l) 60 = l := by
  obtain ⟨h1, h2, _⟩ := listB_up hB
  refine rise_ext _ _ (numsTo_rise _ _) h2 fun x => ?_
  rw [numsTo_mem]
  constructor
  · rintro ⟨i, _, rfl, hp⟩
    exact of_decide_eq_true hp
  · intro hx
    have := h1 x hx
    exact ⟨x.toNat, by omega, by omega, decide_eq_true (by rw [Int.toNat_of_nonneg (by omega)]; exact hx)⟩
theorem index55 {p : Nat → Bool} {k : Nat} (hk : k < 60) (w : World) : (Instr.index 200 (.agg (fldA p)) (.int .i64 (k : Int))).run Tryz.prog w = .ok (.bool (p k)) w := by
  simp [Instr.index, go_sem, run_underlying under55, hk, fldA_at hk, part]

set_option maxRecDepth 10000 in
set_option maxHeartbeats 1000000 in
theorem numbers_any (p : Nat → Bool) (w : World) :
    Calls Tryz.prog 163 #[.agg (fldA p)] w fun x w' => ∃ v, x = .returned v ∧ ownsR w' w.heap.size 3 v (numsTo p 60) ∧ Below w.heap.size w w' := by
  obtain ⟨L, HL⟩ : ∃ L, Hid (∀ n, n = 60 → numsTo p n = L) := ⟨numsTo p 60, fun n hn => by rw [hn]⟩
  rw [HL.out 60 rfl]
  go_enter Tryz.func163, Tryz.ntmps163
  obtain ⟨W, HW⟩ : ∃ W, Hid ((w.alloc (.cells (fldA p) 200)).alloc (.cells #[] 3) = W) := ⟨_, rfl⟩
  have HF : Hid (Fb 200 W w.heap.size p) := by show Fb _ _ _ _; rw [← HW.out]; exact (Fb.new 200 w p rfl).alloc _
  have HB : Hid (Below w.heap.size w W) := by show Below _ _ _; rw [← HW.out]; exact ba (ba (Below.refl _ _) _) _
  have HO : Hid (ownsI W w.heap.size 3 (.slice (some ⟨w.heap.size + 1, 0, none⟩) 0 0) []) := by
    show ownsI _ _ _ _ _
    rw [← HW.out]
    have := ownsI_made (w.alloc (.cells (fldA p) 200)) w.heap.size 0 3 #[] (by simp) (by decide) rfl
    simpa using this
  have HIX : Hid (∀ k : Nat, k < 60 → ∀ wx, (Instr.index 200 (.agg (fldA p)) (.int .i64 (k : Int))).run Tryz.prog wx = .ok (.bool (p k)) wx) := fun k hk wx => index55 hk wx
  go_wp2_with (first | (rw [HW.out]) | (refine wpl_load HF.out (.tmp 1) rfl rfl rfl ?_))
  obtain ⟨F, HFF⟩ : ∃ F, Hid (fldA p = F) := ⟨_, rfl⟩
  rw [HFF.out] at HIX
  rw [HFF.out]
  clear HFF HF HW
  generalize hB : w.heap.size = B at *
  go_loopw [3, 8] (fun out i wr => ∃ (k : Nat) (l : List Int), k ≤ 60 ∧ i = .int .i64 k ∧ l.length ≤ k ∧ Hid (numsTo p k = l) ∧ ownsI wr B 3 out l ∧ Below B w wr) (fun _ i _ => 60 - (intOf i).toNat)
  case atStart => exact ⟨0, [], Nat.zero_le _, rfl, Nat.le_refl _, rfl, HO.out, HB.out⟩
  case round =>
    obtain ⟨k, l, hk, rfl, hl, HE, hown, hbel⟩ := hrel
    clear HB HO
    by_cases hlt : k < 60
    · have hidx := HIX.out k hlt
      cases hp : p k with
      | true =>
        rw [hp] at hidx
        have HN : Hid (numsTo p (k + 1) = l ++ [(k : Int)]) := by show _ = _; rw [numsTo, HE.out, hp]; rfl
        clear hp
        have hBW : B ≤ wr.heap.size := by have := hbel.size; omega
        go_wp2_with (at_builtin; refine wpList_append_int _ w rfl (.tmp 13) (.tmp 15) 90 rfl B 3 Tryz.underlying90 info3 _ l rfl (hown.alloc _) (hbel.alloc hBW _) ⟨wr.heap.size, 0, none⟩ 1 (k : Int) rfl ?c1 ?c2 ?c3 ?_)
        case c1 => simp
        case c2 => omega
        case c3 => simp; omega
        intro v' w1 hown1 hbel1
        clear hown hbel
        go_wp2
        go_roundw
        case rel => exact ⟨k + 1, _, by omega, by go_num, by simp; omega, HN, hown1, hbel1⟩
        case measure => simp [intOf]; omega
      | false =>
        rw [hp] at hidx
        have HN : Hid (numsTo p (k + 1) = l) := by show _ = _; rw [numsTo, HE.out, hp]; simp
        clear hp
        go_wp2
        go_roundw
        case rel => exact ⟨k + 1, l, by omega, by go_num, by omega, HN, hown, hbel⟩
        case measure => simp [intOf]; omega
    · have hkn : k = 60 := by omega
      have HF2 : Hid (L = l) := by show _ = _; rw [← HL.out k hkn]; exact HE.out
      clear hkn HE HL
      go_wp2
      go_ret
      subst hB
      exact ⟨_, rfl, by rw [HF2.out]; unfold ownsR; rw [flat_int]; exact hown, hbel⟩
end Go.Proofs.YtjmclcjhimcehaaGreatDoor

namespace Go.Proofs.YtjmclcjhimcehaaGreatDoor
open Go.RowKit


set_option maxRecDepth 10000 in
set_option maxHeartbeats 400000 in
theorem l01In_yes (x a b : Int) (w : World) (h1 : a ≤ x) (h2 : x ≤ b) :
    Calls Tryz.prog 56 #[.int .i64 x, .int .i64 a, .int .i64 b] w fun e w' => e = .returned (.bool true) ∧ w' = w := by
  go_enter Tryz.func56, Tryz.ntmps56
  go_wp2
  go_ret
  exact ⟨rfl, rfl⟩

set_option maxRecDepth 10000 in
set_option maxHeartbeats 400000 in
theorem l01In_no (x a b : Int) (w : World) (h : x < a ∨ b < x) :
    Calls Tryz.prog 56 #[.int .i64 x, .int .i64 a, .int .i64 b] w fun e w' => e = .returned (.bool false) ∧ w' = w := by
  by_cases h1 : a ≤ x
  · have h2 : b < x := by omega
    clear h
    go_enter Tryz.func56, Tryz.ntmps56
    go_wp2
    go_ret
    exact ⟨congrArg Ending.returned (congrArg Value.bool (decide_eq_false (by omega))), rfl⟩
  · clear h
    go_enter Tryz.func56, Tryz.ntmps56
    go_wp2
    go_ret
    exact ⟨rfl, rfl⟩

end Go.Proofs.YtjmclcjhimcehaaGreatDoor

namespace Go.Proofs.YtjmclcjhimcehaaGreatDoor
open Go Go.RowKit

/-- The number whose seven bits a byte these are, the lowest first. -/
def valN : List Nat → Nat
  | [] => 0
  | b :: t => b % 128 + 128 * valN t

theorem valN_snoc : ∀ (l : List Nat) (c : Nat), valN (l ++ [c]) = valN l + c % 128 * 128 ^ l.length
  | [], c => by simp [valN]
  | b :: t, c => by
    simp only [List.cons_append, valN, valN_snoc t c, List.length_cons]
    rw [Nat.mul_add, Nat.pow_succ]
    have : 128 * (c % 128 * 128 ^ t.length) = c % 128 * (128 ^ t.length * 128) := by
      rw [Nat.mul_comm 128, Nat.mul_assoc]
    omega

theorem valN_lt : ∀ (l : List Nat), valN l < 128 ^ l.length
  | [] => by simp [valN]
  | b :: t => by
    have := valN_lt t
    simp only [valN, List.length_cons, Nat.pow_succ]
    omega

def ints (l : List Nat) : List Int := l.map Int.ofNat

theorem varI_nought : ∀ (f n : Nat) (q : List Int), n ≤ f → varI n = q ++ [0] → n = 0 ∧ q = []
  | 0, n, q, h, e => by
    have : n = 0 := by omega
    subst this
    rw [varI_last (by omega)] at e
    refine ⟨rfl, ?_⟩
    have := congrArg List.length e
    simp at this
    exact this
  | f + 1, n, q, h, e => by
    by_cases hn : 127 < n
    · rw [varI_more hn] at e
      match q, e with
      | [], e => simp at e; omega
      | x :: q', e =>
        simp at e
        have := (varI_nought f (n / 128) q' (by omega) e.2).1
        omega
    · rw [varI_last hn] at e
      have h1 := congrArg List.length e
      simp at h1
      subst h1
      simp at e
      exact ⟨by omega, rfl⟩

/-- Bytes that go on, and a last one: they are what VarText writes of their number just when the last one is not needless. -/
theorem varI_valN : ∀ (p : List Nat) (c : Nat), (∀ b ∈ p, 128 ≤ b ∧ b < 256) → c < 128 → (p = [] ∨ c ≠ 0) → varI (valN (p ++ [c])) = ints (p ++ [c])
  | [], c, _, hc, _ => by
    have : valN ([] ++ [c]) = c := by simp [valN]; omega
    rw [this, varI_last (by omega)]
    rfl
  | b :: t, c, hb, hc, hne => by
    have hc0 : c ≠ 0 := by simpa using hne
    have ih := varI_valN t c (fun x hx => hb x (by simp [hx])) hc (Or.inr hc0)
    have hb0 := hb b (by simp)
    have hv : 0 < valN (t ++ [c]) := by
      rw [valN_snoc]
      have : 0 < c % 128 * 128 ^ t.length := Nat.mul_pos (by omega) (Nat.pow_pos (by decide))
      omega
    have e : valN (b :: t ++ [c]) = b % 128 + 128 * valN (t ++ [c]) := rfl
    rw [e, varI_more (by omega)]
    have h2 : (b % 128 + 128 * valN (t ++ [c])) / 128 = valN (t ++ [c]) := by omega
    rw [h2, ih]
    show _ = (b : Int) :: ints (t ++ [c])
    congr 1
    omega

theorem varI_valN_not (p : List Nat) (hp : p ≠ []) : varI (valN (p ++ [0])) ≠ ints (p ++ [0]) := by
  intro e
  have : ints (p ++ [0]) = ints p ++ [0] := by simp [ints]
  rw [this] at e
  have := (varI_nought _ _ _ (Nat.le_refl _) e).2
  simp [ints] at this
  exact hp this

/-- What ReadVar comes to: from the place i on, the k-th byte, n read so far. -/
def rvGo (s : ByteArray) : Nat → Nat → Nat → Nat → Int × Int × Bool
  | 0, _, _, _ => (0, 0, false)
  | f + 1, i, k, n =>
    if h : i < s.size then
      if s[i].toNat < 128 then
        if 1000000000 < n + s[i].toNat % 128 * 128 ^ k ∨ (s[i].toNat = 0 ∧ 0 < k) then (0, 0, false)
        else (((n + s[i].toNat % 128 * 128 ^ k : Nat) : Int), (i : Int) + 1, true)
      else rvGo s f (i + 1) (k + 1) (n + s[i].toNat % 128 * 128 ^ k)
    else (0, 0, false)

theorem rvGo_end {s : ByteArray} {f i k n : Nat} (h : ¬ i < s.size) : rvGo s f i k n = (0, 0, false) := by
  cases f with
  | zero => rfl
  | succ f => rw [rvGo, dif_neg h]

theorem rvGo_more {s : ByteArray} {f i k n : Nat} (h : i < s.size) (hb : ¬ s[i].toNat < 128) : rvGo s (f + 1) i k n = rvGo s f (i + 1) (k + 1) (n + s[i].toNat % 128 * 128 ^ k) := by
  rw [rvGo, dif_pos h, if_neg hb]

theorem rvGo_bad {s : ByteArray} {f i k n : Nat} (h : i < s.size) (hb : s[i].toNat < 128) (hx : 1000000000 < n + s[i].toNat % 128 * 128 ^ k ∨ (s[i].toNat = 0 ∧ 0 < k)) : rvGo s (f + 1) i k n = (0, 0, false) := by
  rw [rvGo, dif_pos h, if_pos hb, if_pos hx]

theorem rvGo_ok {s : ByteArray} {f i k n : Nat} (h : i < s.size) (hb : s[i].toNat < 128) (hx : ¬ (1000000000 < n + s[i].toNat % 128 * 128 ^ k ∨ (s[i].toNat = 0 ∧ 0 < k))) :
    rvGo s (f + 1) i k n = (((n + s[i].toNat % 128 * 128 ^ k : Nat) : Int), (i : Int) + 1, true) := by
  rw [rvGo, dif_pos h, if_pos hb, if_neg hx]

def rv (s : ByteArray) (at' : Int) : Int × Int × Bool := if 0 ≤ at' ∧ at' ≤ s.size then rvGo s 5 at'.toNat 0 0 else (0, 0, false)

/-- As a value. -/
def rvV (r : Int × Int × Bool) : Value := .tuple #[.int .i64 r.1, .int .i64 r.2.1, .bool r.2.2]

/-- The k bytes from a place on. -/
def bytesAt (s : ByteArray) (at' : Nat) (p : List Nat) : Prop := at' + p.length ≤ s.size ∧ ∀ j (h : at' + j < s.size), j < p.length → p[j]? = some s[at' + j].toNat

theorem bytesAt_snoc {s : ByteArray} {at' : Nat} {p : List Nat} (h : bytesAt s at' p) (hl : at' + p.length < s.size) : bytesAt s at' (p ++ [s[at' + p.length].toNat]) := by
  refine ⟨by simp; omega, fun j hj hk => ?_⟩
  by_cases e : j < p.length
  · rw [List.getElem?_append_left e]; exact h.2 j hj e
  · have e2 : j = p.length := by simp at hk; omega
    subst e2
    simp

theorem extract_bytesAt {s : ByteArray} {at' : Nat} {p : List Nat} (h : bytesAt s at' p) : s.extract at' (at' + p.length) = bstr (ints p) := by
  apply ByteArray.ext
  apply Array.ext
  · simp [bstr, ints]; have := h.1; have : s.data.size = s.size := rfl; omega
  · intro i h1 h2
    have hi : i < p.length := by simpa [bstr, ints] using h2
    have hs : at' + i < s.size := by have := h.1; omega
    have := h.2 i hs hi
    have e : p[i] = s[at' + i].toNat := by simpa [List.getElem?_eq_getElem hi] using this
    simp [bstr, ints, e]
    rfl

theorem varI_range : ∀ (f n : Nat), n ≤ f → ∀ x ∈ varI n, 0 ≤ x ∧ x < 256
  | 0, n, h, x, hx => by
    rw [varI_last (by omega)] at hx
    simp at hx; omega
  | f + 1, n, h, x, hx => by
    by_cases hn : 127 < n
    · rw [varI_more hn] at hx
      rcases List.mem_cons.1 hx with rfl | hx
      · omega
      · exact varI_range f (n / 128) (by omega) x hx
    · rw [varI_last hn] at hx
      simp at hx; omega

theorem bstr_inj {l m : List Int} (hl : ∀ x ∈ l, 0 ≤ x ∧ x < 256) (hm : ∀ x ∈ m, 0 ≤ x ∧ x < 256) (h : bstr l = bstr m) : l = m := by
  have h1 : (l.map fun n => UInt8.ofNat n.toNat) = m.map fun n => UInt8.ofNat n.toNat := by
    have := congrArg (fun b : ByteArray => b.data.toList) h
    simpa [bstr] using this
  clear h
  induction l generalizing m with
  | nil => simp at h1; exact h1.symm
  | cons x l ih =>
    match m, h1, hm with
    | y :: m, h1, hm =>
      simp only [List.map_cons, List.cons.injEq] at h1
      have hx := hl x (by simp)
      have hy := hm y (by simp)
      have e := congrArg UInt8.toNat h1.1
      simp only [UInt8.toNat_ofNat'] at e
      rw [ih (fun z hz => hl z (by simp [hz])) (fun z hz => hm z (by simp [hz])) h1.2]
      congr 1
      omega

/-- The bytes that were read are what VarText writes of their number just when the last one is not needless. -/
theorem same_bytes {s : ByteArray} {a i N q : Nat} {p : List Nat} (hp : bytesAt s a p) (hk : a + p.length = i) (hq : 128 ^ p.length = q) (h3 : ∀ b ∈ p, 128 ≤ b ∧ b < 256) (hN : N = valN p)
    (hlt : i < s.size) (hb : s[i].toNat < 128) :
    ((bstr (varI (N + s[i].toNat % 128 * q))).toList == (s.extract a (i + 1)).toList) = !(decide (s[i].toNat = 0 ∧ a < i)) := by
  subst hk
  have e1 : s.extract a (a + p.length + 1) = bstr (ints (p ++ [s[a + p.length].toNat])) := by
    rw [← extract_bytesAt (bytesAt_snoc hp hlt)]
    simp [Nat.add_assoc]
  have e2 : N + s[a + p.length].toNat % 128 * q = valN (p ++ [s[a + p.length].toNat]) := by rw [valN_snoc, hq, ← hN]
  rw [e1, e2]
  generalize hc : s[a + p.length].toNat = c at *
  by_cases hz : c = 0 ∧ a < a + p.length
  · obtain ⟨rfl, hz⟩ := hz
    have hne : p ≠ [] := by intro e; subst e; simp at hz
    have := varI_valN_not p hne
    rw [decide_eq_true (show (0 : Nat) = 0 ∧ a < a + p.length from ⟨rfl, hz⟩)]
    refine beq_eq_false_iff_ne.2 ?_
    intro e
    rw [ByteArray.toList_eq, ByteArray.toList_eq] at e
    refine this (bstr_inj (varI_range _ _ (Nat.le_refl _)) ?_ (ByteArray.ext (Array.toList_inj.1 e)))
    intro x hx
    simp [ints] at hx
    rcases hx with ⟨y, hy, rfl⟩ | rfl
    · have := h3 y hy; omega
    · omega
  · rw [varI_valN p c h3 hb ?_]
    · simp only [decide_eq_false hz]; simp
    · by_cases hpe : p = []
      · exact Or.inl hpe
      · right
        intro e
        have : 0 < p.length := List.length_pos_iff.2 hpe
        exact hz ⟨e, by omega⟩

end Go.Proofs.YtjmclcjhimcehaaGreatDoor

namespace Go.Proofs.YtjmclcjhimcehaaGreatDoor
open Go.RowKit

theorem pow_le {k : Nat} (h : k ≤ 4) : 1 ≤ 128 ^ k ∧ 128 ^ k ≤ 268435456 := by
  match k, h with
  | 0, _ | 1, _ | 2, _ | 3, _ | 4, _ => decide
theorem mul_bd (b q : Nat) (h2 : q ≤ 268435456) : 0 ≤ (b : Int) % 128 * (q : Int) ∧ (b : Int) % 128 * (q : Int) ≤ 34091302912 ∧ ((b % 128 * q : Nat) : Int) = (b : Int) % 128 * (q : Int) := by
  have e : ((b % 128 * q : Nat) : Int) = (b : Int) % 128 * (q : Int) := by simp
  have h3 : b % 128 * q ≤ 127 * 268435456 := Nat.mul_le_mul (by omega) h2
  rw [← e]
  omega

section
variable {s : ByteArray} {a i k N q : Nat} {R : Int × Int × Bool}
theorem rv_end (HR : Hid (R = rvGo s (5 - k) i k N)) (HK : Hid (a + k = i)) (hk : k ≤ 5) (h : ¬ (i < s.size ∧ i < a + 5)) : Ending.returned (rvV (0, 0, false)) = .returned (rvV R) := by
  rw [HR.out]
  have := HK.out
  by_cases h1 : i < s.size
  · have : k = 5 := by omega
    subst this
    rfl
  · rw [rvGo_end h1]
theorem rv_bad (HR : Hid (R = rvGo s (5 - k) i k N)) (HQ : Hid (128 ^ k = q)) (HK : Hid (a + k = i)) {h : i < s.size} (HM : Hid (((s[i].toNat % 128 * q : Nat) : Int) = (s[i].toNat : Int) % 128 * (q : Int)))
    (hk : k ≤ 4) (hlt : i < s.size) (hb : ¬ 127 < s[i].toNat) (hx : 1000000000 < (N : Int) + (s[i].toNat : Int) % 128 * (q : Int) ∨ (s[i].toNat = 0 ∧ a < i)) :
    Ending.returned (rvV (0, 0, false)) = .returned (rvV R) := by
  rw [HR.out, show 5 - k = (4 - k) + 1 by omega, rvGo_bad hlt (by omega)]
  have e1 := HK.out
  have e2 := HM.out
  rw [HQ.out]
  rcases hx with hx | hx
  · left; omega
  · right; omega
theorem rv_ok (HR : Hid (R = rvGo s (5 - k) i k N)) (HQ : Hid (128 ^ k = q)) (HK : Hid (a + k = i)) {h : i < s.size} (HM : Hid (((s[i].toNat % 128 * q : Nat) : Int) = (s[i].toNat : Int) % 128 * (q : Int)))
    (hk : k ≤ 4) (hlt : i < s.size) (hb : ¬ 127 < s[i].toNat) (hx : (N : Int) + (s[i].toNat : Int) % 128 * (q : Int) ≤ 1000000000) (hz : ¬ s[i].toNat = 0 ∨ ¬ a < i) :
    Ending.returned (rvV ((N : Int) + (s[i].toNat : Int) % 128 * (q : Int), (i : Int) + 1, true)) = .returned (rvV R) := by
  have e1 := HK.out
  have e2 := HM.out
  rw [HR.out, show 5 - k = (4 - k) + 1 by omega, rvGo_ok hlt (by omega) (by rw [HQ.out]; omega), HQ.out]
  congr 2
theorem rv_ok0 (HR : Hid (R = rvGo s (5 - k) i k N)) (HQ : Hid (128 ^ k = q)) (HK : Hid (a + k = i)) {h : i < s.size} (HM : Hid (((s[i].toNat % 128 * q : Nat) : Int) = (s[i].toNat : Int) % 128 * (q : Int)))
    (hk : k ≤ 4) (hlt : i < s.size) (hb : ¬ 127 < s[i].toNat) (hx : (N : Int) + (s[i].toNat : Int) % 128 * (q : Int) ≤ 1000000000) (h0 : s[i].toNat = 0) (hz : ¬ a < i) :
    Ending.returned (rvV ((N : Int), (i : Int) + 1, true)) = .returned (rvV R) := by
  rw [← rv_ok HR HQ HK HM hk hlt hb hx (Or.inr hz), h0]
  simp
theorem rv_more (HR : Hid (R = rvGo s (5 - k) i k N)) (HQ : Hid (128 ^ k = q)) (HK : Hid (a + k = i)) {h : i < s.size} (HM : Hid (((s[i].toNat % 128 * q : Nat) : Int) = (s[i].toNat : Int) % 128 * (q : Int)))
    (hk : k ≤ 4) (hlt : i < s.size) (hb : 127 < s[i].toNat) (hN : N < q) :
    ∃ i' k' N' q' : Nat, k' ≤ 5 ∧ i' ≤ s.size ∧ a + k' = i' ∧ 128 ^ k' = q' ∧ N' < q' ∧ Value.int .i64 ((N : Int) + (s[i].toNat : Int) % 128 * (q : Int)) = .int .i64 N' ∧ Value.int .i64 ((q : Int) * 128) = .int .i64 q' ∧ Value.int .i64 ((i : Int) + 1) = .int .i64 i' ∧ R = rvGo s (5 - k') i' k' N' := by
  have e1 := HK.out
  have e2 := HM.out
  have e3 : s[i].toNat % 128 * q ≤ 127 * q := Nat.mul_le_mul (by omega) (Nat.le_refl _)
  refine ⟨i + 1, k + 1, N + s[i].toNat % 128 * q, q * 128, by omega, by omega, by omega, ?_, by omega, ?_, ?_, ?_, ?_⟩
  · rw [Nat.pow_succ, HQ.out]
  · congr 1
  · congr 1
  · congr 1
  · rw [HR.out, show 5 - k = (4 - k) + 1 by omega, rvGo_more hlt (by omega), HQ.out]
    congr 1
    omega
end

end Go.Proofs.YtjmclcjhimcehaaGreatDoor

namespace Go.Proofs.YtjmclcjhimcehaaGreatDoor
open Go.RowKit

theorem slice_at (s : ByteArray) (a i : Nat) (wx : World) (h1 : a ≤ i) (h2 : i < s.size) :
    (Instr.slice 9 (.string s) (some (.int .i64 (a : Int))) (some (.int .i64 ((i : Int) + 1))) none).run Tryz.prog wx = .ok (.string (s.extract a (i + 1))) wx := by
  have := run_slice_string (P := Tryz.prog) wx 9 s .i64 .i64 (a : Int) ((i : Int) + 1) Tryz.underlying9 (by omega) (by omega) (by omega)
  simpa using this
theorem slice_at_w (s : ByteArray) (a i : Nat) (wx : World) (h1 : a ≤ i) (h2 : i < s.size) (h3 : s.size ≤ 1048576) :
    (Instr.slice 9 (.string s) (some (.int .i64 (a : Int))) (some (.int .i64 (IntKind.i64.wrap ((i : Int) + 1)))) none).run Tryz.prog wx = .ok (.string (s.extract a (i + 1))) wx := by
  have e : IntKind.i64.wrap ((i : Int) + 1) = (i : Int) + 1 := by go_arith
  rw [e]
  exact slice_at s a i wx h1 h2

theorem rvs_more {s : ByteArray} {a i k N q : Nat} {R : Int × Int × Bool} {p : List Nat} (HR : Hid (R = rvGo s (5 - k) i k N)) (HQ : Hid (128 ^ k = q)) (HK : Hid (a + k = i)) {h : i < s.size} (HM : Hid (((s[i].toNat % 128 * q : Nat) : Int) = (s[i].toNat : Int) % 128 * (q : Int)))
    (HP : Hid (bytesAt s a p ∧ p.length = k ∧ (∀ b ∈ p, 128 ≤ b ∧ b < 256) ∧ N = valN p))
    (hk : k ≤ 4) (hlt : i < s.size) (hb : 127 < s[i].toNat) (hN : N < q) :
    ∃ (i' k' N' q' : Nat) (p' : List Nat), k' ≤ 5 ∧ i' ≤ s.size ∧ a + k' = i' ∧ 128 ^ k' = q' ∧ N' < q' ∧ Value.int .i64 ((N : Int) + (s[i].toNat : Int) % 128 * (q : Int)) = .int .i64 N' ∧ Value.int .i64 ((q : Int) * 128) = .int .i64 q' ∧ Value.int .i64 ((i : Int) + 1) = .int .i64 i' ∧ R = rvGo s (5 - k') i' k' N' ∧
      (bytesAt s a p' ∧ p'.length = k' ∧ (∀ b ∈ p', 128 ≤ b ∧ b < 256) ∧ N' = valN p') := by
  have e1 := HK.out
  have e2 := HM.out
  obtain ⟨p1, p2, p3, p4⟩ := HP.out
  subst p2
  subst e1
  have e3 : s[a + p.length].toNat % 128 * q ≤ 127 * q := Nat.mul_le_mul (by omega) (Nat.le_refl _)
  have h256 := s[a + p.length].toNat_lt
  refine ⟨a + p.length + 1, p.length + 1, N + s[a + p.length].toNat % 128 * q, q * 128, p ++ [s[a + p.length].toNat], by omega, by omega, by omega, ?_, by omega, ?_, ?_, ?_, ?_, bytesAt_snoc p1 hlt, by simp, ?_, ?_⟩
  · rw [Nat.pow_succ, HQ.out]
  · congr 1
  · congr 1
  · congr 1
  · rw [HR.out, show 5 - p.length = (4 - p.length) + 1 by omega, rvGo_more hlt (by omega), HQ.out]
    congr 1
    omega
  · intro b hb'
    rcases List.mem_append.1 hb' with h | h
    · exact p3 b h
    · simp at h; omega
  · rw [valN_snoc, HQ.out, ← p4]

theorem rvs_bad {s : ByteArray} {a i k N q : Nat} {R : Int × Int × Bool} {p : List Nat} (HR : Hid (R = rvGo s (5 - k) i k N)) (HQ : Hid (128 ^ k = q)) (HK : Hid (a + k = i)) {h : i < s.size} (HM : Hid (((s[i].toNat % 128 * q : Nat) : Int) = (s[i].toNat : Int) % 128 * (q : Int)))
    (HP : Hid (bytesAt s a p ∧ p.length = k ∧ (∀ b ∈ p, 128 ≤ b ∧ b < 256) ∧ N = valN p)) (hk : k ≤ 4) (hlt : i < s.size) (hb : ¬ 127 < s[i].toNat)
    (hne : (!(bstr (varI ((N : Int) + (s[i].toNat : Int) % 128 * (q : Int)).toNat)).toList == (s.extract a (i + 1)).toList) = true) : Ending.returned (rvV (0, 0, false)) = .returned (rvV R) := by
  obtain ⟨p1, p2, p3, p4⟩ := HP.out
  subst p2
  have e2 := HM.out
  rw [show ((N : Int) + (s[i].toNat : Int) % 128 * (q : Int)).toNat = N + s[i].toNat % 128 * q by omega, same_bytes p1 HK.out HQ.out p3 p4 hlt (by omega)] at hne
  exact rv_bad HR HQ HK HM hk hlt hb (Or.inr (by simpa using hne))
theorem rvs_ok {s : ByteArray} {a i k N q : Nat} {R : Int × Int × Bool} {p : List Nat} (HR : Hid (R = rvGo s (5 - k) i k N)) (HQ : Hid (128 ^ k = q)) (HK : Hid (a + k = i)) {h : i < s.size} (HM : Hid (((s[i].toNat % 128 * q : Nat) : Int) = (s[i].toNat : Int) % 128 * (q : Int)))
    (HP : Hid (bytesAt s a p ∧ p.length = k ∧ (∀ b ∈ p, 128 ≤ b ∧ b < 256) ∧ N = valN p)) (hk : k ≤ 4) (hlt : i < s.size) (hb : ¬ 127 < s[i].toNat) (hx : (N : Int) + (s[i].toNat : Int) % 128 * (q : Int) ≤ 1000000000)
    (hne : (!(bstr (varI ((N : Int) + (s[i].toNat : Int) % 128 * (q : Int)).toNat)).toList == (s.extract a (i + 1)).toList) = false) :
    Ending.returned (rvV ((N : Int) + (s[i].toNat : Int) % 128 * (q : Int), (i : Int) + 1, true)) = .returned (rvV R) := by
  obtain ⟨p1, p2, p3, p4⟩ := HP.out
  subst p2
  have e2 := HM.out
  rw [show ((N : Int) + (s[i].toNat : Int) % 128 * (q : Int)).toNat = N + s[i].toNat % 128 * q by omega, same_bytes p1 HK.out HQ.out p3 p4 hlt (by omega)] at hne
  have hz : ¬ (s[i].toNat = 0 ∧ a < i) := by simpa using hne
  refine rv_ok HR HQ HK HM hk hlt hb hx ?_
  by_cases h0 : s[i].toNat = 0
  · exact Or.inr fun h => hz ⟨h0, h⟩
  · exact Or.inl h0

theorem rv_bad_eq {s : ByteArray} {at' : Int} (h : at' < 0 ∨ (s.size : Int) < at') : rv s at' = (0, 0, false) := by
  unfold rv; rw [if_neg (by omega)]
theorem rv_in_eq {s : ByteArray} {a : Nat} (h : a ≤ s.size) : rv s (a : Int) = rvGo s 5 a 0 0 := by
  unfold rv; rw [if_pos (by omega)]; simp

end Go.Proofs.YtjmclcjhimcehaaGreatDoor

namespace Go.Proofs.YtjmclcjhimcehaaGreatDoor
open Go.RowKit

theorem ownsB.drew {w : World} {B : Nat} {e : TypeId} {v : Value} {l : List Int} (h : ownsB w B e v l) : ownsB w.drew B e v l := World.ownsRow.drew h

/-- Bytes more behind a row of bytes that the call owns, as one step of a region that draws its order. -/
theorem step_append_bytes {P : Program} {ops : Array Oper} {o : Oper} {a : Act} {w : World} {K : Act → World → Prop} {Q : Exit → Act → World → Prop} {E : Prop}
    (hg : o.guard = none) (s x : Operand) (t : TypeId) (hop : o.op = Op.call { callee := Callee.builtin Builtin.append, args := #[s, x], argTypes := #[t, t] })
    (B : Nat) (e : TypeId) (ht : P.underlying t = some (.slice e)) (hi : (P.info? e).map (fun i => (i.zero, i.size, i.bytes)) = some (some (.int .u8 0), 1, 1))
    (v : Value) (l : List Int) (hs : a.eval s = v) (w0 : World) (ad : Addr) (m c : Nat) (ns : List Int) (hm : ns.length = m) (hx : a.eval x = .slice (some ad) m c)
    (hown : ownsB w B e v l) (hbel : Below B w0 w) (hc : ∀ j u, (ns.map (Value.int .u8))[j]? = some u → w.cell? (ad.add j) = some u)
    (hlen : l.length + m ≤ 140737488355328) (hB : B ≤ w.heap.size)
    (hK : ∀ v' w', ownsB w' B e v' (l ++ ns) → Below B w0 w' → K (a.put o.dst v') w') :
    if Region.wanted o (yielded ops a.tmps) = true then Oper.wp P o a w K Q else E := by
  have hw : Region.wanted o (yielded ops a.tmps) = true := by simp [Region.wanted, hg]
  rw [if_pos hw]
  subst hm
  obtain ⟨i0, hi0, hz0, hz1, hz2⟩ := info_parts hi
  obtain ⟨v', w', hrun, r1, r2, _⟩ := run_append_own (P := P) w B t o.type e i0 (.int .u8 0) 1 1 ht hi0 hz0 hz1 hz2 rfl (by decide) v l.length _ hown ad ns.length c (ns.map (Value.int .u8)) (by simp) hc
    (fun u hu => by simp at hu; obtain ⟨n, _, rfl⟩ := hu; rfl) (by unfold maxLen; omega) (by omega) hB
  unfold Oper.wp
  simp [execOp, hop, resolve, invoke, builtin, hs, hx, hrun, Result.andThen]
  exact hK v' w' (by simpa [ownsB] using r1) (hbel.grown r2 hB fun k hk => (hown.lt k hk).1)

/-- The figure of a number below sixteen. -/
def fig (x : Int) : Int := if x < 10 then 48 + x else 87 + x

/-- The figures of the first k bytes. -/
def hexTo (s : ByteArray) : Nat → List Int
  | 0 => []
  | k + 1 => hexTo s k ++ [fig (((s.data.toList.getD k 0).toNat : Int) / 16), fig (((s.data.toList.getD k 0).toNat : Int) % 16)]
theorem hexTo_length (s : ByteArray) : ∀ k, (hexTo s k).length = 2 * k
  | 0 => rfl
  | k + 1 => by simp [hexTo, hexTo_length s k]; omega
theorem byteAt (s : ByteArray) (k : Nat) (h : k < s.size) : s.data.toList.getD k 0 = s[k] := by
  have h2 : k < s.data.toList.length := by simpa using h
  rw [List.getD_eq_getElem?_getD, List.getElem?_eq_getElem h2]
  rfl

set_option maxHeartbeats 400000 in
theorem l01Figure_any (x : Int) (w : World) (h0 : 0 ≤ x) (h1 : x < 16) :
    Calls Tryz.prog 189 #[.int .i64 x] w fun e w' => e = .returned (.int .u8 (fig x)) ∧ w' = w := by
  by_cases h : x < 10
  · go_enter Tryz.func189, Tryz.ntmps189
    go_wp2
    go_ret
    exact ⟨by simp [fig, h], rfl⟩
  · go_enter Tryz.func189, Tryz.ntmps189
    go_wp2
    go_ret
    exact ⟨by simp [fig]; omega, rfl⟩

set_option maxRecDepth 10000 in
theorem index_fig (q : Int) (h0 : 0 ≤ q) (h1 : q < 16) (wx : World) :
    (Instr.index 9 (.string { data := #[48, 49, 50, 51, 52, 53, 54, 55, 56, 57, 97, 98, 99, 100, 101, 102] }) (.int .u8 q)).run Tryz.prog wx = .ok (.int .u8 (fig q)) wx := by
  obtain ⟨n, rfl⟩ := Int.eq_ofNat_of_zero_le h0
  have hn : n < 16 := by omega
  clear h0 h1
  rcases (show n = 0 ∨ n = 1 ∨ n = 2 ∨ n = 3 ∨ n = 4 ∨ n = 5 ∨ n = 6 ∨ n = 7 ∨ n = 8 ∨ n = 9 ∨ n = 10 ∨ n = 11 ∨ n = 12 ∨ n = 13 ∨ n = 14 ∨ n = 15 by omega) with h | h | h | h | h | h | h | h | h | h | h | h | h | h | h | h <;> subst h <;> rfl

theorem two_cells (w : World) (x y : Int) (e : TypeId) : ∀ (j : Nat) (u : Value), ([x, y].map (Value.int .u8))[j]? = some u →
    ((w.alloc (.cells #[.int .u8 x, .int .u8 y] e)).drew).cell? (Addr.add ⟨w.heap.size, 0, none⟩ j) = some u := by
  intro j u hj
  match j, hj with
  | 0, hj => simp at hj; subst hj; simp [Addr.add]
  | 1, hj => simp at hj; subst hj; simp [Addr.add]

end Go.Proofs.YtjmclcjhimcehaaGreatDoor

namespace Go.Proofs.YtjmclcjhimcehaaGreatDoor
open Go Go.RowKit

theorem decI_ne : ∀ (f n : Nat), n ≤ f → decI n ≠ []
  | 0, n, h => by rw [decI_one (by omega)]; simp
  | f + 1, n, h => by
    by_cases hn : n < 10
    · rw [decI_one hn]; simp
    · rw [decI_more hn]; simp
theorem decI_head : ∀ (f n : Nat) (t : List Int), n ≤ f → decI n = 48 :: t → n = 0
  | 0, n, t, h, e => by omega
  | f + 1, n, t, h, e => by
    by_cases hn : n < 10
    · rw [decI_one hn] at e
      simp at e
      omega
    · rw [decI_more hn] at e
      match hd : decI (n / 10) with
      | [] => exact absurd hd (decI_ne _ _ (Nat.le_refl _))
      | x :: t' =>
        rw [hd] at e
        simp at e
        obtain ⟨rfl, _⟩ := e
        have := decI_head f (n / 10) t' (by omega) hd
        omega
theorem decI_range : ∀ (f n : Nat), n ≤ f → ∀ x ∈ decI n, 0 ≤ x ∧ x < 256
  | 0, n, h, x, hx => by
    rw [decI_one (by omega)] at hx
    simp at hx; omega
  | f + 1, n, h, x, hx => by
    by_cases hn : n < 10
    · rw [decI_one hn] at hx
      simp at hx; omega
    · rw [decI_more hn] at hx
      rcases List.mem_append.1 hx with hx | hx
      · exact decI_range f (n / 10) (by omega) x hx
      · simp at hx; omega

/-- The number of figures. -/
def valD : List Nat → Nat := fun l => l.foldl (fun a d => 10 * a + d) 0
theorem valD_snoc (l : List Nat) (d : Nat) : valD (l ++ [d]) = 10 * valD l + d := by simp [valD, List.foldl_append]
theorem valD_lt (l : List Nat) : (∀ d ∈ l, d < 10) → valD l < 10 ^ l.length := by
  have h : ∀ (n : Nat) (l : List Nat), l.length = n → (∀ d ∈ l, d < 10) → valD l < 10 ^ l.length := by
    intro n
    induction n with
    | zero => intro l hl _; have : l = [] := List.eq_nil_of_length_eq_zero hl; subst this; simp [valD]
    | succ n ih =>
      intro l hl hd
      have hne : l ≠ [] := by intro e; subst e; simp at hl
      have e := List.dropLast_concat_getLast hne
      rw [← e, valD_snoc]
      have h1 := ih l.dropLast (by simp; omega) (fun d hd' => hd d (List.dropLast_subset l hd'))
      have h2 := hd (l.getLast hne) (List.getLast_mem hne)
      simp only [List.length_append, List.length_cons, List.length_nil, Nat.zero_add, Nat.pow_succ]
      omega
  exact h _ l rfl

def figs (l : List Nat) : List Int := l.map fun (d : Nat) => 48 + Int.ofNat d

theorem valD_pos : ∀ (l : List Nat) (x : Nat) , x ≠ 0 → 0 < valD (x :: l) := by
  intro l x hx
  have h : ∀ (l : List Nat) (a : Nat), 0 < a → 0 < l.foldl (fun a d => 10 * a + d) a := by
    intro l
    induction l with
    | nil => intro a ha; simpa using ha
    | cons y l ih => intro a ha; simp only [List.foldl_cons]; exact ih _ (by omega)
  simp only [valD, List.foldl_cons]
  exact h l _ (by omega)

/-- Figures without a needless nought are those of their number. -/
theorem decI_valD (n : Nat) : ∀ (l : List Nat), l.length = n → l ≠ [] → (∀ d ∈ l, d < 10) → (l.length = 1 ∨ l.head? ≠ some 0) → decI (valD l) = figs l := by
  induction n with
  | zero => intro l hl hne; exact absurd (List.eq_nil_of_length_eq_zero hl) hne
  | succ n ih =>
    intro l hl hne hd hz
    have e := List.dropLast_concat_getLast hne
    have h2 := hd (l.getLast hne) (List.getLast_mem hne)
    rw [← e, valD_snoc]
    by_cases hn : n = 0
    · subst hn
      have : l.dropLast = [] := List.eq_nil_of_length_eq_zero (by simp; omega)
      rw [this]
      simp only [valD, List.foldl_nil, Nat.mul_zero, Nat.zero_add, List.nil_append]
      rw [decI_one h2]
      rfl
    · have hne2 : l.dropLast ≠ [] := by intro e'; have := congrArg List.length e'; simp at this; omega
      match hl' : l.dropLast with
      | [] => exact absurd hl' hne2
      | x :: t =>
        have hx : x ≠ 0 := by
          intro e0; subst e0
          rcases hz with hz | hz
          · omega
          · apply hz
            rw [← e, hl']
            rfl
        have hpos := valD_pos t x hx
        have h1 := ih l.dropLast (by simp; omega) hne2 (fun d hd' => hd d (List.dropLast_subset l hd')) (by rw [hl']; right; simpa using hx)
        rw [hl'] at h1
        rw [decI_more (by omega), show (10 * valD (x :: t) + l.getLast hne) / 10 = valD (x :: t) by omega, h1]
        simp only [figs, List.map_append, List.map_cons, List.map_nil, Int.ofNat_eq_natCast]
        congr 2
        omega

theorem decI_valD_not (l : List Nat) (hl : 1 < l.length) (hz : l.head? = some 0) : decI (valD l) ≠ figs l := by
  match l, hl, hz with
  | x :: y :: t, _, hz =>
    simp at hz
    subst hz
    intro e
    have h0 := decI_head _ _ _ (Nat.le_refl _) (show decI (valD (0 :: y :: t)) = 48 :: figs (y :: t) from e)
    rw [h0, decI_one (by omega)] at e
    have := congrArg List.length e
    simp [figs] at this
end Go.Proofs.YtjmclcjhimcehaaGreatDoor

namespace Go.Proofs.YtjmclcjhimcehaaGreatDoor
open Go.RowKit

set_option maxRecDepth 10000 in
set_option maxHeartbeats 400000 in
theorem specDecimal_zero (w : World) :
    Calls Tryz.prog 160 #[.int .i64 0] w fun e w' => e = .returned (.string (bstr (decI 0))) ∧ Below w.heap.size w w' := by
  go_enter Tryz.func160, Tryz.ntmps160
  go_wp2
  go_ret
  exact ⟨rfl, Below.refl _ _⟩

set_option maxRecDepth 10000 in
set_option maxHeartbeats 400000 in
theorem specDecimal_pos (n : Nat) (w : World) (h0 : 0 < n) (hn : n ≤ 1000000000) :
    Calls Tryz.prog 160 #[.int .i64 n] w fun e w' => e = .returned (.string (bstr (decI n))) ∧ Below w.heap.size w w' := by
  have hz : ((n : Int) == 0) = false := by simp; omega
  have hneg : decide ((n : Int) < 0) = false := by simp
  go_enter Tryz.func160, Tryz.ntmps160
  go_wp2
  go_loopw [0, 4] (fun c st wr => ∃ (m : Nat) (t : List Int), c = .int .i64 m ∧ st = .string (bstr t) ∧ t.length + m ≤ n ∧ Hid (decI n = decPre m ++ t) ∧ Below w.heap.size w wr) (fun c _ _ => (intOf c).toNat)
  case atStart => exact ⟨n, [], rfl, rfl, by simp, (by show decI n = decPre n ++ []; unfold decPre; rw [if_neg (by omega)]; simp), Below.refl _ _⟩
  case round =>
    obtain ⟨m, t, rfl, rfl, hle, HE, hbel⟩ := hrel
    have hsz := hbel.size
    by_cases hm : m = 0
    · subst hm
      go_wp2
      go_ret
      exact ⟨by rw [HE.out]; rfl, hbel⟩
    · have hm2 : ((m : Int) != 0) = true := by rw [bne_iff_ne]; omega
      have hcv := run_one_string wr (fig ((m : Int) % 10))
      have hadd : ∀ wx, (Op.stringOp .add (bstr [fig ((m : Int) % 10)]) (bstr t)).run Tryz.prog wx = .ok (.string (bstr (fig ((m : Int) % 10) :: t))) wx := fun wx => by
        rw [run_string_add_sum wx _ _ (by rw [bstr_size', bstr_size']; simp; omega), bstr_cons]
      go_wp2_with (go_at_call 189; refine (l01Figure_any _ _ (by omega) (by omega)).mono ?_; rintro e w' ⟨rfl, hw⟩; have hw2 := hw.symm; subst hw2)
      go_roundw
      case rel => exact ⟨m / 10, fig ((m : Int) % 10) :: t, by go_num, rfl, by simp; omega, (by show decI n = _; rw [HE.out, decPre_step hm, show fig ((m : Int) % 10) = 48 + (m : Int) % 10 by unfold fig; rw [if_pos (by omega)]]), hbel.alloc hsz _⟩
      case measure => simp [intOf]; omega

theorem specDecimal_any (n : Int) (w : World) (h0 : 0 ≤ n) (hn : n ≤ 1000000000) :
    Calls Tryz.prog 160 #[.int .i64 n] w fun e w' => e = .returned (.string (bstr (decI n.toNat))) ∧ Below w.heap.size w w' := by
  obtain ⟨k, rfl⟩ := Int.eq_ofNat_of_zero_le h0
  by_cases hk : k = 0
  · subst hk; exact specDecimal_zero w
  · exact specDecimal_pos k w (by omega) (by omega)

/-- The figures of the first k bytes, if they are figures. -/
def figTo (s : ByteArray) (l : List Nat) : Prop := l.length ≤ s.size ∧ (∀ d ∈ l, d < 10) ∧ ∀ j (h : j < s.size), j < l.length → l[j]? = some (s[j].toNat - 48) ∧ 48 ≤ s[j].toNat
/-- What ReadDecimal comes to. -/
def rd (s : ByteArray) : Int × Bool :=
  if s.size = 0 ∨ 10 < s.size then (0, false)
  else if (s.data.toList.getD 0 0).toNat = 48 ∧ 1 < s.size then (0, false)
  else if ∀ b ∈ s.data.toList, 48 ≤ b.toNat ∧ b.toNat ≤ 57 then
    if 1000000000 < valD (s.data.toList.map fun b => b.toNat - 48) then (0, false) else ((valD (s.data.toList.map fun b => b.toNat - 48) : Nat), true)
  else (0, false)

theorem figTo_nil (s : ByteArray) : figTo s [] := ⟨by simp, by simp, by simp⟩
theorem figTo_snoc {s : ByteArray} {l : List Nat} (h : figTo s l) (hlt : l.length < s.size) (h1 : 48 ≤ s[l.length].toNat) (h2 : s[l.length].toNat ≤ 57) : figTo s (l ++ [s[l.length].toNat - 48]) := by
  refine ⟨by simp; omega, ?_, fun j hj hk => ?_⟩
  · intro d hd
    rcases List.mem_append.1 hd with hd | hd
    · exact h.2.1 d hd
    · simp at hd; omega
  · by_cases e : j < l.length
    · rw [List.getElem?_append_left e]; exact h.2.2 j hj e
    · have e2 : j = l.length := by simp at hk; omega
      subst e2
      simp [h1]
/-- All bytes are figures: the list is theirs. -/
theorem figTo_all {s : ByteArray} {l : List Nat} (h : figTo s l) (he : l.length = s.size) : (s.data.toList.map fun b => b.toNat - 48) = l ∧ ∀ b ∈ s.data.toList, 48 ≤ b.toNat ∧ b.toNat ≤ 57 := by
  have hsz : s.data.toList.length = s.size := by simp
  have key : ∀ j (hj : j < s.size), l[j]? = some (s[j].toNat - 48) ∧ 48 ≤ s[j].toNat := fun j hj => h.2.2 j hj (by omega)
  constructor
  · apply List.ext_getElem?
    intro j
    by_cases hj : j < s.size
    · rw [(key j hj).1]
      simp [hj]
      rfl
    · rw [List.getElem?_eq_none (by simpa using hj), List.getElem?_eq_none (by omega)]
  · intro b hb
    obtain ⟨j, hj, rfl⟩ := List.mem_iff_getElem.1 hb
    have hj' : j < s.size := by simpa using hj
    have e : s.data.toList[j] = s[j] := rfl
    have k := key j hj'
    have hd := h.2.1 (s[j].toNat - 48) (List.mem_of_getElem? k.1)
    rw [e]
    omega
theorem rd_none {s : ByteArray} {j : Nat} (hj : j < s.size) (hb : s[j].toNat < 48 ∨ 57 < s[j].toNat) : rd s = (0, false) := by
  unfold rd
  split
  · rfl
  · split
    · rfl
    · rw [if_neg]
      intro h
      have := h s[j] (by
        have e : s[j] = s.data.toList[j]'(by simpa using hj) := rfl
        rw [e]; exact List.getElem_mem _)
      omega
theorem rd_all {s : ByteArray} {l : List Nat} (h : figTo s l) (he : l.length = s.size) (h0 : ¬ (s.size = 0 ∨ 10 < s.size)) (hz : ¬ ((s.data.toList.getD 0 0).toNat = 48 ∧ 1 < s.size)) (hm : valD l ≤ 1000000000) : rd s = (((valD l : Nat) : Int), true) := by
  obtain ⟨e1, e2⟩ := figTo_all h he
  unfold rd
  rw [if_neg h0, if_neg hz, if_pos e2, e1, if_neg (by omega)]
theorem rd_big {s : ByteArray} {l : List Nat} (h : figTo s l) (he : l.length = s.size) (hm : 1000000000 < valD l) : rd s = (0, false) := by
  obtain ⟨e1, e2⟩ := figTo_all h he
  unfold rd
  by_cases h1 : s.size = 0 ∨ 10 < s.size
  · rw [if_pos h1]
  · rw [if_neg h1]
    by_cases h2 : (s.data.toList.getD 0 0).toNat = 48 ∧ 1 < s.size
    · rw [if_pos h2]
    · rw [if_neg h2, if_pos e2, e1, if_pos hm]
theorem rd_out {s : ByteArray} (h : s.size = 0 ∨ 10 < s.size) : rd s = (0, false) := by unfold rd; rw [if_pos h]
theorem rd_nought {s : ByteArray} (h : 1 < s.size) (hz : s[0].toNat = 48) : rd s = (0, false) := by
  unfold rd
  split
  · rfl
  · rw [if_pos ⟨by rw [byteAt s 0 (by omega)]; exact hz, h⟩]

/-- The figures of the number are the text just when no nought is needless. -/
theorem same_figs {s : ByteArray} {l : List Nat} (h : figTo s l) (he : l.length = s.size) :
    ((bstr (decI (valD l))).toList == s.toList) = decide (s.size ≠ 0 ∧ ¬ ((s.data.toList.getD 0 0).toNat = 48 ∧ 1 < s.size)) := by
  obtain ⟨e1, e2⟩ := figTo_all h he
  have hs : s = bstr (figs l) := by
    apply ByteArray.ext
    apply Array.ext
    · simp [bstr, figs, ← he]
    · intro i h1 h2
      have hi : i < l.length := by simpa [bstr, figs] using h2
      have k := h.2.2 i (by omega) hi
      have e : l[i] = s[i].toNat - 48 := by simpa [List.getElem?_eq_getElem hi] using k.1
      have : s.data[i] = s[i] := rfl
      simp [bstr, figs, e, this]
      have h3 : (48 + ((s[i].toNat - 48 : Nat) : Int)).toNat = s[i].toNat := by omega
      rw [h3]
      simp
  by_cases h0 : s.size = 0
  · have hl : l = [] := List.eq_nil_of_length_eq_zero (by omega)
    subst hl
    have hne : ¬ (s.size ≠ 0 ∧ ¬ ((s.data.toList.getD 0 0).toNat = 48 ∧ 1 < s.size)) := fun hh => hh.1 h0
    rw [decide_eq_false hne]
    refine beq_eq_false_iff_ne.2 fun e => ?_
    rw [ByteArray.toList_eq, ByteArray.toList_eq] at e
    have := congrArg List.length e
    simp [bstr, valD, decI_one] at this
    omega
  · have hb : s[0]'(by omega) = s.data.toList.getD 0 0 := (byteAt s 0 (by omega)).symm
    have hne : l ≠ [] := by intro e; subst e; simp at he; omega
    have hr : ∀ x ∈ figs l, 0 ≤ x ∧ x < 256 := by
      intro x hx
      simp [figs] at hx
      obtain ⟨y, hy, rfl⟩ := hx
      have := h.2.1 y hy
      omega
    have k := h.2.2 0 (by omega) (by omega)
    by_cases hz : (s.data.toList.getD 0 0).toNat = 48 ∧ 1 < s.size
    · rw [decide_eq_false (fun hh => hh.2 hz)]
      refine beq_eq_false_iff_ne.2 fun e => ?_
      rw [ByteArray.toList_eq, ByteArray.toList_eq] at e
      have e3 := ByteArray.ext (Array.toList_inj.1 e)
      rw [hs] at e3
      refine decI_valD_not l (by omega) ?_ (bstr_inj (decI_range _ _ (Nat.le_refl _)) hr e3)
      rw [List.head?_eq_getElem?, k.1, hb, hz.1]
    · rw [decide_eq_true ⟨h0, hz⟩]
      have hd : decI (valD l) = figs l := by
        refine decI_valD _ l rfl hne h.2.1 ?_
        by_cases h1 : l.length = 1
        · exact Or.inl h1
        · right
          rw [List.head?_eq_getElem?, k.1, hb]
          intro e
          have e4 := Option.some.inj e
          have := k.2
          rw [hb] at this
          exact hz ⟨by omega, by omega⟩
      rw [hd, ← hs]
      simp

end Go.Proofs.YtjmclcjhimcehaaGreatDoor
