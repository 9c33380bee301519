/-
  What the functions of numbers in bytes answer: the walks. The plain side of numbers read from bytes: no Go in sight. What the two readers of numbers answer: the walks. What the model's reader of numbers answers: the walk. Figures of sixteen: the walks of what writes them. The plain side of decimal figures: no Go in sight. Decimal figures read: the walks. Decimal figures read: the walks of the two readers. A piece of a field of a rule, as the specification reads it: the walk. Rows of flags: small facts. A field of a rule, as the specification reads it: what it comes to, and the walk. The words of a line: the walk of the model's PartsOf. The words of a line: the walk of the model's PartsOf, its loop. A rule of five fields, as the specification reads it. A list of a rule in words, as the specification shows it. A rule in words, as the specification writes it. A rule comes back from its text: plain facts. A rule comes back from its text, whole: plain facts. Words that are a rule make one that is right: plain facts. Rules that are drawn: the walks. Fewer spans are the first ones of more: plain facts. The law on the latest of drawn spans: the walk.
-/
import Derived.Test.YtbecdaholpiaeaaDoorRows
import Derived.Test.YtbecdaholpiaeaaDoorAid
import Derived.Test.YtbecdaholpiaeaaDoorInf
import Derived.WalkKit
import Derived.WalkSpells
import Derived.WalkLawsBesides
import Derived.Handy
import Derived.Deep.QuietTactic
import Derived.BigQuiet
import Derived.Deep.RegionWith
import Derived.Deep.RegionHeld
import Derived.Deep.RegionHeldLaw
import Derived.Test.YtbecdaholpiaeaaDoorDci
import Derived.WalkMore
import Derived.Test.YtbecdaholpiaeaaDoorCrl
import Derived.Test.YtbecdaholpiaeaaDoorRi
import Derived.Test.YtbecdaholpiaeaaDoorStr
import Derived.Lib.Fields
import Derived.Test.YtbecdaholpiaeaaDoorB5s
import Derived.Test.YtbecdaholpiaeaaDoorCrk
import Derived.Test.YtbecdaholpiaeaaDoorNfp
import Derived.Test.YtbecdaholpiaeaaDoorFul
import Derived.Test.YtbecdaholpiaeaaDoorDraw2
import Derived.Test.YtbecdaholpiaeaaDoorDh
import Derived.Test.YtbecdaholpiaeaaDoorM1
namespace Go.Proofs.YtbecdaholpiaeaaDoor
open Go.RowKit


set_option maxRecDepth 10000 in
set_option maxHeartbeats 400000 in
theorem l01In_yes (x a b : Int) (w : World) (h1 : a ≤ x) (h2 : x ≤ b) :
    Calls Tryd.prog 35 #[.int .i64 x, .int .i64 a, .int .i64 b] w fun e w' => e = .returned (.bool true) ∧ w' = w := by
  go_enter Tryd.func35, Tryd.ntmps35
  go_wp2
  go_ret
  exact ⟨rfl, rfl⟩

set_option maxRecDepth 10000 in
set_option maxHeartbeats 400000 in
theorem l01In_no (x a b : Int) (w : World) (h : x < a ∨ b < x) :
    Calls Tryd.prog 35 #[.int .i64 x, .int .i64 a, .int .i64 b] w fun e w' => e = .returned (.bool false) ∧ w' = w := by
  by_cases h1 : a ≤ x
  · have h2 : b < x := by omega
    clear h
    go_enter Tryd.func35, Tryd.ntmps35
    go_wp2
    go_ret
    exact ⟨congrArg Ending.returned (congrArg Value.bool (decide_eq_false (by omega))), rfl⟩
  · clear h
    go_enter Tryd.func35, Tryd.ntmps35
    go_wp2
    go_ret
    exact ⟨rfl, rfl⟩

end Go.Proofs.YtbecdaholpiaeaaDoor

namespace Go.Proofs.YtbecdaholpiaeaaDoor
open Go Go.RowKit

/-- The number whose seven bits a byte these are, the lowest first. -/
def valN : List Nat → Nat
  | [] => 0
  | b :: t => b % 128 + 128 * valN t

theorem valN_snoc : ∀ (l : List Nat) (c : Nat), valN (l ++ [c]) = valN l + c % 128 * 128 ^ l.length
  | [], c => by simp [valN]
  | b :: t, c => by
    simp only [List.cons_append, valN, valN_snoc t c, List.length_cons]
    rw [Nat.mul_add, Nat.pow_succ]
    have : 128 * (c % 128 * 128 ^ t.length) = c % 128 * (128 ^ t.length * 128) := by
      rw [Nat.mul_comm 128, Nat.mul_assoc]
    omega

theorem valN_lt : ∀ (l : List Nat), valN l < 128 ^ l.length
  | [] => by simp [valN]
  | b :: t => by
    have := valN_lt t
    simp only [valN, List.length_cons, Nat.pow_succ]
    omega

def ints (l : List Nat) : List Int := l.map Int.ofNat

theorem varI_nought : ∀ (f n : Nat) (q : List Int), n ≤ f → varI n = q ++ [0] → n = 0 ∧ q = []
  | 0, n, q, h, e => by
    have : n = 0 := by omega
    subst this
    rw [varI_last (by omega)] at e
    refine ⟨rfl, ?_⟩
    have := congrArg List.length e
    simp at this
    exact this
  | f + 1, n, q, h, e => by
    by_cases hn : 127 < n
    · rw [varI_more hn] at e
      match q, e with
      | [], e => simp at e; omega
      | x :: q', e =>
        simp at e
        have := (varI_nought f (n / 128) q' (by omega) e.2).1
        omega
    · rw [varI_last hn] at e
      have h1 := congrArg List.length e
      simp at h1
      subst h1
      simp at e
      exact ⟨by omega, rfl⟩

/-- Bytes that go on, and a last one: they are what VarText writes of their number just when the last one is not needless. -/
theorem varI_valN : ∀ (p : List Nat) (c : Nat), (∀ b ∈ p, 128 ≤ b ∧ b < 256) → c < 128 → (p = [] ∨ c ≠ 0) → varI (valN (p ++ [c])) = ints (p ++ [c])
  | [], c, _, hc, _ => by
    have : valN ([] ++ [c]) = c := by simp [valN]; omega
    rw [this, varI_last (by omega)]
    rfl
  | b :: t, c, hb, hc, hne => by
    have hc0 : c ≠ 0 := by simpa using hne
    have ih := varI_valN t c (fun x hx => hb x (by simp [hx])) hc (Or.inr hc0)
    have hb0 := hb b (by simp)
    have hv : 0 < valN (t ++ [c]) := by
      rw [valN_snoc]
      have : 0 < c % 128 * 128 ^ t.length := Nat.mul_pos (by omega) (Nat.pow_pos (by decide))
      omega
    have e : valN (b :: t ++ [c]) = b % 128 + 128 * valN (t ++ [c]) := rfl
    rw [e, varI_more (by omega)]
    have h2 : (b % 128 + 128 * valN (t ++ [c])) / 128 = valN (t ++ [c]) := by omega
    rw [h2, ih]
    show _ = (b : Int) :: ints (t ++ [c])
    congr 1
    omega

theorem varI_valN_not (p : List Nat) (hp : p ≠ []) : varI (valN (p ++ [0])) ≠ ints (p ++ [0]) := by
  intro e
  have : ints (p ++ [0]) = ints p ++ [0] := by simp [ints]
  rw [this] at e
  have := (varI_nought _ _ _ (Nat.le_refl _) e).2
  simp [ints] at this
  exact hp this

/-- What ReadVar comes to: from the place i on, the k-th byte, n read so far. -/
def rvGo (s : ByteArray) : Nat → Nat → Nat → Nat → Int × Int × Bool
  | 0, _, _, _ => (0, 0, false)
  | f + 1, i, k, n =>
    if h : i < s.size then
      if s[i].toNat < 128 then
        if 1000000000 < n + s[i].toNat % 128 * 128 ^ k ∨ (s[i].toNat = 0 ∧ 0 < k) then (0, 0, false)
        else (((n + s[i].toNat % 128 * 128 ^ k : Nat) : Int), (i : Int) + 1, true)
      else rvGo s f (i + 1) (k + 1) (n + s[i].toNat % 128 * 128 ^ k)
    else (0, 0, false)

theorem rvGo_end {s : ByteArray} {f i k n : Nat} (h : ¬ i < s.size) : rvGo s f i k n = (0, 0, false) := by
  cases f with
  | zero => rfl
  | succ f => rw [rvGo, dif_neg h]

theorem rvGo_more {s : ByteArray} {f i k n : Nat} (h : i < s.size) (hb : ¬ s[i].toNat < 128) : rvGo s (f + 1) i k n = rvGo s f (i + 1) (k + 1) (n + s[i].toNat % 128 * 128 ^ k) := by
  rw [rvGo, dif_pos h, if_neg hb]

theorem rvGo_bad {s : ByteArray} {f i k n : Nat} (h : i < s.size) (hb : s[i].toNat < 128) (hx : 1000000000 < n + s[i].toNat % 128 * 128 ^ k ∨ (s[i].toNat = 0 ∧ 0 < k)) : rvGo s (f + 1) i k n = (0, 0, false) := by
  rw [rvGo, dif_pos h, if_pos hb, if_pos hx]

theorem rvGo_ok {s : ByteArray} {f i k n : Nat} (h : i < s.size) (hb : s[i].toNat < 128) (hx : ¬ (1000000000 < n + s[i].toNat % 128 * 128 ^ k ∨ (s[i].toNat = 0 ∧ 0 < k))) :
    rvGo s (f + 1) i k n = (((n + s[i].toNat % 128 * 128 ^ k : Nat) : Int), (i : Int) + 1, true) := by
  rw [rvGo, dif_pos h, if_pos hb, if_neg hx]

def rv (s : ByteArray) (at' : Int) : Int × Int × Bool := if 0 ≤ at' ∧ at' ≤ s.size then rvGo s 5 at'.toNat 0 0 else (0, 0, false)

/-- As a value. -/
def rvV (r : Int × Int × Bool) : Value := .tuple #[.int .i64 r.1, .int .i64 r.2.1, .bool r.2.2]

/-- The k bytes from a place on. -/
def bytesAt (s : ByteArray) (at' : Nat) (p : List Nat) : Prop := at' + p.length ≤ s.size ∧ ∀ j (h : at' + j < s.size), j < p.length → p[j]? = some s[at' + j].toNat

theorem bytesAt_snoc {s : ByteArray} {at' : Nat} {p : List Nat} (h : bytesAt s at' p) (hl : at' + p.length < s.size) : bytesAt s at' (p ++ [s[at' + p.length].toNat]) := by
  refine ⟨by simp; omega, fun j hj hk => ?_⟩
  by_cases e : j < p.length
  · rw [List.getElem?_append_left e]; exact h.2 j hj e
  · have e2 : j = p.length := by simp at hk; omega
    subst e2
    simp

theorem extract_bytesAt {s : ByteArray} {at' : Nat} {p : List Nat} (h : bytesAt s at' p) : s.extract at' (at' + p.length) = bstr (ints p) := by
  apply ByteArray.ext
  apply Array.ext
  · simp [bstr, ints]; have := h.1; have : s.data.size = s.size := rfl; omega
  · intro i h1 h2
    have hi : i < p.length := by simpa [bstr, ints] using h2
    have hs : at' + i < s.size := by have := h.1; omega
    have := h.2 i hs hi
    have e : p[i] = s[at' + i].toNat := by simpa [List.getElem?_eq_getElem hi] using this
    simp [bstr, ints, e]
    rfl

theorem varI_range : ∀ (f n : Nat), n ≤ f → ∀ x ∈ varI n, 0 ≤ x ∧ x < 256
  | 0, n, h, x, hx => by
    rw [varI_last (by omega)] at hx
    simp at hx; omega
  | f + 1, n, h, x, hx => by
    by_cases hn : 127 < n
    · rw [varI_more hn] at hx
      rcases List.mem_cons.1 hx with rfl | hx
      · omega
      · exact varI_range f (n / 128) (by omega) x hx
    · rw [varI_last hn] at hx
      simp at hx; omega

theorem bstr_inj {l m : List Int} (hl : ∀ x ∈ l, 0 ≤ x ∧ x < 256) (hm : ∀ x ∈ m, 0 ≤ x ∧ x < 256) (h : bstr l = bstr m) : l = m := by
  have h1 : (l.map fun n => UInt8.ofNat n.toNat) = m.map fun n => UInt8.ofNat n.toNat := by
    have := congrArg (fun b : ByteArray => b.data.toList) h
    simpa [bstr] using this
  clear h
  induction l generalizing m with
  | nil => simp at h1; exact h1.symm
  | cons x l ih =>
    match m, h1, hm with
    | y :: m, h1, hm =>
      simp only [List.map_cons, List.cons.injEq] at h1
      have hx := hl x (by simp)
      have hy := hm y (by simp)
      have e := congrArg UInt8.toNat h1.1
      simp only [UInt8.toNat_ofNat'] at e
      rw [ih (fun z hz => hl z (by simp [hz])) (fun z hz => hm z (by simp [hz])) h1.2]
      congr 1
      omega

/-- The bytes that were read are what VarText writes of their number just when the last one is not needless. -/
theorem same_bytes {s : ByteArray} {a i N q : Nat} {p : List Nat} (hp : bytesAt s a p) (hk : a + p.length = i) (hq : 128 ^ p.length = q) (h3 : ∀ b ∈ p, 128 ≤ b ∧ b < 256) (hN : N = valN p)
    (hlt : i < s.size) (hb : s[i].toNat < 128) :
    ((bstr (varI (N + s[i].toNat % 128 * q))).toList == (s.extract a (i + 1)).toList) = !(decide (s[i].toNat = 0 ∧ a < i)) := by
  subst hk
  have e1 : s.extract a (a + p.length + 1) = bstr (ints (p ++ [s[a + p.length].toNat])) := by
    rw [← extract_bytesAt (bytesAt_snoc hp hlt)]
    simp [Nat.add_assoc]
  have e2 : N + s[a + p.length].toNat % 128 * q = valN (p ++ [s[a + p.length].toNat]) := by rw [valN_snoc, hq, ← hN]
  rw [e1, e2]
  generalize hc : s[a + p.length].toNat = c at *
  by_cases hz : c = 0 ∧ a < a + p.length
  · obtain ⟨rfl, hz⟩ := hz
    have hne : p ≠ [] := by intro e; subst e; simp at hz
    have := varI_valN_not p hne
    rw [decide_eq_true (show (0 : Nat) = 0 ∧ a < a + p.length from ⟨rfl, hz⟩)]
    refine beq_eq_false_iff_ne.2 ?_
    intro e
    rw [ByteArray.toList_eq, ByteArray.toList_eq] at e
    refine this (bstr_inj (varI_range _ _ (Nat.le_refl _)) ?_ (ByteArray.ext (Array.toList_inj.1 e)))
    intro x hx
    simp [ints] at hx
    rcases hx with ⟨y, hy, rfl⟩ | rfl
    · have := h3 y hy; omega
    · omega
  · rw [varI_valN p c h3 hb ?_]
    · simp only [decide_eq_false hz]; simp
    · by_cases hpe : p = []
      · exact Or.inl hpe
      · right
        intro e
        have : 0 < p.length := List.length_pos_iff.2 hpe
        exact hz ⟨e, by omega⟩

end Go.Proofs.YtbecdaholpiaeaaDoor

namespace Go.Proofs.YtbecdaholpiaeaaDoor
open Go.RowKit

theorem pow_le {k : Nat} (h : k ≤ 4) : 1 ≤ 128 ^ k ∧ 128 ^ k ≤ 268435456 := by
  match k, h with
  | 0, _ | 1, _ | 2, _ | 3, _ | 4, _ => decide
theorem mul_bd (b q : Nat) (h2 : q ≤ 268435456) : 0 ≤ (b : Int) % 128 * (q : Int) ∧ (b : Int) % 128 * (q : Int) ≤ 34091302912 ∧ ((b % 128 * q : Nat) : Int) = (b : Int) % 128 * (q : Int) := by
  have e : ((b % 128 * q : Nat) : Int) = (b : Int) % 128 * (q : Int) := by simp
  have h3 : b % 128 * q ≤ 127 * 268435456 := Nat.mul_le_mul (by omega) h2
  rw [← e]
  omega

section
variable {s : ByteArray} {a i k N q : Nat} {R : Int × Int × Bool}
theorem rv_end (HR : Hid (R = rvGo s (5 - k) i k N)) (HK : Hid (a + k = i)) (hk : k ≤ 5) (h : ¬ (i < s.size ∧ i < a + 5)) : Ending.returned (rvV (0, 0, false)) = .returned (rvV R) := by
  rw [HR.out]
  have := HK.out
  by_cases h1 : i < s.size
  · have : k = 5 := by omega
    subst this
    rfl
  · rw [rvGo_end h1]
theorem rv_bad (HR : Hid (R = rvGo s (5 - k) i k N)) (HQ : Hid (128 ^ k = q)) (HK : Hid (a + k = i)) {h : i < s.size} (HM : Hid (((s[i].toNat % 128 * q : Nat) : Int) = (s[i].toNat : Int) % 128 * (q : Int)))
    (hk : k ≤ 4) (hlt : i < s.size) (hb : ¬ 127 < s[i].toNat) (hx : 1000000000 < (N : Int) + (s[i].toNat : Int) % 128 * (q : Int) ∨ (s[i].toNat = 0 ∧ a < i)) :
    Ending.returned (rvV (0, 0, false)) = .returned (rvV R) := by
  rw [HR.out, show 5 - k = (4 - k) + 1 by omega, rvGo_bad hlt (by omega)]
  have e1 := HK.out
  have e2 := HM.out
  rw [HQ.out]
  rcases hx with hx | hx
  · left; omega
  · right; omega
theorem rv_ok (HR : Hid (R = rvGo s (5 - k) i k N)) (HQ : Hid (128 ^ k = q)) (HK : Hid (a + k = i)) {h : i < s.size} (HM : Hid (((s[i].toNat % 128 * q : Nat) : Int) = (s[i].toNat : Int) % 128 * (q : Int)))
    (hk : k ≤ 4) (hlt : i < s.size) (hb : ¬ 127 < s[i].toNat) (hx : (N : Int) + (s[i].toNat : Int) % 128 * (q : Int) ≤ 1000000000) (hz : ¬ s[i].toNat = 0 ∨ ¬ a < i) :
    Ending.returned (rvV ((N : Int) + (s[i].toNat : Int) % 128 * (q : Int), (i : Int) + 1, true)) = .returned (rvV R) := by
  have e1 := HK.out
  have e2 := HM.out
  rw [HR.out, show 5 - k = (4 - k) + 1 by omega, rvGo_ok hlt (by omega) (by rw [HQ.out]; omega), HQ.out]
  congr 2
theorem rv_ok0 (HR : Hid (R = rvGo s (5 - k) i k N)) (HQ : Hid (128 ^ k = q)) (HK : Hid (a + k = i)) {h : i < s.size} (HM : Hid (((s[i].toNat % 128 * q : Nat) : Int) = (s[i].toNat : Int) % 128 * (q : Int)))
    (hk : k ≤ 4) (hlt : i < s.size) (hb : ¬ 127 < s[i].toNat) (hx : (N : Int) + (s[i].toNat : Int) % 128 * (q : Int) ≤ 1000000000) (h0 : s[i].toNat = 0) (hz : ¬ a < i) :
    Ending.returned (rvV ((N : Int), (i : Int) + 1, true)) = .returned (rvV R) := by
  rw [← rv_ok HR HQ HK HM hk hlt hb hx (Or.inr hz), h0]
  simp
theorem rv_more (HR : Hid (R = rvGo s (5 - k) i k N)) (HQ : Hid (128 ^ k = q)) (HK : Hid (a + k = i)) {h : i < s.size} (HM : Hid (((s[i].toNat % 128 * q : Nat) : Int) = (s[i].toNat : Int) % 128 * (q : Int)))
    (hk : k ≤ 4) (hlt : i < s.size) (hb : 127 < s[i].toNat) (hN : N < q) :
    ∃ i' k' N' q' : Nat, k' ≤ 5 ∧ i' ≤ s.size ∧ a + k' = i' ∧ 128 ^ k' = q' ∧ N' < q' ∧ Value.int .i64 ((N : Int) + (s[i].toNat : Int) % 128 * (q : Int)) = .int .i64 N' ∧ Value.int .i64 ((q : Int) * 128) = .int .i64 q' ∧ Value.int .i64 ((i : Int) + 1) = .int .i64 i' ∧ R = rvGo s (5 - k') i' k' N' := by
  have e1 := HK.out
  have e2 := HM.out
  have e3 : s[i].toNat % 128 * q ≤ 127 * q := Nat.mul_le_mul (by omega) (Nat.le_refl _)
  refine ⟨i + 1, k + 1, N + s[i].toNat % 128 * q, q * 128, by omega, by omega, by omega, ?_, by omega, ?_, ?_, ?_, ?_⟩
  · rw [Nat.pow_succ, HQ.out]
  · congr 1
  · congr 1
  · congr 1
  · rw [HR.out, show 5 - k = (4 - k) + 1 by omega, rvGo_more hlt (by omega), HQ.out]
    congr 1
    omega
end

end Go.Proofs.YtbecdaholpiaeaaDoor

namespace Go.Proofs.YtbecdaholpiaeaaDoor
open Go.RowKit

theorem slice_at (s : ByteArray) (a i : Nat) (wx : World) (h1 : a ≤ i) (h2 : i < s.size) :
    (Instr.slice 9 (.string s) (some (.int .i64 (a : Int))) (some (.int .i64 ((i : Int) + 1))) none).run Tryd.prog wx = .ok (.string (s.extract a (i + 1))) wx := by
  have := run_slice_string (P := Tryd.prog) wx 9 s .i64 .i64 (a : Int) ((i : Int) + 1) Tryd.underlying9 (by omega) (by omega) (by omega)
  simpa using this
theorem slice_at_w (s : ByteArray) (a i : Nat) (wx : World) (h1 : a ≤ i) (h2 : i < s.size) (h3 : s.size ≤ 1048576) :
    (Instr.slice 9 (.string s) (some (.int .i64 (a : Int))) (some (.int .i64 (IntKind.i64.wrap ((i : Int) + 1)))) none).run Tryd.prog wx = .ok (.string (s.extract a (i + 1))) wx := by
  have e : IntKind.i64.wrap ((i : Int) + 1) = (i : Int) + 1 := by go_arith
  rw [e]
  exact slice_at s a i wx h1 h2

theorem rvs_more {s : ByteArray} {a i k N q : Nat} {R : Int × Int × Bool} {p : List Nat} (HR : Hid (R = rvGo s (5 - k) i k N)) (HQ : Hid (128 ^ k = q)) (HK : Hid (a + k = i)) {h : i < s.size} (HM : Hid (((s[i].toNat % 128 * q : Nat) : Int) = (s[i].toNat : Int) % 128 * (q : Int)))
    (HP : Hid (bytesAt s a p ∧ p.length = k ∧ (∀ b ∈ p, 128 ≤ b ∧ b < 256) ∧ N = valN p))
    (hk : k ≤ 4) (hlt : i < s.size) (hb : 127 < s[i].toNat) (hN : N < q) :
    ∃ (i' k' N' q' : Nat) (p' : List Nat), k' ≤ 5 ∧ i' ≤ s.size ∧ a + k' = i' ∧ 128 ^ k' = q' ∧ N' < q' ∧ Value.int .i64 ((N : Int) + (s[i].toNat : Int) % 128 * (q : Int)) = .int .i64 N' ∧ Value.int .i64 ((q : Int) * 128) = .int .i64 q' ∧ Value.int .i64 ((i : Int) + 1) = .int .i64 i' ∧ R = rvGo s (5 - k') i' k' N' ∧
      (bytesAt s a p' ∧ p'.length = k' ∧ (∀ b ∈ p', 128 ≤ b ∧ b < 256) ∧ N' = valN p') := by
  have e1 := HK.out
  have e2 := HM.out
  obtain ⟨p1, p2, p3, p4⟩ := HP.out
  subst p2
  subst e1
  have e3 : s[a + p.length].toNat % 128 * q ≤ 127 * q := Nat.mul_le_mul (by omega) (Nat.le_refl _)
  have h256 := s[a + p.length].toNat_lt
  refine ⟨a + p.length + 1, p.length + 1, N + s[a + p.length].toNat % 128 * q, q * 128, p ++ [s[a + p.length].toNat], by omega, by omega, by omega, ?_, by omega, ?_, ?_, ?_, ?_, bytesAt_snoc p1 hlt, by simp, ?_, ?_⟩
  · rw [Nat.pow_succ, HQ.out]
  · congr 1
  · congr 1
  · congr 1
  · rw [HR.out, show 5 - p.length = (4 - p.length) + 1 by omega, rvGo_more hlt (by omega), HQ.out]
    congr 1
    omega
  · intro b hb'
    rcases List.mem_append.1 hb' with h | h
    · exact p3 b h
    · simp at h; omega
  · rw [valN_snoc, HQ.out, ← p4]

theorem rvs_bad {s : ByteArray} {a i k N q : Nat} {R : Int × Int × Bool} {p : List Nat} (HR : Hid (R = rvGo s (5 - k) i k N)) (HQ : Hid (128 ^ k = q)) (HK : Hid (a + k = i)) {h : i < s.size} (HM : Hid (((s[i].toNat % 128 * q : Nat) : Int) = (s[i].toNat : Int) % 128 * (q : Int)))
    (HP : Hid (bytesAt s a p ∧ p.length = k ∧ (∀ b ∈ p, 128 ≤ b ∧ b < 256) ∧ N = valN p)) (hk : k ≤ 4) (hlt : i < s.size) (hb : ¬ 127 < s[i].toNat)
    (hne : (!(bstr (varI ((N : Int) + (s[i].toNat : Int) % 128 * (q : Int)).toNat)).toList == (s.extract a (i + 1)).toList) = true) : Ending.returned (rvV (0, 0, false)) = .returned (rvV R) := by
  obtain ⟨p1, p2, p3, p4⟩ := HP.out
  subst p2
  have e2 := HM.out
  rw [show ((N : Int) + (s[i].toNat : Int) % 128 * (q : Int)).toNat = N + s[i].toNat % 128 * q by omega, same_bytes p1 HK.out HQ.out p3 p4 hlt (by omega)] at hne
  exact rv_bad HR HQ HK HM hk hlt hb (Or.inr (by simpa using hne))
theorem rvs_ok {s : ByteArray} {a i k N q : Nat} {R : Int × Int × Bool} {p : List Nat} (HR : Hid (R = rvGo s (5 - k) i k N)) (HQ : Hid (128 ^ k = q)) (HK : Hid (a + k = i)) {h : i < s.size} (HM : Hid (((s[i].toNat % 128 * q : Nat) : Int) = (s[i].toNat : Int) % 128 * (q : Int)))
    (HP : Hid (bytesAt s a p ∧ p.length = k ∧ (∀ b ∈ p, 128 ≤ b ∧ b < 256) ∧ N = valN p)) (hk : k ≤ 4) (hlt : i < s.size) (hb : ¬ 127 < s[i].toNat) (hx : (N : Int) + (s[i].toNat : Int) % 128 * (q : Int) ≤ 1000000000)
    (hne : (!(bstr (varI ((N : Int) + (s[i].toNat : Int) % 128 * (q : Int)).toNat)).toList == (s.extract a (i + 1)).toList) = false) :
    Ending.returned (rvV ((N : Int) + (s[i].toNat : Int) % 128 * (q : Int), (i : Int) + 1, true)) = .returned (rvV R) := by
  obtain ⟨p1, p2, p3, p4⟩ := HP.out
  subst p2
  have e2 := HM.out
  rw [show ((N : Int) + (s[i].toNat : Int) % 128 * (q : Int)).toNat = N + s[i].toNat % 128 * q by omega, same_bytes p1 HK.out HQ.out p3 p4 hlt (by omega)] at hne
  have hz : ¬ (s[i].toNat = 0 ∧ a < i) := by simpa using hne
  refine rv_ok HR HQ HK HM hk hlt hb hx ?_
  by_cases h0 : s[i].toNat = 0
  · exact Or.inr fun h => hz ⟨h0, h⟩
  · exact Or.inl h0

theorem rv_bad_eq {s : ByteArray} {at' : Int} (h : at' < 0 ∨ (s.size : Int) < at') : rv s at' = (0, 0, false) := by
  unfold rv; rw [if_neg (by omega)]
theorem rv_in_eq {s : ByteArray} {a : Nat} (h : a ≤ s.size) : rv s (a : Int) = rvGo s 5 a 0 0 := by
  unfold rv; rw [if_pos (by omega)]; simp

end Go.Proofs.YtbecdaholpiaeaaDoor

namespace Go.Proofs.YtbecdaholpiaeaaDoor
open Go.RowKit

theorem ownsB.drew {w : World} {B : Nat} {e : TypeId} {v : Value} {l : List Int} (h : ownsB w B e v l) : ownsB w.drew B e v l := World.ownsRow.drew h

/-- Bytes more behind a row of bytes that the call owns, as one step of a region that draws its order. -/
theorem step_append_bytes {P : Program} {ops : Array Oper} {o : Oper} {a : Act} {w : World} {K : Act → World → Prop} {Q : Exit → Act → World → Prop} {E : Prop}
    (hg : o.guard = none) (s x : Operand) (t : TypeId) (hop : o.op = Op.call { callee := Callee.builtin Builtin.append, args := #[s, x], argTypes := #[t, t] })
    (B : Nat) (e : TypeId) (ht : P.underlying t = some (.slice e)) (hi : (P.info? e).map (fun i => (i.zero, i.size, i.bytes)) = some (some (.int .u8 0), 1, 1))
    (v : Value) (l : List Int) (hs : a.eval s = v) (w0 : World) (ad : Addr) (m c : Nat) (ns : List Int) (hm : ns.length = m) (hx : a.eval x = .slice (some ad) m c)
    (hown : ownsB w B e v l) (hbel : Below B w0 w) (hc : ∀ j u, (ns.map (Value.int .u8))[j]? = some u → w.cell? (ad.add j) = some u)
    (hlen : l.length + m ≤ 140737488355328) (hB : B ≤ w.heap.size)
    (hK : ∀ v' w', ownsB w' B e v' (l ++ ns) → Below B w0 w' → K (a.put o.dst v') w') :
    if Region.wanted o (yielded ops a.tmps) = true then Oper.wp P o a w K Q else E := by
  have hw : Region.wanted o (yielded ops a.tmps) = true := by simp [Region.wanted, hg]
  rw [if_pos hw]
  subst hm
  obtain ⟨i0, hi0, hz0, hz1, hz2⟩ := info_parts hi
  obtain ⟨v', w', hrun, r1, r2, _⟩ := run_append_own (P := P) w B t o.type e i0 (.int .u8 0) 1 1 ht hi0 hz0 hz1 hz2 rfl (by decide) v l.length _ hown ad ns.length c (ns.map (Value.int .u8)) (by simp) hc
    (fun u hu => by simp at hu; obtain ⟨n, _, rfl⟩ := hu; rfl) (by unfold maxLen; omega) (by omega) hB
  unfold Oper.wp
  simp [execOp, hop, resolve, invoke, builtin, hs, hx, hrun, Result.andThen]
  exact hK v' w' (by simpa [ownsB] using r1) (hbel.grown r2 hB fun k hk => (hown.lt k hk).1)

/-- The figure of a number below sixteen. -/
def fig (x : Int) : Int := if x < 10 then 48 + x else 87 + x

/-- The figures of the first k bytes. -/
def hexTo (s : ByteArray) : Nat → List Int
  | 0 => []
  | k + 1 => hexTo s k ++ [fig (((s.data.toList.getD k 0).toNat : Int) / 16), fig (((s.data.toList.getD k 0).toNat : Int) % 16)]
theorem hexTo_length (s : ByteArray) : ∀ k, (hexTo s k).length = 2 * k
  | 0 => rfl
  | k + 1 => by simp [hexTo, hexTo_length s k]; omega
theorem byteAt (s : ByteArray) (k : Nat) (h : k < s.size) : s.data.toList.getD k 0 = s[k] := by
  have h2 : k < s.data.toList.length := by simpa using h
  rw [List.getD_eq_getElem?_getD, List.getElem?_eq_getElem h2]
  rfl

set_option maxHeartbeats 400000 in
theorem l01Figure_any (x : Int) (w : World) (h0 : 0 ≤ x) (h1 : x < 16) :
    Calls Tryd.prog 67 #[.int .i64 x] w fun e w' => e = .returned (.int .u8 (fig x)) ∧ w' = w := by
  by_cases h : x < 10
  · go_enter Tryd.func67, Tryd.ntmps67
    go_wp2
    go_ret
    exact ⟨by simp [fig, h], rfl⟩
  · go_enter Tryd.func67, Tryd.ntmps67
    go_wp2
    go_ret
    exact ⟨by simp [fig]; omega, rfl⟩

set_option maxRecDepth 10000 in
theorem index_fig (q : Int) (h0 : 0 ≤ q) (h1 : q < 16) (wx : World) :
    (Instr.index 9 (.string { data := #[48, 49, 50, 51, 52, 53, 54, 55, 56, 57, 97, 98, 99, 100, 101, 102] }) (.int .u8 q)).run Tryd.prog wx = .ok (.int .u8 (fig q)) wx := by
  obtain ⟨n, rfl⟩ := Int.eq_ofNat_of_zero_le h0
  have hn : n < 16 := by omega
  clear h0 h1
  rcases (show n = 0 ∨ n = 1 ∨ n = 2 ∨ n = 3 ∨ n = 4 ∨ n = 5 ∨ n = 6 ∨ n = 7 ∨ n = 8 ∨ n = 9 ∨ n = 10 ∨ n = 11 ∨ n = 12 ∨ n = 13 ∨ n = 14 ∨ n = 15 by omega) with h | h | h | h | h | h | h | h | h | h | h | h | h | h | h | h <;> subst h <;> rfl

theorem two_cells (w : World) (x y : Int) (e : TypeId) : ∀ (j : Nat) (u : Value), ([x, y].map (Value.int .u8))[j]? = some u →
    ((w.alloc (.cells #[.int .u8 x, .int .u8 y] e)).drew).cell? (Addr.add ⟨w.heap.size, 0, none⟩ j) = some u := by
  intro j u hj
  match j, hj with
  | 0, hj => simp at hj; subst hj; simp [Addr.add]
  | 1, hj => simp at hj; subst hj; simp [Addr.add]

end Go.Proofs.YtbecdaholpiaeaaDoor

namespace Go.Proofs.YtbecdaholpiaeaaDoor
open Go Go.RowKit

theorem decI_ne : ∀ (f n : Nat), n ≤ f → decI n ≠ []
  | 0, n, h => by rw [decI_one (by omega)]; simp
  | f + 1, n, h => by
    by_cases hn : n < 10
    · rw [decI_one hn]; simp
    · rw [decI_more hn]; simp
theorem decI_head : ∀ (f n : Nat) (t : List Int), n ≤ f → decI n = 48 :: t → n = 0
  | 0, n, t, h, e => by omega
  | f + 1, n, t, h, e => by
    by_cases hn : n < 10
    · rw [decI_one hn] at e
      simp at e
      omega
    · rw [decI_more hn] at e
      match hd : decI (n / 10) with
      | [] => exact absurd hd (decI_ne _ _ (Nat.le_refl _))
      | x :: t' =>
        rw [hd] at e
        simp at e
        obtain ⟨rfl, _⟩ := e
        have := decI_head f (n / 10) t' (by omega) hd
        omega
theorem decI_range : ∀ (f n : Nat), n ≤ f → ∀ x ∈ decI n, 0 ≤ x ∧ x < 256
  | 0, n, h, x, hx => by
    rw [decI_one (by omega)] at hx
    simp at hx; omega
  | f + 1, n, h, x, hx => by
    by_cases hn : n < 10
    · rw [decI_one hn] at hx
      simp at hx; omega
    · rw [decI_more hn] at hx
      rcases List.mem_append.1 hx with hx | hx
      · exact decI_range f (n / 10) (by omega) x hx
      · simp at hx; omega

/-- The number of figures. -/
def valD : List Nat → Nat := fun l => l.foldl (fun a d => 10 * a + d) 0
theorem valD_snoc (l : List Nat) (d : Nat) : valD (l ++ [d]) = 10 * valD l + d := by simp [valD, List.foldl_append]
theorem valD_lt (l : List Nat) : (∀ d ∈ l, d < 10) → valD l < 10 ^ l.length := by
  have h : ∀ (n : Nat) (l : List Nat), l.length = n → (∀ d ∈ l, d < 10) → valD l < 10 ^ l.length := by
    intro n
    induction n with
    | zero => intro l hl _; have : l = [] := List.eq_nil_of_length_eq_zero hl; subst this; simp [valD]
    | succ n ih =>
      intro l hl hd
      have hne : l ≠ [] := by intro e; subst e; simp at hl
      have e := List.dropLast_concat_getLast hne
      rw [← e, valD_snoc]
      have h1 := ih l.dropLast (by simp; omega) (fun d hd' => hd d (List.dropLast_subset l hd'))
      have h2 := hd (l.getLast hne) (List.getLast_mem hne)
      simp only [List.length_append, List.length_cons, List.length_nil, Nat.zero_add, Nat.pow_succ]
      omega
  exact h _ l rfl

def figs (l : List Nat) : List Int := l.map fun (d : Nat) => 48 + Int.ofNat d

theorem valD_pos : ∀ (l : List Nat) (x : Nat) , x ≠ 0 → 0 < valD (x :: l) := by
  intro l x hx
  have h : ∀ (l : List Nat) (a : Nat), 0 < a → 0 < l.foldl (fun a d => 10 * a + d) a := by
    intro l
    induction l with
    | nil => intro a ha; simpa using ha
    | cons y l ih => intro a ha; simp only [List.foldl_cons]; exact ih _ (by omega)
  simp only [valD, List.foldl_cons]
  exact h l _ (by omega)

/-- Figures without a needless nought are those of their number. -/
theorem decI_valD (n : Nat) : ∀ (l : List Nat), l.length = n → l ≠ [] → (∀ d ∈ l, d < 10) → (l.length = 1 ∨ l.head? ≠ some 0) → decI (valD l) = figs l := by
  induction n with
  | zero => intro l hl hne; exact absurd (List.eq_nil_of_length_eq_zero hl) hne
  | succ n ih =>
    intro l hl hne hd hz
    have e := List.dropLast_concat_getLast hne
    have h2 := hd (l.getLast hne) (List.getLast_mem hne)
    rw [← e, valD_snoc]
    by_cases hn : n = 0
    · subst hn
      have : l.dropLast = [] := List.eq_nil_of_length_eq_zero (by simp; omega)
      rw [this]
      simp only [valD, List.foldl_nil, Nat.mul_zero, Nat.zero_add, List.nil_append]
      rw [decI_one h2]
      rfl
    · have hne2 : l.dropLast ≠ [] := by intro e'; have := congrArg List.length e'; simp at this; omega
      match hl' : l.dropLast with
      | [] => exact absurd hl' hne2
      | x :: t =>
        have hx : x ≠ 0 := by
          intro e0; subst e0
          rcases hz with hz | hz
          · omega
          · apply hz
            rw [← e, hl']
            rfl
        have hpos := valD_pos t x hx
        have h1 := ih l.dropLast (by simp; omega) hne2 (fun d hd' => hd d (List.dropLast_subset l hd')) (by rw [hl']; right; simpa using hx)
        rw [hl'] at h1
        rw [decI_more (by omega), show (10 * valD (x :: t) + l.getLast hne) / 10 = valD (x :: t) by omega, h1]
        simp only [figs, List.map_append, List.map_cons, List.map_nil, Int.ofNat_eq_natCast]
        congr 2
        omega

theorem decI_valD_not (l : List Nat) (hl : 1 < l.length) (hz : l.head? = some 0) : decI (valD l) ≠ figs l := by
  match l, hl, hz with
  | x :: y :: t, _, hz =>
    simp at hz
    subst hz
    intro e
    have h0 := decI_head _ _ _ (Nat.le_refl _) (show decI (valD (0 :: y :: t)) = 48 :: figs (y :: t) from e)
    rw [h0, decI_one (by omega)] at e
    have := congrArg List.length e
    simp [figs] at this
end Go.Proofs.YtbecdaholpiaeaaDoor

namespace Go.Proofs.YtbecdaholpiaeaaDoor
open Go.RowKit

set_option maxRecDepth 10000 in
set_option maxHeartbeats 400000 in
theorem specDecimal_zero (w : World) :
    Calls Tryd.prog 63 #[.int .i64 0] w fun e w' => e = .returned (.string (bstr (decI 0))) ∧ Below w.heap.size w w' := by
  go_enter Tryd.func63, Tryd.ntmps63
  go_wp2
  go_ret
  exact ⟨rfl, Below.refl _ _⟩

set_option maxRecDepth 10000 in
set_option maxHeartbeats 400000 in
theorem specDecimal_pos (n : Nat) (w : World) (h0 : 0 < n) (hn : n ≤ 1000000000) :
    Calls Tryd.prog 63 #[.int .i64 n] w fun e w' => e = .returned (.string (bstr (decI n))) ∧ Below w.heap.size w w' := by
  have hz : ((n : Int) == 0) = false := by simp; omega
  have hneg : decide ((n : Int) < 0) = false := by simp
  go_enter Tryd.func63, Tryd.ntmps63
  go_wp2
  go_loopw [0, 4] (fun c st wr => ∃ (m : Nat) (t : List Int), c = .int .i64 m ∧ st = .string (bstr t) ∧ t.length + m ≤ n ∧ Hid (decI n = decPre m ++ t) ∧ Below w.heap.size w wr) (fun c _ _ => (intOf c).toNat)
  case atStart => exact ⟨n, [], rfl, rfl, by simp, (by show decI n = decPre n ++ []; unfold decPre; rw [if_neg (by omega)]; simp), Below.refl _ _⟩
  case round =>
    obtain ⟨m, t, rfl, rfl, hle, HE, hbel⟩ := hrel
    have hsz := hbel.size
    by_cases hm : m = 0
    · subst hm
      go_wp2
      go_ret
      exact ⟨by rw [HE.out]; rfl, hbel⟩
    · have hm2 : ((m : Int) != 0) = true := by rw [bne_iff_ne]; omega
      have hcv := run_one_string wr (fig ((m : Int) % 10))
      have hadd : ∀ wx, (Op.stringOp .add (bstr [fig ((m : Int) % 10)]) (bstr t)).run Tryd.prog wx = .ok (.string (bstr (fig ((m : Int) % 10) :: t))) wx := fun wx => by
        rw [run_string_add_sum wx _ _ (by rw [bstr_size', bstr_size']; simp; omega), bstr_cons]
      go_wp2_with (go_at_call 67; refine (l01Figure_any _ _ (by omega) (by omega)).mono ?_; rintro e w' ⟨rfl, hw⟩; have hw2 := hw.symm; subst hw2)
      go_roundw
      case rel => exact ⟨m / 10, fig ((m : Int) % 10) :: t, by go_num, rfl, by simp; omega, (by show decI n = _; rw [HE.out, decPre_step hm, show fig ((m : Int) % 10) = 48 + (m : Int) % 10 by unfold fig; rw [if_pos (by omega)]]), hbel.alloc hsz _⟩
      case measure => simp [intOf]; omega

theorem specDecimal_any (n : Int) (w : World) (h0 : 0 ≤ n) (hn : n ≤ 1000000000) :
    Calls Tryd.prog 63 #[.int .i64 n] w fun e w' => e = .returned (.string (bstr (decI n.toNat))) ∧ Below w.heap.size w w' := by
  obtain ⟨k, rfl⟩ := Int.eq_ofNat_of_zero_le h0
  by_cases hk : k = 0
  · subst hk; exact specDecimal_zero w
  · exact specDecimal_pos k w (by omega) (by omega)

/-- The figures of the first k bytes, if they are figures. -/
def figTo (s : ByteArray) (l : List Nat) : Prop := l.length ≤ s.size ∧ (∀ d ∈ l, d < 10) ∧ ∀ j (h : j < s.size), j < l.length → l[j]? = some (s[j].toNat - 48) ∧ 48 ≤ s[j].toNat
/-- What ReadDecimal comes to. -/
def rd (s : ByteArray) : Int × Bool :=
  if s.size = 0 ∨ 10 < s.size then (0, false)
  else if (s.data.toList.getD 0 0).toNat = 48 ∧ 1 < s.size then (0, false)
  else if ∀ b ∈ s.data.toList, 48 ≤ b.toNat ∧ b.toNat ≤ 57 then
    if 1000000000 < valD (s.data.toList.map fun b => b.toNat - 48) then (0, false) else ((valD (s.data.toList.map fun b => b.toNat - 48) : Nat), true)
  else (0, false)

theorem figTo_nil (s : ByteArray) : figTo s [] := ⟨by simp, by simp, by simp⟩
theorem figTo_snoc {s : ByteArray} {l : List Nat} (h : figTo s l) (hlt : l.length < s.size) (h1 : 48 ≤ s[l.length].toNat) (h2 : s[l.length].toNat ≤ 57) : figTo s (l ++ [s[l.length].toNat - 48]) := by
  refine ⟨by simp; omega, ?_, fun j hj hk => ?_⟩
  · intro d hd
    rcases List.mem_append.1 hd with hd | hd
    · exact h.2.1 d hd
    · simp at hd; omega
  · by_cases e : j < l.length
    · rw [List.getElem?_append_left e]; exact h.2.2 j hj e
    · have e2 : j = l.length := by simp at hk; omega
      subst e2
      simp [h1]
/-- All bytes are figures: the list is theirs. -/
theorem figTo_all {s : ByteArray} {l : List Nat} (h : figTo s l) (he : l.length = s.size) : (s.data.toList.map fun b => b.toNat - 48) = l ∧ ∀ b ∈ s.data.toList, 48 ≤ b.toNat ∧ b.toNat ≤ 57 := by
  have hsz : s.data.toList.length = s.size := by simp
  have key : ∀ j (hj : j < s.size), l[j]? = some (s[j].toNat - 48) ∧ 48 ≤ s[j].toNat := fun j hj => h.2.2 j hj (by omega)
  constructor
  · apply List.ext_getElem?
    intro j
    by_cases hj : j < s.size
    · rw [(key j hj).1]
      simp [hj]
      rfl
    · rw [List.getElem?_eq_none (by simpa using hj), List.getElem?_eq_none (by omega)]
  · intro b hb
    obtain ⟨j, hj, rfl⟩ := List.mem_iff_getElem.1 hb
    have hj' : j < s.size := by simpa using hj
    have e : s.data.toList[j] = s[j] := rfl
    have k := key j hj'
    have hd := h.2.1 (s[j].toNat - 48) (List.mem_of_getElem? k.1)
    rw [e]
    omega
theorem rd_none {s : ByteArray} {j : Nat} (hj : j < s.size) (hb : s[j].toNat < 48 ∨ 57 < s[j].toNat) : rd s = (0, false) := by
  unfold rd
  split
  · rfl
  · split
    · rfl
    · rw [if_neg]
      intro h
      have := h s[j] (by
        have e : s[j] = s.data.toList[j]'(by simpa using hj) := rfl
        rw [e]; exact List.getElem_mem _)
      omega
theorem rd_all {s : ByteArray} {l : List Nat} (h : figTo s l) (he : l.length = s.size) (h0 : ¬ (s.size = 0 ∨ 10 < s.size)) (hz : ¬ ((s.data.toList.getD 0 0).toNat = 48 ∧ 1 < s.size)) (hm : valD l ≤ 1000000000) : rd s = (((valD l : Nat) : Int), true) := by
  obtain ⟨e1, e2⟩ := figTo_all h he
  unfold rd
  rw [if_neg h0, if_neg hz, if_pos e2, e1, if_neg (by omega)]
theorem rd_big {s : ByteArray} {l : List Nat} (h : figTo s l) (he : l.length = s.size) (hm : 1000000000 < valD l) : rd s = (0, false) := by
  obtain ⟨e1, e2⟩ := figTo_all h he
  unfold rd
  by_cases h1 : s.size = 0 ∨ 10 < s.size
  · rw [if_pos h1]
  · rw [if_neg h1]
    by_cases h2 : (s.data.toList.getD 0 0).toNat = 48 ∧ 1 < s.size
    · rw [if_pos h2]
    · rw [if_neg h2, if_pos e2, e1, if_pos hm]
theorem rd_out {s : ByteArray} (h : s.size = 0 ∨ 10 < s.size) : rd s = (0, false) := by unfold rd; rw [if_pos h]
theorem rd_nought {s : ByteArray} (h : 1 < s.size) (hz : s[0].toNat = 48) : rd s = (0, false) := by
  unfold rd
  split
  · rfl
  · rw [if_pos ⟨by rw [byteAt s 0 (by omega)]; exact hz, h⟩]

/-- The figures of the number are the text just when no nought is needless. -/
theorem same_figs {s : ByteArray} {l : List Nat} (h : figTo s l) (he : l.length = s.size) :
    ((bstr (decI (valD l))).toList == s.toList) = decide (s.size ≠ 0 ∧ ¬ ((s.data.toList.getD 0 0).toNat = 48 ∧ 1 < s.size)) := by
  obtain ⟨e1, e2⟩ := figTo_all h he
  have hs : s = bstr (figs l) := by
    apply ByteArray.ext
    apply Array.ext
    · simp [bstr, figs, ← he]
    · intro i h1 h2
      have hi : i < l.length := by simpa [bstr, figs] using h2
      have k := h.2.2 i (by omega) hi
      have e : l[i] = s[i].toNat - 48 := by simpa [List.getElem?_eq_getElem hi] using k.1
      have : s.data[i] = s[i] := rfl
      simp [bstr, figs, e, this]
      have h3 : (48 + ((s[i].toNat - 48 : Nat) : Int)).toNat = s[i].toNat := by omega
      rw [h3]
      simp
  by_cases h0 : s.size = 0
  · have hl : l = [] := List.eq_nil_of_length_eq_zero (by omega)
    subst hl
    have hne : ¬ (s.size ≠ 0 ∧ ¬ ((s.data.toList.getD 0 0).toNat = 48 ∧ 1 < s.size)) := fun hh => hh.1 h0
    rw [decide_eq_false hne]
    refine beq_eq_false_iff_ne.2 fun e => ?_
    rw [ByteArray.toList_eq, ByteArray.toList_eq] at e
    have := congrArg List.length e
    simp [bstr, valD, decI_one] at this
    omega
  · have hb : s[0]'(by omega) = s.data.toList.getD 0 0 := (byteAt s 0 (by omega)).symm
    have hne : l ≠ [] := by intro e; subst e; simp at he; omega
    have hr : ∀ x ∈ figs l, 0 ≤ x ∧ x < 256 := by
      intro x hx
      simp [figs] at hx
      obtain ⟨y, hy, rfl⟩ := hx
      have := h.2.1 y hy
      omega
    have k := h.2.2 0 (by omega) (by omega)
    by_cases hz : (s.data.toList.getD 0 0).toNat = 48 ∧ 1 < s.size
    · rw [decide_eq_false (fun hh => hh.2 hz)]
      refine beq_eq_false_iff_ne.2 fun e => ?_
      rw [ByteArray.toList_eq, ByteArray.toList_eq] at e
      have e3 := ByteArray.ext (Array.toList_inj.1 e)
      rw [hs] at e3
      refine decI_valD_not l (by omega) ?_ (bstr_inj (decI_range _ _ (Nat.le_refl _)) hr e3)
      rw [List.head?_eq_getElem?, k.1, hb, hz.1]
    · rw [decide_eq_true ⟨h0, hz⟩]
      have hd : decI (valD l) = figs l := by
        refine decI_valD _ l rfl hne h.2.1 ?_
        by_cases h1 : l.length = 1
        · exact Or.inl h1
        · right
          rw [List.head?_eq_getElem?, k.1, hb]
          intro e
          have e4 := Option.some.inj e
          have := k.2
          rw [hb] at this
          exact hz ⟨by omega, by omega⟩
      rw [hd, ← hs]
      simp

end Go.Proofs.YtbecdaholpiaeaaDoor

namespace Go.Proofs.YtbecdaholpiaeaaDoor
open Go.RowKit

theorem rd_ret {s : ByteArray} {x a : Int} {z b : Bool} (HR : Hid (rd s = (x, z))) (h : rd s = (a, b)) : Ending.returned (.tuple #[.int .i64 a, .bool b]) = .returned (.tuple #[.int .i64 x, .bool z]) := by
  rw [HR.out] at h
  simp only [Prod.mk.injEq] at h
  rw [h.1, h.2]
theorem valD_bd {s : ByteArray} {l : List Nat} (h : figTo s l) (hs : s.size ≤ 10) (hlt : l.length < s.size) : valD l < 1000000000 := by
  have h1 := valD_lt l h.2.1
  have h2 : 10 ^ l.length ≤ 10 ^ 9 := Nat.pow_le_pow_right (by decide) (by omega)
  omega
theorem valD_bd' {s : ByteArray} {l : List Nat} (h : figTo s l) (hs : s.size ≤ 10) : valD l < 10000000000 := by
  have h1 := valD_lt l h.2.1
  have h2 : 10 ^ l.length ≤ 10 ^ 10 := Nat.pow_le_pow_right (by decide) (by have := h.1; omega)
  omega

set_option maxRecDepth 10000 in
set_option maxHeartbeats 400000 in
theorem specReadDec_long (s : ByteArray) (w : World) (hs0 : s.size ≤ 9223372036854775807) (hs : 10 < s.size) :
    Calls Tryd.prog 57 #[.string s] w fun e w' => e = .returned (.tuple #[.int .i64 0, .bool false]) ∧ Below w.heap.size w w' := by
  go_enter Tryd.func57, Tryd.ntmps57
  go_wp2
  go_ret2
  exact ⟨rfl, Below.refl _ _⟩

theorem figTo_next {s : ByteArray} {i m : Nat} {l : List Nat} (HF : Hid (figTo s l ∧ l.length = i ∧ valD l = m)) (hlt : i < s.size) (h1 : 48 ≤ s[i].toNat) (h2 : s[i].toNat ≤ 57) :
    Hid (figTo s (l ++ [s[i].toNat - 48]) ∧ (l ++ [s[i].toNat - 48]).length = i + 1 ∧ valD (l ++ [s[i].toNat - 48]) = 10 * m + (s[i].toNat - 48)) := by
  obtain ⟨f1, f2, f3⟩ := HF.out
  subst f2
  exact ⟨figTo_snoc f1 hlt h1 h2, by simp, by rw [valD_snoc, f3]⟩
theorem rd_end_bad {s : ByteArray} {i m : Nat} {l : List Nat} (HF : Hid (figTo s l ∧ l.length = i ∧ valD l = m)) (hlt : ¬ i < s.size) (hi : i ≤ s.size) (hne : (!(bstr (decI ((m : Int).toNat))).toList == s.toList) = true) : rd s = (0, false) := by
  obtain ⟨f1, f2, f3⟩ := HF.out
  rw [Int.toNat_natCast, ← f3, same_figs f1 (by omega)] at hne
  by_cases h0 : s.size = 0
  · exact rd_out (Or.inl h0)
  · have hz : (s.data.toList.getD 0 0).toNat = 48 ∧ 1 < s.size := by
      by_cases hz : (s.data.toList.getD 0 0).toNat = 48 ∧ 1 < s.size
      · exact hz
      · rw [decide_eq_true ⟨h0, hz⟩] at hne
        simp at hne
    rw [byteAt s 0 (by omega)] at hz
    exact rd_nought hz.2 hz.1
theorem rd_end_ok {s : ByteArray} {i m : Nat} {l : List Nat} (HF : Hid (figTo s l ∧ l.length = i ∧ valD l = m)) (hlt : ¬ i < s.size) (hi : i ≤ s.size) (hs : s.size ≤ 10) (hm : m ≤ 1000000000) (hne : (!(bstr (decI ((m : Int).toNat))).toList == s.toList) = false) :
    rd s = ((m : Int), true) := by
  obtain ⟨f1, f2, f3⟩ := HF.out
  rw [Int.toNat_natCast, ← f3, same_figs f1 (by omega)] at hne
  have hh : s.size ≠ 0 ∧ ¬ ((s.data.toList.getD 0 0).toNat = 48 ∧ 1 < s.size) := by
    by_cases hh : s.size ≠ 0 ∧ ¬ ((s.data.toList.getD 0 0).toNat = 48 ∧ 1 < s.size)
    · exact hh
    · rw [decide_eq_false hh] at hne
      simp at hne
  rw [← f3]
  exact rd_all f1 (by omega) (by omega) hh.2 (by omega)

set_option maxRecDepth 10000 in
set_option maxHeartbeats 1000000 in
theorem specReadDec_any (s : ByteArray) (w : World) (hs : s.size ≤ 10) (x : Int) (z : Bool) (HR : Hid (rd s = (x, z))) :
    Calls Tryd.prog 57 #[.string s] w fun e w' => e = .returned (.tuple #[.int .i64 x, .bool z]) ∧ Below w.heap.size w w' := by
  go_enter Tryd.func57, Tryd.ntmps57
  go_wp2
  go_loop [4, 5] (fun n c => ∃ (i m : Nat) (l : List Nat), i ≤ s.size ∧ c = .int .i64 i ∧ n = .int .i64 m ∧ Hid (figTo s l ∧ l.length = i ∧ valD l = m)) (fun _ c => s.size - (intOf c).toNat)
  case atStart => exact ⟨0, 0, [], Nat.zero_le _, rfl, rfl, figTo_nil s, rfl, rfl⟩
  case round =>
    obtain ⟨i, m, l, hi, rfl, rfl, HF⟩ := hrel
    by_cases hlt : i < s.size
    · have hm : m < 1000000000 := by obtain ⟨h1, h2, h3⟩ := HF.out; rw [← h3]; exact valD_bd h1 hs (by omega)
      have h256 := s[i].toNat_lt
      by_cases h1 : s[i].toNat < 48
      · go_wp2
        go_ret2
        exact ⟨rd_ret HR (rd_none hlt (Or.inl (by omega))), Below.refl _ _⟩
      · by_cases h2 : 57 < s[i].toNat
        · go_wp2
          go_ret2
          exact ⟨rd_ret HR (rd_none hlt (Or.inr (by omega))), Below.refl _ _⟩
        · go_wp2
          go_round
          case rel => exact ⟨i + 1, 10 * m + (s[i].toNat - 48), l ++ [s[i].toNat - 48], by omega, by go_num, by go_num, figTo_next HF hlt (by omega) (by omega)⟩
          case measure => simp [intOf]; omega
    · have hm : m < 10000000000 := by obtain ⟨h1, h2, h3⟩ := HF.out; rw [← h3]; exact valD_bd' h1 hs
      by_cases hx : 1000000000 < m
      · go_wp2
        go_ret2
        exact ⟨rd_ret HR (by obtain ⟨h1, h2, h3⟩ := HF.out; exact rd_big h1 (by omega) (by omega)), Below.refl _ _⟩
      · have hx' : decide (1000000000 < (m : Int)) = false := by simp; omega
        go_wp2_with (go_at_call 63; refine (specDecimal_any _ _ (by omega) (by omega)).mono ?_; rintro e w1 ⟨rfl, hb1⟩)
        · have hne : (!(bstr (decI ((m : Int).toNat))).toList == s.toList) = true := by assumption
          go_ret2
          exact ⟨rd_ret HR (rd_end_bad HF hlt hi hne), hb1⟩
        · have hne : (!(bstr (decI ((m : Int).toNat))).toList == s.toList) = false := by assumption
          go_ret2
          exact ⟨rd_ret HR (rd_end_ok HF hlt hi hs (by omega) hne), hb1⟩

end Go.Proofs.YtbecdaholpiaeaaDoor

namespace Go.Proofs.YtbecdaholpiaeaaDoor
open Go Go.RowKit

theorem rd_long {s : ByteArray} (h : 10 < s.size) : rd s = (0, false) := by unfold rd; rw [if_pos (.inr h)]
theorem specReadDec_all (s : ByteArray) (w : World) (hs : s.size ≤ 9223372036854775807) :
    Calls Tryd.prog 57 #[.string s] w fun e w' => e = .returned (.tuple #[.int .i64 (rd s).1, .bool (rd s).2]) ∧ Below w.heap.size w w' := by
  by_cases h : 10 < s.size
  · rw [rd_long h]; exact specReadDec_long s w hs h
  · exact specReadDec_any s w (by omega) _ _ rfl
theorem rd_bd (s : ByteArray) : 0 ≤ (rd s).1 ∧ (rd s).1 ≤ 1000000000 := by
  unfold rd
  repeat' split
  all_goals first | exact ⟨Int.le_refl _, by decide⟩ | (constructor <;> simp <;> omega)

def pieceP (lo hi : Int) (p : List ByteArray) : Int × Int × Int × Bool :=
  ((rd (p.getD 0 ByteArray.empty)).1, (if p.length = 2 then rd (p.getD 1 ByteArray.empty) else ((rd (p.getD 0 ByteArray.empty)).1, true)).1, 1,
    (rd (p.getD 0 ByteArray.empty)).2 && (if p.length = 2 then rd (p.getD 1 ByteArray.empty) else ((rd (p.getD 0 ByteArray.empty)).1, true)).2 && decide (p.length ≤ 2) && decide (lo ≤ (rd (p.getD 0 ByteArray.empty)).1) && decide ((rd (p.getD 0 ByteArray.empty)).1 ≤ (if p.length = 2 then rd (p.getD 1 ByteArray.empty) else ((rd (p.getD 0 ByteArray.empty)).1, true)).1) && decide ((if p.length = 2 then rd (p.getD 1 ByteArray.empty) else ((rd (p.getD 0 ByteArray.empty)).1, true)).1 ≤ hi))
/-- A piece of a field: from, upto, step, and whether it is one. -/
def piece (s : ByteArray) (lo hi : Int) : Int × Int × Int × Bool :=
  if s = ⟨#[42]⟩ then (lo, hi, 1, true)
  else if 2 < s.size ∧ s.extract 0 2 = ⟨#[42, 47]⟩ then (lo, hi, (rd (s.extract 2 s.size)).1, (rd (s.extract 2 s.size)).2 && decide (1 ≤ (rd (s.extract 2 s.size)).1))
  else pieceP lo hi (splitB s 45)
theorem cutsN_some (s : ByteArray) (c : Nat) : 0 < (splitB s c).length := by
  unfold splitB
  rw [cutsN, if_pos (.inl rfl)]
  simp
theorem ownsS_read {w : World} {B : Nat} {v : Value} {l : List ByteArray} (h : ownsS w B 9 v l) (hne : 0 < l.length) : ∃ g c, v = .slice (some ⟨g, 0, none⟩) l.length c ∧ g < w.heap.size ∧ ∀ k t, l[k]? = some t → w.cell? ⟨g, k, none⟩ = some (.string t) := by
  obtain ⟨g, c, rfl, _, hg, _, hc, _⟩ := ownsS_form h (by rintro rfl; simp at hne)
  refine ⟨g, c, rfl, hg, fun k t hk => ?_⟩
  obtain ⟨hlt, rfl⟩ := List.getElem?_eq_some_iff.1 hk
  exact hc k hlt
theorem splitB_sz (s : ByteArray) (c : Nat) : ∀ t ∈ splitB s c, t.size ≤ s.size := by
  have key : ∀ i, ∀ t ∈ (cutsN s c i).1, t.size ≤ s.size := by
    intro i
    induction i with
    | zero => intro t ht; simp [cutsN] at ht
    | succ i ih =>
      intro t ht
      unfold cutsN at ht
      split at ht
      · rcases List.mem_append.1 ht with h | h
        · exact ih t h
        · rw [List.mem_singleton.1 h]; simp; omega
      · exact ih t ht
  exact key _

theorem star_list : (⟨#[42]⟩ : ByteArray).toList = [42] := (ByteArray.toList_eq _).trans rfl
theorem step_list : (⟨#[42, 47]⟩ : ByteArray).toList = [42, 47] := (ByteArray.toList_eq _).trans rfl
set_option maxRecDepth 10000 in
set_option maxHeartbeats 4000000 in
theorem l10Piece_any (s : ByteArray) (lo hi : Int) (w : World) (hs : s.size ≤ 1048576) :
    Calls Tryd.prog 52 #[.string s, .int .i64 lo, .int .i64 hi] w fun e w' => e = .returned (.tuple #[.int .i64 (piece s lo hi).1, .int .i64 (piece s lo hi).2.1, .int .i64 (piece s lo hi).2.2.1, .bool (piece s lo hi).2.2.2]) ∧ Below w.heap.size w w' := by
  by_cases h1 : s = ⟨#[42]⟩
  · have HP : Hid (piece s lo hi = (lo, hi, 1, true)) := by show piece s lo hi = _; unfold piece; rw [if_pos h1]
    rw [HP.out]
    clear HP
    subst h1
    go_enter Tryd.func52, Tryd.ntmps52
    go_wp2
    refine bodyPost_ret (v := .tuple #[.int .i64 lo, .int .i64 hi, .int .i64 1, .bool true]) (by simp [results, Tryd.results52, go_sem]) rfl ⟨rfl, Below.refl _ _⟩
  have hq : (s.toList == [42]) = false := by rw [← star_list]; exact ne_list h1
  by_cases h2 : 2 < s.size ∧ s.extract 0 2 = ⟨#[42, 47]⟩
  · obtain ⟨x, HX⟩ : ∃ x, Hid (rd (s.extract 2 s.size) = x) := ⟨_, rfl⟩
    have HP : Hid (piece s lo hi = (lo, hi, x.1, x.2 && decide (1 ≤ x.1))) := by show piece s lo hi = _; unfold piece; rw [if_neg h1, if_pos h2, HX.out]
    rw [HP.out]
    obtain ⟨h3, h4⟩ := h2
    have hq2 : ((s.extract 0 2).toList == [42, 47]) = true := by rw [← step_list]; exact eq_list h4
    clear HP h1 h4
    have hsl : ∀ wx, (Instr.slice 9 (.string s) none (some (.int .i64 2)) none).run Tryd.prog wx = .ok (.string (s.extract 0 2)) wx := fun wx => by
      rw [run_slice_string_to_if (P := Tryd.prog) wx 9 s .i64 2 Tryd.underlying9]
      have : (2 : Int) ≤ s.size := by omega
      simp [this]
    have hsl2 : ∀ wx, (Instr.slice 9 (.string s) (some (.int .i64 2)) none none).run Tryd.prog wx = .ok (.string (s.extract 2 s.size)) wx := fun wx => by
      rw [run_slice_string_from_if (P := Tryd.prog) wx 9 s .i64 2 Tryd.underlying9]
      have : (2 : Int) ≤ s.size := by omega
      simp [this]
    have HZ : Hid ((s.extract 2 s.size).size ≤ 9223372036854775807) := by show _ ≤ _; simp; omega
    go_enter Tryd.func52, Tryd.ntmps52
    go_wp2_with (go_at_call 57; refine (specReadDec_all _ _ HZ.out).mono ?_; rintro e w1 ⟨rfl, hb1⟩; rw [HX.out])
    all_goals
      go_returns
      exact ⟨by simp [*], hb1⟩
  · have HP : Hid (piece s lo hi = pieceP lo hi (splitB s 45)) := by show piece s lo hi = _; unfold piece; rw [if_neg h1, if_neg h2]
    obtain ⟨p, HS⟩ : ∃ p, Hid (splitB s 45 = p) := ⟨_, rfl⟩
    have hp0 : 0 < p.length := by rw [← HS.out]; exact cutsN_some s 45
    have HPZ : Hid (∀ t ∈ p, t.size ≤ 9223372036854775807) := fun t ht => by have := splitB_sz s 45 t (by rw [HS.out]; exact ht); omega
    obtain ⟨t0, ht0⟩ : ∃ t, p[0]? = some t := ⟨_, List.getElem?_eq_getElem hp0⟩
    obtain ⟨a, z0, HA⟩ : ∃ a z, Hid (rd t0 = (a, z)) := ⟨_, _, rfl⟩
    have HT0 : Hid (t0.size ≤ 9223372036854775807) := HPZ.out t0 (List.mem_of_getElem? ht0)
    have hg0 : p.getD 0 ByteArray.empty = t0 := by rw [List.getD_eq_getElem?_getD, ht0]; rfl
    have hpl : p.length ≤ 1048577 := by
      rw [← HS.out]; unfold splitB; have := (cutsN_bd s 45 (s.size + 1)).2; omega
    have hsl : 2 < s.size → ∀ wx, (Instr.slice 9 (.string s) none (some (.int .i64 2)) none).run Tryd.prog wx = .ok (.string (s.extract 0 2)) wx := fun h3 wx => by
      rw [run_slice_string_to_if (P := Tryd.prog) wx 9 s .i64 2 Tryd.underlying9]
      have : (2 : Int) ≤ s.size := by omega
      simp [this]
    by_cases hp2 : p.length = 2
    · obtain ⟨t1, ht1⟩ : ∃ t, p[1]? = some t := ⟨_, List.getElem?_eq_getElem (by omega)⟩
      obtain ⟨b, z1, HB⟩ : ∃ a z, Hid (rd t1 = (a, z)) := ⟨_, _, rfl⟩
      have HT1 : Hid (t1.size ≤ 9223372036854775807) := HPZ.out t1 (List.mem_of_getElem? ht1)
      have hg1 : p.getD 1 ByteArray.empty = t1 := by rw [List.getD_eq_getElem?_getD, ht1]; rfl
      have HP2 : Hid (piece s lo hi = (a, b, 1, z0 && z1 && true && decide (lo ≤ a) && decide (a ≤ b) && decide (b ≤ hi))) := by
        show piece s lo hi = _
        rw [HP.out, HS.out]; unfold pieceP; rw [hg0, hg1, if_pos hp2, HA.out, HB.out, decide_eq_true (p := p.length ≤ 2) (by omega)]
      rw [HP2.out]
      clear hg0 hg1 HP HP2 h1
      by_cases h3 : 2 < s.size
      · have hq2 : ((s.extract 0 2).toList == [42, 47]) = false := by rw [← step_list]; exact ne_list (fun e => h2 ⟨h3, e⟩)
        replace hsl := hsl h3
        clear h2
        go_enter Tryd.func52, Tryd.ntmps52
        go_wp2_with fail
        refine (l10Split_any s 45 _ hs).mono ?_
        rintro e w1 ⟨v1, rfl, ho1, hb1⟩
        rw [HS.out] at ho1
        obtain ⟨g, c, rfl, hg, hcell⟩ := ownsS_read ho1 hp0
        have c0 := hcell 0 t0 ht0
        have c1 := hcell 1 t1 ht1
        clear hcell
        go_wp2_with fail
        refine (specReadDec_all _ _ HT0.out).mono ?_
        rintro e w2 ⟨rfl, hb2⟩
        rw [HA.out]
        have c2 := cell_up hb2 c1
        go_wp2_with fail
        refine (specReadDec_all _ _ HT1.out).mono ?_
        rintro e w3 ⟨rfl, hb3⟩
        rw [HB.out]
        go_wp2
        all_goals
          go_returns
          exact ⟨by simp [*] <;> omega, Below.on (Below.on hb1 hb2) hb3⟩
      · clear h2
        go_enter Tryd.func52, Tryd.ntmps52
        go_wp2_with fail
        refine (l10Split_any s 45 _ hs).mono ?_
        rintro e w1 ⟨v1, rfl, ho1, hb1⟩
        rw [HS.out] at ho1
        obtain ⟨g, c, rfl, hg, hcell⟩ := ownsS_read ho1 hp0
        have c0 := hcell 0 t0 ht0
        have c1 := hcell 1 t1 ht1
        clear hcell
        go_wp2_with fail
        refine (specReadDec_all _ _ HT0.out).mono ?_
        rintro e w2 ⟨rfl, hb2⟩
        rw [HA.out]
        have c2 := cell_up hb2 c1
        go_wp2_with fail
        refine (specReadDec_all _ _ HT1.out).mono ?_
        rintro e w3 ⟨rfl, hb3⟩
        rw [HB.out]
        go_wp2
        all_goals
          go_returns
          exact ⟨by simp [*] <;> omega, Below.on (Below.on hb1 hb2) hb3⟩
    · have HP2 : Hid (piece s lo hi = (a, a, 1, z0 && true && decide (p.length ≤ 2) && decide (lo ≤ a) && decide (a ≤ a) && decide (a ≤ hi))) := by
        show piece s lo hi = _
        rw [HP.out, HS.out]; unfold pieceP; rw [hg0, if_neg hp2, HA.out]
      rw [HP2.out]
      clear hg0 HP HP2 h1
      have hp9 : ¬ (p.length : Int) = 2 := by omega
      by_cases h3 : 2 < s.size
      · have hq2 : ((s.extract 0 2).toList == [42, 47]) = false := by rw [← step_list]; exact ne_list (fun e => h2 ⟨h3, e⟩)
        replace hsl := hsl h3
        clear h2
        go_enter Tryd.func52, Tryd.ntmps52
        go_wp2_with fail
        refine (l10Split_any s 45 _ hs).mono ?_
        rintro e w1 ⟨v1, rfl, ho1, hb1⟩
        rw [HS.out] at ho1
        obtain ⟨g, c, rfl, hg, hcell⟩ := ownsS_read ho1 hp0
        have c0 := hcell 0 t0 ht0
        clear hcell
        go_wp2_with fail
        refine (specReadDec_all _ _ HT0.out).mono ?_
        rintro e w2 ⟨rfl, hb2⟩
        rw [HA.out]
        go_wp2
        all_goals
          go_returns
          exact ⟨by simp [*] <;> omega, Below.on hb1 hb2⟩
      · clear h2
        go_enter Tryd.func52, Tryd.ntmps52
        go_wp2_with fail
        refine (l10Split_any s 45 _ hs).mono ?_
        rintro e w1 ⟨v1, rfl, ho1, hb1⟩
        rw [HS.out] at ho1
        obtain ⟨g, c, rfl, hg, hcell⟩ := ownsS_read ho1 hp0
        have c0 := hcell 0 t0 ht0
        clear hcell
        go_wp2_with fail
        refine (specReadDec_all _ _ HT0.out).mono ?_
        rintro e w2 ⟨rfl, hb2⟩
        rw [HA.out]
        go_wp2
        all_goals
          go_returns
          exact ⟨by simp [*] <;> omega, Below.on hb1 hb2⟩
end Go.Proofs.YtbecdaholpiaeaaDoor

namespace Go.Proofs.YtbecdaholpiaeaaDoor
open Go Go.RowKit
instance : Rec Bool := ⟨1, fun b => [.bool b], fun _ => rfl, by decide⟩
theorem bool_at {w : World} {ao : Option Addr} {n cap : Nat} {l : List Bool} (h : Reads w (.slice ao n cap) l) {k : Nat} {x : Bool} (hk : l[k]? = some x) :
    ∃ b o, ao = some ⟨b, o, none⟩ ∧ b < w.heap.size ∧ w.cell? ⟨b, o + k, none⟩ = some (.bool x) := by
  obtain ⟨b, o, rfl, hlt, hc⟩ := h.at hk
  have := hc 0 _ rfl
  refine ⟨b, o, rfl, hlt, ?_⟩
  have e : Rec.width Bool = 1 := rfl
  rw [e, Nat.mul_one, Nat.add_zero] at this
  exact this
theorem flat_bool : ∀ l : List Bool, l.flatMap (Rec.cells (α := Bool)) = l.map Value.bool
  | [] => rfl
  | x :: r => by rw [List.flatMap_cons, List.map_cons, flat_bool r]; rfl
theorem underB : Tryd.prog.underlying 64 = some (.slice 4) := by kernel_rfl
theorem infoB : (Tryd.prog.info? 4).map (fun i => (i.zero, i.size, i.bytes)) = some (some (.bool false), 1, 1) := by kernel_rfl
theorem made_bools (n : Nat) : (madeCells (Value.cells (.bool false)) (n * 1)).toList = (List.replicate n false).flatMap Rec.cells := by
  apply List.ext_getElem?
  intro m
  have e := flat_at (List.replicate n false) m 0 (by decide)
  have e1 : m * Rec.width Bool + 0 = m := by show m * 1 + 0 = m; omega
  rw [e1] at e
  rw [e]
  simp only [madeCells, Value.cells, Array.toList_map, Array.toList_range, List.getElem?_map, List.getElem?_replicate]
  by_cases hlt : m < n
  · rw [if_pos hlt, List.getElem?_range (by omega)]
    simp [Nat.mod_one]
    rfl
  · rw [if_neg hlt, List.getElem?_eq_none (by simp; omega)]
    rfl
theorem bool_put {w : World} {B : Nat} {e : TypeId} {g n cap : Nat} {l : List Bool} (h : ownsR w B e (.slice (some ⟨g, 0, none⟩) n cap) l) {i : Nat} {y : Bool} (f : Bool) (hi : l[i]? = some y) :
    ownsR (w.setCell ⟨g, i, none⟩ (.bool f)) B e (.slice (some ⟨g, 0, none⟩) n cap) (l.set i f) := by
  have := h.put (j := 0) (u := .bool f) f hi (by decide) rfl
  have e : Rec.width Bool = 1 := rfl
  rw [e, Nat.mul_one, Nat.add_zero] at this
  exact this
theorem bool_own {w : World} {B : Nat} {e : TypeId} {g n cap : Nat} {l : List Bool} (h : ownsR w B e (.slice (some ⟨g, 0, none⟩) n cap) l) {i : Nat} {x : Bool} (hi : l[i]? = some x) :
    g < w.heap.size ∧ w.cell? ⟨g, i, none⟩ = some (.bool x) ∧ w.frozen? ⟨g, i, none⟩ = false := by
  obtain ⟨h1, _, _, h2⟩ := h.at hi
  have h3 := h2 0 (by decide)
  have e : Rec.width Bool = 1 := rfl
  rw [e, Nat.mul_one, Nat.add_zero] at h3
  exact ⟨h1, h3.1, h3.2⟩
end Go.Proofs.YtbecdaholpiaeaaDoor

namespace Go.Proofs.YtbecdaholpiaeaaDoor
open Go Go.RowKit

def stamp (H : List Bool) (a t : Nat) : Nat → List Bool
  | 0 => H
  | j + 1 => (stamp H a t j).set (a + j * t) true
theorem stamp_length (H : List Bool) (a t : Nat) : ∀ j, (stamp H a t j).length = H.length
  | 0 => rfl
  | j + 1 => by rw [stamp, List.length_set, stamp_length H a t j]
def stampP (H : List Bool) (q : Int × Int × Int × Bool) : List Bool := stamp H q.1.toNat q.2.2.1.toNat ((q.2.1 - q.1).toNat / q.2.2.1.toNat + 1)
def fieldGo (lo hi : Int) : List ByteArray → List Bool → Option (List Bool)
  | [], H => some H
  | p :: r, H => if (piece p lo hi).2.2.2 then fieldGo lo hi r (stampP H (piece p lo hi)) else none
def picks (H : List Bool) (lo : Int) : Nat → List Int
  | 0 => []
  | k + 1 => picks H lo k ++ (if H.getD (lo + k).toNat false then [lo + (k : Int)] else [])
theorem picks_length (H : List Bool) (lo : Int) : ∀ k, (picks H lo k).length ≤ k
  | 0 => Nat.le_refl _
  | k + 1 => by
    have := picks_length H lo k
    unfold picks
    split <;> simp <;> omega
/-- A field: what fits, and whether it is one. -/
def fieldO (s : ByteArray) (lo hi : Int) : Option (List Bool) := fieldGo lo hi (splitB s 44) (List.replicate (hi + 1).toNat false)
def picksO (lo hi : Int) : Option (List Bool) → List Int
  | none => []
  | some H => picks H lo (hi - lo + 1).toNat
def fieldL (s : ByteArray) (lo hi : Int) : List Int := picksO lo hi (fieldO s lo hi)
theorem fieldGo_at {lo hi : Int} {l : List ByteArray} {k : Nat} {t : ByteArray} {H : List Bool} (h : l[k]? = some t) : fieldGo lo hi (l.drop k) H = if (piece t lo hi).2.2.2 then fieldGo lo hi (l.drop (k + 1)) (stampP H (piece t lo hi)) else none := by
  obtain ⟨hk, rfl⟩ := List.getElem?_eq_some_iff.1 h
  rw [List.drop_eq_getElem_cons hk]
  rfl
theorem fieldGo_end {lo hi : Int} {l : List ByteArray} {k : Nat} {H : List Bool} (h : k = l.length) : fieldGo lo hi (l.drop k) H = some H := by
  subst h; rw [List.drop_length]; rfl
theorem piece_bd {s : ByteArray} {lo hi : Int} (hl : lo ≤ hi) (h : (piece s lo hi).2.2.2 = true) : lo ≤ (piece s lo hi).1 ∧ (piece s lo hi).1 ≤ (piece s lo hi).2.1 ∧ (piece s lo hi).2.1 ≤ hi ∧ 1 ≤ (piece s lo hi).2.2.1 ∧ (piece s lo hi).2.2.1 ≤ 1000000000 := by
  unfold piece at h ⊢
  split
  · exact ⟨Int.le_refl _, hl, Int.le_refl _, Int.le_refl _, (by decide : (1 : Int) ≤ 1000000000)⟩
  · split
    · rename_i h1 h2
      rw [if_neg h1, if_pos h2] at h
      simp only [Bool.and_eq_true, decide_eq_true_eq] at h
      exact ⟨Int.le_refl _, hl, Int.le_refl _, h.2, (rd_bd _).2⟩
    · rename_i h1 h2
      rw [if_neg h1, if_neg h2] at h
      unfold pieceP at h ⊢
      simp only [Bool.and_eq_true, decide_eq_true_eq] at h
      exact ⟨h.1.1.2, h.1.2, h.2, Int.le_refl _, (by decide : (1 : Int) ≤ 1000000000)⟩
theorem steps_at {a b t x : Int} {j : Nat} (ht : 1 ≤ t) (hab : a ≤ b) (hx : x = a + j * t) (hj : j = 0 ∨ x - t ≤ b) (hend : b < x) : (b - a).toNat / t.toNat + 1 = j := by
  rcases hj with rfl | hj
  · simp at hx; omega
  · obtain ⟨i, rfl⟩ : ∃ i, j = i + 1 := ⟨j - 1, by
      cases j with
      | zero => simp at hx; omega
      | succ j => rfl⟩
    obtain ⟨T, hT⟩ : ∃ T : Nat, t = T := ⟨t.toNat, by omega⟩
    obtain ⟨D, hD⟩ : ∃ D : Nat, b - a = D := ⟨(b - a).toNat, by omega⟩
    subst hT
    have e1 : ((i + 1 : Nat) : Int) * (T : Int) = ((i * T + T : Nat) : Int) := by rw [← Int.natCast_mul, Nat.succ_mul]
    rw [e1] at hx
    have h1 : i * T ≤ D := by omega
    have h2 : D < i * T + T := by omega
    rw [hD, Int.toNat_natCast, Int.toNat_natCast]
    have : D / T = i := Nat.div_eq_of_lt_le (by omega) (by rw [Nat.succ_mul]; omega)
    omega
theorem cell_num {w : World} {b : Nat} {n : Int} (h : w.cell? ⟨b, 0, none⟩ = some (.int .i64 n)) : ∀ j u, (Rec.cells n)[j]? = some u → w.cell? ⟨b, j, none⟩ = some u ∧ u.oneCell' = true := by
  intro j u hu
  have hu : [Value.int .i64 n][j]? = some u := hu
  cases j with
  | zero => simp at hu; subst hu; exact ⟨h, rfl⟩
  | succ j => simp at hu
theorem ownsS.setBelow {w : World} {B : Nat} {e : TypeId} {v : Value} {l : List ByteArray} (h : ownsS w B e v l) {a : Addr} (ha : a.block < B) (u : Value) : ownsS (w.setCell a u) B e v l := ownsRow_setCell_below h ha u

set_option maxRecDepth 10000 in
set_option maxHeartbeats 4000000 in
theorem l10Field_any (s : ByteArray) (lo hi : Int) (w : World) (hs : s.size ≤ 1048576) (h0 : 0 ≤ lo) (hlh : lo ≤ hi) (hhi : hi ≤ 59) :
    Calls Tryd.prog 40 #[.string s, .int .i64 lo, .int .i64 hi] w fun e w' => ∃ v, e = .returned (.tuple #[v, .bool (fieldO s lo hi).isSome]) ∧ ownsR w' w.heap.size 3 v (fieldL s lo hi) ∧ Below w.heap.size w w' := by
  obtain ⟨i0, hi0, hz0, hz1, hz2⟩ := info_parts infoB
  obtain ⟨m, hm⟩ : ∃ m : Nat, hi + 1 = m := ⟨(hi + 1).toNat, by omega⟩
  have hm60 : m ≤ 60 := by omega
  obtain ⟨p, HS⟩ : ∃ p, Hid (splitB s 44 = p) := ⟨_, rfl⟩
  have hp0 : 0 < p.length := by rw [← HS.out]; exact cutsN_some s 44
  have hpl : p.length ≤ 1048577 := by
    rw [← HS.out]; unfold splitB; have := (cutsN_bd s 44 (s.size + 1)).2; omega
  have HPZ : Hid (∀ t ∈ p, t.size ≤ 1048576) := fun t ht => by have := splitB_sz s 44 t (by rw [HS.out]; exact ht); omega
  obtain ⟨F, HF⟩ : ∃ F, Hid (fieldO s lo hi = F) := ⟨_, rfl⟩
  have HL : Hid (fieldL s lo hi = picksO lo hi F) := by show fieldL s lo hi = _; unfold fieldL; rw [HF.out]
  have HG : Hid (fieldGo lo hi p (List.replicate m false) = F) := by
    show _ = F; rw [← HF.out]; unfold fieldO; rw [HS.out, hm, Int.toNat_natCast]
  rw [HF.out, HL.out]
  clear HF HL
  go_enter Tryd.func40, Tryd.ntmps40
  go_wp2_with (at_make; refine wpList_make_full _ rfl _ _ 64 rfl w.heap.size 4 i0 _ 1 underB hi0 hz0 hz1 .i64 .i64 _ _ m rfl rfl rfl rfl (by rw [hz2]; omega) (by unfold maxLen; omega) (Nat.le_refl _) ?_; intro w1 ho hg)
  have HO1 : Hid (ownsR w1 w.heap.size 4 (.slice (some ⟨w.heap.size, 0, none⟩) m m) (List.replicate m false)) := by
    show ownsR _ _ _ _ _
    rw [made_bools] at ho
    unfold ownsR
    rw [List.length_replicate]
    exact ho
  have hb1 : Below w.heap.size w w1 := (Below.refl _ w).grown hg (Nat.le_refl _) (fun j hj => by cases hj)
  have hz1' : w.heap.size < w1.heap.size := (HO1.out.lt w.heap.size rfl).2
  clear ho hg
  refine (l10Split_any s 44 _ hs).mono ?_
  rintro e w2 ⟨v2, rfl, ho2, hb2⟩
  rw [HS.out] at ho2
  obtain ⟨gp, cp, rfl, hgp, -⟩ := ownsS_read ho2 hp0
  have HP2 : Hid (ownsS w2 w1.heap.size 9 (.slice (some ⟨gp, 0, none⟩) p.length cp) p) := ho2
  have HO2 : Hid (ownsR w2 w.heap.size 4 (.slice (some ⟨w.heap.size, 0, none⟩) m m) (List.replicate m false)) := HO1.out.all hb2
  have B2 : Below w.heap.size w w2 := Below.on hb1 hb2
  have hz2' : w1.heap.size ≤ w2.heap.size := hb2.size
  clear ho2 hb2 HO1 hb1
  generalize hB : w.heap.size = B at *
  go_wp2
  go_loopw [10] (fun i wr => ∃ (k : Nat) (H : List Bool), k ≤ p.length ∧ i = .int .i64 k ∧ H.length = m ∧ Hid (fieldGo lo hi (p.drop k) H = F) ∧ Hid (ownsR wr B 4 (.slice (some ⟨B, 0, none⟩) m m) H) ∧ Hid (ownsS wr w1.heap.size 9 (.slice (some ⟨gp, 0, none⟩) p.length cp) p) ∧ Below B w wr ∧ w1.heap.size ≤ wr.heap.size) (fun i _ => p.length - (intOf i).toNat)
  case atStart => exact ⟨0, _, Nat.zero_le _, rfl, List.length_replicate .., by simpa using HG, HO2, HP2, B2, hz2'⟩
  case round =>
    obtain ⟨k, H, hk, rfl, hHl, HE, HO, HPr, hbel, hzr⟩ := hrel
    clear HO2 HP2 B2 hz2'
    by_cases hlt : k < p.length
    · obtain ⟨t, ht, c0, -, -, -⟩ := ownsS_cell HPr.out hlt
      have HT : Hid (t.size ≤ 1048576) := HPZ.out t (List.mem_of_getElem? ht)
      obtain ⟨a, b, st, z, HQ⟩ : ∃ a b st z, Hid (piece t lo hi = (a, b, st, z)) := ⟨_, _, _, _, rfl⟩
      have HE2 : Hid (F = if z then fieldGo lo hi (p.drop (k + 1)) (stampP H (a, b, st, z)) else none) := by
        show F = _
        rw [← HE.out, fieldGo_at ht, HQ.out]
      clear ht
      cases z with
      | false =>
        have HFn : Hid (F = none) := HE2.out
        go_wp2_with (go_at_call 52; refine (l10Piece_any _ _ _ _ HT.out).mono ?_; rintro e w3 ⟨rfl, hb3⟩; rw [HQ.out])
        go_ret2
        subst hB
        refine ⟨_, by rw [HFn.out]; rfl, ?_, ba (Below.on hbel hb3) _⟩
        rw [HFn.out]
        exact World.ownsRow_made w3 #[] 0 (Nat.le_trans hbel.size hb3.size) (Nat.zero_le _) (by simp)
      | true =>
        have HFn : Hid (fieldGo lo hi (p.drop (k + 1)) (stampP H (a, b, st, true)) = F) := HE2.out.symm
        have hbd := piece_bd (s := t) (lo := lo) (hi := hi) hlh (by rw [HQ.out])
        rw [HQ.out] at hbd
        obtain ⟨d1, d2, d3, d4, d5⟩ := hbd
        dsimp only at d1 d2 d3 d4 d5
        go_wp2_with (go_at_call 52; refine (l10Piece_any _ _ _ _ HT.out).mono ?_; rintro e w3 ⟨rfl, hb3⟩; rw [HQ.out])
        have HO3 : Hid (ownsR w3 B 4 (.slice (some ⟨B, 0, none⟩) m m) H) := HO.out.all hb3
        have HP3 : Hid (ownsS w3 w1.heap.size 9 (.slice (some ⟨gp, 0, none⟩) p.length cp) p) := HPr.out.all hb3
        have B3 : Below B w w3 := hbel.trans (hb3.mono (by have := hbel.size; omega))
        have hz3 : w1.heap.size ≤ w3.heap.size := Nat.le_trans hzr hb3.size
        clear hb3 HO HPr hbel hzr c0
        go_loopw [15] (fun x' wq => ∃ (x : Int) (j : Nat), x' = .int .i64 x ∧ Hid (x = a + j * st ∧ (j = 0 ∨ x - st ≤ b)) ∧ a ≤ x ∧ x ≤ b + st ∧ Hid (ownsR wq B 4 (.slice (some ⟨B, 0, none⟩) m m) (stamp H a.toNat st.toNat j)) ∧ Hid (ownsS wq w1.heap.size 9 (.slice (some ⟨gp, 0, none⟩) p.length cp) p) ∧ Below B w wq ∧ w1.heap.size ≤ wq.heap.size) (fun x' _ => (b + 1 - intOf x').toNat)
        case atStart => exact ⟨a, 0, rfl, ⟨by simp, .inl rfl⟩, Int.le_refl _, by omega, HO3, HP3, B3, hz3⟩
        case round =>
          obtain ⟨x, j, rfl, HX, hx1, hx2, HO, HPr, hbel, hzr⟩ := hrel
          clear HO3 HP3 B3 hz3
          by_cases hxb : x ≤ b
          · obtain ⟨xn, hxn⟩ : ∃ xn : Nat, x = xn := ⟨x.toNat, by omega⟩
            subst hxn
            have hlen : (stamp H a.toNat st.toNat j).length = m := by rw [stamp_length, hHl]
            obtain ⟨y, hy⟩ : ∃ y, (stamp H a.toNat st.toNat j)[xn]? = some y := ⟨_, List.getElem?_eq_getElem (by rw [hlen]; omega)⟩
            obtain ⟨hgs, c0, f0⟩ := bool_own HO.out hy
            have hxm : xn < m := by omega
            have R := bool_put HO.out true hy
            have e9 : (stamp H a.toNat st.toNat j).set xn true = stamp H a.toNat st.toNat (j + 1) := by
              rw [stamp]
              congr 1
              have h9 := HX.out.1
              obtain ⟨T, hT⟩ : ∃ T : Nat, st = T := ⟨st.toNat, by omega⟩
              rw [hT] at h9 ⊢
              rw [← Int.natCast_mul] at h9
              rw [Int.toNat_natCast]
              omega
            rw [e9] at R
            have HR : Hid (ownsR (wr.setCell ⟨B, xn, none⟩ (.bool true)) B 4 (.slice (some ⟨B, 0, none⟩) m m) (stamp H a.toNat st.toNat (j + 1))) := R
            have HPS : Hid (ownsS (wr.setCell ⟨B, xn, none⟩ (.bool true)) w1.heap.size 9 (.slice (some ⟨gp, 0, none⟩) p.length cp) p) := HPr.out.setBelow (by simpa using hz1') _
            have BS : Below B w (wr.setCell ⟨B, xn, none⟩ (.bool true)) := Below.setCell hbel (Nat.le_refl _) _
            have HX2 : Hid ((xn : Int) + st = a + (j + 1 : Nat) * st ∧ (j + 1 = 0 ∨ (xn : Int) + st - st ≤ b)) := by
              refine ⟨?_, .inr (by omega)⟩
              rw [HX.out.1, Int.natCast_add, Int.add_mul]; simp; omega
            clear R hy e9 hlen HO HPr hbel
            go_wp2
            go_roundw
            case rel => exact ⟨(xn : Int) + st, j + 1, rfl, HX2, by omega, by omega, HR, HPS, BS, by simpa using hzr⟩
            case measure => simp [intOf]; omega
          · have HST : Hid (stampP H (a, b, st, true) = stamp H a.toNat st.toNat j) := by
              show stampP H (a, b, st, true) = _
              unfold stampP
              dsimp only
              rw [steps_at d4 d2 HX.out.1 HX.out.2 (by omega)]
            go_wp2
            go_roundw
            case rel => exact ⟨k + 1, stamp H a.toNat st.toNat j, by omega, by go_num, by rw [stamp_length, hHl], by rw [← HST.out]; exact HFn, HO, HPr, hbel, hzr⟩
            case measure => simp [intOf]; omega
    · have hkn : k = p.length := by omega
      have HFs : Hid (F = some H) := by show F = some H; rw [← HE.out]; exact fieldGo_end hkn
      obtain ⟨n, hn⟩ : ∃ n : Nat, hi - lo + 1 = n := ⟨(hi - lo + 1).toNat, by omega⟩
      have HPK : Hid (picksO lo hi F = picks H lo n) := by show picksO lo hi F = _; rw [HFs.out]; unfold picksO; rw [hn, Int.toNat_natCast]
      go_wp2
      obtain ⟨W3, hW3⟩ : ∃ W3, wr.alloc (.cells #[] 3) = W3 := ⟨_, rfl⟩
      have ho3 : ownsR W3 wr.heap.size 3 (.slice (some ⟨wr.heap.size, 0, none⟩) 0 0) ([] : List Int) := by
        rw [← hW3]; exact World.ownsRow_made wr #[] 0 (Nat.le_refl _) (Nat.zero_le _) (by simp)
      have HO3 : Hid (ownsR W3 B 4 (.slice (some ⟨B, 0, none⟩) m m) H) := by rw [← hW3]; exact HO.out.alloc _
      have B3 : Below B w W3 := by rw [← hW3]; exact Below.alloc hbel (by have := hbel.size; omega) _
      have hs3 : wr.heap.size < W3.heap.size := by rw [← hW3]; simp
      have hBr : B < wr.heap.size := by omega
      rw [hW3]
      clear hW3 HO HPr
      obtain ⟨G, hG⟩ : ∃ G, wr.heap.size = G := ⟨_, rfl⟩
      rw [hG] at ho3 hs3 hBr ⊢
      have hcl : ∀ wq, Below G W3 wq → ownsR wq B 4 (.slice (some ⟨B, 0, none⟩) m m) H := fun wq hq => HO3.out.below hq (fun j hj => by cases hj; exact hBr)
      have HCL : Hid (∀ wq, Below G W3 wq → ownsR wq B 4 (.slice (some ⟨B, 0, none⟩) m m) H) := hcl
      clear hcl HO3
      go_loopw [16, 17] (fun out x wq => ∃ j : Nat, j ≤ n ∧ x = .int .i64 (lo + j) ∧ ownsR wq G 3 out (picks H lo j) ∧ Below G W3 wq ∧ G < wq.heap.size) (fun _ x _ => (hi + 1 - intOf x).toNat)
      case atStart => exact ⟨0, Nat.zero_le _, by simp, ho3, Below.refl _ _, hs3⟩
      case round =>
        obtain ⟨j, hj, rfl, hown, hbq, hGq⟩ := hrel
        have hB3 := B3
        by_cases hjn : j < n
        · obtain ⟨xn, hxn⟩ : ∃ xn : Nat, lo + (j : Int) = xn := ⟨(lo + j).toNat, by omega⟩
          have hxm : xn < m := by omega
          obtain ⟨y, hy⟩ : ∃ y, H[xn]? = some y := ⟨_, List.getElem?_eq_getElem (by omega)⟩
          obtain ⟨hgs, c0, -⟩ := bool_own (HCL.out _ hbq) hy
          have HPN : Hid (picks H lo (j + 1) = picks H lo j ++ (if y then [(xn : Int)] else [])) := by
            show picks H lo (j + 1) = _
            rw [picks, hxn, Int.toNat_natCast, List.getD_eq_getElem?_getD, hy]
            rfl
          have hpl3 := picks_length H lo j
          have hxb : lo + (j : Int) ≤ hi := by omega
          clear hy
          cases y with
          | false =>
            have HP9 : Hid (picks H lo (j + 1) = picks H lo j) := by show _ = _; rw [HPN.out]; simp
            go_wp2
            go_roundw
            case rel => exact ⟨j + 1, by omega, by go_num, by rw [HP9.out]; exact hown, hbq, hGq⟩
            case measure => simp [intOf]; omega
          | true =>
            have HP9 : Hid (picks H lo (j + 1) = picks H lo j ++ [(xn : Int)]) := by show _ = _; rw [HPN.out]; simp
            have hsq := hbq.size
            have hlen4 : (picks H lo j).length ≤ 1048576 := by omega
            go_wp2_with (at_builtin; refine wpList_append_rec _ W3 rfl (.tmp 65) (.tmp 67) 24 rfl G 3 _ 8 underI info3 rfl _ (picks H lo j) rfl (hown.alloc _) (hbq.alloc (by omega) _) wr.heap.size 1 (xn : Int) rfl (cell_num (by simp [go_sem])) hlen4 (by decide) (by simp; omega) ?_; intro v' w4 hown4 hbel4 hs4)
            rw [← HP9.out] at hown4
            simp only [World.size_alloc] at hs4
            clear hown hbq
            go_wp2
            go_roundw
            case rel => exact ⟨j + 1, by omega, by omega, hown4, by omega⟩
            case measure => simp [intOf]; omega
        · have hjn2 : j = n := by omega
          have how := hown
          rw [hjn2] at how
          have hxb : ¬ lo + (j : Int) ≤ hi := by omega
          clear hown hjn hjn2
          have hsq := hbq.size
          go_wp2
          go_ret2
          subst hB
          refine ⟨_, by rw [HFs.out]; rfl, ?_, B3.trans (hbq.mono (by omega))⟩
          rw [HPK.out]
          exact how.mono (by omega)
end Go.Proofs.YtbecdaholpiaeaaDoor

namespace Go.Proofs.YtbecdaholpiaeaaDoor
open Go.RowKit

theorem Tryd.info9 : (Tryd.prog.info? 9).map (fun i => (i.zero, i.size, i.bytes)) = some (some (.string ByteArray.empty), 1, 16) := by kernel_rfl

/-- Bytes of a plain line. -/
def plainTo (s : ByteArray) (i : Nat) : Prop := ∀ j (h : j < s.size), j < i → 32 ≤ s[j].toNat ∧ s[j].toNat ≤ 126
def texts (l : List (List UInt8)) : List ByteArray := l.map fun t => ⟨t.toArray⟩

theorem drop_cons (s : ByteArray) (i : Nat) (h : i < s.size) : s.data.toList.drop i = s[i] :: s.data.toList.drop (i + 1) := by
  have h2 : i < s.data.toList.length := by simpa using h
  rw [List.drop_eq_getElem_cons h2]
  rfl
theorem isSp_plain {b : UInt8} (h1 : 32 ≤ b.toNat) : Lib.isSp b = decide (b.toNat = 32) := by
  have e : ∀ k : UInt8, (b == k) = decide (b.toNat = k.toNat) := by
    intro k
    by_cases h : b = k
    · subst h; simp
    · rw [beq_eq_false_iff_ne.2 h, decide_eq_false]
      intro h'
      exact h (UInt8.toNat_inj.1 h')
  unfold Lib.isSp
  rw [e, e, e, e, e, e]
  simp
  omega

/-- The scan up to i: what is told, and the word begun at b. -/
structure Scan (s : ByteArray) (b i : Nat) (out : List (List UInt8)) : Prop where
  le : b ≤ i
  is : i ≤ s.size
  eq : Lib.fields s.data.toList = out ++ Lib.fieldsGo ((s.data.toList.drop b).take (i - b)) (s.data.toList.drop i)
  plain : plainTo s i
  len : out.length ≤ i
/-- The scan is through. -/
structure Scanned (s : ByteArray) (out : List (List UInt8)) : Prop where
  eq : Lib.fields s.data.toList = out
  plain : plainTo s s.size
  len : out.length ≤ s.size + 1

theorem scan_start (s : ByteArray) : Scan s 0 0 [] := ⟨Nat.le_refl _, Nat.zero_le _, by simp [Lib.fields], fun j h hj => by omega, by simp⟩
theorem take_word (s : ByteArray) (b i : Nat) (h : b ≤ i) (hi : i < s.size) : (s.data.toList.drop b).take (i + 1 - b) = (s.data.toList.drop b).take (i - b) ++ [s[i]] := by
  have h2 : i - b < (s.data.toList.drop b).length := by simp; have : s.data.size = s.size := rfl; omega
  rw [show i + 1 - b = (i - b) + 1 by omega, List.take_succ_eq_append_getElem h2]
  congr 2
  have e : b + (i - b) = i := by omega
  rw [List.getElem_drop]
  simp only [e]
  rfl
theorem word_empty (s : ByteArray) (b i : Nat) (h : b ≤ i) (hi : i ≤ s.size) : (s.data.toList.drop b).take (i - b) = [] ↔ b = i := by
  have : ((s.data.toList.drop b).take (i - b)).length = i - b := by simp; have : s.data.size = s.size := rfl; omega
  constructor
  · intro e; rw [e] at this; simp at this; omega
  · intro e; subst e; simp

theorem scan_letter {s : ByteArray} {b i : Nat} {out : List (List UInt8)} (h : Scan s b i out) (hi : i < s.size) (h1 : 32 ≤ s[i].toNat) (h2 : s[i].toNat ≤ 126) (hne : s[i].toNat ≠ 32) : Scan s b (i + 1) out := by
  refine ⟨by have := h.le; omega, by omega, ?_, ?_, by have := h.len; omega⟩
  · rw [h.eq, drop_cons s i hi, Lib.fieldsGo_more _ _ _ (by rw [isSp_plain h1]; simpa using hne), take_word s b i h.le hi]
  · intro j hj hlt
    by_cases e : j < i
    · exact h.plain j hj e
    · have : j = i := by omega
      subst this
      exact ⟨h1, h2⟩
theorem plain_next {s : ByteArray} {i : Nat} (h : plainTo s i) (hi : i < s.size) (hz : s[i].toNat = 32) : plainTo s (i + 1) := by
  intro j hj hlt
  by_cases e : j < i
  · exact h j hj e
  · have : j = i := by omega
    subst this
    omega
theorem scan_blank {s : ByteArray} {i : Nat} {out : List (List UInt8)} (h : Scan s i i out) (hi : i < s.size) (hz : s[i].toNat = 32) : Scan s (i + 1) (i + 1) out := by
  refine ⟨Nat.le_refl _, by omega, ?_, plain_next h.plain hi hz, by have := h.len; omega⟩
  rw [h.eq, (word_empty s i i (Nat.le_refl _) (by omega)).2 rfl, drop_cons s i hi, Lib.fieldsGo_sp _ _ (by rw [isSp_plain (by omega)]; simpa using hz)]
  simp
theorem scan_word {s : ByteArray} {b i : Nat} {out : List (List UInt8)} (h : Scan s b i out) (hb : b < i) (hi : i < s.size) (hz : s[i].toNat = 32) : Scan s (i + 1) (i + 1) (out ++ [(s.data.toList.drop b).take (i - b)]) := by
  refine ⟨Nat.le_refl _, by omega, ?_, plain_next h.plain hi hz, by have := h.len; simp; omega⟩
  rw [h.eq, drop_cons s i hi, Lib.fieldsGo_end _ _ _ (by rw [isSp_plain (by omega)]; simpa using hz) (by rw [Ne, word_empty s b i h.le (by omega)]; omega)]
  simp
theorem scan_done_blank {s : ByteArray} {out : List (List UInt8)} (h : Scan s s.size s.size out) : Scanned s out := by
  refine ⟨?_, h.plain, by have := h.len; omega⟩
  rw [h.eq]
  have hd : s.data.toList.drop s.size = [] := List.drop_eq_nil_of_le (by rw [Array.length_toList]; exact Nat.le_refl _)
  rw [hd]
  simp [Lib.fieldsGo]
theorem scan_done_word {s : ByteArray} {b : Nat} {out : List (List UInt8)} (h : Scan s b s.size out) (hb : b < s.size) : Scanned s (out ++ [(s.data.toList.drop b).take (s.size - b)]) := by
  refine ⟨?_, h.plain, by have := h.len; simp; omega⟩
  rw [h.eq]
  have hne : ((s.data.toList.drop b).take (s.size - b)) ≠ [] := by rw [Ne, word_empty s b s.size h.le (Nat.le_refl _)]; omega
  have hd : s.data.toList.drop s.size = [] := List.drop_eq_nil_of_le (by rw [Array.length_toList]; exact Nat.le_refl _)
  rw [hd, Lib.fieldsGo]
  simp [hne]

theorem extract_word (s : ByteArray) (b i : Nat) : s.extract b i = ⟨((s.data.toList.drop b).take (i - b)).toArray⟩ := by
  apply ByteArray.ext
  apply Array.toList_inj.1
  rw [Lib.extract_data]

/-- What PartsOf answers. -/
def partsR (s : ByteArray) : List (List UInt8) × Bool :=
  if 600 < s.size then ([], false)
  else if ∀ b ∈ s.data.toList, 32 ≤ b.toNat ∧ b.toNat ≤ 126 then
    if 10 < (Lib.fields s.data.toList).length then ([], false) else (Lib.fields s.data.toList, true)
  else ([], false)
theorem partsR_long {s : ByteArray} (h : 600 < s.size) : partsR s = ([], false) := by unfold partsR; rw [if_pos h]
theorem plain_all {s : ByteArray} : plainTo s s.size ↔ ∀ b ∈ s.data.toList, 32 ≤ b.toNat ∧ b.toNat ≤ 126 := by
  constructor
  · intro h b hb
    obtain ⟨j, hj, rfl⟩ := List.mem_iff_getElem.1 hb
    have hj' : j < s.size := by simpa using hj
    exact h j hj' hj'
  · intro h j hj _
    have e : s[j] = s.data.toList[j]'(by simpa using hj) := rfl
    rw [e]
    exact h _ (List.getElem_mem _)
theorem partsR_bad {s : ByteArray} {j : Nat} (hj : j < s.size) (hb : s[j].toNat < 32 ∨ 126 < s[j].toNat) : partsR s = ([], false) := by
  unfold partsR
  by_cases h : 600 < s.size
  · rw [if_pos h]
  · rw [if_neg h, if_neg]
    intro h2
    have := plain_all.2 h2 j hj hj
    omega
theorem partsR_many {s : ByteArray} (hs : ¬ 600 < s.size) (h : plainTo s s.size) (hm : 10 < (Lib.fields s.data.toList).length) : partsR s = ([], false) := by
  unfold partsR; rw [if_neg hs, if_pos (plain_all.1 h), if_pos hm]
theorem partsR_ok {s : ByteArray} (hs : ¬ 600 < s.size) (h : plainTo s s.size) (hm : ¬ 10 < (Lib.fields s.data.toList).length) : partsR s = (Lib.fields s.data.toList, true) := by
  unfold partsR; rw [if_neg hs, if_pos (plain_all.1 h), if_neg hm]

/-- The end of a call of PartsOf. -/
def PartsEnd (s : ByteArray) (w : World) (e : Ending) (w' : World) : Prop :=
  ∃ v, e = .returned (.tuple #[v, .bool (partsR s).2]) ∧ ownsS w' w.heap.size 9 v (texts (partsR s).1) ∧ Below w.heap.size w w'

theorem texts_snoc (l : List (List UInt8)) (t : List UInt8) : texts l ++ [⟨t.toArray⟩] = texts (l ++ [t]) := by simp [texts]
theorem texts_length (l : List (List UInt8)) : (texts l).length = l.length := by simp [texts]

theorem end_false {s : ByteArray} {w wx : World} (h : partsR s = ([], false)) (hb : Below w.heap.size w wx) :
    PartsEnd s w (.returned (.tuple #[.slice (some ⟨wx.heap.size, 0, none⟩) 0 0, .bool false])) (wx.alloc (.cells #[] 9)) := by
  refine ⟨_, by rw [h], ?_, hb.alloc hb.size _⟩
  rw [h]
  exact ownsS_made wx _ 0 9 #[] hb.size (by decide) rfl

set_option maxHeartbeats 400000 in
theorem specParts_long (s : ByteArray) (w : World) (hs0 : s.size ≤ 9223372036854775807) (hs : 600 < s.size) :
    Calls Tryd.prog 39 #[.string s] w fun e w' => PartsEnd s w e w' := by
  have H := end_false (partsR_long hs) (Below.refl w.heap.size w)
  have HH : Hid (PartsEnd s w (.returned (.tuple #[.slice (some ⟨w.heap.size, 0, none⟩) 0 0, .bool false])) (w.alloc (.cells #[] 9))) := H
  clear H
  go_enter Tryd.func39, Tryd.ntmps39
  go_wp2
  go_ret2
  exact HH.out

end Go.Proofs.YtbecdaholpiaeaaDoor

namespace Go.Proofs.YtbecdaholpiaeaaDoor
open Go.RowKit

theorem ownsS_slice {w : World} {B : Nat} {e : TypeId} {v : Value} {l : List ByteArray} (h : ownsS w B e v l) : ∃ ao cap, v = .slice ao l.length cap := by
  rcases h.2 with ⟨rfl, hn⟩ | ⟨g, cap, cur, rfl, _⟩
  · exact ⟨none, 0, by rw [hn]⟩
  · exact ⟨_, _, rfl⟩

def ScanAt (s : ByteArray) (b n : Nat) (l : List (List UInt8)) : Prop := (n ≤ s.size → Scan s b n l) ∧ (n = s.size + 1 → Scanned s l)

theorem scanAt_len {s : ByteArray} {b n : Nat} {l : List (List UInt8)} (h : Hid (ScanAt s b n l)) (hn : n ≤ s.size + 1) : (texts l).length ≤ s.size + 1 := by
  rw [texts_length]
  by_cases h1 : n ≤ s.size
  · have := (h.out.1 h1).len; omega
  · exact (h.out.2 (by omega)).len
theorem scanAt_le {s : ByteArray} {b n : Nat} {l : List (List UInt8)} (h : Hid (ScanAt s b n l)) (hn : n ≤ s.size) : b ≤ n := (h.out.1 hn).le

theorem end_true {s : ByteArray} {w wx : World} {l : List (List UInt8)} {v : Value} (h : partsR s = (l, true)) (ho : ownsS wx w.heap.size 9 v (texts l)) (hb : Below w.heap.size w wx) :
    PartsEnd s w (.returned (.tuple #[v, .bool true])) wx := ⟨v, by rw [h], by rw [h]; exact ho, hb⟩
theorem scan_blank' {s : ByteArray} {b i : Nat} {out : List (List UInt8)} (h : Scan s b i out) (hb : b = i) (hi : i < s.size) (hz : s[i].toNat = 32) : Scan s (i + 1) (i + 1) out := by
  subst hb; exact scan_blank h hi hz
theorem scan_done_blank' {s : ByteArray} {b n : Nat} {out : List (List UInt8)} (h : Scan s b n out) (hb : b = n) (hn : n = s.size) : Scanned s out := by
  subst hb; subst hn; exact scan_done_blank h
theorem scan_done_word' {s : ByteArray} {b n : Nat} {out : List (List UInt8)} (h : Scan s b n out) (hn : n = s.size) (hb : b < n) : Scanned s (out ++ [(s.data.toList.drop b).take (n - b)]) := by
  subst hn; exact scan_done_word h hb

set_option maxHeartbeats 1600000 in
set_option maxRecDepth 100000 in
theorem specParts_in (s : ByteArray) (w : World) (hs : s.size ≤ 600) :
    Calls Tryd.prog 39 #[.string s] w fun e w' => PartsEnd s w e w' := by
  go_enter Tryd.func39, Tryd.ntmps39
  go_wp2
  go_loopw [4, 5, 6] (fun out b i wr => ∃ (bn n : Nat) (l : List (List UInt8)), b = .int .i64 bn ∧ i = .int .i64 n ∧ n ≤ s.size + 1 ∧ ownsS wr w.heap.size 9 out (texts l) ∧ Below w.heap.size w wr ∧ Hid (ScanAt s bn n l)) (fun _ _ i _ => s.size + 1 - (intOf i).toNat)
  case atStart => exact ⟨0, 0, [], rfl, rfl, by omega, ownsS_made _ _ _ _ _ (Nat.le_refl _) (by decide) rfl, (Below.refl _ _).alloc (Nat.le_refl _) _, ⟨fun _ => scan_start s, fun h => by omega⟩⟩
  case round =>
    obtain ⟨bn, n, l, rfl, rfl, hn, hown, hbel, HS⟩ := hrel
    have hsz := hbel.size
    have hll := scanAt_len HS hn
    obtain ⟨ao, cap, rfl⟩ := ownsS_slice hown
    by_cases hn1 : n ≤ s.size
    · have hbn := scanAt_le HS hn1
      by_cases hlt : n < s.size
      · have h256 := s[n].toNat_lt
        by_cases h1 : s[n].toNat < 32
        · have HH : Hid (PartsEnd s w _ _) := end_false (partsR_bad hlt (Or.inl h1)) hbel
          go_wp2
          go_ret2
          exact HH.out
        · by_cases h2 : 126 < s[n].toNat
          · have HH : Hid (PartsEnd s w _ _) := end_false (partsR_bad hlt (Or.inr h2)) hbel
            go_wp2
            go_ret2
            exact HH.out
          · by_cases h3 : s[n].toNat = 32
            · have h3' : ((s[n].toNat : Int) != 32) = false := by rw [bne_eq_false_iff_eq]; omega
              have H3 : Hid (s[n].toNat = 32) := h3
              clear h3
              by_cases h4 : bn < n
              · go_wp2_with (at_builtin; refine wpList_append_text _ w rfl (.tmp 48) (.tmp 53) 61 rfl w.heap.size 9 Tryd.underlying61 info9 _ (texts l) rfl (hown.alloc _) (hbel.alloc hsz _) ⟨wr.heap.size, 0, none⟩ 1 (s.extract bn n) rfl ?c1 ?c2 ?c3 ?_)
                case c1 => simp
                case c2 => omega
                case c3 => simp; omega
                intro v2 w2 hown2 hbel2
                clear hown hbel
                go_wp2
                go_roundw
                case rel => exact ⟨n + 1, n + 1, _, by go_num, by go_num, by omega, (by rw [extract_word, texts_snoc] at hown2; exact hown2), hbel2, ⟨fun _ => scan_word (HS.out.1 hn1) h4 hlt H3.out, fun h => by omega⟩⟩
                case measure => simp [intOf]; omega
              · go_wp2
                go_roundw
                case rel => exact ⟨n + 1, n + 1, l, by go_num, by go_num, by omega, hown, hbel, ⟨fun _ => scan_blank' (HS.out.1 hn1) (by omega) hlt H3.out, fun h => by omega⟩⟩
                case measure => simp [intOf]; omega
            · have h3' : ((s[n].toNat : Int) != 32) = true := by rw [bne_iff_ne]; omega
              go_wp2
              go_roundw
              case rel => exact ⟨bn, n + 1, l, rfl, by go_num, by omega, hown, hbel, ⟨fun _ => scan_letter (HS.out.1 hn1) hlt (by omega) (by omega) h3, fun h => by omega⟩⟩
              case measure => simp [intOf]; omega
      · by_cases h4 : bn < n
        · go_wp2_with (at_builtin; refine wpList_append_text _ w rfl (.tmp 48) (.tmp 53) 61 rfl w.heap.size 9 Tryd.underlying61 info9 _ (texts l) rfl (hown.alloc _) (hbel.alloc hsz _) ⟨wr.heap.size, 0, none⟩ 1 (s.extract bn n) rfl ?d1 ?d2 ?d3 ?_)
          case d1 => simp
          case d2 => omega
          case d3 => simp; omega
          intro v2 w2 hown2 hbel2
          clear hown hbel
          go_wp2
          go_roundw
          case rel => exact ⟨n + 1, n + 1, _, by go_num, by go_num, by omega, (by rw [extract_word, texts_snoc] at hown2; exact hown2), hbel2, ⟨fun h => by omega, fun _ => scan_done_word' (HS.out.1 hn1) (by omega) h4⟩⟩
          case measure => simp [intOf]; omega
        · go_wp2
          go_roundw
          case rel => exact ⟨n + 1, n + 1, l, by go_num, by go_num, by omega, hown, hbel, ⟨fun h => by omega, fun _ => scan_done_blank' (HS.out.1 hn1) (by omega) (by omega)⟩⟩
          case measure => simp [intOf]; omega
    · have hd := HS.out.2 (by omega)
      have hl10 := texts_length l
      have HL : Hid ((texts l).length = l.length) := hl10
      clear hl10
      by_cases h10 : 10 < (texts l).length
      · have HH : Hid (PartsEnd s w _ _) := end_false (partsR_many (by omega) hd.plain (by rw [hd.eq]; have := HL.out; omega)) hbel
        clear hd
        go_wp2
        go_ret2
        exact HH.out
      · have HH : Hid (PartsEnd s w _ _) := end_true (by have h := partsR_ok (s := s) (by omega) hd.plain (by rw [hd.eq]; have := HL.out; omega); rw [hd.eq] at h; exact h) hown hbel
        clear hd
        go_wp2
        go_ret2
        exact HH.out

theorem specParts_any (s : ByteArray) (w : World) (hs : s.size ≤ 1048576) : Calls Tryd.prog 39 #[.string s] w fun e w' => PartsEnd s w e w' := by
  by_cases h : 600 < s.size
  · exact specParts_long s w (by omega) h
  · exact specParts_in s w (by omega)

end Go.Proofs.YtbecdaholpiaeaaDoor

namespace Go.Proofs.YtbecdaholpiaeaaDoor
open Go Go.RowKit

/-- What a rule comes to: its five lists. -/
def pcT : List ByteArray → Option (List (List Int))
  | [a, b, c, d, e] => if (fieldO a 0 59).isSome && ((fieldO b 0 23).isSome && ((fieldO c 1 31).isSome && ((fieldO d 1 12).isSome && (fieldO e 0 6).isSome))) then some [fieldL a 0 59, fieldL b 0 23, fieldL c 1 31, fieldL d 1 12, fieldL e 0 6] else none
  | _ => none
def pcO (s : ByteArray) : Option (List (List Int)) := if (partsR s).2 then pcT (texts (partsR s).1) else none
def pcN (o : Option (List (List Int))) (k : Nat) : List Int := ((o.getD [])[k]?).getD []
def PcP (s : ByteArray) (w : World) (e : Ending) (w' : World) : Prop :=
  ∃ v0 v1 v2 v3 v4, e = .returned (.tuple #[.agg #[v0, v1, v2, v3, v4], .bool (pcO s).isSome]) ∧ ownsR w' w.heap.size 3 v0 (pcN (pcO s) 0) ∧ ownsR w' w.heap.size 3 v1 (pcN (pcO s) 1) ∧ ownsR w' w.heap.size 3 v2 (pcN (pcO s) 2) ∧ ownsR w' w.heap.size 3 v3 (pcN (pcO s) 3) ∧ ownsR w' w.heap.size 3 v4 (pcN (pcO s) 4) ∧ Below w.heap.size w w'
theorem ownsR_none {α : Type} [Rec α] (w : World) (B : Nat) (e : TypeId) : ownsR w B e (.slice none 0 0) ([] : List α) := ⟨by simp, .inl ⟨rfl, rfl⟩⟩
theorem pc_no {s : ByteArray} {w W : World} (h : pcO s = none) (hb : Below w.heap.size w W) : PcP s w (.returned (.tuple #[.agg #[.slice none 0 0, .slice none 0 0, .slice none 0 0, .slice none 0 0, .slice none 0 0], .bool false])) W := by
  refine ⟨_, _, _, _, _, by rw [h]; rfl, ?_, ?_, ?_, ?_, ?_, hb⟩ <;> rw [h] <;> exact ownsR_none _ _ _
theorem pcT_len {l : List ByteArray} (h : l.length ≠ 5) : pcT l = none := by
  unfold pcT
  split
  · exact absurd rfl h
  · rfl
theorem fieldsGo_sz : ∀ (l cur t : List UInt8), t ∈ Lib.fieldsGo cur l → t.length ≤ cur.length + l.length
  | [], cur, t, h => by
    unfold Lib.fieldsGo at h
    split at h
    · cases h
    · rw [List.mem_singleton] at h; subst h; simp
  | b :: l, cur, t, h => by
    unfold Lib.fieldsGo at h
    split at h
    · split at h
      · have := fieldsGo_sz l [] t h
        simp at this ⊢; omega
      · rcases List.mem_cons.1 h with rfl | h
        · omega
        · have := fieldsGo_sz l [] t h
          simp at this ⊢; omega
    · have := fieldsGo_sz l (cur ++ [b]) t h
      simp at this ⊢; omega
theorem parts_sz {s t : ByteArray} (h : t ∈ texts (partsR s).1) : t.size ≤ 1048576 := by
  unfold texts at h
  obtain ⟨u, hu, rfl⟩ := List.mem_map.1 h
  unfold partsR at hu
  split at hu
  · cases hu
  · rename_i h6
    split at hu
    · split at hu
      · cases hu
      · have := fieldsGo_sz _ [] u hu
        have h7 : s.data.toList.length = s.size := by simp
        show u.toArray.size ≤ _
        simp at this ⊢
        have h8 : s.data.size = s.size := rfl
        omega
    · cases hu
theorem bools5 {W : World} {B D : Nat} (h : ownsR W B 4 (.slice (some ⟨D, 0, none⟩) 5 5) (List.replicate 5 false)) : B5 4 W D (.bool false) (.bool false) (.bool false) (.bool false) (.bool false) := by
  rcases h.2 with ⟨h2, _⟩ | ⟨g, cap, cur, hv, _, hg, _, _, hz, ht⟩
  · cases h2
  · injection hv with h1 h2 h3
    injection h1 with h1
    injection h1 with h1
    subst h1 h3
    have e : cur = #[.bool false, .bool false, .bool false, .bool false, .bool false] := by
      apply Array.toList_inj.1
      rw [List.take_of_length_le (by rw [Array.length_toList, hz]; exact Nat.le_refl _)] at ht
      rw [ht]; rfl
    rw [e] at hg
    exact hg
theorem five {α : Type} {l : List α} (h : l.length = 5) : ∃ a b c d e, l = [a, b, c, d, e] := by
  match l, h with
  | [a, b, c, d, e], _ => exact ⟨a, b, c, d, e, rfl⟩

set_option maxRecDepth 10000 in
set_option maxHeartbeats 2000000 in
theorem parseCron_any (s : ByteArray) (w : World) (hs : s.size ≤ 1048576) : Calls Tryd.prog 17 #[.string s] w (PcP s w) := by
  obtain ⟨i0, hi0, hz0, hz1, hz2⟩ := info_parts infoB
  have HPS : Hid (PartsEnd s = PartsEnd s) := rfl
  go_enter Tryd.func17, Tryd.ntmps17
  go_wp2_with fail
  refine (specParts_any s _ hs).mono ?_
  rintro e w1 ⟨vp, rfl, hop, hb1⟩
  have ZR : B5 26 w1 w.heap.size (.slice none 0 0) (.slice none 0 0) (.slice none 0 0) (.slice none 0 0) (.slice none 0 0) := (B5.new 26 w (.slice none 0 0) (.slice none 0 0) (.slice none 0 0) (.slice none 0 0) (.slice none 0 0)).up hb1
  have B1 : Below w.heap.size w w1 := below_new hb1
  have hz : w.heap.size < w1.heap.size := ZR.lt
  obtain ⟨ao, cap, rfl⟩ := ownsS_slice hop
  have HOP : Hid (ownsS w1 (w.heap.size + 1) 9 (.slice ao (texts (partsR s).1).length cap) (texts (partsR s).1)) := by show ownsS _ _ _ _ _; simpa using hop
  clear hop hb1 HPS
  have r0 := ZR.c0
  have r1 := ZR.c1
  have r2 := ZR.c2
  have r3 := ZR.c3
  have r4 := ZR.c4
  have rf := ZR.fr
  have HZR : Hid (B5 26 w1 w.heap.size (.slice none 0 0) (.slice none 0 0) (.slice none 0 0) (.slice none 0 0) (.slice none 0 0)) := ZR
  clear ZR
  cases hok : (partsR s).2 with
  | false =>
    have HN : Hid (pcO s = none) := by show _ = _; unfold pcO; rw [hok]; rfl
    clear HOP hok
    generalize (texts (partsR s).1).length = n
    go_wp2
    refine bodyPost_ret (ret_c2 rfl rfl rfl (HZR.out.set (.slice none 0 0) (.slice none 0 0) (.slice none 0 0) (.slice none 0 0) (.slice none 0 0))) rfl ?_
    exact pc_no HN.out (below_set5 B1 (Nat.le_refl _) _ _ _ _ _)
  | true =>
    by_cases h5 : (texts (partsR s).1).length = 5
    · obtain ⟨t0, t1, t2, t3, t4, hT⟩ := five h5
      have HE : Hid (pcO s = pcT [t0, t1, t2, t3, t4]) := by show _ = _; unfold pcO; rw [hok, hT]; rfl
      clear r0 r1 r2 r3 r4 rf hok h5
      have z0 : t0.size ≤ 1048576 := parts_sz (s := s) (by rw [hT]; simp)
      have z1 : t1.size ≤ 1048576 := parts_sz (s := s) (by rw [hT]; simp)
      have z2 : t2.size ≤ 1048576 := parts_sz (s := s) (by rw [hT]; simp)
      have z3 : t3.size ≤ 1048576 := parts_sz (s := s) (by rw [hT]; simp)
      have z4 : t4.size ≤ 1048576 := parts_sz (s := s) (by rw [hT]; simp)
      rw [hT] at HOP
      obtain ⟨gp, cp, hv, hgp, hcp⟩ := ownsS_read HOP.out (by simp)
      obtain ⟨rfl, -⟩ : ao = some ⟨gp, 0, none⟩ ∧ True := ⟨by injection hv, trivial⟩
      have hgl : w.heap.size + 1 ≤ gp := (HOP.out.lt gp rfl).1
      have p0_0 := hcp 0 t0 rfl
      have p1_0 := hcp 1 t1 rfl
      have p2_0 := hcp 2 t2 rfl
      have p3_0 := hcp 3 t3 rfl
      have p4_0 := hcp 4 t4 rfl
      clear hcp hv HOP
      rw [hT]
      obtain ⟨b0, HB0⟩ : ∃ q, Hid ((fieldO t0 0 59).isSome = q) := ⟨_, rfl⟩
      obtain ⟨L0, HL0⟩ : ∃ q, Hid (fieldL t0 0 59 = q) := ⟨_, rfl⟩
      have CF0 : Hid (∀ W, Calls Tryd.prog 40 #[.string t0, .int .i64 0, .int .i64 59] W fun e w' => ∃ v, e = .returned (.tuple #[v, .bool b0]) ∧ ownsR w' W.heap.size 3 v L0 ∧ Below W.heap.size W w') := fun W => by rw [← HB0.out, ← HL0.out]; exact l10Field_any t0 0 59 W z0 (by decide) (by decide) (by decide)
      obtain ⟨b1, HB1⟩ : ∃ q, Hid ((fieldO t1 0 23).isSome = q) := ⟨_, rfl⟩
      obtain ⟨L1, HL1⟩ : ∃ q, Hid (fieldL t1 0 23 = q) := ⟨_, rfl⟩
      have CF1 : Hid (∀ W, Calls Tryd.prog 40 #[.string t1, .int .i64 0, .int .i64 23] W fun e w' => ∃ v, e = .returned (.tuple #[v, .bool b1]) ∧ ownsR w' W.heap.size 3 v L1 ∧ Below W.heap.size W w') := fun W => by rw [← HB1.out, ← HL1.out]; exact l10Field_any t1 0 23 W z1 (by decide) (by decide) (by decide)
      obtain ⟨b2, HB2⟩ : ∃ q, Hid ((fieldO t2 1 31).isSome = q) := ⟨_, rfl⟩
      obtain ⟨L2, HL2⟩ : ∃ q, Hid (fieldL t2 1 31 = q) := ⟨_, rfl⟩
      have CF2 : Hid (∀ W, Calls Tryd.prog 40 #[.string t2, .int .i64 1, .int .i64 31] W fun e w' => ∃ v, e = .returned (.tuple #[v, .bool b2]) ∧ ownsR w' W.heap.size 3 v L2 ∧ Below W.heap.size W w') := fun W => by rw [← HB2.out, ← HL2.out]; exact l10Field_any t2 1 31 W z2 (by decide) (by decide) (by decide)
      obtain ⟨b3, HB3⟩ : ∃ q, Hid ((fieldO t3 1 12).isSome = q) := ⟨_, rfl⟩
      obtain ⟨L3, HL3⟩ : ∃ q, Hid (fieldL t3 1 12 = q) := ⟨_, rfl⟩
      have CF3 : Hid (∀ W, Calls Tryd.prog 40 #[.string t3, .int .i64 1, .int .i64 12] W fun e w' => ∃ v, e = .returned (.tuple #[v, .bool b3]) ∧ ownsR w' W.heap.size 3 v L3 ∧ Below W.heap.size W w') := fun W => by rw [← HB3.out, ← HL3.out]; exact l10Field_any t3 1 12 W z3 (by decide) (by decide) (by decide)
      obtain ⟨b4, HB4⟩ : ∃ q, Hid ((fieldO t4 0 6).isSome = q) := ⟨_, rfl⟩
      obtain ⟨L4, HL4⟩ : ∃ q, Hid (fieldL t4 0 6 = q) := ⟨_, rfl⟩
      have CF4 : Hid (∀ W, Calls Tryd.prog 40 #[.string t4, .int .i64 0, .int .i64 6] W fun e w' => ∃ v, e = .returned (.tuple #[v, .bool b4]) ∧ ownsR w' W.heap.size 3 v L4 ∧ Below W.heap.size W w') := fun W => by rw [← HB4.out, ← HL4.out]; exact l10Field_any t4 0 6 W z4 (by decide) (by decide) (by decide)
      clear hT z0 z1 z2 z3 z4
      go_wp2_with (at_make; refine wpList_make_full _ rfl _ _ 64 rfl w.heap.size 4 i0 _ 1 underB hi0 hz0 hz1 .i64 .i64 _ _ 5 rfl rfl rfl rfl (by rw [hz2]; omega) (by unfold maxLen; omega) (by simp; omega) ?_; intro w2 ho hg; have p0_1 := hg.cell (cell_up (ba (Below.refl _ w1) _) p0_0) (by simp); have p1_1 := hg.cell (cell_up (ba (Below.refl _ w1) _) p1_0) (by simp); have p2_1 := hg.cell (cell_up (ba (Below.refl _ w1) _) p2_0) (by simp); have p3_1 := hg.cell (cell_up (ba (Below.refl _ w1) _) p3_0) (by simp); have p4_1 := hg.cell (cell_up (ba (Below.refl _ w1) _) p4_0) (by simp))
      clear p0_0 p1_0 p2_0 p3_0 p4_0
      have ZD1 : B5 4 w2 (w1.heap.size + 1) (.bool false) (.bool false) (.bool false) (.bool false) (.bool false) := by
        rw [made_bools] at ho
        refine bools5 (B := w.heap.size) ?_
        unfold ownsR
        rw [List.length_replicate]
        simp only [World.size_alloc] at ho
        exact ho
      have ZC1 : B5 26 w2 w1.heap.size (.slice none 0 0) (.slice none 0 0) (.slice none 0 0) (.slice none 0 0) (.slice none 0 0) := (B5.new 26 w1 (.slice none 0 0) (.slice none 0 0) (.slice none 0 0) (.slice none 0 0) (.slice none 0 0)).grown hg (by simp)
      have ZR1 : B5 26 w2 w.heap.size (.slice none 0 0) (.slice none 0 0) (.slice none 0 0) (.slice none 0 0) (.slice none 0 0) := (HZR.out.alloc _).grown hg (by simp)
      have X1 : Below w.heap.size w w2 := (ba B1 _).grown hg (by simp; omega) (fun j hj => by cases hj)
      clear HZR B1 ho hg
      obtain ⟨R, hR⟩ : ∃ R, R = w.heap.size := ⟨_, rfl⟩
      obtain ⟨C, hC⟩ : ∃ C, C = w1.heap.size := ⟨_, rfl⟩
      obtain ⟨D, hD⟩ : ∃ D, D = w1.heap.size + 1 := ⟨_, rfl⟩
      have hCD : C ≠ D := by omega
      have hDC : D ≠ C := by omega
      have hRC : C ≠ R := by omega
      have hRD : D ≠ R := by omega
      have hgC : C ≠ gp := by omega
      have hgD : D ≠ gp := by omega
      have kC : w.heap.size ≤ C := by omega
      have kD : w.heap.size ≤ D := by omega
      have lCD : C < D := by omega
      have lRD : R < D + 1 := by omega
      have lwR : w.heap.size ≤ R := by omega
      have lwD : w.heap.size ≤ D + 1 := by omega
      rw [← hD] at ZD1 ⊢
      rw [← hC] at ZC1 ⊢
      rw [← hR] at ZR1 ⊢
      have HRw : Hid (R = w.heap.size) := hR
      clear hz hgp hgl hC hD hR
      have HX1 : Hid (D < w2.heap.size) := ZD1.lt
      refine (CF0.out _).mono ?_
      rintro e y0 ⟨v0, rfl, ho0, hb0⟩
      obtain ⟨a0, n0, d0, rfl⟩ := ho0.slice3
      have p0_2 := cell_up hb0 p0_1
      have p1_2 := cell_up hb0 p1_1
      have p2_2 := cell_up hb0 p2_1
      have p3_2 := cell_up hb0 p3_1
      have p4_2 := cell_up hb0 p4_1
      have ZD2 := ZD1.up hb0
      have ZC2 := ZC1.up hb0
      have ZR2 := ZR1.up hb0
      have X2 : Below w.heap.size w y0 := Below.on X1 hb0
      have HX2 : Hid (D < y0.heap.size) := Nat.lt_of_lt_of_le HX1.out hb0.size
      have O0_2 : Hid (ownsR y0 (D + 1) 3 (.slice a0 n0 d0) L0) := ho0.mono HX1.out
      clear hb0 ho0 ZD1 ZC1 ZR1 X1 HX1 CF0 p0_1 p1_1 p2_1 p3_1 p4_1 
      have sc := ZC2.c0
      have sd := ZD2.c0
      have fc := ZC2.fr 0
      have fd := ZD2.fr 0
      go_wp2_with fail
      clear sc sd fc fd
      have ZC3 : B5 26 ((y0.setCell ⟨C, 0, none⟩ (.slice a0 n0 d0)).setCell ⟨D, 0, none⟩ (.bool b0)) C (.slice a0 n0 d0) (.slice none 0 0) (.slice none 0 0) (.slice none 0 0) (.slice none 0 0) := (ZC2.s0 _).far hDC _
      have ZD3 : B5 4 ((y0.setCell ⟨C, 0, none⟩ (.slice a0 n0 d0)).setCell ⟨D, 0, none⟩ (.bool b0)) D (.bool b0) (.bool false) (.bool false) (.bool false) (.bool false) := (ZD2.far hCD _).s0 _
      have ZR3 : B5 26 ((y0.setCell ⟨C, 0, none⟩ (.slice a0 n0 d0)).setCell ⟨D, 0, none⟩ (.bool b0)) R (.slice none 0 0) (.slice none 0 0) (.slice none 0 0) (.slice none 0 0) (.slice none 0 0) := (ZR2.far hRC _).far hRD _
      have X3 : Below w.heap.size w ((y0.setCell ⟨C, 0, none⟩ (.slice a0 n0 d0)).setCell ⟨D, 0, none⟩ (.bool b0)) := Below.setCell (Below.setCell X2 kC _) kD _
      have HX3 : Hid (D < ((y0.setCell ⟨C, 0, none⟩ (.slice a0 n0 d0)).setCell ⟨D, 0, none⟩ (.bool b0)).heap.size) := by show D < _; simpa using HX2.out
      have p0_3 : ((y0.setCell ⟨C, 0, none⟩ (.slice a0 n0 d0)).setCell ⟨D, 0, none⟩ (.bool b0)).cell? ⟨gp, 0, none⟩ = some (.string t0) := cell_far (cell_far p0_2 hgC _) hgD _
      have p1_3 : ((y0.setCell ⟨C, 0, none⟩ (.slice a0 n0 d0)).setCell ⟨D, 0, none⟩ (.bool b0)).cell? ⟨gp, 1, none⟩ = some (.string t1) := cell_far (cell_far p1_2 hgC _) hgD _
      have p2_3 : ((y0.setCell ⟨C, 0, none⟩ (.slice a0 n0 d0)).setCell ⟨D, 0, none⟩ (.bool b0)).cell? ⟨gp, 2, none⟩ = some (.string t2) := cell_far (cell_far p2_2 hgC _) hgD _
      have p3_3 : ((y0.setCell ⟨C, 0, none⟩ (.slice a0 n0 d0)).setCell ⟨D, 0, none⟩ (.bool b0)).cell? ⟨gp, 3, none⟩ = some (.string t3) := cell_far (cell_far p3_2 hgC _) hgD _
      have p4_3 : ((y0.setCell ⟨C, 0, none⟩ (.slice a0 n0 d0)).setCell ⟨D, 0, none⟩ (.bool b0)).cell? ⟨gp, 4, none⟩ = some (.string t4) := cell_far (cell_far p4_2 hgC _) hgD _
      have O0_3 : Hid (ownsR ((y0.setCell ⟨C, 0, none⟩ (.slice a0 n0 d0)).setCell ⟨D, 0, none⟩ (.bool b0)) (D + 1) 3 (.slice a0 n0 d0) L0) := (O0_2.out.setB (by show C < D + 1; omega) _).setB (by show D < D + 1; omega) _
      clear ZD2 ZC2 ZR2 X2 HX2 p0_2 p1_2 p2_2 p3_2 p4_2 O0_2
      refine (CF1.out _).mono ?_
      rintro e y1 ⟨v1, rfl, ho1, hb1⟩
      obtain ⟨a1, n1, d1, rfl⟩ := ho1.slice3
      have p0_4 := cell_up hb1 p0_3
      have p1_4 := cell_up hb1 p1_3
      have p2_4 := cell_up hb1 p2_3
      have p3_4 := cell_up hb1 p3_3
      have p4_4 := cell_up hb1 p4_3
      have ZD4 := ZD3.up hb1
      have ZC4 := ZC3.up hb1
      have ZR4 := ZR3.up hb1
      have X4 : Below w.heap.size w y1 := Below.on X3 hb1
      have O0_4 : Hid (ownsR y1 (D + 1) 3 (.slice a0 n0 d0) L0) := O0_3.out.all hb1
      have HX4 : Hid (D < y1.heap.size) := Nat.lt_of_lt_of_le HX3.out hb1.size
      have O1_4 : Hid (ownsR y1 (D + 1) 3 (.slice a1 n1 d1) L1) := ho1.mono HX3.out
      clear hb1 ho1 ZD3 ZC3 ZR3 X3 HX3 CF1 p0_3 p1_3 p2_3 p3_3 p4_3 O0_3
      have sc := ZC4.c1
      have sd := ZD4.c1
      have fc := ZC4.fr 1
      have fd := ZD4.fr 1
      go_wp2_with fail
      clear sc sd fc fd
      have ZC5 : B5 26 ((y1.setCell ⟨C, 1, none⟩ (.slice a1 n1 d1)).setCell ⟨D, 1, none⟩ (.bool b1)) C (.slice a0 n0 d0) (.slice a1 n1 d1) (.slice none 0 0) (.slice none 0 0) (.slice none 0 0) := (ZC4.s1 _).far hDC _
      have ZD5 : B5 4 ((y1.setCell ⟨C, 1, none⟩ (.slice a1 n1 d1)).setCell ⟨D, 1, none⟩ (.bool b1)) D (.bool b0) (.bool b1) (.bool false) (.bool false) (.bool false) := (ZD4.far hCD _).s1 _
      have ZR5 : B5 26 ((y1.setCell ⟨C, 1, none⟩ (.slice a1 n1 d1)).setCell ⟨D, 1, none⟩ (.bool b1)) R (.slice none 0 0) (.slice none 0 0) (.slice none 0 0) (.slice none 0 0) (.slice none 0 0) := (ZR4.far hRC _).far hRD _
      have X5 : Below w.heap.size w ((y1.setCell ⟨C, 1, none⟩ (.slice a1 n1 d1)).setCell ⟨D, 1, none⟩ (.bool b1)) := Below.setCell (Below.setCell X4 kC _) kD _
      have HX5 : Hid (D < ((y1.setCell ⟨C, 1, none⟩ (.slice a1 n1 d1)).setCell ⟨D, 1, none⟩ (.bool b1)).heap.size) := by show D < _; simpa using HX4.out
      have p0_5 : ((y1.setCell ⟨C, 1, none⟩ (.slice a1 n1 d1)).setCell ⟨D, 1, none⟩ (.bool b1)).cell? ⟨gp, 0, none⟩ = some (.string t0) := cell_far (cell_far p0_4 hgC _) hgD _
      have p1_5 : ((y1.setCell ⟨C, 1, none⟩ (.slice a1 n1 d1)).setCell ⟨D, 1, none⟩ (.bool b1)).cell? ⟨gp, 1, none⟩ = some (.string t1) := cell_far (cell_far p1_4 hgC _) hgD _
      have p2_5 : ((y1.setCell ⟨C, 1, none⟩ (.slice a1 n1 d1)).setCell ⟨D, 1, none⟩ (.bool b1)).cell? ⟨gp, 2, none⟩ = some (.string t2) := cell_far (cell_far p2_4 hgC _) hgD _
      have p3_5 : ((y1.setCell ⟨C, 1, none⟩ (.slice a1 n1 d1)).setCell ⟨D, 1, none⟩ (.bool b1)).cell? ⟨gp, 3, none⟩ = some (.string t3) := cell_far (cell_far p3_4 hgC _) hgD _
      have p4_5 : ((y1.setCell ⟨C, 1, none⟩ (.slice a1 n1 d1)).setCell ⟨D, 1, none⟩ (.bool b1)).cell? ⟨gp, 4, none⟩ = some (.string t4) := cell_far (cell_far p4_4 hgC _) hgD _
      have O0_5 : Hid (ownsR ((y1.setCell ⟨C, 1, none⟩ (.slice a1 n1 d1)).setCell ⟨D, 1, none⟩ (.bool b1)) (D + 1) 3 (.slice a0 n0 d0) L0) := (O0_4.out.setB (by show C < D + 1; omega) _).setB (by show D < D + 1; omega) _
      have O1_5 : Hid (ownsR ((y1.setCell ⟨C, 1, none⟩ (.slice a1 n1 d1)).setCell ⟨D, 1, none⟩ (.bool b1)) (D + 1) 3 (.slice a1 n1 d1) L1) := (O1_4.out.setB (by show C < D + 1; omega) _).setB (by show D < D + 1; omega) _
      clear ZD4 ZC4 ZR4 X4 HX4 p0_4 p1_4 p2_4 p3_4 p4_4 O0_4 O1_4
      refine (CF2.out _).mono ?_
      rintro e y2 ⟨v2, rfl, ho2, hb2⟩
      obtain ⟨a2, n2, d2, rfl⟩ := ho2.slice3
      have p0_6 := cell_up hb2 p0_5
      have p1_6 := cell_up hb2 p1_5
      have p2_6 := cell_up hb2 p2_5
      have p3_6 := cell_up hb2 p3_5
      have p4_6 := cell_up hb2 p4_5
      have ZD6 := ZD5.up hb2
      have ZC6 := ZC5.up hb2
      have ZR6 := ZR5.up hb2
      have X6 : Below w.heap.size w y2 := Below.on X5 hb2
      have O0_6 : Hid (ownsR y2 (D + 1) 3 (.slice a0 n0 d0) L0) := O0_5.out.all hb2
      have O1_6 : Hid (ownsR y2 (D + 1) 3 (.slice a1 n1 d1) L1) := O1_5.out.all hb2
      have HX6 : Hid (D < y2.heap.size) := Nat.lt_of_lt_of_le HX5.out hb2.size
      have O2_6 : Hid (ownsR y2 (D + 1) 3 (.slice a2 n2 d2) L2) := ho2.mono HX5.out
      clear hb2 ho2 ZD5 ZC5 ZR5 X5 HX5 CF2 p0_5 p1_5 p2_5 p3_5 p4_5 O0_5 O1_5
      have sc := ZC6.c2
      have sd := ZD6.c2
      have fc := ZC6.fr 2
      have fd := ZD6.fr 2
      go_wp2_with fail
      clear sc sd fc fd
      have ZC7 : B5 26 ((y2.setCell ⟨C, 2, none⟩ (.slice a2 n2 d2)).setCell ⟨D, 2, none⟩ (.bool b2)) C (.slice a0 n0 d0) (.slice a1 n1 d1) (.slice a2 n2 d2) (.slice none 0 0) (.slice none 0 0) := (ZC6.s2 _).far hDC _
      have ZD7 : B5 4 ((y2.setCell ⟨C, 2, none⟩ (.slice a2 n2 d2)).setCell ⟨D, 2, none⟩ (.bool b2)) D (.bool b0) (.bool b1) (.bool b2) (.bool false) (.bool false) := (ZD6.far hCD _).s2 _
      have ZR7 : B5 26 ((y2.setCell ⟨C, 2, none⟩ (.slice a2 n2 d2)).setCell ⟨D, 2, none⟩ (.bool b2)) R (.slice none 0 0) (.slice none 0 0) (.slice none 0 0) (.slice none 0 0) (.slice none 0 0) := (ZR6.far hRC _).far hRD _
      have X7 : Below w.heap.size w ((y2.setCell ⟨C, 2, none⟩ (.slice a2 n2 d2)).setCell ⟨D, 2, none⟩ (.bool b2)) := Below.setCell (Below.setCell X6 kC _) kD _
      have HX7 : Hid (D < ((y2.setCell ⟨C, 2, none⟩ (.slice a2 n2 d2)).setCell ⟨D, 2, none⟩ (.bool b2)).heap.size) := by show D < _; simpa using HX6.out
      have p0_7 : ((y2.setCell ⟨C, 2, none⟩ (.slice a2 n2 d2)).setCell ⟨D, 2, none⟩ (.bool b2)).cell? ⟨gp, 0, none⟩ = some (.string t0) := cell_far (cell_far p0_6 hgC _) hgD _
      have p1_7 : ((y2.setCell ⟨C, 2, none⟩ (.slice a2 n2 d2)).setCell ⟨D, 2, none⟩ (.bool b2)).cell? ⟨gp, 1, none⟩ = some (.string t1) := cell_far (cell_far p1_6 hgC _) hgD _
      have p2_7 : ((y2.setCell ⟨C, 2, none⟩ (.slice a2 n2 d2)).setCell ⟨D, 2, none⟩ (.bool b2)).cell? ⟨gp, 2, none⟩ = some (.string t2) := cell_far (cell_far p2_6 hgC _) hgD _
      have p3_7 : ((y2.setCell ⟨C, 2, none⟩ (.slice a2 n2 d2)).setCell ⟨D, 2, none⟩ (.bool b2)).cell? ⟨gp, 3, none⟩ = some (.string t3) := cell_far (cell_far p3_6 hgC _) hgD _
      have p4_7 : ((y2.setCell ⟨C, 2, none⟩ (.slice a2 n2 d2)).setCell ⟨D, 2, none⟩ (.bool b2)).cell? ⟨gp, 4, none⟩ = some (.string t4) := cell_far (cell_far p4_6 hgC _) hgD _
      have O0_7 : Hid (ownsR ((y2.setCell ⟨C, 2, none⟩ (.slice a2 n2 d2)).setCell ⟨D, 2, none⟩ (.bool b2)) (D + 1) 3 (.slice a0 n0 d0) L0) := (O0_6.out.setB (by show C < D + 1; omega) _).setB (by show D < D + 1; omega) _
      have O1_7 : Hid (ownsR ((y2.setCell ⟨C, 2, none⟩ (.slice a2 n2 d2)).setCell ⟨D, 2, none⟩ (.bool b2)) (D + 1) 3 (.slice a1 n1 d1) L1) := (O1_6.out.setB (by show C < D + 1; omega) _).setB (by show D < D + 1; omega) _
      have O2_7 : Hid (ownsR ((y2.setCell ⟨C, 2, none⟩ (.slice a2 n2 d2)).setCell ⟨D, 2, none⟩ (.bool b2)) (D + 1) 3 (.slice a2 n2 d2) L2) := (O2_6.out.setB (by show C < D + 1; omega) _).setB (by show D < D + 1; omega) _
      clear ZD6 ZC6 ZR6 X6 HX6 p0_6 p1_6 p2_6 p3_6 p4_6 O0_6 O1_6 O2_6
      refine (CF3.out _).mono ?_
      rintro e y3 ⟨v3, rfl, ho3, hb3⟩
      obtain ⟨a3, n3, d3, rfl⟩ := ho3.slice3
      have p0_8 := cell_up hb3 p0_7
      have p1_8 := cell_up hb3 p1_7
      have p2_8 := cell_up hb3 p2_7
      have p3_8 := cell_up hb3 p3_7
      have p4_8 := cell_up hb3 p4_7
      have ZD8 := ZD7.up hb3
      have ZC8 := ZC7.up hb3
      have ZR8 := ZR7.up hb3
      have X8 : Below w.heap.size w y3 := Below.on X7 hb3
      have O0_8 : Hid (ownsR y3 (D + 1) 3 (.slice a0 n0 d0) L0) := O0_7.out.all hb3
      have O1_8 : Hid (ownsR y3 (D + 1) 3 (.slice a1 n1 d1) L1) := O1_7.out.all hb3
      have O2_8 : Hid (ownsR y3 (D + 1) 3 (.slice a2 n2 d2) L2) := O2_7.out.all hb3
      have HX8 : Hid (D < y3.heap.size) := Nat.lt_of_lt_of_le HX7.out hb3.size
      have O3_8 : Hid (ownsR y3 (D + 1) 3 (.slice a3 n3 d3) L3) := ho3.mono HX7.out
      clear hb3 ho3 ZD7 ZC7 ZR7 X7 HX7 CF3 p0_7 p1_7 p2_7 p3_7 p4_7 O0_7 O1_7 O2_7
      have sc := ZC8.c3
      have sd := ZD8.c3
      have fc := ZC8.fr 3
      have fd := ZD8.fr 3
      go_wp2_with fail
      clear sc sd fc fd
      have ZC9 : B5 26 ((y3.setCell ⟨C, 3, none⟩ (.slice a3 n3 d3)).setCell ⟨D, 3, none⟩ (.bool b3)) C (.slice a0 n0 d0) (.slice a1 n1 d1) (.slice a2 n2 d2) (.slice a3 n3 d3) (.slice none 0 0) := (ZC8.s3 _).far hDC _
      have ZD9 : B5 4 ((y3.setCell ⟨C, 3, none⟩ (.slice a3 n3 d3)).setCell ⟨D, 3, none⟩ (.bool b3)) D (.bool b0) (.bool b1) (.bool b2) (.bool b3) (.bool false) := (ZD8.far hCD _).s3 _
      have ZR9 : B5 26 ((y3.setCell ⟨C, 3, none⟩ (.slice a3 n3 d3)).setCell ⟨D, 3, none⟩ (.bool b3)) R (.slice none 0 0) (.slice none 0 0) (.slice none 0 0) (.slice none 0 0) (.slice none 0 0) := (ZR8.far hRC _).far hRD _
      have X9 : Below w.heap.size w ((y3.setCell ⟨C, 3, none⟩ (.slice a3 n3 d3)).setCell ⟨D, 3, none⟩ (.bool b3)) := Below.setCell (Below.setCell X8 kC _) kD _
      have HX9 : Hid (D < ((y3.setCell ⟨C, 3, none⟩ (.slice a3 n3 d3)).setCell ⟨D, 3, none⟩ (.bool b3)).heap.size) := by show D < _; simpa using HX8.out
      have p0_9 : ((y3.setCell ⟨C, 3, none⟩ (.slice a3 n3 d3)).setCell ⟨D, 3, none⟩ (.bool b3)).cell? ⟨gp, 0, none⟩ = some (.string t0) := cell_far (cell_far p0_8 hgC _) hgD _
      have p1_9 : ((y3.setCell ⟨C, 3, none⟩ (.slice a3 n3 d3)).setCell ⟨D, 3, none⟩ (.bool b3)).cell? ⟨gp, 1, none⟩ = some (.string t1) := cell_far (cell_far p1_8 hgC _) hgD _
      have p2_9 : ((y3.setCell ⟨C, 3, none⟩ (.slice a3 n3 d3)).setCell ⟨D, 3, none⟩ (.bool b3)).cell? ⟨gp, 2, none⟩ = some (.string t2) := cell_far (cell_far p2_8 hgC _) hgD _
      have p3_9 : ((y3.setCell ⟨C, 3, none⟩ (.slice a3 n3 d3)).setCell ⟨D, 3, none⟩ (.bool b3)).cell? ⟨gp, 3, none⟩ = some (.string t3) := cell_far (cell_far p3_8 hgC _) hgD _
      have p4_9 : ((y3.setCell ⟨C, 3, none⟩ (.slice a3 n3 d3)).setCell ⟨D, 3, none⟩ (.bool b3)).cell? ⟨gp, 4, none⟩ = some (.string t4) := cell_far (cell_far p4_8 hgC _) hgD _
      have O0_9 : Hid (ownsR ((y3.setCell ⟨C, 3, none⟩ (.slice a3 n3 d3)).setCell ⟨D, 3, none⟩ (.bool b3)) (D + 1) 3 (.slice a0 n0 d0) L0) := (O0_8.out.setB (by show C < D + 1; omega) _).setB (by show D < D + 1; omega) _
      have O1_9 : Hid (ownsR ((y3.setCell ⟨C, 3, none⟩ (.slice a3 n3 d3)).setCell ⟨D, 3, none⟩ (.bool b3)) (D + 1) 3 (.slice a1 n1 d1) L1) := (O1_8.out.setB (by show C < D + 1; omega) _).setB (by show D < D + 1; omega) _
      have O2_9 : Hid (ownsR ((y3.setCell ⟨C, 3, none⟩ (.slice a3 n3 d3)).setCell ⟨D, 3, none⟩ (.bool b3)) (D + 1) 3 (.slice a2 n2 d2) L2) := (O2_8.out.setB (by show C < D + 1; omega) _).setB (by show D < D + 1; omega) _
      have O3_9 : Hid (ownsR ((y3.setCell ⟨C, 3, none⟩ (.slice a3 n3 d3)).setCell ⟨D, 3, none⟩ (.bool b3)) (D + 1) 3 (.slice a3 n3 d3) L3) := (O3_8.out.setB (by show C < D + 1; omega) _).setB (by show D < D + 1; omega) _
      clear ZD8 ZC8 ZR8 X8 HX8 p0_8 p1_8 p2_8 p3_8 p4_8 O0_8 O1_8 O2_8 O3_8
      refine (CF4.out _).mono ?_
      rintro e y4 ⟨v4, rfl, ho4, hb4⟩
      obtain ⟨a4, n4, d4, rfl⟩ := ho4.slice3
      have p0_10 := cell_up hb4 p0_9
      have p1_10 := cell_up hb4 p1_9
      have p2_10 := cell_up hb4 p2_9
      have p3_10 := cell_up hb4 p3_9
      have p4_10 := cell_up hb4 p4_9
      have ZD10 := ZD9.up hb4
      have ZC10 := ZC9.up hb4
      have ZR10 := ZR9.up hb4
      have X10 : Below w.heap.size w y4 := Below.on X9 hb4
      have O0_10 : Hid (ownsR y4 (D + 1) 3 (.slice a0 n0 d0) L0) := O0_9.out.all hb4
      have O1_10 : Hid (ownsR y4 (D + 1) 3 (.slice a1 n1 d1) L1) := O1_9.out.all hb4
      have O2_10 : Hid (ownsR y4 (D + 1) 3 (.slice a2 n2 d2) L2) := O2_9.out.all hb4
      have O3_10 : Hid (ownsR y4 (D + 1) 3 (.slice a3 n3 d3) L3) := O3_9.out.all hb4
      have HX10 : Hid (D < y4.heap.size) := Nat.lt_of_lt_of_le HX9.out hb4.size
      have O4_10 : Hid (ownsR y4 (D + 1) 3 (.slice a4 n4 d4) L4) := ho4.mono HX9.out
      clear hb4 ho4 ZD9 ZC9 ZR9 X9 HX9 CF4 p0_9 p1_9 p2_9 p3_9 p4_9 O0_9 O1_9 O2_9 O3_9
      have sc := ZC10.c4
      have sd := ZD10.c4
      have fc := ZC10.fr 4
      have fd := ZD10.fr 4
      go_wp2
      clear sc sd fc fd
      have ZC11 : B5 26 ((y4.setCell ⟨C, 4, none⟩ (.slice a4 n4 d4)).setCell ⟨D, 4, none⟩ (.bool b4)) C (.slice a0 n0 d0) (.slice a1 n1 d1) (.slice a2 n2 d2) (.slice a3 n3 d3) (.slice a4 n4 d4) := (ZC10.s4 _).far hDC _
      have ZD11 : B5 4 ((y4.setCell ⟨C, 4, none⟩ (.slice a4 n4 d4)).setCell ⟨D, 4, none⟩ (.bool b4)) D (.bool b0) (.bool b1) (.bool b2) (.bool b3) (.bool b4) := (ZD10.far hCD _).s4 _
      have ZR11 : B5 26 ((y4.setCell ⟨C, 4, none⟩ (.slice a4 n4 d4)).setCell ⟨D, 4, none⟩ (.bool b4)) R (.slice none 0 0) (.slice none 0 0) (.slice none 0 0) (.slice none 0 0) (.slice none 0 0) := (ZR10.far hRC _).far hRD _
      have X11 : Below w.heap.size w ((y4.setCell ⟨C, 4, none⟩ (.slice a4 n4 d4)).setCell ⟨D, 4, none⟩ (.bool b4)) := Below.setCell (Below.setCell X10 kC _) kD _
      have HX11 : Hid (D < ((y4.setCell ⟨C, 4, none⟩ (.slice a4 n4 d4)).setCell ⟨D, 4, none⟩ (.bool b4)).heap.size) := by show D < _; simpa using HX10.out
      have p0_11 : ((y4.setCell ⟨C, 4, none⟩ (.slice a4 n4 d4)).setCell ⟨D, 4, none⟩ (.bool b4)).cell? ⟨gp, 0, none⟩ = some (.string t0) := cell_far (cell_far p0_10 hgC _) hgD _
      have p1_11 : ((y4.setCell ⟨C, 4, none⟩ (.slice a4 n4 d4)).setCell ⟨D, 4, none⟩ (.bool b4)).cell? ⟨gp, 1, none⟩ = some (.string t1) := cell_far (cell_far p1_10 hgC _) hgD _
      have p2_11 : ((y4.setCell ⟨C, 4, none⟩ (.slice a4 n4 d4)).setCell ⟨D, 4, none⟩ (.bool b4)).cell? ⟨gp, 2, none⟩ = some (.string t2) := cell_far (cell_far p2_10 hgC _) hgD _
      have p3_11 : ((y4.setCell ⟨C, 4, none⟩ (.slice a4 n4 d4)).setCell ⟨D, 4, none⟩ (.bool b4)).cell? ⟨gp, 3, none⟩ = some (.string t3) := cell_far (cell_far p3_10 hgC _) hgD _
      have p4_11 : ((y4.setCell ⟨C, 4, none⟩ (.slice a4 n4 d4)).setCell ⟨D, 4, none⟩ (.bool b4)).cell? ⟨gp, 4, none⟩ = some (.string t4) := cell_far (cell_far p4_10 hgC _) hgD _
      have O0_11 : Hid (ownsR ((y4.setCell ⟨C, 4, none⟩ (.slice a4 n4 d4)).setCell ⟨D, 4, none⟩ (.bool b4)) (D + 1) 3 (.slice a0 n0 d0) L0) := (O0_10.out.setB (by show C < D + 1; omega) _).setB (by show D < D + 1; omega) _
      have O1_11 : Hid (ownsR ((y4.setCell ⟨C, 4, none⟩ (.slice a4 n4 d4)).setCell ⟨D, 4, none⟩ (.bool b4)) (D + 1) 3 (.slice a1 n1 d1) L1) := (O1_10.out.setB (by show C < D + 1; omega) _).setB (by show D < D + 1; omega) _
      have O2_11 : Hid (ownsR ((y4.setCell ⟨C, 4, none⟩ (.slice a4 n4 d4)).setCell ⟨D, 4, none⟩ (.bool b4)) (D + 1) 3 (.slice a2 n2 d2) L2) := (O2_10.out.setB (by show C < D + 1; omega) _).setB (by show D < D + 1; omega) _
      have O3_11 : Hid (ownsR ((y4.setCell ⟨C, 4, none⟩ (.slice a4 n4 d4)).setCell ⟨D, 4, none⟩ (.bool b4)) (D + 1) 3 (.slice a3 n3 d3) L3) := (O3_10.out.setB (by show C < D + 1; omega) _).setB (by show D < D + 1; omega) _
      have O4_11 : Hid (ownsR ((y4.setCell ⟨C, 4, none⟩ (.slice a4 n4 d4)).setCell ⟨D, 4, none⟩ (.bool b4)) (D + 1) 3 (.slice a4 n4 d4) L4) := (O4_10.out.setB (by show C < D + 1; omega) _).setB (by show D < D + 1; omega) _
      clear ZD10 ZC10 ZR10 X10 HX10 p0_10 p1_10 p2_10 p3_10 p4_10 O0_10 O1_10 O2_10 O3_10 O4_10
      generalize ((y4.setCell ⟨C, 4, none⟩ (.slice a4 n4 d4)).setCell ⟨D, 4, none⟩ (.bool b4)) = Y at *
      clear p0_11 p1_11 p2_11 p3_11 p4_11 HX11
      have HA : Hid (pcO s = if [b0, b1, b2, b3, b4].all id then some [L0, L1, L2, L3, L4] else none) := by
        show _ = _
        rw [HE.out]
        simp [pcT, HB0.out, HB1.out, HB2.out, HB3.out, HB4.out, HL0.out, HL1.out, HL2.out, HL3.out, HL4.out]
      have HD : Hid (∀ j y, [b0, b1, b2, b3, b4][j]? = some y → Y.cell? ⟨D, j, none⟩ = some (.bool y)) := fun j y h => by
        match j, h with
        | 0, h => cases h; exact ZD11.c0
        | 1, h => cases h; exact ZD11.c1
        | 2, h => cases h; exact ZD11.c2
        | 3, h => cases h; exact ZD11.c3
        | 4, h => cases h; exact ZD11.c4
      obtain ⟨bl, hbl, hlen⟩ : ∃ q : List Bool, q = [b0, b1, b2, b3, b4] ∧ q.length = 5 := ⟨_, rfl, rfl⟩
      rw [← hbl] at HA HD
      have HZR : Hid (B5 26 Y R (.slice none 0 0) (.slice none 0 0) (.slice none 0 0) (.slice none 0 0) (.slice none 0 0)) := ZR11
      have HZC : Hid (B5 26 Y C (.slice a0 n0 d0) (.slice a1 n1 d1) (.slice a2 n2 d2) (.slice a3 n3 d3) (.slice a4 n4 d4)) := ZC11
      have HX : Hid (Below w.heap.size w Y) := X11
      have HLR : Hid (w.heap.size ≤ R ∧ R < D + 1 ∧ w.heap.size ≤ D + 1) := ⟨lwR, lRD, lwD⟩
      clear HRw ZD11 ZC11 ZR11 X11 HE hbl HB0 HB1 HB2 HB3 HB4 HL0 HL1 HL2 HL3 HL4 hCD hDC hRC hRD hgC hgD kC kD lCD lRD lwR lwD hs hi0 hz0 hz1 hz2
      go_loopw [8] (fun i wr => ∃ k : Nat, k ≤ 5 ∧ i = .int .i64 k ∧ wr = Y ∧ Hid (∀ j, j < k → bl[j]? = some true)) (fun i _ => (5 - intOf i).toNat)
      case atStart => exact ⟨0, Nat.zero_le _, rfl, rfl, fun j hj => absurd hj (Nat.not_lt_zero _)⟩
      case round =>
        obtain ⟨k, hk, rfl, rfl, HK⟩ := hrel
        by_cases hlt : k < 5
        · obtain ⟨y, HYY⟩ : ∃ y, Hid (bl[k]? = some y) := ⟨_, List.getElem?_eq_getElem (by rw [hlen]; exact hlt)⟩
          have qd := HD.out k y HYY.out
          cases y with
          | false =>
            have HN : Hid (pcO s = none) := by
              show _ = _
              rw [HA.out, if_neg]
              intro h
              have := List.all_eq_true.1 h _ (List.mem_of_getElem? HYY.out)
              cases this
            have r0 := HZR.out.c0
            have r1 := HZR.out.c1
            have r2 := HZR.out.c2
            have r3 := HZR.out.c3
            have r4 := HZR.out.c4
            have rf := HZR.out.fr
            go_wp2
            refine bodyPost_ret (ret_c2 rfl rfl rfl (HZR.out.set (.slice none 0 0) (.slice none 0 0) (.slice none 0 0) (.slice none 0 0) (.slice none 0 0))) rfl ?_
            exact pc_no HN.out (below_set5 HX.out HLR.out.1 _ _ _ _ _)
          | true =>
            go_wp2
            go_roundw
            case rel => exact ⟨k + 1, by omega, by go_num, by first | rfl | trivial, fun j hj => (Nat.lt_succ_iff_lt_or_eq.1 hj).elim (HK.out j) (fun e => by rw [e]; exact HYY.out)⟩
            case measure => simp [intOf]; omega
        · have hk5 : k = 5 := by omega
          subst hk5
          have HY : Hid (pcO s = some [L0, L1, L2, L3, L4]) := by
            show _ = _
            rw [HA.out, if_pos]
            rw [List.all_eq_true]
            intro x hx
            obtain ⟨j, hj, rfl⟩ := List.mem_iff_getElem.1 hx
            have := HK.out j (by omega)
            rw [List.getElem?_eq_getElem hj] at this
            exact Option.some.inj this
          have r0 := HZR.out.c0
          have r1 := HZR.out.c1
          have r2 := HZR.out.c2
          have r3 := HZR.out.c3
          have r4 := HZR.out.c4
          have rf := HZR.out.fr
          have e0 := HZC.out.c0
          have e1 := HZC.out.c1
          have e2 := HZC.out.c2
          have e3 := HZC.out.c3
          have e4 := HZC.out.c4
          go_wp2
          refine bodyPost_ret (ret_c2 rfl rfl rfl (HZR.out.set (.slice a0 n0 d0) (.slice a1 n1 d1) (.slice a2 n2 d2) (.slice a3 n3 d3) (.slice a4 n4 d4))) rfl ?_
          refine ⟨_, _, _, _, _, by rw [HY.out]; rfl, ?_, ?_, ?_, ?_, ?_, below_set5 HX.out HLR.out.1 _ _ _ _ _⟩
          · rw [HY.out]; exact (ownsR_set5 O0_11.out HLR.out.2.1 _ _ _ _ _).mono HLR.out.2.2
          · rw [HY.out]; exact (ownsR_set5 O1_11.out HLR.out.2.1 _ _ _ _ _).mono HLR.out.2.2
          · rw [HY.out]; exact (ownsR_set5 O2_11.out HLR.out.2.1 _ _ _ _ _).mono HLR.out.2.2
          · rw [HY.out]; exact (ownsR_set5 O3_11.out HLR.out.2.1 _ _ _ _ _).mono HLR.out.2.2
          · rw [HY.out]; exact (ownsR_set5 O4_11.out HLR.out.2.1 _ _ _ _ _).mono HLR.out.2.2
    · have HN : Hid (pcO s = none) := by show _ = _; unfold pcO; rw [hok, pcT_len h5]; rfl
      clear HOP hok
      generalize (texts (partsR s).1).length = n at h5
      have h5' : ¬ ((n : Int) = 5) := by omega
      go_wp2
      refine bodyPost_ret (ret_c2 rfl rfl rfl (HZR.out.set (.slice none 0 0) (.slice none 0 0) (.slice none 0 0) (.slice none 0 0) (.slice none 0 0))) rfl ?_
      exact pc_no HN.out (below_set5 B1 (Nat.le_refl _) _ _ _ _ _)
end Go.Proofs.YtbecdaholpiaeaaDoor

namespace Go.Proofs.YtbecdaholpiaeaaDoor
open Go Go.RowKit

/-- The first k numbers, with a comma between. -/
def showP (l : List Int) : Nat → ByteArray
  | 0 => ByteArray.empty
  | k + 1 => (if k = 0 then showP l k else showP l k ++ ⟨#[44]⟩) ++ bstr (decI ((l[k]?).getD 0).toNat)
def showS (l : List Int) (n : Int) : ByteArray := if (l.length : Int) = n then ⟨#[42]⟩ else showP l l.length
theorem decI_two {n : Nat} (h : n < 100) : (decI n).length ≤ 2 := by
  by_cases h1 : n < 10
  · rw [decI_one h1]; simp
  · rw [decI_more h1, decI_one (by omega)]; simp
theorem showP_size {l : List Int} (h : ∀ x ∈ l, 0 ≤ x ∧ x < 100) : ∀ k, k ≤ l.length → (showP l k).size ≤ 3 * k
  | 0, _ => by simp [showP]
  | k + 1, hk => by
    have ih := showP_size h k (by omega)
    have hm : l[k] ∈ l := List.getElem_mem _
    have hx := h _ hm
    have h2 : (decI ((l[k]?).getD 0).toNat).length ≤ 2 := by
      rw [List.getElem?_eq_getElem (by omega)]
      exact decI_two (by simp; omega)
    unfold showP
    rw [ByteArray.size_append, bstr_size']
    split
    · omega
    · rw [ByteArray.size_append]
      have : (ByteArray.mk #[44]).size = 1 := rfl
      omega

end Go.Proofs.YtbecdaholpiaeaaDoor

namespace Go.Proofs.YtbecdaholpiaeaaDoor
open Go Go.RowKit

theorem rise_bd {lo hi : Int} : ∀ (l : List Int) (p : Option Int) (q : Int), (∀ y, p = some y → q ≤ y + 1) → (p = none → q ≤ lo) → lo ≤ q → q ≤ hi + 1 → riseB lo hi p l = true → (∀ x ∈ l, lo ≤ x ∧ x ≤ hi) ∧ (l.length : Int) ≤ hi + 1 - q
  | [], _, q, _, _, _, h4, _ => ⟨fun x hx => by (cases hx), by simp; omega⟩
  | x :: r, p, q, h1, h2, h3, h4, h => by
    unfold riseB at h
    simp only [Bool.and_eq_true, decide_eq_true_eq] at h
    obtain ⟨⟨⟨ha, hb⟩, hc⟩, hd⟩ := h
    have hq : q ≤ x := by
      cases p with
      | none => have := h2 rfl; omega
      | some y => have := h1 y rfl; simp at hc; omega
    have ih := rise_bd r (some x) (x + 1) (fun y hy => by cases hy; omega) (fun hn => by cases hn) (by omega) (by omega) hd
    refine ⟨fun y hy => ?_, ?_⟩
    · rcases List.mem_cons.1 hy with rfl | hy
      · exact ⟨ha, hb⟩
      · exact ih.1 y hy
    · have := ih.2
      simp only [List.length_cons]
      omega
theorem listB_bd {lo hi : Int} {l : List Int} (h0 : 0 ≤ lo) (hh : lo ≤ hi) (h9 : hi ≤ 59) (h : listB lo hi l = true) : (∀ x ∈ l, 0 ≤ x ∧ x < 100) ∧ l.length ≤ 60 := by
  unfold listB at h
  rw [Bool.and_eq_true] at h
  have := rise_bd l none lo (fun y hy => by cases hy) (fun _ => Int.le_refl _) (Int.le_refl _) (by omega) h.2
  exact ⟨fun x hx => by have := this.1 x hx; omega, by have := this.2; omega⟩
theorem showS_size {l : List Int} (z : Int) (h : (∀ x ∈ l, 0 ≤ x ∧ x < 100) ∧ l.length ≤ 60) : (showS l z).size ≤ 180 := by
  unfold showS
  split
  · decide
  · have := showP_size h.1 l.length (Nat.le_refl _)
    omega
/-- A rule in words. -/
def cronS (a b c d e : List Int) : ByteArray := showS a 60 ++ ⟨#[32]⟩ ++ showS b 24 ++ ⟨#[32]⟩ ++ showS c 31 ++ ⟨#[32]⟩ ++ showS d 12 ++ ⟨#[32]⟩ ++ showS e 7
def cronX (a b c d e : List Int) : ByteArray := if cronB a b c d e then cronS a b c d e else ⟨#[]⟩

end Go.Proofs.YtbecdaholpiaeaaDoor

namespace Go.Proofs.YtbecdaholpiaeaaDoor
open Go Go.RowKit

/-- A number in words. -/
def numS (x : Int) : ByteArray := bstr (decI x.toNat)
theorem num_all : ∀ n : Fin 60, bstr (decI n.val) ≠ ⟨#[42]⟩ ∧ (bstr (decI n.val)).size ≤ 2 ∧ splitB (bstr (decI n.val)) 45 = [bstr (decI n.val)] ∧ rd (bstr (decI n.val)) = ((n.val : Int), true) ∧ (∀ b ∈ (bstr (decI n.val)).data.toList, 48 ≤ b.toNat ∧ b.toNat ≤ 57) ∧ (bstr (decI n.val)).data.toList ≠ [] := by decide +kernel
theorem num_is {x : Int} (h0 : 0 ≤ x) (h1 : x < 60) : numS x ≠ ⟨#[42]⟩ ∧ (numS x).size ≤ 2 ∧ splitB (numS x) 45 = [numS x] ∧ rd (numS x) = (x, true) ∧ (∀ b ∈ (numS x).data.toList, 48 ≤ b.toNat ∧ b.toNat ≤ 57) ∧ (numS x).data.toList ≠ [] := by
  have := num_all ⟨x.toNat, by omega⟩
  rw [show ((⟨x.toNat, by omega⟩ : Fin 60).val : Int) = x from Int.toNat_of_nonneg h0] at this
  exact this
theorem piece_num {x lo hi : Int} (h0 : 0 ≤ x) (h1 : x < 60) (hl : lo ≤ x) (hh : x ≤ hi) : piece (numS x) lo hi = (x, x, 1, true) := by
  obtain ⟨h2, h3, h4, h5, _⟩ := num_is h0 h1
  unfold piece
  rw [if_neg h2, if_neg (by omega), h4]
  unfold pieceP
  simp [h5, hl, hh]

theorem byte_left (s t : ByteArray) {i : Nat} (h : i < s.size) : (s ++ t).data[i]? = s.data[i]? := by
  have h' : i < s.data.size := h
  simp [ByteArray.data_append, Array.getElem?_append_left h']
theorem extract_left (s t : ByteArray) {b i : Nat} (h : i ≤ s.size) : (s ++ t).extract b i = s.extract b i := by
  have h' : i ≤ s.data.size := h
  apply ByteArray.ext
  simp [ByteArray.data_extract, ByteArray.data_append]
  omega
theorem cutsN_left (s t : ByteArray) (c : Nat) : ∀ i, i ≤ s.size → cutsN (s ++ t) c i = cutsN s c i
  | 0, _ => rfl
  | i + 1, h => by
    have hs : (s ++ t).size = s.size + t.size := ByteArray.size_append
    unfold cutsN
    rw [cutsN_left s t c i (by omega), byte_left s t (by omega), extract_left s t (by omega)]
    by_cases hc : (s.data[i]?.map fun b => b.toNat) = some c
    · rw [if_pos (.inr hc), if_pos (.inr hc)]
    · rw [if_neg (by rintro (e | e); omega; exact hc e), if_neg (by rintro (e | e); omega; exact hc e)]
/-- No byte of it is c. -/
def free (s : ByteArray) (c : Nat) : Prop := ∀ b ∈ s.data.toList, b.toNat ≠ c
theorem free_at {s : ByteArray} {c : Nat} (h : free s c) (i : Nat) : (s.data[i]?.map fun b => b.toNat) ≠ some c := by
  intro e
  cases hb : s.data[i]? with
  | none => rw [hb] at e; cases e
  | some b =>
    rw [hb] at e
    have : b ∈ s.data.toList := by
      obtain ⟨hi, rfl⟩ := Array.getElem?_eq_some_iff.1 hb
      exact Array.getElem_mem_toList hi
    exact h b this (Option.some.inj e)
theorem split_free {t : ByteArray} {c : Nat} (h : free t c) : splitB t c = [t] := by
  have key : ∀ j, j ≤ t.size → cutsN t c j = ([], 0) := by
    intro j
    induction j with
    | zero => intro _; rfl
    | succ j ih =>
      intro hj
      unfold cutsN
      rw [if_neg (by rintro (e | e); omega; exact free_at h j e)]
      exact ih (by omega)
  unfold splitB
  rw [cutsN, if_pos (.inl rfl), key t.size (Nat.le_refl _)]
  simp
theorem byte_right (s t : ByteArray) (j : Nat) : (s ++ t).data[s.size + j]? = t.data[j]? := by
  have : s.data.size = s.size := rfl
  rw [ByteArray.data_append, Array.getElem?_append_right (by omega)]
  congr 1
  omega
theorem extract_behind {α : Type} (x t : Array α) : (x ++ t).extract x.size (x.size + t.size) = t := by
  simp [Array.extract_append]
theorem split_more {s t : ByteArray} {c : UInt8} (h : free t c.toNat) : splitB (s ++ ⟨#[c]⟩ ++ t) c.toNat = splitB s c.toNat ++ [t] := by
  have hz : (s ++ ⟨#[c]⟩ ++ t).size = s.size + 1 + t.size := by rw [ByteArray.size_append, ByteArray.size_append]; rfl
  have ha : s ++ ⟨#[c]⟩ ++ t = s ++ (⟨#[c]⟩ ++ t) := ByteArray.append_assoc
  have h1 : cutsN (s ++ ⟨#[c]⟩ ++ t) c.toNat (s.size + 1) = cutsN s c.toNat (s.size + 1) := by
    have hb : ((s ++ (⟨#[c]⟩ ++ t)).data[s.size]?.map fun b => b.toNat) = some c.toNat := by
      have := byte_right s (⟨#[c]⟩ ++ t) 0
      rw [Nat.add_zero] at this
      rw [this, byte_left _ _ (by show 0 < 1; omega)]
      rfl
    unfold cutsN
    rw [ha, if_pos (.inr hb), if_pos (.inl rfl), cutsN_left _ _ _ _ (Nat.le_refl _), extract_left _ _ (Nat.le_refl _)]
  have key : ∀ j, j ≤ t.size → cutsN (s ++ ⟨#[c]⟩ ++ t) c.toNat (s.size + 1 + j) = cutsN s c.toNat (s.size + 1) := by
    intro j
    induction j with
    | zero => intro _; exact h1
    | succ j ih =>
      intro hj
      have hb : ((s ++ ⟨#[c]⟩ ++ t).data[s.size + 1 + j]?.map fun b => b.toNat) ≠ some c.toNat := by
        have := byte_right (s ++ ⟨#[c]⟩) t j
        rw [show (s ++ (⟨#[c]⟩ : ByteArray)).size = s.size + 1 by rw [ByteArray.size_append]; rfl] at this
        rw [this]
        exact free_at h j
      rw [show s.size + 1 + (j + 1) = s.size + 1 + j + 1 by omega, cutsN, if_neg (by rintro (e | e); omega; exact hb e)]
      exact ih (by omega)
  have h2 : (cutsN s c.toNat (s.size + 1)).2 = s.size + 1 := by rw [cutsN, if_pos (.inl rfl)]
  unfold splitB
  rw [hz, cutsN, if_pos (.inl hz.symm), key t.size (Nat.le_refl _), h2]
  show _ ++ [_] = _ ++ [_]
  congr 2
  apply ByteArray.ext
  rw [ByteArray.data_extract, ByteArray.data_append]
  have e1 : (s ++ (⟨#[c]⟩ : ByteArray)).data.size = s.size + 1 := by show (s ++ (⟨#[c]⟩ : ByteArray)).size = _; rw [ByteArray.size_append]; rfl
  rw [← e1]
  show ((s ++ (⟨#[c]⟩ : ByteArray)).data ++ t.data).extract (s ++ (⟨#[c]⟩ : ByteArray)).data.size ((s ++ (⟨#[c]⟩ : ByteArray)).data.size + t.data.size) = t.data
  exact extract_behind _ _

/-- The numbers of a list, in words. -/
theorem num_free {x : Int} (h0 : 0 ≤ x) (h1 : x < 60) {c : Nat} (hc : c < 48) : free (numS x) c := fun b hb => by
  have := (num_is h0 h1).2.2.2.2.1 b hb
  omega
theorem split_show {l : List Int} (h : ∀ x ∈ l, 0 ≤ x ∧ x < 60) : ∀ k, k < l.length → splitB (showP l (k + 1)) 44 = (l.take (k + 1)).map numS
  | 0, hk => by
    have hx := h _ (List.getElem_mem hk)
    have hg : l[0]? = some l[0] := List.getElem?_eq_getElem hk
    rw [showP, if_pos rfl, showP, hg]
    show splitB (ByteArray.empty ++ numS l[0]) 44 = _
    rw [ByteArray.empty_append, split_free (num_free hx.1 hx.2 (by decide)), List.take_add_one, hg]
    rfl
  | k + 1, hk => by
    have hx := h _ (List.getElem_mem hk)
    have hg : l[k + 1]? = some l[k + 1] := List.getElem?_eq_getElem hk
    have ih := split_show h k (by omega)
    rw [showP, if_neg (by omega), hg]
    show splitB (showP l (k + 1) ++ ⟨#[44]⟩ ++ numS l[k + 1]) (44 : UInt8).toNat = _
    rw [split_more (num_free hx.1 hx.2 (by decide))]
    show splitB (showP l (k + 1)) 44 ++ _ = _
    rw [ih, List.take_add_one (i := k + 1), hg, List.map_append]
    rfl
/-- Bytes of a list in words: figures and commas. -/
theorem show_bytes {l : List Int} (h : ∀ x ∈ l, 0 ≤ x ∧ x < 60) : ∀ k, k ≤ l.length → ∀ b ∈ (showP l k).data.toList, 44 ≤ b.toNat ∧ b.toNat ≤ 57
  | 0, _, b, hb => by simp [showP] at hb
  | k + 1, hk, b, hb => by
    have hx := h _ (List.getElem_mem (show k < l.length by omega))
    have hg : l[k]? = some l[k] := List.getElem?_eq_getElem (by omega)
    rw [showP, hg, ByteArray.data_append, Array.toList_append, List.mem_append] at hb
    rcases hb with hb | hb
    · split at hb
      · exact show_bytes h k (by omega) b hb
      · rw [ByteArray.data_append, Array.toList_append, List.mem_append] at hb
        rcases hb with hb | hb
        · exact show_bytes h k (by omega) b hb
        · simp at hb; subst hb; decide
    · have := (num_is hx.1 hx.2).2.2.2.2.1 b hb
      omega
theorem show_some {l : List Int} (h : ∀ x ∈ l, 0 ≤ x ∧ x < 60) {k : Nat} (hk : k < l.length) : (showP l (k + 1)).data.toList ≠ [] := by
  have hx := h _ (List.getElem_mem hk)
  have hg : l[k]? = some l[k] := List.getElem?_eq_getElem hk
  rw [showP, hg, ByteArray.data_append, Array.toList_append]
  intro e
  exact (num_is hx.1 hx.2).2.2.2.2.2 (List.append_eq_nil_iff.1 e).2

theorem mem_picks {H : List Bool} {lo x : Int} : ∀ k : Nat, x ∈ picks H lo k ↔ ∃ i : Nat, i < k ∧ x = lo + i ∧ H.getD (lo + i).toNat false = true
  | 0 => ⟨fun h => (by cases h), fun ⟨i, h, _⟩ => by omega⟩
  | k + 1 => by
    rw [picks, List.mem_append, mem_picks k]
    constructor
    · rintro (⟨i, h1, h2⟩ | h)
      · exact ⟨i, by omega, h2⟩
      · split at h
        · rename_i hH
          exact ⟨k, by omega, by simpa using h, hH⟩
        · cases h
    · rintro ⟨i, h1, h2, h3⟩
      by_cases e : i = k
      · subst e
        right
        rw [if_pos h3]
        simp [h2]
      · exact .inl ⟨i, by omega, h2, h3⟩
theorem picks_rise {H : List Bool} {lo : Int} : ∀ k : Nat, (picks H lo k).Pairwise (· < ·)
  | 0 => List.Pairwise.nil
  | k + 1 => by
    rw [picks, List.pairwise_append]
    refine ⟨picks_rise k, by split <;> simp, fun x hx y hy => ?_⟩
    obtain ⟨i, h1, h2, _⟩ := (mem_picks k).1 hx
    split at hy
    · simp at hy; omega
    · cases hy
/-- What flags pick that are set just at the numbers of a list. -/
theorem picks_list {H : List Bool} {lo hi : Int} {l : List Int} (hlh : lo ≤ hi + 1) (hl : ∀ x ∈ l, lo ≤ x ∧ x ≤ hi) (hr : l.Pairwise (· < ·)) (hH : ∀ x, lo ≤ x → x ≤ hi → (H.getD x.toNat false = true ↔ x ∈ l)) : picks H lo (hi - lo + 1).toNat = l := by
  refine rise_ext _ _ (picks_rise _) hr fun x => ?_
  rw [mem_picks]
  constructor
  · rintro ⟨i, h1, rfl, h3⟩
    exact (hH _ (by omega) (by omega)).1 h3
  · intro hx
    have := hl x hx
    refine ⟨(x - lo).toNat, by omega, by omega, ?_⟩
    rw [show lo + ((x - lo).toNat : Int) = x by omega]
    exact (hH x this.1 this.2).2 hx
end Go.Proofs.YtbecdaholpiaeaaDoor

namespace Go.Proofs.YtbecdaholpiaeaaDoor
open Go Go.RowKit

theorem getD_set (H : List Bool) (i j : Nat) (hi : i < H.length) : (H.set i true).getD j false = (decide (i = j) || H.getD j false) := by
  rw [List.getD_eq_getElem?_getD, List.getElem?_set, List.getD_eq_getElem?_getD]
  by_cases h : i = j
  · subst h; simp [hi]
  · simp [h]
theorem stamp_getD (H : List Bool) (a x : Nat) : ∀ j, a + j ≤ H.length → (stamp H a 1 j).getD x false = (decide (a ≤ x ∧ x < a + j) || H.getD x false)
  | 0, _ => by rw [stamp, decide_eq_false (by omega)]; rfl
  | j + 1, h => by
    rw [stamp, getD_set _ _ _ (by rw [stamp_length]; omega), stamp_getD H a x j (by omega), ← Bool.or_assoc, ← Bool.decide_or]
    congr 1
    exact decide_eq_decide.2 (by omega)
/-- The flags of a list. -/
def marks (H : List Bool) : List Int → List Bool
  | [] => H
  | x :: r => marks (H.set x.toNat true) r
theorem marks_length : ∀ (l : List Int) (H : List Bool), (marks H l).length = H.length
  | [], _ => rfl
  | x :: r, H => by rw [marks, marks_length r, List.length_set]
theorem marks_getD (x : Nat) : ∀ (l : List Int) (H : List Bool), (∀ y ∈ l, 0 ≤ y ∧ y.toNat < H.length) → (marks H l).getD x false = (decide ((x : Int) ∈ l) || H.getD x false)
  | [], H, _ => by simp [marks]
  | y :: r, H, h => by
    have hy := h y (List.mem_cons_self ..)
    rw [marks, marks_getD x r _ (fun z hz => by rw [List.length_set]; exact h z (List.mem_cons_of_mem _ hz)), getD_set _ _ _ hy.2, ← Bool.or_assoc, ← Bool.decide_or]
    congr 1
    refine decide_eq_decide.2 ?_
    rw [List.mem_cons]
    constructor
    · rintro (e | e)
      · exact .inr e
      · left; omega
    · rintro (e | e)
      · right; omega
      · exact .inl e
theorem fieldGo_nums {lo hi : Int} : ∀ (l : List Int) (H : List Bool), (∀ x ∈ l, lo ≤ x ∧ x ≤ hi ∧ 0 ≤ x ∧ x < 60) → fieldGo lo hi (l.map numS) H = some (marks H l)
  | [], _, _ => rfl
  | x :: r, H, h => by
    have hx := h x (List.mem_cons_self ..)
    rw [List.map_cons, fieldGo, piece_num hx.2.2.1 hx.2.2.2 hx.1 hx.2.1, if_pos rfl, fieldGo_nums r _ (fun y hy => h y (List.mem_cons_of_mem _ hy)), marks]
    congr 2
    show stamp H x.toNat (1 : Int).toNat ((x - x).toNat / (1 : Int).toNat + 1) = _
    rw [Int.sub_self]
    show stamp H x.toNat 1 1 = _
    rw [stamp, stamp]
    congr 1
/-- A list comes back from its words. -/
theorem field_back {lo hi z : Int} {l : List Int} (h0 : 0 ≤ lo) (hh : hi ≤ 59) (hlh : lo ≤ hi) (hz : z = hi - lo + 1) (hB : listB lo hi l = true) : ∃ H, fieldO (showS l z) lo hi = some H ∧ picks H lo (hi - lo + 1).toNat = l := by
  obtain ⟨hl, hr, hn⟩ := listB_up hB
  have h60 : ∀ x ∈ l, 0 ≤ x ∧ x < 60 := fun x hx => by have := hl x hx; omega
  have hrep : ∀ j : Nat, (List.replicate (hi + 1).toNat false).getD j false = false := fun j => by
    rw [List.getD_eq_getElem?_getD, List.getElem?_replicate]; split <;> rfl
  unfold fieldO showS
  by_cases hf : (l.length : Int) = z
  · rw [if_pos hf, split_free (by intro b hb; simp at hb; subst hb; decide), fieldGo]
    have hp : piece ⟨#[42]⟩ lo hi = (lo, hi, 1, true) := by unfold piece; rw [if_pos rfl]
    rw [hp, if_pos rfl, fieldGo]
    refine ⟨_, rfl, picks_list (by omega) hl hr fun x hx0 hx1 => ?_⟩
    show (stamp _ lo.toNat (1 : Int).toNat ((hi - lo).toNat / (1 : Int).toNat + 1)).getD x.toNat false = true ↔ _
    rw [show (1 : Int).toNat = 1 from rfl, Nat.div_one, stamp_getD _ _ _ _ (by rw [List.length_replicate]; omega), hrep, Bool.or_false, decide_eq_true_eq]
    exact ⟨fun _ => full_list hl hr (by omega) hx0 hx1, fun _ => by omega⟩
  · rw [if_neg hf]
    have hs := split_show h60 (l.length - 1) (by omega)
    rw [show l.length - 1 + 1 = l.length by omega, List.take_length] at hs
    rw [hs, fieldGo_nums l _ (fun x hx => ⟨(hl x hx).1, (hl x hx).2, h60 x hx⟩)]
    refine ⟨_, rfl, picks_list (by omega) hl hr fun x hx0 hx1 => ?_⟩
    rw [marks_getD _ l _ (fun y hy => by rw [List.length_replicate]; have := hl y hy; omega), hrep, Bool.or_false, decide_eq_true_eq, Int.toNat_of_nonneg (by omega)]

theorem go_word : ∀ (w cur r : List UInt8), (∀ b ∈ w, Lib.isSp b = false) → cur ++ w ≠ [] → Lib.fieldsGo cur (w ++ 32 :: r) = (cur ++ w) :: Lib.fieldsGo [] r
  | [], cur, r, _, h => by
    rw [List.append_nil] at h
    have : cur.isEmpty = false := by cases cur; exact absurd rfl h; rfl
    simp [Lib.fieldsGo, this, show Lib.isSp 32 = true from by decide]
  | b :: w, cur, r, hw, h => by
    rw [List.cons_append, Lib.fieldsGo, hw b (List.mem_cons_self ..)]
    rw [if_neg (by decide), go_word w (cur ++ [b]) r (fun x hx => hw x (List.mem_cons_of_mem _ hx)) (by simp)]
    simp
theorem go_last : ∀ (w cur : List UInt8), (∀ b ∈ w, Lib.isSp b = false) → cur ++ w ≠ [] → Lib.fieldsGo cur w = [cur ++ w]
  | [], cur, _, h => by
    rw [List.append_nil] at h ⊢
    have : cur.isEmpty = false := by cases cur; exact absurd rfl h; rfl
    simp [Lib.fieldsGo, this]
  | b :: w, cur, hw, h => by
    rw [Lib.fieldsGo, hw b (List.mem_cons_self ..), if_neg (by decide), go_last w (cur ++ [b]) (fun x hx => hw x (List.mem_cons_of_mem _ hx)) (by simp)]
    simp
/-- What a list in words is made of. -/
theorem show_word {lo hi z : Int} {l : List Int} (h0 : 0 ≤ lo) (hh : hi ≤ 59) (hB : listB lo hi l = true) : (∀ b ∈ (showS l z).data.toList, 42 ≤ b.toNat ∧ b.toNat ≤ 57) ∧ (showS l z).data.toList ≠ [] ∧ (showS l z).size ≤ 3 * l.length + 1 := by
  obtain ⟨hl, hr, hn⟩ := listB_up hB
  have h60 : ∀ x ∈ l, 0 ≤ x ∧ x < 60 := fun x hx => by have := hl x hx; omega
  unfold showS
  split
  · refine ⟨fun b hb => by simp at hb; subst hb; decide, by simp, by show 1 ≤ _; omega⟩
  · refine ⟨fun b hb => by have := show_bytes h60 _ (Nat.le_refl _) b hb; omega, ?_, ?_⟩
    · have := show_some h60 (k := l.length - 1) (by omega)
      rwa [show l.length - 1 + 1 = l.length by omega] at this
    · have := showP_size (l := l) (fun x hx => by have := h60 x hx; omega) l.length (Nat.le_refl _)
      omega
theorem back_text (s : ByteArray) : (⟨s.data.toList.toArray⟩ : ByteArray) = s := by cases s; rfl
/-- A right rule comes back from its text. -/
theorem rule_back {a b c d e : List Int} (h : cronB a b c d e = true) : pcO (cronS a b c d e) = some [a, b, c, d, e] := by
  unfold cronB at h
  simp only [Bool.and_eq_true] at h
  obtain ⟨h1, h2, h3, h4, h5⟩ := h
  obtain ⟨b1, s1, z1⟩ := show_word (z := 60) (by decide) (by decide) h1
  obtain ⟨b2, s2, z2⟩ := show_word (z := 24) (by decide) (by decide) h2
  obtain ⟨b3, s3, z3⟩ := show_word (z := 31) (by decide) (by decide) h3
  obtain ⟨b4, s4, z4⟩ := show_word (z := 12) (by decide) (by decide) h4
  obtain ⟨b5, s5, z5⟩ := show_word (z := 7) (by decide) (by decide) h5
  have n1 := list_len h1
  have n2 := list_len h2
  have n3 := list_len h3
  have n4 := list_len h4
  have n5 := list_len h5
  have one : (ByteArray.mk #[32]).size = 1 := rfl
  have hsz : (cronS a b c d e).size ≤ 600 := by
    unfold cronS
    simp only [ByteArray.size_append, one]
    omega
  have hbytes : (cronS a b c d e).data.toList = (showS a 60).data.toList ++ 32 :: ((showS b 24).data.toList ++ 32 :: ((showS c 31).data.toList ++ 32 :: ((showS d 12).data.toList ++ 32 :: (showS e 7).data.toList))) := by
    unfold cronS
    simp [ByteArray.data_append]
  have sp : ∀ {x : ByteArray}, (∀ b ∈ x.data.toList, 42 ≤ b.toNat ∧ b.toNat ≤ 57) → ∀ b ∈ x.data.toList, Lib.isSp b = false := fun hx b hb => by
    have := hx b hb
    rw [isSp_plain (by omega)]
    exact decide_eq_false (by omega)
  have hf : Lib.fields (cronS a b c d e).data.toList = [(showS a 60).data.toList, (showS b 24).data.toList, (showS c 31).data.toList, (showS d 12).data.toList, (showS e 7).data.toList] := by
    rw [hbytes]
    unfold Lib.fields
    rw [go_word _ [] _ (sp b1) (by simpa using s1), go_word _ [] _ (sp b2) (by simpa using s2), go_word _ [] _ (sp b3) (by simpa using s3), go_word _ [] _ (sp b4) (by simpa using s4), go_last _ [] (sp b5) (by simpa using s5)]
    rfl
  have hpl : ∀ x ∈ (cronS a b c d e).data.toList, 32 ≤ x.toNat ∧ x.toNat ≤ 126 := by
    intro x hx
    rw [hbytes] at hx
    simp only [List.mem_append, List.mem_cons] at hx
    rcases hx with h | h | h | h | h | h | h | h | h
    · have := b1 x h; omega
    · subst h; decide
    · have := b2 x h; omega
    · subst h; decide
    · have := b3 x h; omega
    · subst h; decide
    · have := b4 x h; omega
    · subst h; decide
    · have := b5 x h; omega
  have hparts : partsR (cronS a b c d e) = (Lib.fields (cronS a b c d e).data.toList, true) := by
    unfold partsR
    rw [if_neg (by omega), if_pos hpl, if_neg (by rw [hf]; simp)]
  unfold pcO
  rw [hparts, if_pos rfl, hf]
  show pcT [⟨_⟩, ⟨_⟩, ⟨_⟩, ⟨_⟩, ⟨_⟩] = _
  rw [back_text, back_text, back_text, back_text, back_text]
  obtain ⟨H1, e1, p1⟩ := field_back (z := 60) (by decide) (by decide) (by decide) (by decide) h1
  obtain ⟨H2, e2, p2⟩ := field_back (z := 24) (by decide) (by decide) (by decide) (by decide) h2
  obtain ⟨H3, e3, p3⟩ := field_back (z := 31) (by decide) (by decide) (by decide) (by decide) h3
  obtain ⟨H4, e4, p4⟩ := field_back (z := 12) (by decide) (by decide) (by decide) (by decide) h4
  obtain ⟨H5, e5, p5⟩ := field_back (z := 7) (by decide) (by decide) (by decide) (by decide) h5
  unfold pcT fieldL
  simp only []
  rw [e1, e2, e3, e4, e5]
  show some [picks H1 0 _, picks H2 0 _, picks H3 1 _, picks H4 1 _, picks H5 0 _] = _
  rw [p1, p2, p3, p4, p5]
end Go.Proofs.YtbecdaholpiaeaaDoor

namespace Go.Proofs.YtbecdaholpiaeaaDoor
open Go Go.RowKit

theorem set_keep {H : List Bool} {i x : Nat} (h : H.getD x false = true) : (H.set i true).getD x false = true := by
  by_cases hi : i < H.length
  · rw [getD_set _ _ _ hi, h, Bool.or_true]
  · rw [List.set_eq_of_length_le (by omega)]; exact h
theorem stamp_keep {H : List Bool} {a t x : Nat} (h : H.getD x false = true) : ∀ j, (stamp H a t j).getD x false = true
  | 0 => h
  | j + 1 => set_keep (stamp_keep h j)
theorem stamp_first {H : List Bool} {a t : Nat} (ha : a < H.length) : ∀ j, (stamp H a t (j + 1)).getD a false = true
  | 0 => by
    rw [stamp, stamp, Nat.zero_mul, Nat.add_zero, getD_set _ _ _ ha, decide_eq_true rfl]
    rfl
  | j + 1 => set_keep (stamp_first ha j)
theorem fieldGo_keep {lo hi : Int} {x : Nat} : ∀ (l : List ByteArray) (H H' : List Bool), H.getD x false = true → fieldGo lo hi l H = some H' → H'.getD x false = true
  | [], H, H', h, e => by cases e; exact h
  | p :: r, H, H', h, e => by
    rw [fieldGo] at e
    split at e
    · exact fieldGo_keep r _ H' (stamp_keep h _) e
    · cases e
theorem fieldGo_first {lo hi : Int} (h0 : 0 ≤ lo) (hlh : lo ≤ hi) : ∀ (l : List ByteArray) (H H' : List Bool), H.length = (hi + 1).toNat → 0 < l.length → fieldGo lo hi l H = some H' → ∃ x : Int, lo ≤ x ∧ x ≤ hi ∧ H'.getD x.toNat false = true
  | [], _, _, _, hl, _ => by simp at hl
  | p :: r, H, H', hH, _, e => by
    rw [fieldGo] at e
    split at e
    · rename_i hp
      have hb := piece_bd hlh hp
      refine ⟨(piece p lo hi).1, hb.1, by omega, fieldGo_keep r _ H' ?_ e⟩
      exact stamp_first (by rw [hH]; omega) _
    · cases e
theorem field_right {s : ByteArray} {lo hi : Int} {H : List Bool} (h0 : 0 ≤ lo) (hlh : lo ≤ hi) (h : fieldO s lo hi = some H) : listB lo hi (fieldL s lo hi) = true := by
  unfold fieldL
  rw [h]
  show listB lo hi (picks H lo (hi - lo + 1).toNat) = true
  obtain ⟨x, hx0, hx1, hx⟩ := fieldGo_first h0 hlh _ _ H (by rw [List.length_replicate]) (cutsN_some s 44) h
  unfold listB
  rw [rise_of _ none (picks_rise _) (fun y hy => ?_) (fun y hy => by cases hy), Bool.and_true]
  · have hm : x ∈ picks H lo (hi - lo + 1).toNat := (mem_picks _).2 ⟨(x - lo).toNat, by omega, by omega, by rw [show lo + ((x - lo).toNat : Int) = x by omega]; exact hx⟩
    cases hq : picks H lo (hi - lo + 1).toNat with
    | nil => rw [hq] at hm; cases hm
    | cons y r => rfl
  · obtain ⟨i, h1, rfl, _⟩ := (mem_picks _).1 hy
    omega
/-- Words that are a rule make a right one. -/
theorem rule_right {s : ByteArray} {l : List (List Int)} (h : pcO s = some l) : ∃ a b c d e, l = [a, b, c, d, e] ∧ cronB a b c d e = true := by
  unfold pcO at h
  split at h
  · unfold pcT at h
    split at h
    · split at h
      · rename_i hq
        simp only [Bool.and_eq_true, Option.isSome_iff_exists] at hq
        obtain ⟨⟨H1, e1⟩, ⟨H2, e2⟩, ⟨H3, e3⟩, ⟨H4, e4⟩, ⟨H5, e5⟩⟩ := hq
        refine ⟨_, _, _, _, _, (Option.some.inj h).symm, ?_⟩
        unfold cronB
        rw [field_right (by decide) (by decide) e1, field_right (by decide) (by decide) e2, field_right (by decide) (by decide) e3, field_right (by decide) (by decide) e4, field_right (by decide) (by decide) e5]
        rfl
      · cases h
    · cases h
  · cases h
end Go.Proofs.YtbecdaholpiaeaaDoor

namespace Go.Proofs.YtbecdaholpiaeaaDoor
open Go Go.RowKit
set_option linter.unusedVariables false

theorem ownsI.rec {w : World} {B : Nat} {e : TypeId} {v : Value} {l : List Int} (h : ownsI w B e v l) : ownsR w B e v l := by
  unfold ownsR
  rw [flat_int]
  exact h
theorem listB_of {lo hi : Int} {l : List Int} (h1 : l.Pairwise (· < ·)) (h2 : ∀ x ∈ l, lo ≤ x ∧ x ≤ hi) (h3 : l ≠ []) : listB lo hi l = true := by
  rw [listB_rise (rise_of l none h1 h2 (fun y hy => by cases hy))]
  exact decide_eq_true (List.length_pos_iff.2 h3)
/-- A list that rises below a number. -/
def RiseTo (lo hi m : Int) (l : List Int) : Prop := l.Pairwise (· < ·) ∧ ∀ x ∈ l, lo ≤ x ∧ x ≤ hi ∧ x < m
theorem RiseTo.start (lo hi m : Int) : RiseTo lo hi m [] := ⟨List.Pairwise.nil, fun x hx => by cases hx⟩
theorem RiseTo.next {lo hi m n : Int} {l : List Int} (h : RiseTo lo hi m l) (h0 : lo ≤ m) (h1 : m ≤ hi) (h2 : m < n) : RiseTo lo hi n (l ++ [m]) := by
  refine ⟨List.pairwise_append.2 ⟨h.1, List.pairwise_singleton _ _, fun a ha b hb => ?_⟩, fun x hx => ?_⟩
  · rw [List.mem_singleton] at hb
    subst hb
    exact (h.2 a ha).2.2
  · rcases List.mem_append.1 hx with hx | hx
    · have := h.2 x hx
      exact ⟨this.1, this.2.1, by omega⟩
    · rw [List.mem_singleton] at hx
      subst hx
      exact ⟨h0, h1, h2⟩
theorem RiseTo.list {lo hi m : Int} {l : List Int} (h : RiseTo lo hi m l) (h3 : l ≠ []) : listB lo hi l = true := listB_of h.1 (fun x hx => ⟨(h.2 x hx).1, (h.2 x hx).2.1⟩) h3
theorem RiseTo.one {lo hi m : Int} {l : List Int} (h : RiseTo lo hi m l) (h3 : l ≠ []) : listB lo hi (l.take 1) = true := by
  match l, h3 with
  | x :: r, _ => exact listB_of (l := [x]) (List.pairwise_singleton _ _) (fun y hy => by rw [List.mem_singleton] at hy; subst hy; have := h.2 y (List.mem_cons_self ..); exact ⟨this.1, this.2.1⟩) (by simp)
/-- What l10Some answers. -/
def SomeP (g : Nat) (lo hi : Int) (w : World) (x : Ending) (w' : World) : Prop :=
  ∃ (ao : Option Addr) (n c : Nat) (l : List Int), x = .returned (.slice ao n c) ∧ Reads w' (.slice ao n c) l ∧ (∀ a, ao = some a → w.heap.size ≤ a.block) ∧ listB lo hi l = true ∧ Drw w' g ∧ Save g w w'
theorem ownsR.blockOf {w : World} {B : Nat} {e : TypeId} {ao : Option Addr} {n c : Nat} {l : List Int} (h : ownsR w B e (.slice ao n c) l) : ∀ a, ao = some a → B ≤ a.block := by
  intro a ha
  subst ha
  rcases h.2 with ⟨h', _⟩ | ⟨g', cap', cur, h', hb, _⟩
  · simp at h'
  · simp only [Value.slice.injEq, Option.some.injEq] at h'
    rw [h'.1]
    exact hb
set_option maxRecDepth 10000 in
set_option maxHeartbeats 2000000 in
theorem l10Some_any (g : Nat) (lo hi : Int) (w : World) (hd : Drw w g) (h0 : 0 ≤ lo) (h1 : lo ≤ hi) (h2 : hi ≤ 59) :
    Calls Tryd.prog 45 #[.pointer (some ⟨g, 0, none⟩), .int .i64 lo, .int .i64 hi] w (SomeP g lo hi w) := by
  have HG : Hid (g < w.heap.size) := hd.lt
  have HD0 : Hid (Drw (w.alloc (.cells #[] 3)) g) := hd.keep ((Below.refl _ _).alloc HG.out _)
  clear hd
  go_enter Tryd.func45, Tryd.ntmps45
  go_wp2_with fail
  refine (once_any g 3 _ HD0.out (by decide) (by decide)).mono ?_
  rintro x w1 ⟨q, rfl, hd1, hs1⟩
  have HOW : Hid (ownsI w1 w.heap.size 3 (.slice (some ⟨w.heap.size, 0, none⟩) 0 0) []) := (ownsI_made w w.heap.size 0 3 #[] (Nat.le_refl _) (by decide) rfl).save hs1 HG.out
  have HS1 : Hid (Save g w w1) := ((Save.refl g w).alloc _).trans hs1
  have HD1 : Hid (Drw w1 g) := hd1
  clear hd1 hs1 HD0
  generalize hB : w.heap.size = B at *
  cases q with
  | true =>
    go_wp2
    go_loopw [7, 8] (fun out i wr => ∃ (m : Int) (l : List Int), lo ≤ m ∧ m ≤ hi + 1 ∧ i = .int .i64 m ∧ (l.length : Int) ≤ m - lo ∧ Hid (RiseTo lo hi m l ∧ (lo < m → l ≠ [])) ∧ ownsI wr B 3 out l ∧ Hid (Drw wr g ∧ Save g w wr)) (fun _ i _ => (hi + 1 - intOf i).toNat)
    case atStart => exact ⟨lo, [], Int.le_refl _, by omega, rfl, by simp, ⟨RiseTo.start _ _ _, fun h => by omega⟩, HOW.out, HD1.out, HS1.out⟩
    case round =>
      obtain ⟨m, l, hm0, hm1, rfl, hlen, HR, hown, HS⟩ := hrel
      clear HOW HD1 HS1
      by_cases hlt : m ≤ hi
      · have HBW : Hid (B ≤ wr.heap.size) := by have := HS.out.2.size; show B ≤ _; omega
        go_wp2_with (at_builtin; refine wpList_append_int _ _ rfl (.tmp 20) (.tmp 22) 24 rfl B 3 Tryd.underlying24 info3 _ l rfl (hown.alloc _) (Below.refl _ _) ⟨wr.heap.size, 0, none⟩ 1 m rfl ?c1 ?c2 ?c3 ?_)
        case c1 => simp
        case c2 => omega
        case c3 => have := HBW.out; simp; omega
        intro v' w4 hown2 hbel2
        have HN : Hid (RiseTo lo hi (m + 1) (l ++ [m]) ∧ (lo < m + 1 → l ++ [m] ≠ [])) := ⟨HR.out.1.next hm0 hlt (by omega), fun _ => by simp⟩
        have HS2 : Hid (Drw w4 g ∧ Save g w w4) := ⟨(HS.out.1.keep ((Below.refl _ _).alloc (by have := HBW.out; have := HG.out; omega) _)).keep (hbel2.mono (by have := HG.out; omega)), (HS.out.2.alloc _).below_on hbel2 (by omega)⟩
        clear hown hbel2 HR HS
        go_wp2
        go_roundw
        case rel => exact ⟨m + 1, l ++ [m], by omega, by omega, by go_num, by simp; omega, HN, hown2, HS2⟩
        case measure => simp [intOf]; omega
      · have HL : Hid (listB lo hi l = true) := HR.out.1.list (HR.out.2 (by omega))
        obtain ⟨a, c, rfl⟩ := (ownsI.rec hown).slice
        have HO : Hid (ownsR wr B 3 (.slice a l.length c) l) := ownsI.rec hown
        clear hown
        generalize l.length = ll at *
        go_wp2
        go_ret
        subst hB
        exact ⟨_, _, _, l, rfl, HO.out.reads, HO.out.blockOf, HL.out, HS.out.1, HS.out.2⟩
  | false =>
    have hq0 : 0 ≤ (hi - lo) / 2 := by omega
    go_wp2_with fail
    refine (below_any g (1 + (hi - lo) / 2) _ HD1.out (by omega) (by omega)).mono ?_
    rintro x w2 ⟨s, rfl, s0, s1, hd2, hs2⟩
    have HOW2 : Hid (ownsI w2 B 3 (.slice (some ⟨B, 0, none⟩) 0 0) []) := HOW.out.save hs2 HG.out
    have HS2 : Hid (Save g w w2) := HS1.out.trans hs2
    have HD2 : Hid (Drw w2 g) := hd2
    clear hd2 hs2 HOW HS1 HD1
    go_wp2_with fail
    refine (below_any g (1 + s) _ HD2.out (by omega) (by omega)).mono ?_
    rintro x w3 ⟨y, rfl, y0, y1, hd3, hs3⟩
    have HOW3 : Hid (ownsI w3 B 3 (.slice (some ⟨B, 0, none⟩) 0 0) []) := HOW2.out.save hs3 HG.out
    have HS3 : Hid (Save g w w3) := HS2.out.trans hs3
    have HD3 : Hid (Drw w3 g) := hd3
    clear hd3 hs3 HOW2 HS2 HD2
    go_wp2
    go_loopw [7, 10] (fun out i wr => ∃ (m : Int) (l : List Int), lo ≤ m ∧ m ≤ hi + 1 + s ∧ i = .int .i64 m ∧ (l.length : Int) ≤ m - lo ∧ Hid (RiseTo lo hi m l ∧ (m ≤ hi ∨ l ≠ [])) ∧ ownsI wr B 3 out l ∧ Hid (Drw wr g ∧ Save g w wr)) (fun _ i _ => (hi + 1 + s - intOf i).toNat)
    case atStart => exact ⟨lo + y, [], by omega, by omega, rfl, by simp; omega, ⟨RiseTo.start _ _ _, .inl (by omega)⟩, HOW3.out, HD3.out, HS3.out⟩
    case round =>
      obtain ⟨m, l, hm0, hm1, rfl, hlen, HR, hown, HS⟩ := hrel
      clear HOW3 HD3 HS3
      by_cases hlt : m ≤ hi
      · have HBW : Hid (B ≤ wr.heap.size) := by have := HS.out.2.size; show B ≤ _; omega
        go_wp2_with (at_builtin; refine wpList_append_int _ _ rfl (.tmp 44) (.tmp 46) 24 rfl B 3 Tryd.underlying24 info3 _ l rfl (hown.alloc _) (Below.refl _ _) ⟨wr.heap.size, 0, none⟩ 1 m rfl ?c1 ?c2 ?c3 ?_)
        case c1 => simp
        case c2 => omega
        case c3 => have := HBW.out; simp; omega
        intro v' w4 hown2 hbel2
        have HN : Hid (RiseTo lo hi (m + (1 + s)) (l ++ [m]) ∧ (m + (1 + s) ≤ hi ∨ l ++ [m] ≠ [])) := ⟨HR.out.1.next hm0 hlt (by omega), .inr (by simp)⟩
        have HS4 : Hid (Drw w4 g ∧ Save g w w4) := ⟨(HS.out.1.keep ((Below.refl _ _).alloc (by have := HBW.out; have := HG.out; omega) _)).keep (hbel2.mono (by have := HG.out; omega)), (HS.out.2.alloc _).below_on hbel2 (by omega)⟩
        clear hown hbel2 HR HS
        go_wp2
        go_roundw
        case rel => exact ⟨m + (1 + s), l ++ [m], by omega, by omega, by go_num, by simp; omega, HN, hown2, HS4⟩
        case measure => simp [intOf]; omega
      · have HNE : Hid (l ≠ []) := HR.out.2.resolve_left hlt
        obtain ⟨a, c, rfl, hlc⟩ := (ownsI.rec hown).cap
        have HO : Hid (ownsR wr B 3 (.slice a l.length c) l) := ownsI.rec hown
        have hlp : 1 ≤ l.length := List.length_pos_iff.2 HNE.out
        clear hown
        go_wp2_with fail
        refine (once_any g 2 _ HS.out.1 (by decide) (by decide)).mono ?_
        rintro x w5 ⟨q, rfl, hd5, hs5⟩
        have HO5 : Hid (ownsR w5 B 3 (.slice a l.length c) l) := by
          have h1 : ownsI wr B 3 (.slice a l.length c) l := by have := HO.out; unfold ownsR at this; rw [flat_int] at this; exact this
          exact ownsI.rec (h1.save hs5 HG.out)
        have HS5 : Hid (Drw w5 g ∧ Save g w w5) := ⟨hd5, HS.out.2.trans hs5⟩
        clear hd5 hs5
        cases q with
        | false =>
          have HL : Hid (listB lo hi l = true) := HR.out.1.list HNE.out
          generalize l.length = ll at *
          go_wp2
          go_ret
          subst hB
          exact ⟨_, _, _, l, rfl, HO5.out.reads, HO5.out.blockOf, HL.out, HS5.out.1, HS5.out.2⟩
        | true =>
          have HL : Hid (listB lo hi (l.take 1) = true) := HR.out.1.one HNE.out
          have HRT : Hid (Reads w5 (.slice a 1 c) (l.take 1)) := HO5.out.reads.take 1 hlp c
          have HBO : Hid (∀ x, a = some x → B ≤ x.block) := HO5.out.blockOf
          obtain ⟨x, hx⟩ : ∃ x, l[0]? = some x := ⟨_, List.getElem?_eq_getElem (by omega)⟩
          obtain ⟨b, o, rfl, _, _⟩ := int_at HO5.out.reads hx
          clear hx
          have hrun : ∀ wx, (Instr.slice 24 (.slice (some ⟨b, o, none⟩) l.length c) none (some (.int .i64 1)) none).run Tryd.prog wx = .ok (.slice (some ⟨b, o, none⟩) 1 c) wx := fun wx => by
            simp [go_sem, Instr.slice]
            intro h
            omega
          generalize l.length = ll at *
          go_wp2
          go_ret
          subst hB
          exact ⟨_, _, _, _, rfl, HRT.out, HBO.out, HL.out, HS5.out.1, HS5.out.2⟩

theorem Reads.save {g : Nat} {w w' : World} {ao : Option Addr} {n c : Nat} {l : List Int} (h : Reads w (.slice ao n c) l) (hs : Save g w w') (hb : ∀ a, ao = some a → a.block ≠ g) : Reads w' (.slice ao n c) l := by
  obtain ⟨ao', cap, e, h⟩ := h
  simp only [Value.slice.injEq] at e
  obtain ⟨rfl, rfl, rfl⟩ := e
  refine ⟨ao, c, rfl, fun hne => ?_⟩
  obtain ⟨b, o, rfl, hlt, hc⟩ := h hne
  exact ⟨b, o, rfl, Nat.lt_of_lt_of_le hlt hs.size, fun i x hx j u hu => hs.cell (hb ⟨b, o, none⟩ rfl) (hc i x hx j u hu)⟩
theorem save_set5 (W : World) (b : Nat) (u0 u1 u2 u3 u4 : Value) : Save b W (set5 W b u0 u1 u2 u3 u4) := by
  have h0 : Save b W (W.setCell ⟨b, 0, none⟩ u0) := (Save.refl b W).setCell (p := ⟨b, 0, none⟩) rfl u0
  have h1 := h0.setCell (p := ⟨b, 1, none⟩) rfl u1
  have h2 := h1.setCell (p := ⟨b, 2, none⟩) rfl u2
  have h3 := h2.setCell (p := ⟨b, 3, none⟩) rfl u3
  exact h3.setCell (p := ⟨b, 4, none⟩) rfl u4
/-- A rule that was drawn. -/
def DrawnC (w' : World) (v0 v1 v2 v3 v4 : Value) (a b c d e : List Int) : Prop :=
  (Reads w' v0 a ∧ Reads w' v1 b ∧ Reads w' v2 c ∧ Reads w' v3 d ∧ Reads w' v4 e) ∧ cronB a b c d e = true
theorem cron_short {a b c d e : List Int} (h : cronB a b c d e = true) : a.length ≤ 60 ∧ b.length ≤ 24 ∧ c.length ≤ 31 ∧ d.length ≤ 12 ∧ e.length ≤ 7 := by
  unfold cronB at h
  simp only [Bool.and_eq_true] at h
  obtain ⟨h0, h1, h2, h3, h4⟩ := h
  have := list_len h0
  have := list_len h1
  have := list_len h2
  have := list_len h3
  have := list_len h4
  exact ⟨by omega, by omega, by omega, by omega, by omega⟩
def CronP (g : Nat) (w : World) (x : Ending) (w' : World) : Prop :=
  ∃ (ao bo co d0 eo : Option Addr) (l0 l1 l2 l3 l4 ac bc cc dc ec : Nat) (a b c d e : List Int), x = .returned (.agg #[.slice ao l0 ac, .slice bo l1 bc, .slice co l2 cc, .slice d0 l3 dc, .slice eo l4 ec]) ∧ DrawnC w' (.slice ao l0 ac) (.slice bo l1 bc) (.slice co l2 cc) (.slice d0 l3 dc) (.slice eo l4 ec) a b c d e ∧ (∀ x, ao = some x ∨ bo = some x ∨ co = some x ∨ d0 = some x ∨ eo = some x → w.heap.size ≤ x.block) ∧ Drw w' g ∧ Save g w w'
set_option maxRecDepth 10000 in
set_option maxHeartbeats 2000000 in
theorem l10Cron_any (g : Nat) (w : World) (hd : Drw w g) : Calls Tryd.prog 29 #[.pointer (some ⟨g, 0, none⟩)] w (CronP g w) := by
  have HG : Hid (g < w.heap.size) := hd.lt
  have HD0 : Hid (Drw (w.alloc (.cells #[.slice none 0 0, .slice none 0 0, .slice none 0 0, .slice none 0 0, .slice none 0 0] 26)) g) := hd.keep ((Below.refl _ _).alloc HG.out _)
  clear hd
  go_enter Tryd.func29, Tryd.ntmps29
  go_wp2_with fail
  obtain ⟨W0, hW⟩ : ∃ W, w.alloc (.cells #[.slice none 0 0, .slice none 0 0, .slice none 0 0, .slice none 0 0, .slice none 0 0] 26) = W := ⟨_, rfl⟩
  have Z0 : B5 26 W0 w.heap.size (.slice none 0 0) (.slice none 0 0) (.slice none 0 0) (.slice none 0 0) (.slice none 0 0) := by rw [← hW]; exact B5.new 26 w _ _ _ _ _
  have S0 : Save g w W0 := by rw [← hW]; exact (Save.refl g w).alloc _
  rw [hW] at HD0
  rw [hW]
  clear hW
  refine (l10Some_any g 0 59 W0 HD0.out (by decide) (by decide) (by decide)).mono ?_
  rintro x W1 ⟨a0, n0, c0, l0, rfl, r0, u0, hl0, hd0, hs0⟩
  have hz0 := Z0.lt
  have S1 : Save g w W1 := S0.trans hs0
  have Z1 : B5 26 W1 w.heap.size (.slice none 0 0) (.slice none 0 0) (.slice none 0 0) (.slice none 0 0) (.slice none 0 0) := (hs0.block _ Z0.lt (by have := HG.out; omega)).trans Z0
  have HD1 : Hid (Drw W1 g) := hd0
  have HB0 : Hid (listB 0 59 l0 = true) := hl0
  have U0 : ∀ a, a0 = some a → w.heap.size + 1 ≤ a.block := fun a ha => by have := u0 a ha; omega
  have R0_1 : Hid (Reads W1 (.slice a0 n0 c0) l0) := r0
  clear r0 u0 hl0 hd0 hs0 hz0 Z0 S0 HD0
  go_wp2_with fail
  refine (l10Some_any g 0 23 W1 HD1.out (by decide) (by decide) (by decide)).mono ?_
  rintro x W2 ⟨a1, n1, c1, l1, rfl, r1, u1, hl1, hd1, hs1⟩
  have hz1 := Z1.lt
  have S2 : Save g w W2 := S1.trans hs1
  have Z2 : B5 26 W2 w.heap.size (.slice none 0 0) (.slice none 0 0) (.slice none 0 0) (.slice none 0 0) (.slice none 0 0) := (hs1.block _ Z1.lt (by have := HG.out; omega)).trans Z1
  have HD2 : Hid (Drw W2 g) := hd1
  have HB1 : Hid (listB 0 23 l1 = true) := hl1
  have U1 : ∀ a, a1 = some a → w.heap.size + 1 ≤ a.block := fun a ha => by have := u1 a ha; omega
  have R1_2 : Hid (Reads W2 (.slice a1 n1 c1) l1) := r1
  have R0_2 : Hid (Reads W2 (.slice a0 n0 c0) l0) := R0_1.out.save hs1 (fun a ha => by have := U0 a ha; have := HG.out; omega)
  clear r1 u1 hl1 hd1 hs1 hz1 Z1 S1 HD1 R0_1
  go_wp2_with fail
  refine (l10Some_any g 1 31 W2 HD2.out (by decide) (by decide) (by decide)).mono ?_
  rintro x W3 ⟨a2, n2, c2, l2, rfl, r2, u2, hl2, hd2, hs2⟩
  have hz2 := Z2.lt
  have S3 : Save g w W3 := S2.trans hs2
  have Z3 : B5 26 W3 w.heap.size (.slice none 0 0) (.slice none 0 0) (.slice none 0 0) (.slice none 0 0) (.slice none 0 0) := (hs2.block _ Z2.lt (by have := HG.out; omega)).trans Z2
  have HD3 : Hid (Drw W3 g) := hd2
  have HB2 : Hid (listB 1 31 l2 = true) := hl2
  have U2 : ∀ a, a2 = some a → w.heap.size + 1 ≤ a.block := fun a ha => by have := u2 a ha; omega
  have R2_3 : Hid (Reads W3 (.slice a2 n2 c2) l2) := r2
  have R0_3 : Hid (Reads W3 (.slice a0 n0 c0) l0) := R0_2.out.save hs2 (fun a ha => by have := U0 a ha; have := HG.out; omega)
  have R1_3 : Hid (Reads W3 (.slice a1 n1 c1) l1) := R1_2.out.save hs2 (fun a ha => by have := U1 a ha; have := HG.out; omega)
  clear r2 u2 hl2 hd2 hs2 hz2 Z2 S2 HD2 R0_2 R1_2
  go_wp2_with fail
  refine (l10Some_any g 1 12 W3 HD3.out (by decide) (by decide) (by decide)).mono ?_
  rintro x W4 ⟨a3, n3, c3, l3, rfl, r3, u3, hl3, hd3, hs3⟩
  have hz3 := Z3.lt
  have S4 : Save g w W4 := S3.trans hs3
  have Z4 : B5 26 W4 w.heap.size (.slice none 0 0) (.slice none 0 0) (.slice none 0 0) (.slice none 0 0) (.slice none 0 0) := (hs3.block _ Z3.lt (by have := HG.out; omega)).trans Z3
  have HD4 : Hid (Drw W4 g) := hd3
  have HB3 : Hid (listB 1 12 l3 = true) := hl3
  have U3 : ∀ a, a3 = some a → w.heap.size + 1 ≤ a.block := fun a ha => by have := u3 a ha; omega
  have R3_4 : Hid (Reads W4 (.slice a3 n3 c3) l3) := r3
  have R0_4 : Hid (Reads W4 (.slice a0 n0 c0) l0) := R0_3.out.save hs3 (fun a ha => by have := U0 a ha; have := HG.out; omega)
  have R1_4 : Hid (Reads W4 (.slice a1 n1 c1) l1) := R1_3.out.save hs3 (fun a ha => by have := U1 a ha; have := HG.out; omega)
  have R2_4 : Hid (Reads W4 (.slice a2 n2 c2) l2) := R2_3.out.save hs3 (fun a ha => by have := U2 a ha; have := HG.out; omega)
  clear r3 u3 hl3 hd3 hs3 hz3 Z3 S3 HD3 R0_3 R1_3 R2_3
  go_wp2_with fail
  refine (l10Some_any g 0 6 W4 HD4.out (by decide) (by decide) (by decide)).mono ?_
  rintro x W5 ⟨a4, n4, c4, l4, rfl, r4, u4, hl4, hd4, hs4⟩
  have hz4 := Z4.lt
  have S5 : Save g w W5 := S4.trans hs4
  have Z5 : B5 26 W5 w.heap.size (.slice none 0 0) (.slice none 0 0) (.slice none 0 0) (.slice none 0 0) (.slice none 0 0) := (hs4.block _ Z4.lt (by have := HG.out; omega)).trans Z4
  have HD5 : Hid (Drw W5 g) := hd4
  have HB4 : Hid (listB 0 6 l4 = true) := hl4
  have U4 : ∀ a, a4 = some a → w.heap.size + 1 ≤ a.block := fun a ha => by have := u4 a ha; omega
  have R4_5 : Hid (Reads W5 (.slice a4 n4 c4) l4) := r4
  have R0_5 : Hid (Reads W5 (.slice a0 n0 c0) l0) := R0_4.out.save hs4 (fun a ha => by have := U0 a ha; have := HG.out; omega)
  have R1_5 : Hid (Reads W5 (.slice a1 n1 c1) l1) := R1_4.out.save hs4 (fun a ha => by have := U1 a ha; have := HG.out; omega)
  have R2_5 : Hid (Reads W5 (.slice a2 n2 c2) l2) := R2_4.out.save hs4 (fun a ha => by have := U2 a ha; have := HG.out; omega)
  have R3_5 : Hid (Reads W5 (.slice a3 n3 c3) l3) := R3_4.out.save hs4 (fun a ha => by have := U3 a ha; have := HG.out; omega)
  clear r4 u4 hl4 hd4 hs4 hz4 Z4 S4 HD4 R0_4 R1_4 R2_4 R3_4
  have q0 := Z5.c0
  have q1 := Z5.c1
  have q2 := Z5.c2
  have q3 := Z5.c3
  have q4 := Z5.c4
  have f0 := Z5.fr 0
  have f1 := Z5.fr 1
  have f2 := Z5.fr 2
  have f3 := Z5.fr 3
  have f4 := Z5.fr 4
  have HZ5 : Hid (B5 26 W5 w.heap.size (.slice none 0 0) (.slice none 0 0) (.slice none 0 0) (.slice none 0 0) (.slice none 0 0)) := Z5
  have HSV : Hid (Save g w W5) := S5
  clear Z5 S5
  go_wp2
  refine bodyPost_ret (ret_c1 rfl rfl (HZ5.out.set (.slice a0 n0 c0) (.slice a1 n1 c1) (.slice a2 n2 c2) (.slice a3 n3 c3) (.slice a4 n4 c4))) rfl ?_
  have hgw := HG.out
  have hwz := HZ5.out.lt
  have BX : Below w.heap.size W5 (set5 W5 w.heap.size (.slice a0 n0 c0) (.slice a1 n1 c1) (.slice a2 n2 c2) (.slice a3 n3 c3) (.slice a4 n4 c4)) := below_set5 (Below.refl _ _) (Nat.le_refl _) _ _ _ _ _
  have RX : ∀ (ao : Option Addr) (n c : Nat) (l : List Int), Reads W5 (.slice ao n c) l → (∀ a, ao = some a → w.heap.size + 1 ≤ a.block) → Reads (set5 W5 w.heap.size (.slice a0 n0 c0) (.slice a1 n1 c1) (.slice a2 n2 c2) (.slice a3 n3 c3) (.slice a4 n4 c4)) (.slice ao n c) l := fun ao n c l h hb => by
    have SX : Save w.heap.size W5 (set5 W5 w.heap.size (.slice a0 n0 c0) (.slice a1 n1 c1) (.slice a2 n2 c2) (.slice a3 n3 c3) (.slice a4 n4 c4)) := save_set5 _ _ _ _ _ _ _
    exact h.save SX (fun a ha => by have := hb a ha; omega)
  refine ⟨a0, a1, a2, a3, a4, n0, n1, n2, n3, n4, c0, c1, c2, c3, c4, l0, l1, l2, l3, l4, rfl, ⟨⟨RX _ _ _ _ R0_5.out U0, RX _ _ _ _ R1_5.out U1, RX _ _ _ _ R2_5.out U2, RX _ _ _ _ R3_5.out U3, RX _ _ _ _ R4_5.out U4⟩, ?_⟩, ?_, ?_, ?_⟩
  · simp [cronB, HB0.out, HB1.out, HB2.out, HB3.out, HB4.out]
  · rintro x (h | h | h | h | h)
    · have := U0 x h; omega
    · have := U1 x h; omega
    · have := U2 x h; omega
    · have := U3 x h; omega
    · have := U4 x h; omega
  · exact HD5.out.keep (BX.mono (by omega))
  · exact HSV.out.below_on BX (Nat.le_refl _)
set_option maxRecDepth 10000 in
set_option maxHeartbeats 2000000 in
theorem drawCron_any (v : Value) (n : Nat) (w : World) (hn : n ≤ 1048576) (hc : CodeAt w w.heap.size v n) :
    Calls Tryd.prog 8 #[v] w fun x w' => ∃ (v0 v1 v2 v3 v4 : Value) (a b c d e : List Int) (m : Int), x = .returned (.tuple #[.agg #[v0, v1, v2, v3, v4], .int .i64 m]) ∧ DrawnC w' v0 v1 v2 v3 v4 a b c d e ∧ 0 ≤ m ∧ m < 60000000 ∧ Below w.heap.size w w' := by
  have HCA : Hid (CodeAt (w.alloc (.cells #[.slice none 0 0, .slice none 0 0, .slice none 0 0, .slice none 0 0, .slice none 0 0] 26)) (w.alloc (.cells #[.slice none 0 0, .slice none 0 0, .slice none 0 0, .slice none 0 0, .slice none 0 0] 26)).heap.size v n) := hc.on (ba (Below.refl _ _) _)
  clear hc
  go_enter Tryd.func8, Tryd.ntmps8
  go_wp2_with fail
  refine (new_any v n _ hn HCA.out).mono ?_
  rintro x w1 ⟨g, rfl, hg0, hd1, hb1⟩
  have Z1 : B5 26 w1 w.heap.size (.slice none 0 0) (.slice none 0 0) (.slice none 0 0) (.slice none 0 0) (.slice none 0 0) := (B5.new 26 w _ _ _ _ _).up hb1
  have B1 := below_new hb1
  have hg1 : w.heap.size + 1 ≤ g := by simpa using hg0
  have HG : Hid (w.heap.size < g) := hg1
  clear hg1
  clear hb1 hg0 HCA
  go_wp2_with fail
  refine (l10Cron_any g _ hd1).mono ?_
  rintro x w2 ⟨ao, bo, co, d0, eo, l0, l1, l2, l3, l4, ac, bc, cc, dc, ec, a, b, c, d, e, rfl, ⟨⟨r0, r1, r2, r3, r4⟩, hcr⟩, hbl, hd2, hs2⟩
  have hgl : g < w1.heap.size := hd1.lt
  have B2 : Below w.heap.size w w2 := B1.trans (hs2.below (by have := HG.out; omega) B1.size)
  have Z2 : B5 26 w2 w.heap.size (.slice none 0 0) (.slice none 0 0) (.slice none 0 0) (.slice none 0 0) (.slice none 0 0) := (hs2.block _ Z1.lt (by have := HG.out; omega)).trans Z1
  have HR : Hid (Reads w2 (.slice ao l0 ac) a ∧ Reads w2 (.slice bo l1 bc) b ∧ Reads w2 (.slice co l2 cc) c ∧ Reads w2 (.slice d0 l3 dc) d ∧ Reads w2 (.slice eo l4 ec) e) := ⟨r0, r1, r2, r3, r4⟩
  have HBL : Hid (∀ x, ao = some x ∨ bo = some x ∨ co = some x ∨ d0 = some x ∨ eo = some x → w1.heap.size ≤ x.block) := hbl
  clear hd1 Z1 B1 r0 r1 r2 r3 r4 hbl hs2
  go_wp2_with fail
  refine (below_any g 60000000 _ hd2 (by decide) (by decide)).mono ?_
  rintro x w3 ⟨m, rfl, m0, m1, hd3, hs3⟩
  have B3 : Below w.heap.size w w3 := B2.trans (hs3.below (by have := HG.out; omega) B2.size)
  have Z3 : B5 26 w3 w.heap.size (.slice none 0 0) (.slice none 0 0) (.slice none 0 0) (.slice none 0 0) (.slice none 0 0) := (hs3.block _ Z2.lt (by have := HG.out; omega)).trans Z2
  have HR3 : Hid (Reads w3 (.slice ao l0 ac) a ∧ Reads w3 (.slice bo l1 bc) b ∧ Reads w3 (.slice co l2 cc) c ∧ Reads w3 (.slice d0 l3 dc) d ∧ Reads w3 (.slice eo l4 ec) e) :=
    ⟨HR.out.1.save hs3 (fun x h => by have := HBL.out x (.inl h); omega), HR.out.2.1.save hs3 (fun x h => by have := HBL.out x (.inr (.inl h)); omega), HR.out.2.2.1.save hs3 (fun x h => by have := HBL.out x (.inr (.inr (.inl h))); omega), HR.out.2.2.2.1.save hs3 (fun x h => by have := HBL.out x (.inr (.inr (.inr (.inl h)))); omega), HR.out.2.2.2.2.save hs3 (fun x h => by have := HBL.out x (.inr (.inr (.inr (.inr h)))); omega)⟩
  have HZ3 : Hid (B5 26 w3 w.heap.size (.slice none 0 0) (.slice none 0 0) (.slice none 0 0) (.slice none 0 0) (.slice none 0 0)) := Z3
  have q0 := Z3.c0
  have q1 := Z3.c1
  have q2 := Z3.c2
  have q3 := Z3.c3
  have q4 := Z3.c4
  have f0 := Z3.fr 0
  have f1 := Z3.fr 1
  have f2 := Z3.fr 2
  have f3 := Z3.fr 3
  have f4 := Z3.fr 4
  have HB3 : Hid (Below w.heap.size w w3) := B3
  have HWG : Hid (w.heap.size < w1.heap.size) := by have := HG.out; show _ < _; omega
  clear Z2 Z3 B2 B3 hs3 hd2 hd3 HR hgl
  go_wp2
  refine bodyPost_ret (ret_c2 rfl rfl rfl (HZ3.out.set (.slice ao l0 ac) (.slice bo l1 bc) (.slice co l2 cc) (.slice d0 l3 dc) (.slice eo l4 ec))) rfl ?_
  have hlt := HWG.out
  have SX : Save w.heap.size w3 (set5 w3 w.heap.size (.slice ao l0 ac) (.slice bo l1 bc) (.slice co l2 cc) (.slice d0 l3 dc) (.slice eo l4 ec)) := save_set5 _ _ _ _ _ _ _
  refine ⟨_, _, _, _, _, a, b, c, d, e, m, rfl, ⟨⟨HR3.out.1.save SX (fun x h => by have := HBL.out x (.inl h); omega), HR3.out.2.1.save SX (fun x h => by have := HBL.out x (.inr (.inl h)); omega), HR3.out.2.2.1.save SX (fun x h => by have := HBL.out x (.inr (.inr (.inl h))); omega), HR3.out.2.2.2.1.save SX (fun x h => by have := HBL.out x (.inr (.inr (.inr (.inl h)))); omega), HR3.out.2.2.2.2.save SX (fun x h => by have := HBL.out x (.inr (.inr (.inr (.inr h)))); omega)⟩, hcr⟩, m0, m1, ?_⟩
  exact below_set5 HB3.out (Nat.le_refl _) _ _ _ _ _
theorem ownsI_first {w : World} {B : Nat} {u : Value} {l : List Int} (h : ownsI w B 3 u l) (hl : l.length = 12) : ∃ (r c : Nat) (z : List Int), u = .slice (some ⟨r, 0, none⟩) 12 c ∧ l = z ∧ ∀ j x, l[j]? = some x → w.cell? ⟨r, j, none⟩ = some (.int .i64 x) := by
  have ho : ownsR w B 3 u l := by unfold ownsR; rw [flat_int]; exact h
  rcases ho.2 with ⟨rfl, h0⟩ | ⟨g, cap, cur, rfl, hb, _⟩
  · omega
  · refine ⟨g, cap, l, by rw [hl], rfl, fun j x hx => ?_⟩
    exact (int_own ho hx).2.1
end Go.Proofs.YtbecdaholpiaeaaDoor

namespace Go.Proofs.YtbecdaholpiaeaaDoor
open Go Go.RowKit
set_option linter.unusedVariables false

theorem spansG_take (f : Int → Option Int) (upto : Int) : ∀ (n k : Nat) (a : Int), spansG f upto n a = (spansG f upto (n + k) a).take n
  | 0, k, a => by rw [List.take_zero]; rfl
  | n + 1, k, a => by
    rw [show n + 1 + k = (n + k) + 1 by omega]
    unfold spansG
    split
    · split
      · split
        · rw [List.take_succ_cons, ← spansG_take f upto n k]
        · simp
      · simp
    · simp
theorem spansL_take (f : Int → Option Int) (fr upto p q : Int) (h0 : 0 ≤ p) (h : p ≤ q) : spansL f fr upto p = (spansL f fr upto q).take p.toNat := by
  unfold spansL
  split
  · have := spansG_take f upto p.toNat (q.toNat - p.toNat) ‹Int›
    rwa [show p.toNat + (q.toNat - p.toNat) = q.toNat by omega] at this
  · simp
end Go.Proofs.YtbecdaholpiaeaaDoor

namespace Go.Proofs.YtbecdaholpiaeaaDoor
open Go Go.RowKit
set_option linter.unusedVariables false

theorem run_eq_sp (x y : Int) (wx : World) : (binOp .eql 34 (.agg #[.int .i64 x, .int .i64 y]) (.agg #[.int .i64 x, .int .i64 y])).run Tryd.prog wx = .ok (.bool true) wx := by
  have hf : Tryd.prog.underlying 34 = some (.struct (Tryd.prog.fieldsOf 34)) := by kernel_rfl
  rw [run_eql_struct, run_equalIn_agg wx 9999 34 _ _ hf (by kernel_rfl)]
  simp [go_sem]
theorem pcN_short (s : ByteArray) (k : Nat) : (pcN (pcO s) k).length ≤ 60 := by
  cases h : pcO s with
  | none => simp [pcN]
  | some l =>
    obtain ⟨a, b, c, d, e, rfl, hc⟩ := rule_right h
    have := cron_short hc
    match k with
    | 0 => show a.length ≤ 60; omega
    | 1 => show b.length ≤ 60; omega
    | 2 => show c.length ≤ 60; omega
    | 3 => show d.length ≤ 60; omega
    | 4 => show e.length ≤ 60; omega
    | k + 5 => simp [pcN]
set_option maxRecDepth 10000 in
set_option maxHeartbeats 4000000 in
theorem law_FnLatest (v : Value) (n : Nat) (w : World) (hn : n ≤ 9223372036854775807) (hc : CodeAt w w.heap.size v n) (hg : RchIs w) :
    Calls Tryd.prog 4 #[v] w fun e w' => e = .returned (.bool true) ∧ Below w.heap.size w w' := by
  have HC : Hid (CodeAt w w.heap.size v n) := hc
  have HG : Hid (∀ W, Below w.heap.size w W → RchIs W) := fun W hb => hg.up hb
  obtain ⟨va, cap, rfl, -⟩ := hc
  clear hg
  by_cases hbig : 1048576 < n
  · have HB : Hid (∀ w, Calls Tryd.prog 7 #[.slice va n cap] w fun e w' => e = .returned (.bool true) ∧ w' = w) := by
      intro w; have := big_any va n cap w hn; rwa [decide_eq_true hbig] at this
    go_enter Tryd.func4, Tryd.ntmps4
    go_wp2_with (go_at_call 7; refine (HB.out _).mono ?_; rintro e w1 ⟨rfl, hw⟩; have hw2 := hw.symm; subst hw2)
    go_ret
    exact ⟨rfl, Below.refl _ _⟩
  · have HB : Hid (∀ w, Calls Tryd.prog 7 #[.slice va n cap] w fun e w' => e = .returned (.bool false) ∧ w' = w) := by
      intro w; have := big_any va n cap w hn; rwa [decide_eq_false hbig] at this
    have HN : Hid (n ≤ 1048576) := by show n ≤ 1048576; omega
    go_enter Tryd.func4, Tryd.ntmps4
    go_wp2_with fail
    refine (HB.out _).mono ?_
    rintro e w1 ⟨rfl, hw⟩
    have hw2 := hw.symm
    subst hw2
    clear HB
    go_wp2_with fail
    refine (drawCron_any _ n _ HN.out HC.out).mono ?_
    rintro x w2 ⟨v0, v1, v2, v3, v4, a, b, c, d, e, m, rfl, ⟨⟨r0, r1, r2, r3, r4⟩, hcr⟩, m0, m1, B2⟩
    obtain ⟨p0, s0, rfl, -⟩ := id r0
    obtain ⟨p1, s1, rfl, -⟩ := id r1
    obtain ⟨o2, k2, rfl, -⟩ := id r2
    obtain ⟨o3, k3, rfl, -⟩ := id r3
    obtain ⟨o4, k4, rfl, -⟩ := id r4
    have hsh := cron_short hcr
    have HRA : Hid (Reads w2 (.slice p0 a.length s0) a ∧ Reads w2 (.slice p1 b.length s1) b) := ⟨r0, r1⟩
    have HAB : Hid (a.length ≤ 60 ∧ b.length ≤ 60) := ⟨hsh.1, by omega⟩
    have HCA : Hid (∀ W, Below w2.heap.size w2 W → CodeAt W W.heap.size (.slice va n cap) n) := fun W hb => HC.out.on (Below.on B2 hb)
    have HW : Hid (Below w.heap.size w w2) := B2
    clear r0 r1 r2 r3 r4 hsh HC hcr B2
    generalize hq0 : a.length = q0 at *
    generalize hq1 : b.length = q1 at *
    generalize hm2 : c.length = m2 at *
    generalize hm3 : d.length = m3 at *
    generalize hm4 : e.length = m4 at *
    have HQ : Hid (a.length = q0 ∧ b.length = q1) := ⟨hq0, hq1⟩
    clear hq0 hq1 hm2 hm3 hm4
    clear c d e
    obtain ⟨S, HSS⟩ : ∃ S : ByteArray, Hid (({ data := #[42, 32, 42, 32, 42, 32, 42, 32, 42] } : ByteArray) = S ∧ S.size ≤ 1048576) := ⟨_, rfl, by decide⟩
    go_wp2_with fail
    refine (parseCron_any _ _ (by decide)).mono ?_
    rintro x w3 ⟨u0, u1, u2, u3, u4, rfl, t0, t1, t2, t3, t4, hb3⟩
    have HX3 : Hid (B5 26 w3 w2.heap.size (.slice p0 q0 s0) (.slice p1 q1 s1) (.slice o2 m2 k2) (.slice o3 m3 k3) (.slice o4 m4 k4)) := (B5.new 26 w2 _ _ _ _ _).up hb3
    have HB3 : Hid (Below w2.heap.size w2 w3) := below_new hb3
    have hsz : w2.heap.size < w3.heap.size := HX3.out.lt
    obtain ⟨z0, y0, x0, rfl⟩ := t0.slice3
    obtain ⟨z1, y1, x1, rfl⟩ := t1.slice3
    obtain ⟨z2, y2, x2, rfl⟩ := t2.slice3
    obtain ⟨z3, y3, x3, rfl⟩ := t3.slice3
    obtain ⟨z4, y4, x4, rfl⟩ := t4.slice3
    obtain ⟨c, HCc⟩ : ∃ c, Hid (pcN (pcO ({ data := #[42, 32, 42, 32, 42, 32, 42, 32, 42] } : ByteArray)) 2 = c ∧ c.length ≤ 60) := ⟨_, rfl, pcN_short _ _⟩
    obtain ⟨d, HCd⟩ : ∃ d, Hid (pcN (pcO ({ data := #[42, 32, 42, 32, 42, 32, 42, 32, 42] } : ByteArray)) 3 = d ∧ d.length ≤ 60) := ⟨_, rfl, pcN_short _ _⟩
    obtain ⟨e, HCe⟩ : ∃ e, Hid (pcN (pcO ({ data := #[42, 32, 42, 32, 42, 32, 42, 32, 42] } : ByteArray)) 4 = e ∧ e.length ≤ 60) := ⟨_, rfl, pcN_short _ _⟩
    rw [HCc.out.1] at t2
    rw [HCd.out.1] at t3
    rw [HCe.out.1] at t4
    have bs : (w2.alloc (.cells #[.slice p0 q0 s0, .slice p1 q1 s1, .slice o2 m2 k2, .slice o3 m3 k3, .slice o4 m4 k4] 26)).heap.size = w2.heap.size + 1 := by simp
    have HRC : Hid (Reads w3 (.slice z2 y2 x2) c ∧ Reads w3 (.slice z3 y3 x3) d ∧ Reads w3 (.slice z4 y4 x4) e) := ⟨t2.reads, t3.reads, t4.reads⟩
    have HBC : Hid (∀ x, z2 = some x ∨ z3 = some x ∨ z4 = some x → x.block ≠ w2.heap.size) := by
      rintro x (h | h | h)
      · have := t2.blockOf x h; omega
      · have := t3.blockOf x h; omega
      · have := t4.blockOf x h; omega
    obtain ⟨okq, hokq⟩ : ∃ q, (pcO ({ data := #[42, 32, 42, 32, 42, 32, 42, 32, 42] } : ByteArray)).isSome = q := ⟨_, rfl⟩
    rw [hokq]
    clear hokq t0 t1 t2 t3 t4 hb3 bs HSS
    -- the second box, and the three stores
    have HX4 : Hid (B5 26 (w3.alloc (.cells #[.slice z0 y0 x0, .slice z1 y1 x1, .slice z2 y2 x2, .slice z3 y3 x3, .slice z4 y4 x4] 26)) w2.heap.size (.slice p0 q0 s0) (.slice p1 q1 s1) (.slice o2 m2 k2) (.slice o3 m3 k3) (.slice o4 m4 k4)) := HX3.out.alloc _
    have HY4 : Hid (B5 26 (w3.alloc (.cells #[.slice z0 y0 x0, .slice z1 y1 x1, .slice z2 y2 x2, .slice z3 y3 x3, .slice z4 y4 x4] 26)) w3.heap.size (.slice z0 y0 x0) (.slice z1 y1 x1) (.slice z2 y2 x2) (.slice z3 y3 x3) (.slice z4 y4 x4)) := B5.new 26 w3 _ _ _ _ _
    obtain ⟨w4, HW4⟩ : ∃ w4, Hid (w3.alloc (.cells #[.slice z0 y0 x0, .slice z1 y1 x1, .slice z2 y2 x2, .slice z3 y3 x3, .slice z4 y4 x4] 26) = w4) := ⟨_, rfl⟩
    have HB4 : Hid (Below w2.heap.size w2 w4) := by show Below _ _ _; rw [← HW4.out]; exact ba HB3.out _
    have HRC4 : Hid (Reads w4 (.slice z2 y2 x2) c ∧ Reads w4 (.slice z3 y3 x3) d ∧ Reads w4 (.slice z4 y4 x4) e) := by show _ ∧ _ ∧ _; rw [← HW4.out]; exact ⟨HRC.out.1.alloc _, HRC.out.2.1.alloc _, HRC.out.2.2.alloc _⟩
    rw [HW4.out] at HX4 HY4
    have c2' := HX4.out.c2
    have c3' := HX4.out.c3
    have c4' := HX4.out.c4
    have fr2 := HX4.out.fr 2
    have fr3 := HX4.out.fr 3
    have fr4 := HX4.out.fr 4
    have d2 := HY4.out.c2
    have d3 := HY4.out.c3
    have d4 := HY4.out.c4
    have hne : w3.heap.size ≠ w2.heap.size := by omega
    have e3 : (w4.setCell ⟨w2.heap.size, 2, none⟩ (.slice z2 y2 x2)).cell? ⟨w3.heap.size, 3, none⟩ = some (.slice z3 y3 x3) := cell_not d3 hne _
    have e4 : ((w4.setCell ⟨w2.heap.size, 2, none⟩ (.slice z2 y2 x2)).setCell ⟨w2.heap.size, 3, none⟩ (.slice z3 y3 x3)).cell? ⟨w3.heap.size, 4, none⟩ = some (.slice z4 y4 x4) := cell_not (cell_not d4 hne _) hne _
    obtain ⟨w5, HW5⟩ : ∃ w5, Hid (((w4.setCell ⟨w2.heap.size, 2, none⟩ (.slice z2 y2 x2)).setCell ⟨w2.heap.size, 3, none⟩ (.slice z3 y3 x3)).setCell ⟨w2.heap.size, 4, none⟩ (.slice z4 y4 x4) = w5) := ⟨_, rfl⟩
    have HX5 : Hid (B5 26 w5 w2.heap.size (.slice p0 q0 s0) (.slice p1 q1 s1) (.slice z2 y2 x2) (.slice z3 y3 x3) (.slice z4 y4 x4)) := by show B5 _ _ _ _ _ _ _ _; rw [← HW5.out]; exact ((HX4.out.s2 _).s3 _).s4 _
    have HB5 : Hid (Below w2.heap.size w2 w5) := by show Below _ _ _; rw [← HW5.out]; exact Below.setCell (Below.setCell (Below.setCell HB4.out (Nat.le_refl _) _) (Nat.le_refl _) _) (Nat.le_refl _) _
    have HS5 : Hid (Save w2.heap.size w4 w5) := by
      show Save _ _ _
      rw [← HW5.out]
      have h0 : Save w2.heap.size w4 (w4.setCell ⟨w2.heap.size, 2, none⟩ (.slice z2 y2 x2)) := (Save.refl _ w4).setCell (p := ⟨w2.heap.size, 2, none⟩) rfl _
      have h1 := h0.setCell (p := ⟨w2.heap.size, 3, none⟩) rfl (.slice z3 y3 x3)
      exact h1.setCell (p := ⟨w2.heap.size, 4, none⟩) rfl (.slice z4 y4 x4)
    have HRD : Hid (Reads w5 (.slice p0 q0 s0) a ∧ Reads w5 (.slice p1 q1 s1) b ∧ Reads w5 (.slice z2 y2 x2) c ∧ Reads w5 (.slice z3 y3 x3) d ∧ Reads w5 (.slice z4 y4 x4) e) := ⟨HRA.out.1.below HB5.out, HRA.out.2.below HB5.out, HRC4.out.1.save HS5.out (fun x h => HBC.out x (.inl h)), HRC4.out.2.1.save HS5.out (fun x h => HBC.out x (.inr (.inl h))), HRC4.out.2.2.save HS5.out (fun x h => HBC.out x (.inr (.inr h)))⟩
    clear HX3 HB3 HRA HRC HBC HY4 HS5
    go_wp2_with (rw [HW4.out])
    rw [HW5.out]
    clear c2' c3' c4' fr2 fr3 fr4 d2 d3 d4 e3 e4 hne HX4 HRC4 HB4 HW4 HW5 hsz
    refine (places_any _ n _ HN.out (HCA.out _ HB5.out)).mono ?_
    rintro x w6 ⟨u, l, rfl, hu, hl, hlx, hb6⟩
    have HX6 : Hid (B5 26 w6 w2.heap.size (.slice p0 q0 s0) (.slice p1 q1 s1) (.slice z2 y2 x2) (.slice z3 y3 x3) (.slice z4 y4 x4)) := HX5.out.up hb6
    have HB6 : Hid (Below w2.heap.size w2 w6) := Below.on HB5.out hb6
    have HR6 : Hid (Reads w6 (.slice p0 q0 s0) a ∧ Reads w6 (.slice p1 q1 s1) b ∧ Reads w6 (.slice z2 y2 x2) c ∧ Reads w6 (.slice z3 y3 x3) d ∧ Reads w6 (.slice z4 y4 x4) e) := ⟨HRD.out.1.below hb6, HRD.out.2.1.below hb6, HRD.out.2.2.1.below hb6, HRD.out.2.2.2.1.below hb6, HRD.out.2.2.2.2.below hb6⟩
    obtain ⟨rr, rc, _, rfl, -, hcell⟩ := ownsI_first hu hl
    obtain ⟨i0, hi0⟩ : ∃ t, l[0]? = some t := ⟨_, List.getElem?_eq_getElem (by omega)⟩
    have ci0 := hcell 0 i0 hi0
    have hx0 := hlx i0 (List.mem_of_getElem? hi0)
    have i00 := hx0.1
    have i01 := hx0.2
    clear hcell hu hl hlx hb6 hi0 hx0 HCA HN HRD HX5 HB5
    have HL : Hid (a.length ≤ 1048577 ∧ b.length ≤ 1048577 ∧ c.length ≤ 1048577 ∧ d.length ≤ 1048577 ∧ e.length ≤ 1048577) := by
      have h1 := HQ.out
      have h2 := HAB.out
      have h3 := HCc.out.2
      have h4 := HCd.out.2
      have h5 := HCe.out.2
      exact ⟨by omega, by omega, by omega, by omega, by omega⟩
    obtain ⟨ka, hka⟩ : ∃ k, i0 % 4000 = k := ⟨_, rfl⟩
    have ka0 : 0 ≤ ka := by omega
    have ka1 : ka < 4000 := by omega
    obtain ⟨G, HGL⟩ : ∃ G, Hid (spansL (fun m => nfO a b c d e m 400) m (m + ka) 200 = G) := ⟨_, rfl⟩
    have HG20 : Hid (spansL (fun m => nfO a b c d e m 400) m (m + ka) (if (20 : Int) < 20 then 20 else 20) = G.take 20) := by show _ = _; rw [← HGL.out]; exact spansL_take _ _ _ 20 200 (by decide) (by decide)
    have HIL : Hid (∀ W : World, Below w6.heap.size w6 W → Calls Tryd.prog 18 #[.agg #[.slice p0 q0 s0, .slice p1 q1 s1, .slice z2 y2 x2, .slice z3 y3 x3, .slice z4 y4 x4], .int .i64 m, .int .i64 (m + ka)] W fun x w' => x = .returned (.tuple #[.agg #[.int .i64 ((lastO G).getD ⟨0, 0⟩).fr, .int .i64 ((lastO G).getD ⟨0, 0⟩).up], .bool (lastO G).isSome]) ∧ Below W.heap.size W w') := fun W hb => by
      rw [← HGL.out]; exact implLatest_any _ _ _ _ _ a b c d e m (m + ka) W (HR6.out.1.below hb) (HR6.out.2.1.below hb) (HR6.out.2.2.1.below hb) (HR6.out.2.2.2.1.below hb) (HR6.out.2.2.2.2.below hb) HL.out.1 HL.out.2.1 HL.out.2.2.1 HL.out.2.2.2.1 HL.out.2.2.2.2 (HG.out W (Below.on HW.out (Below.on HB6.out hb)))
    have HSL : Hid (∀ W : World, Below w6.heap.size w6 W → Calls Tryd.prog 19 #[.agg #[.slice p0 q0 s0, .slice p1 q1 s1, .slice z2 y2 x2, .slice z3 y3 x3, .slice z4 y4 x4], .int .i64 m, .int .i64 (m + ka)] W fun x w' => x = .returned (.tuple #[.agg #[.int .i64 ((lastO G).getD ⟨0, 0⟩).fr, .int .i64 ((lastO G).getD ⟨0, 0⟩).up], .bool (lastO G).isSome]) ∧ Below W.heap.size W w') := fun W hb => by
      rw [← HGL.out]; exact latest_any _ _ _ _ _ a b c d e m (m + ka) W (HR6.out.1.below hb) (HR6.out.2.1.below hb) (HR6.out.2.2.1.below hb) (HR6.out.2.2.2.1.below hb) (HR6.out.2.2.2.2.below hb) HL.out.1 HL.out.2.1 HL.out.2.2.1 HL.out.2.2.2.1 HL.out.2.2.2.2
    have HSS : Hid (∀ W : World, Below w6.heap.size w6 W → Calls Tryd.prog 12 #[.agg #[.slice p0 q0 s0, .slice p1 q1 s1, .slice z2 y2 x2, .slice z3 y3 x3, .slice z4 y4 x4], .int .i64 m, .int .i64 (m + ka), .int .i64 20] W fun x w' => ∃ v', x = .returned v' ∧ ownsR w' W.heap.size 34 v' (G.take 20) ∧ Below W.heap.size W w') := fun W hb => by
      rw [← HG20.out]; exact spans_any _ _ _ _ _ a b c d e m (m + ka) 20 W (HR6.out.1.below hb) (HR6.out.2.1.below hb) (HR6.out.2.2.1.below hb) (HR6.out.2.2.2.1.below hb) (HR6.out.2.2.2.2.below hb) HL.out.1 HL.out.2.1 HL.out.2.2.1 HL.out.2.2.2.1 HL.out.2.2.2.2
    clear HGL HG20 HR6 HL HG HAB HQ HCc HCd HCe
    obtain ⟨lo, HLO⟩ : ∃ lo, Hid (lastO G = lo) := ⟨_, rfl⟩
    rw [HLO.out] at HIL HSL
    obtain ⟨sx, HSX⟩ : ∃ x, Hid ((lo.getD ⟨0, 0⟩).fr = x) := ⟨_, rfl⟩
    obtain ⟨sy, HSY⟩ : ∃ x, Hid ((lo.getD ⟨0, 0⟩).up = x) := ⟨_, rfl⟩
    rw [HSX.out, HSY.out] at HIL HSL
    have c0 := HX6.out.c0
    have c1 := HX6.out.c1
    have c2 := HX6.out.c2
    have c3 := HX6.out.c3
    have c4 := HX6.out.c4
    go_wp2_with fail
    refine (HIL.out _ (Below.refl _ _)).mono ?_
    rintro x w7' ⟨rfl, hb7⟩
    have X7 := (HX6.out.up hb7).alloc (.cells #[.int .i64 sx, .int .i64 sy] 34)
    have D7 := C2.new 34 w7' (.int .i64 sx) (.int .i64 sy)
    have B7 : Below w6.heap.size w6 (w7'.alloc (.cells #[.int .i64 sx, .int .i64 sy] 34)) := ba hb7 _
    clear hb7 c0 c1 c2 c3 c4 ci0 HIL
    have c0 := X7.c0
    have c1 := X7.c1
    have c2 := X7.c2
    have c3 := X7.c3
    have c4 := X7.c4
    go_wp2_with fail
    refine (HSL.out _ B7).mono ?_
    rintro x w8' ⟨rfl, hb8⟩
    have X8 := (X7.up hb8).alloc (.cells #[.int .i64 sx, .int .i64 sy] 34)
    have D8 := (D7.up hb8).up (ba (Below.refl _ _) (.cells #[.int .i64 sx, .int .i64 sy] 34))
    have E8 := C2.new 34 w8' (.int .i64 sx) (.int .i64 sy)
    have B8 : Below w6.heap.size w6 (w8'.alloc (.cells #[.int .i64 sx, .int .i64 sy] 34)) := ba (Below.on B7 hb8) _
    clear hb8 c0 c1 c2 c3 c4 X7 B7 D7 HSL
    have c0 := X8.c0
    have c1 := X8.c1
    have c2 := X8.c2
    have c3 := X8.c3
    have c4 := X8.c4
    go_wp2_with fail
    refine (HSS.out _ B8).mono ?_
    rintro x w9 ⟨v', rfl, ho, hb9⟩
    have D9 := D8.up hb9
    have E9 := E8.up hb9
    have BY : Below w.heap.size w w9 := Below.on HW.out (Below.on HB6.out (Below.on B8 hb9))
    have HRD : Hid (Reads w9 v' (G.take 20)) := ho.reads
    obtain ⟨r0, r1, r2, rfl⟩ := ho.slice3
    have hr1 : r1 = (G.take 20).length := HRD.out.len
    clear hb9 c0 c1 c2 c3 c4 X8 B8 D8 E8 HSS ho
    have d0 := D9.c0
    have d1 := D9.c1
    have e0 := E9.c0
    have e1 := E9.c1
    have he : ∀ wx, (binOp .neq 34 (.agg #[.int .i64 sx, .int .i64 sy]) (.agg #[.int .i64 sx, .int .i64 sy])).run Tryd.prog wx = .ok (.bool false) wx := fun wx => by rw [run_ne_sp]; simp
    have heq : ∀ wx, (binOp .eql 34 (.agg #[.int .i64 sx, .int .i64 sy]) (.agg #[.int .i64 sx, .int .i64 sy])).run Tryd.prog wx = .ok (.bool true) wx := fun wx => run_eq_sp sx sy wx
    by_cases hG : G.length = 0
    · have h2 : G = [] := List.eq_nil_of_length_eq_zero hG
      have h3 : lo = none := by rw [← HLO.out, h2]; rfl
      subst h2 h3
      have h4 : r1 = 0 := by rw [hr1]; rfl
      subst h4
      clear hr1 hG HRD
      go_wp2
      go_quiet (fail)
      go_wp2
      go_ret
      exact ⟨rfl, bdrewN BY _⟩
    · obtain ⟨x, hx⟩ : ∃ x, G[G.length - 1]? = some x := ⟨_, List.getElem?_eq_getElem (by omega)⟩
      have h3 : lo = some x := by rw [← HLO.out]; unfold lastO; rw [if_neg hG, hx]
      subst h3
      have hsx : x.fr = sx := HSX.out
      have hsy : x.up = sy := HSY.out
      by_cases h20 : G.length < 20
      · have ht : G.take 20 = G := List.take_of_length_le (by omega)
        rw [ht] at HRD hr1
        obtain ⟨k, hk⟩ : ∃ k, G.length = k + 1 := ⟨G.length - 1, by omega⟩
        rw [hk] at hr1 hx
        rw [Nat.add_sub_cancel] at hx
        obtain ⟨b, o, rfl, hb, f0, f1⟩ := sp_at HRD.out hx
        rw [hsx] at f0
        rw [hsy] at f1
        have hk20 : k < 19 := by omega
        clear hx ht hG h20 hk HLO HRD hsx hsy HSX HSY
        have g1 : IntKind.i64.wrap ((r1 : Int) - 1) = (k : Int) := by rw [IntKind.wrap_i64] <;> omega
        have g2 : ((r1 : Int) == 20) = false := beq_eq_false_iff_ne.2 (by omega)
        have g3 : (k : Int) < (r1 : Int) := by omega
        have g4 : (0 : Int) < (r1 : Int) := by omega
        have g6 : k < r1 := by omega
        have g5 : decide (0 < r1) = true := decide_eq_true (by omega)
        have g7 : (r1 : Int) - 1 = (k : Int) := by omega
        clear hr1
        go_wp2
        go_quiet (fail)
        go_wp2
        go_ret
        exact ⟨rfl, bdrewN BY _⟩
      · have ht : (G.take 20).length = 20 := by rw [List.length_take]; omega
        rw [ht] at hr1
        subst hr1
        clear hx ht hG h20 HLO HRD hsx hsy HSX HSY
        go_wp2
        go_quiet (fail)
        go_wp2
        go_ret
        exact ⟨rfl, bdrewN BY _⟩
end Go.Proofs.YtbecdaholpiaeaaDoor
