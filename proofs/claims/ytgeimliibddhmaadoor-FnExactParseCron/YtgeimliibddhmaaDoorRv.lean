/-
  What the two readers of numbers answer: the walks.
-/
import Derived.Test.YtgeimliibddhmaaDoorVar
import Derived.Test.YtgeimliibddhmaaDoorRvm
namespace Go.Proofs.YtgeimliibddhmaaDoor
open Go.RowKit

theorem pow_le {k : Nat} (h : k ≤ 4) : 1 ≤ 128 ^ k ∧ 128 ^ k ≤ 268435456 := by
  match k, h with
  | 0, _ | 1, _ | 2, _ | 3, _ | 4, _ => decide
theorem mul_bd (b q : Nat) (h2 : q ≤ 268435456) : 0 ≤ (b : Int) % 128 * (q : Int) ∧ (b : Int) % 128 * (q : Int) ≤ 34091302912 ∧ ((b % 128 * q : Nat) : Int) = (b : Int) % 128 * (q : Int) := by
  have e : ((b % 128 * q : Nat) : Int) = (b : Int) % 128 * (q : Int) := by simp
  have h3 : b % 128 * q ≤ 127 * 268435456 := Nat.mul_le_mul (by omega) h2
  rw [← e]
  omega

section
variable {s : ByteArray} {a i k N q : Nat} {R : Int × Int × Bool}
theorem rv_end (HR : Hid (R = rvGo s (5 - k) i k N)) (HK : Hid (a + k = i)) (hk : k ≤ 5) (h : ¬ (i < s.size ∧ i < a + 5)) : Ending.returned (rvV (0, 0, false)) = .returned (rvV R) := by
  rw [HR.out]
  have := HK.out
  by_cases h1 : i < s.size
  · have : k = 5 := by omega
    subst this
    rfl
  · rw [rvGo_end h1]
theorem rv_bad (HR : Hid (R = rvGo s (5 - k) i k N)) (HQ : Hid (128 ^ k = q)) (HK : Hid (a + k = i)) {h : i < s.size} (HM : Hid (((s[i].toNat % 128 * q : Nat) : Int) = (s[i].toNat : Int) % 128 * (q : Int)))
    (hk : k ≤ 4) (hlt : i < s.size) (hb : ¬ 127 < s[i].toNat) (hx : 1000000000 < (N : Int) + (s[i].toNat : Int) % 128 * (q : Int) ∨ (s[i].toNat = 0 ∧ a < i)) :
    Ending.returned (rvV (0, 0, false)) = .returned (rvV R) := by
  rw [HR.out, show 5 - k = (4 - k) + 1 by omega, rvGo_bad hlt (by omega)]
  have e1 := HK.out
  have e2 := HM.out
  rw [HQ.out]
  rcases hx with hx | hx
  · left; omega
  · right; omega
theorem rv_ok (HR : Hid (R = rvGo s (5 - k) i k N)) (HQ : Hid (128 ^ k = q)) (HK : Hid (a + k = i)) {h : i < s.size} (HM : Hid (((s[i].toNat % 128 * q : Nat) : Int) = (s[i].toNat : Int) % 128 * (q : Int)))
    (hk : k ≤ 4) (hlt : i < s.size) (hb : ¬ 127 < s[i].toNat) (hx : (N : Int) + (s[i].toNat : Int) % 128 * (q : Int) ≤ 1000000000) (hz : ¬ s[i].toNat = 0 ∨ ¬ a < i) :
    Ending.returned (rvV ((N : Int) + (s[i].toNat : Int) % 128 * (q : Int), (i : Int) + 1, true)) = .returned (rvV R) := by
  have e1 := HK.out
  have e2 := HM.out
  rw [HR.out, show 5 - k = (4 - k) + 1 by omega, rvGo_ok hlt (by omega) (by rw [HQ.out]; omega), HQ.out]
  congr 2
theorem rv_ok0 (HR : Hid (R = rvGo s (5 - k) i k N)) (HQ : Hid (128 ^ k = q)) (HK : Hid (a + k = i)) {h : i < s.size} (HM : Hid (((s[i].toNat % 128 * q : Nat) : Int) = (s[i].toNat : Int) % 128 * (q : Int)))
    (hk : k ≤ 4) (hlt : i < s.size) (hb : ¬ 127 < s[i].toNat) (hx : (N : Int) + (s[i].toNat : Int) % 128 * (q : Int) ≤ 1000000000) (h0 : s[i].toNat = 0) (hz : ¬ a < i) :
    Ending.returned (rvV ((N : Int), (i : Int) + 1, true)) = .returned (rvV R) := by
  rw [← rv_ok HR HQ HK HM hk hlt hb hx (Or.inr hz), h0]
  simp
theorem rv_more (HR : Hid (R = rvGo s (5 - k) i k N)) (HQ : Hid (128 ^ k = q)) (HK : Hid (a + k = i)) {h : i < s.size} (HM : Hid (((s[i].toNat % 128 * q : Nat) : Int) = (s[i].toNat : Int) % 128 * (q : Int)))
    (hk : k ≤ 4) (hlt : i < s.size) (hb : 127 < s[i].toNat) (hN : N < q) :
    ∃ i' k' N' q' : Nat, k' ≤ 5 ∧ i' ≤ s.size ∧ a + k' = i' ∧ 128 ^ k' = q' ∧ N' < q' ∧ Value.int .i64 ((N : Int) + (s[i].toNat : Int) % 128 * (q : Int)) = .int .i64 N' ∧ Value.int .i64 ((q : Int) * 128) = .int .i64 q' ∧ Value.int .i64 ((i : Int) + 1) = .int .i64 i' ∧ R = rvGo s (5 - k') i' k' N' := by
  have e1 := HK.out
  have e2 := HM.out
  have e3 : s[i].toNat % 128 * q ≤ 127 * q := Nat.mul_le_mul (by omega) (Nat.le_refl _)
  refine ⟨i + 1, k + 1, N + s[i].toNat % 128 * q, q * 128, by omega, by omega, by omega, ?_, by omega, ?_, ?_, ?_, ?_⟩
  · rw [Nat.pow_succ, HQ.out]
  · congr 1
  · congr 1
  · congr 1
  · rw [HR.out, show 5 - k = (4 - k) + 1 by omega, rvGo_more hlt (by omega), HQ.out]
    congr 1
    omega
end

end Go.Proofs.YtgeimliibddhmaaDoor
