/-
  What the two readers of numbers answer: the walks.
-/
import Derived.Test.YtehkebdncfljmaaVar
import Derived.Test.YtehkebdncfljmaaRvm
namespace Go.Proofs.Ytehkebdncfljmaa
open Go.RowKit

set_option maxRecDepth 10000 in
set_option maxHeartbeats 400000 in
theorem readVar_bad (s : ByteArray) (at' : Int) (w : World) (h : at' < 0 ∨ (s.size : Int) < at') :
    Calls Try.prog 40 #[.string s, .int .i64 at'] w fun e w' => e = .returned (rvV (0, 0, false)) ∧ w' = w := by
  rcases h with h | h
  · go_enter Try.func40, Try.ntmps40
    go_wp2
    go_ret3
    exact ⟨rfl, rfl⟩
  · have h0 : ¬ at' < 0 := by omega
    go_enter Try.func40, Try.ntmps40
    go_wp2
    go_ret3
    exact ⟨rfl, rfl⟩

theorem pow_le {k : Nat} (h : k ≤ 4) : 1 ≤ 128 ^ k ∧ 128 ^ k ≤ 268435456 := by
  match k, h with
  | 0, _ | 1, _ | 2, _ | 3, _ | 4, _ => decide
theorem mul_bd (b q : Nat) (h2 : q ≤ 268435456) : 0 ≤ (b : Int) % 128 * (q : Int) ∧ (b : Int) % 128 * (q : Int) ≤ 34091302912 ∧ ((b % 128 * q : Nat) : Int) = (b : Int) % 128 * (q : Int) := by
  have e : ((b % 128 * q : Nat) : Int) = (b : Int) % 128 * (q : Int) := by simp
  have h3 : b % 128 * q ≤ 127 * 268435456 := Nat.mul_le_mul (by omega) h2
  rw [← e]
  omega

section
variable {s : ByteArray} {a i k N q : Nat} {R : Int × Int × Bool}
theorem rv_end (HR : Hid (R = rvGo s (5 - k) i k N)) (HK : Hid (a + k = i)) (hk : k ≤ 5) (h : ¬ (i < s.size ∧ i < a + 5)) : Ending.returned (rvV (0, 0, false)) = .returned (rvV R) := by
  rw [HR.out]
  have := HK.out
  by_cases h1 : i < s.size
  · have : k = 5 := by omega
    subst this
    rfl
  · rw [rvGo_end h1]
theorem rv_bad (HR : Hid (R = rvGo s (5 - k) i k N)) (HQ : Hid (128 ^ k = q)) (HK : Hid (a + k = i)) {h : i < s.size} (HM : Hid (((s[i].toNat % 128 * q : Nat) : Int) = (s[i].toNat : Int) % 128 * (q : Int)))
    (hk : k ≤ 4) (hlt : i < s.size) (hb : ¬ 127 < s[i].toNat) (hx : 1000000000 < (N : Int) + (s[i].toNat : Int) % 128 * (q : Int) ∨ (s[i].toNat = 0 ∧ a < i)) :
    Ending.returned (rvV (0, 0, false)) = .returned (rvV R) := by
  rw [HR.out, show 5 - k = (4 - k) + 1 by omega, rvGo_bad hlt (by omega)]
  have e1 := HK.out
  have e2 := HM.out
  rw [HQ.out]
  rcases hx with hx | hx
  · left; omega
  · right; omega
theorem rv_ok (HR : Hid (R = rvGo s (5 - k) i k N)) (HQ : Hid (128 ^ k = q)) (HK : Hid (a + k = i)) {h : i < s.size} (HM : Hid (((s[i].toNat % 128 * q : Nat) : Int) = (s[i].toNat : Int) % 128 * (q : Int)))
    (hk : k ≤ 4) (hlt : i < s.size) (hb : ¬ 127 < s[i].toNat) (hx : (N : Int) + (s[i].toNat : Int) % 128 * (q : Int) ≤ 1000000000) (hz : ¬ s[i].toNat = 0 ∨ ¬ a < i) :
    Ending.returned (rvV ((N : Int) + (s[i].toNat : Int) % 128 * (q : Int), (i : Int) + 1, true)) = .returned (rvV R) := by
  have e1 := HK.out
  have e2 := HM.out
  rw [HR.out, show 5 - k = (4 - k) + 1 by omega, rvGo_ok hlt (by omega) (by rw [HQ.out]; omega), HQ.out]
  congr 2
theorem rv_ok0 (HR : Hid (R = rvGo s (5 - k) i k N)) (HQ : Hid (128 ^ k = q)) (HK : Hid (a + k = i)) {h : i < s.size} (HM : Hid (((s[i].toNat % 128 * q : Nat) : Int) = (s[i].toNat : Int) % 128 * (q : Int)))
    (hk : k ≤ 4) (hlt : i < s.size) (hb : ¬ 127 < s[i].toNat) (hx : (N : Int) + (s[i].toNat : Int) % 128 * (q : Int) ≤ 1000000000) (h0 : s[i].toNat = 0) (hz : ¬ a < i) :
    Ending.returned (rvV ((N : Int), (i : Int) + 1, true)) = .returned (rvV R) := by
  rw [← rv_ok HR HQ HK HM hk hlt hb hx (Or.inr hz), h0]
  simp
theorem rv_more (HR : Hid (R = rvGo s (5 - k) i k N)) (HQ : Hid (128 ^ k = q)) (HK : Hid (a + k = i)) {h : i < s.size} (HM : Hid (((s[i].toNat % 128 * q : Nat) : Int) = (s[i].toNat : Int) % 128 * (q : Int)))
    (hk : k ≤ 4) (hlt : i < s.size) (hb : 127 < s[i].toNat) (hN : N < q) :
    ∃ i' k' N' q' : Nat, k' ≤ 5 ∧ i' ≤ s.size ∧ a + k' = i' ∧ 128 ^ k' = q' ∧ N' < q' ∧ Value.int .i64 ((N : Int) + (s[i].toNat : Int) % 128 * (q : Int)) = .int .i64 N' ∧ Value.int .i64 ((q : Int) * 128) = .int .i64 q' ∧ Value.int .i64 ((i : Int) + 1) = .int .i64 i' ∧ R = rvGo s (5 - k') i' k' N' := by
  have e1 := HK.out
  have e2 := HM.out
  have e3 : s[i].toNat % 128 * q ≤ 127 * q := Nat.mul_le_mul (by omega) (Nat.le_refl _)
  refine ⟨i + 1, k + 1, N + s[i].toNat % 128 * q, q * 128, by omega, by omega, by omega, ?_, by omega, ?_, ?_, ?_, ?_⟩
  · rw [Nat.pow_succ, HQ.out]
  · congr 1
  · congr 1
  · congr 1
  · rw [HR.out, show 5 - k = (4 - k) + 1 by omega, rvGo_more hlt (by omega), HQ.out]
    congr 1
    omega
end

set_option maxRecDepth 10000 in
set_option maxHeartbeats 1000000 in
theorem readVar_in1 (s : ByteArray) (a : Nat) (w : World) (ha : a ≤ s.size) (hs : s.size ≤ 1048576) (hmin : (s.size : Int) ≤ (a : Int) + 5) :
    Calls Try.prog 40 #[.string s, .int .i64 a] w fun e w' => e = .returned (rvV (rvGo s 5 a 0 0)) ∧ w' = w := by
  have h0 : ¬ (a : Int) < 0 := by omega
  have h1 : ¬ (s.size : Int) < a := by omega
  go_enter Try.func40, Try.ntmps40
  go_wp2
  · go_loop [7, 8, 10] (fun n sc pl => ∃ i k N q : Nat, k ≤ 5 ∧ i ≤ s.size ∧ a + k = i ∧ 128 ^ k = q ∧ N < q ∧ n = .int .i64 N ∧ sc = .int .i64 q ∧ pl = .int .i64 i ∧ rvGo s 5 a 0 0 = rvGo s (5 - k) i k N) (fun _ _ pl => s.size - (intOf pl).toNat)
    case atStart => exact ⟨a, 0, 0, 1, by omega, ha, rfl, rfl, by omega, rfl, rfl, rfl, rfl⟩
    case round =>
      obtain ⟨i, k, N, q, hk, hi, hik, hq, hN, rfl, rfl, rfl, hr⟩ := hrel
      have HR : Hid (rvGo s 5 a 0 0 = rvGo s (5 - k) i k N) := hr
      have HQ : Hid (128 ^ k = q) := hq
      have HK : Hid (a + k = i) := hik
      have hai : a ≤ i := by omega
      have hia : i ≤ a + 5 := by omega
      clear hr hq hik
      by_cases hgo : i < s.size ∧ i < a + 5
      · obtain ⟨hlt, h5⟩ := hgo
        have hk4 : k ≤ 4 := by have := HK.out; omega
        have hq1 : 1 ≤ q ∧ q ≤ 268435456 := by rw [← HQ.out]; exact pow_le hk4
        have hm := mul_bd s[i].toNat q hq1.2
        have HM2 : Hid (((s[i].toNat % 128 * q : Nat) : Int) = (s[i].toNat : Int) % 128 * (q : Int)) := hm.2.2
        have hm1 := hm.1
        have hm2 := hm.2.1
        obtain ⟨hqa, hqb⟩ := hq1
        clear hm
        have h256 := s[i].toNat_lt
        by_cases hb : 127 < s[i].toNat
        · go_wp2
          go_round
          case rel => exact rv_more HR HQ HK HM2 hk4 hlt hb hN
          case measure => simp [intOf]; omega
        · by_cases hz : s[i].toNat = 0 ∧ a < i
          · obtain ⟨hz, hz2⟩ := hz
            go_wp2
            go_ret3
            exact ⟨rv_bad HR HQ HK HM2 hk4 hlt hb (Or.inr ⟨hz, hz2⟩), rfl⟩
          · by_cases hx : 1000000000 < (N : Int) + (s[i].toNat : Int) % 128 * (q : Int)
            · by_cases hz0 : s[i].toNat = 0
              · exfalso
                have hz2 : ¬ a < i := fun h => hz ⟨hz0, h⟩
                have hk0 : k = 0 := by have := HK.out; omega
                have hq0 := HQ.out
                rw [hk0] at hq0
                rw [hz0] at hx
                simp at hx hq0
                omega
              · clear hz
                go_wp2
                go_ret3
                exact ⟨rv_bad HR HQ HK HM2 hk4 hlt hb (Or.inl hx), rfl⟩
            · by_cases hz0 : s[i].toNat = 0
              · have hz2 : ¬ a < i := fun h => hz ⟨hz0, h⟩
                clear hz
                go_wp2
                go_ret3
                exact ⟨rv_ok0 HR HQ HK HM2 hk4 hlt (by omega) (by omega) hz0 (by omega), rfl⟩
              · clear hz
                go_wp2
                go_ret3
                exact ⟨rv_ok HR HQ HK HM2 hk4 hlt hb (by omega) (Or.inl hz0), rfl⟩
      · go_wp2
        go_ret3
        exact ⟨rv_end HR HK hk hgo, rfl⟩

set_option maxRecDepth 10000 in
set_option maxHeartbeats 1000000 in
theorem readVar_in2 (s : ByteArray) (a : Nat) (w : World) (ha : a ≤ s.size) (hs : s.size ≤ 1048576) (hmin : ¬ (s.size : Int) ≤ (a : Int) + 5) :
    Calls Try.prog 40 #[.string s, .int .i64 a] w fun e w' => e = .returned (rvV (rvGo s 5 a 0 0)) ∧ w' = w := by
  have h0 : ¬ (a : Int) < 0 := by omega
  have h1 : ¬ (s.size : Int) < a := by omega
  go_enter Try.func40, Try.ntmps40
  go_wp2
  · go_loop [7, 8, 10] (fun n sc pl => ∃ i k N q : Nat, k ≤ 5 ∧ i ≤ s.size ∧ a + k = i ∧ 128 ^ k = q ∧ N < q ∧ n = .int .i64 N ∧ sc = .int .i64 q ∧ pl = .int .i64 i ∧ rvGo s 5 a 0 0 = rvGo s (5 - k) i k N) (fun _ _ pl => s.size - (intOf pl).toNat)
    case atStart => exact ⟨a, 0, 0, 1, by omega, ha, rfl, rfl, by omega, rfl, rfl, rfl, rfl⟩
    case round =>
      obtain ⟨i, k, N, q, hk, hi, hik, hq, hN, rfl, rfl, rfl, hr⟩ := hrel
      have HR : Hid (rvGo s 5 a 0 0 = rvGo s (5 - k) i k N) := hr
      have HQ : Hid (128 ^ k = q) := hq
      have HK : Hid (a + k = i) := hik
      have hai : a ≤ i := by omega
      have hia : i ≤ a + 5 := by omega
      clear hr hq hik
      by_cases hgo : i < s.size ∧ i < a + 5
      · obtain ⟨hlt, h5⟩ := hgo
        have hk4 : k ≤ 4 := by have := HK.out; omega
        have hq1 : 1 ≤ q ∧ q ≤ 268435456 := by rw [← HQ.out]; exact pow_le hk4
        have hm := mul_bd s[i].toNat q hq1.2
        have HM2 : Hid (((s[i].toNat % 128 * q : Nat) : Int) = (s[i].toNat : Int) % 128 * (q : Int)) := hm.2.2
        have hm1 := hm.1
        have hm2 := hm.2.1
        obtain ⟨hqa, hqb⟩ := hq1
        clear hm
        have h256 := s[i].toNat_lt
        by_cases hb : 127 < s[i].toNat
        · go_wp2
          go_round
          case rel => exact rv_more HR HQ HK HM2 hk4 hlt hb hN
          case measure => simp [intOf]; omega
        · by_cases hz : s[i].toNat = 0 ∧ a < i
          · obtain ⟨hz, hz2⟩ := hz
            go_wp2
            go_ret3
            exact ⟨rv_bad HR HQ HK HM2 hk4 hlt hb (Or.inr ⟨hz, hz2⟩), rfl⟩
          · by_cases hx : 1000000000 < (N : Int) + (s[i].toNat : Int) % 128 * (q : Int)
            · by_cases hz0 : s[i].toNat = 0
              · exfalso
                have hz2 : ¬ a < i := fun h => hz ⟨hz0, h⟩
                have hk0 : k = 0 := by have := HK.out; omega
                have hq0 := HQ.out
                rw [hk0] at hq0
                rw [hz0] at hx
                simp at hx hq0
                omega
              · clear hz
                go_wp2
                go_ret3
                exact ⟨rv_bad HR HQ HK HM2 hk4 hlt hb (Or.inl hx), rfl⟩
            · by_cases hz0 : s[i].toNat = 0
              · have hz2 : ¬ a < i := fun h => hz ⟨hz0, h⟩
                clear hz
                go_wp2
                go_ret3
                exact ⟨rv_ok0 HR HQ HK HM2 hk4 hlt (by omega) (by omega) hz0 (by omega), rfl⟩
              · clear hz
                go_wp2
                go_ret3
                exact ⟨rv_ok HR HQ HK HM2 hk4 hlt hb (by omega) (Or.inl hz0), rfl⟩
      · go_wp2
        go_ret3
        exact ⟨rv_end HR HK hk hgo, rfl⟩

theorem readVar_in (s : ByteArray) (a : Nat) (w : World) (ha : a ≤ s.size) (hs : s.size ≤ 1048576) :
    Calls Try.prog 40 #[.string s, .int .i64 a] w fun e w' => e = .returned (rvV (rvGo s 5 a 0 0)) ∧ w' = w := by
  by_cases h : (s.size : Int) ≤ (a : Int) + 5
  · exact readVar_in1 s a w ha hs h
  · exact readVar_in2 s a w ha hs h

end Go.Proofs.Ytehkebdncfljmaa
