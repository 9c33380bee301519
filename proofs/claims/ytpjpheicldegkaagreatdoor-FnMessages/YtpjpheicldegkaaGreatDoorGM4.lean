/- Rv,Rvs -/
import Derived.Test.YtpjpheicldegkaaGreatDoorGM1
import Derived.Deep.QuietTactic
import Derived.BigQuiet
import Derived.Deep.RegionWith
import Derived.Deep.RegionHeld
namespace Go.Proofs.YtpjpheicldegkaaGreatDoor
open Go.RowKit

set_option maxRecDepth 10000 in
set_option maxHeartbeats 400000 in
theorem readVar_bad (s : ByteArray) (at' : Int) (w : World) (h : at' < 0 ∨ (s.size : Int) < at') :
    Calls Tryz.prog 80 #[.string s, .int .i64 at'] w fun e w' => e = .returned (rvV (0, 0, false)) ∧ w' = w := by
  rcases h with h | h
  · go_enter Tryz.func80, Tryz.ntmps80
    go_wp2
    go_ret3
    exact ⟨rfl, rfl⟩
  · have h0 : ¬ at' < 0 := by omega
    go_enter Tryz.func80, Tryz.ntmps80
    go_wp2
    go_ret3
    exact ⟨rfl, rfl⟩

theorem pow_le {k : Nat} (h : k ≤ 4) : 1 ≤ 128 ^ k ∧ 128 ^ k ≤ 268435456 := by
  match k, h with
  | 0, _ | 1, _ | 2, _ | 3, _ | 4, _ => decide
theorem mul_bd (b q : Nat) (h2 : q ≤ 268435456) : 0 ≤ (b : Int) % 128 * (q : Int) ∧ (b : Int) % 128 * (q : Int) ≤ 34091302912 ∧ ((b % 128 * q : Nat) : Int) = (b : Int) % 128 * (q : Int) := by
  have e : ((b % 128 * q : Nat) : Int) = (b : Int) % 128 * (q : Int) := by simp
  have h3 : b % 128 * q ≤ 127 * 268435456 := Nat.mul_le_mul (by omega) h2
  rw [← e]
  omega

section
variable {s : ByteArray} {a i k N q : Nat} {R : Int × Int × Bool}
theorem rv_end (HR : Hid (R = rvGo s (5 - k) i k N)) (HK : Hid (a + k = i)) (hk : k ≤ 5) (h : ¬ (i < s.size ∧ i < a + 5)) : Ending.returned (rvV (0, 0, false)) = .returned (rvV R) := by
  rw [HR.out]
  have := HK.out
  by_cases h1 : i < s.size
  · have : k = 5 := by omega
    subst this
    rfl
  · rw [rvGo_end h1]
theorem rv_bad (HR : Hid (R = rvGo s (5 - k) i k N)) (HQ : Hid (128 ^ k = q)) (HK : Hid (a + k = i)) {h : i < s.size} (HM : Hid (((s[i].toNat % 128 * q : Nat) : Int) = (s[i].toNat : Int) % 128 * (q : Int)))
    (hk : k ≤ 4) (hlt : i < s.size) (hb : ¬ 127 < s[i].toNat) (hx : 1000000000 < (N : Int) + (s[i].toNat : Int) % 128 * (q : Int) ∨ (s[i].toNat = 0 ∧ a < i)) :
    Ending.returned (rvV (0, 0, false)) = .returned (rvV R) := by
  rw [HR.out, show 5 - k = (4 - k) + 1 by omega, rvGo_bad hlt (by omega)]
  have e1 := HK.out
  have e2 := HM.out
  rw [HQ.out]
  rcases hx with hx | hx
  · left; omega
  · right; omega
theorem rv_ok (HR : Hid (R = rvGo s (5 - k) i k N)) (HQ : Hid (128 ^ k = q)) (HK : Hid (a + k = i)) {h : i < s.size} (HM : Hid (((s[i].toNat % 128 * q : Nat) : Int) = (s[i].toNat : Int) % 128 * (q : Int)))
    (hk : k ≤ 4) (hlt : i < s.size) (hb : ¬ 127 < s[i].toNat) (hx : (N : Int) + (s[i].toNat : Int) % 128 * (q : Int) ≤ 1000000000) (hz : ¬ s[i].toNat = 0 ∨ ¬ a < i) :
    Ending.returned (rvV ((N : Int) + (s[i].toNat : Int) % 128 * (q : Int), (i : Int) + 1, true)) = .returned (rvV R) := by
  have e1 := HK.out
  have e2 := HM.out
  rw [HR.out, show 5 - k = (4 - k) + 1 by omega, rvGo_ok hlt (by omega) (by rw [HQ.out]; omega), HQ.out]
  congr 2
theorem rv_ok0 (HR : Hid (R = rvGo s (5 - k) i k N)) (HQ : Hid (128 ^ k = q)) (HK : Hid (a + k = i)) {h : i < s.size} (HM : Hid (((s[i].toNat % 128 * q : Nat) : Int) = (s[i].toNat : Int) % 128 * (q : Int)))
    (hk : k ≤ 4) (hlt : i < s.size) (hb : ¬ 127 < s[i].toNat) (hx : (N : Int) + (s[i].toNat : Int) % 128 * (q : Int) ≤ 1000000000) (h0 : s[i].toNat = 0) (hz : ¬ a < i) :
    Ending.returned (rvV ((N : Int), (i : Int) + 1, true)) = .returned (rvV R) := by
  rw [← rv_ok HR HQ HK HM hk hlt hb hx (Or.inr hz), h0]
  simp
theorem rv_more (HR : Hid (R = rvGo s (5 - k) i k N)) (HQ : Hid (128 ^ k = q)) (HK : Hid (a + k = i)) {h : i < s.size} (HM : Hid (((s[i].toNat % 128 * q : Nat) : Int) = (s[i].toNat : Int) % 128 * (q : Int)))
    (hk : k ≤ 4) (hlt : i < s.size) (hb : 127 < s[i].toNat) (hN : N < q) :
    ∃ i' k' N' q' : Nat, k' ≤ 5 ∧ i' ≤ s.size ∧ a + k' = i' ∧ 128 ^ k' = q' ∧ N' < q' ∧ Value.int .i64 ((N : Int) + (s[i].toNat : Int) % 128 * (q : Int)) = .int .i64 N' ∧ Value.int .i64 ((q : Int) * 128) = .int .i64 q' ∧ Value.int .i64 ((i : Int) + 1) = .int .i64 i' ∧ R = rvGo s (5 - k') i' k' N' := by
  have e1 := HK.out
  have e2 := HM.out
  have e3 : s[i].toNat % 128 * q ≤ 127 * q := Nat.mul_le_mul (by omega) (Nat.le_refl _)
  refine ⟨i + 1, k + 1, N + s[i].toNat % 128 * q, q * 128, by omega, by omega, by omega, ?_, by omega, ?_, ?_, ?_, ?_⟩
  · rw [Nat.pow_succ, HQ.out]
  · congr 1
  · congr 1
  · congr 1
  · rw [HR.out, show 5 - k = (4 - k) + 1 by omega, rvGo_more hlt (by omega), HQ.out]
    congr 1
    omega
end

set_option maxRecDepth 10000 in
set_option maxHeartbeats 1000000 in
theorem readVar_in1 (s : ByteArray) (a : Nat) (w : World) (ha : a ≤ s.size) (hs : s.size ≤ 1048576) (hmin : (s.size : Int) ≤ (a : Int) + 5) :
    Calls Tryz.prog 80 #[.string s, .int .i64 a] w fun e w' => e = .returned (rvV (rvGo s 5 a 0 0)) ∧ w' = w := by
  have h0 : ¬ (a : Int) < 0 := by omega
  have h1 : ¬ (s.size : Int) < a := by omega
  go_enter Tryz.func80, Tryz.ntmps80
  go_wp2
  · go_loop [7, 8, 10] (fun n sc pl => ∃ i k N q : Nat, k ≤ 5 ∧ i ≤ s.size ∧ a + k = i ∧ 128 ^ k = q ∧ N < q ∧ n = .int .i64 N ∧ sc = .int .i64 q ∧ pl = .int .i64 i ∧ rvGo s 5 a 0 0 = rvGo s (5 - k) i k N) (fun _ _ pl => s.size - (intOf pl).toNat)
    case atStart => exact ⟨a, 0, 0, 1, by omega, ha, rfl, rfl, by omega, rfl, rfl, rfl, rfl⟩
    case round =>
      obtain ⟨i, k, N, q, hk, hi, hik, hq, hN, rfl, rfl, rfl, hr⟩ := hrel
      have HR : Hid (rvGo s 5 a 0 0 = rvGo s (5 - k) i k N) := hr
      have HQ : Hid (128 ^ k = q) := hq
      have HK : Hid (a + k = i) := hik
      have hai : a ≤ i := by omega
      have hia : i ≤ a + 5 := by omega
      clear hr hq hik
      by_cases hgo : i < s.size ∧ i < a + 5
      · obtain ⟨hlt, h5⟩ := hgo
        have hk4 : k ≤ 4 := by have := HK.out; omega
        have hq1 : 1 ≤ q ∧ q ≤ 268435456 := by rw [← HQ.out]; exact pow_le hk4
        have hm := mul_bd s[i].toNat q hq1.2
        have HM2 : Hid (((s[i].toNat % 128 * q : Nat) : Int) = (s[i].toNat : Int) % 128 * (q : Int)) := hm.2.2
        have hm1 := hm.1
        have hm2 := hm.2.1
        obtain ⟨hqa, hqb⟩ := hq1
        clear hm
        have h256 := s[i].toNat_lt
        by_cases hb : 127 < s[i].toNat
        · go_wp2
          go_round
          case rel => exact rv_more HR HQ HK HM2 hk4 hlt hb hN
          case measure => simp [intOf]; omega
        · by_cases hz : s[i].toNat = 0 ∧ a < i
          · obtain ⟨hz, hz2⟩ := hz
            go_wp2
            go_ret3
            exact ⟨rv_bad HR HQ HK HM2 hk4 hlt hb (Or.inr ⟨hz, hz2⟩), rfl⟩
          · by_cases hx : 1000000000 < (N : Int) + (s[i].toNat : Int) % 128 * (q : Int)
            · by_cases hz0 : s[i].toNat = 0
              · exfalso
                have hz2 : ¬ a < i := fun h => hz ⟨hz0, h⟩
                have hk0 : k = 0 := by have := HK.out; omega
                have hq0 := HQ.out
                rw [hk0] at hq0
                rw [hz0] at hx
                simp at hx hq0
                omega
              · clear hz
                go_wp2
                go_ret3
                exact ⟨rv_bad HR HQ HK HM2 hk4 hlt hb (Or.inl hx), rfl⟩
            · by_cases hz0 : s[i].toNat = 0
              · have hz2 : ¬ a < i := fun h => hz ⟨hz0, h⟩
                clear hz
                go_wp2
                go_ret3
                exact ⟨rv_ok0 HR HQ HK HM2 hk4 hlt (by omega) (by omega) hz0 (by omega), rfl⟩
              · clear hz
                go_wp2
                go_ret3
                exact ⟨rv_ok HR HQ HK HM2 hk4 hlt hb (by omega) (Or.inl hz0), rfl⟩
      · go_wp2
        go_ret3
        exact ⟨rv_end HR HK hk hgo, rfl⟩

set_option maxRecDepth 10000 in
set_option maxHeartbeats 1000000 in
theorem readVar_in2 (s : ByteArray) (a : Nat) (w : World) (ha : a ≤ s.size) (hs : s.size ≤ 1048576) (hmin : ¬ (s.size : Int) ≤ (a : Int) + 5) :
    Calls Tryz.prog 80 #[.string s, .int .i64 a] w fun e w' => e = .returned (rvV (rvGo s 5 a 0 0)) ∧ w' = w := by
  have h0 : ¬ (a : Int) < 0 := by omega
  have h1 : ¬ (s.size : Int) < a := by omega
  go_enter Tryz.func80, Tryz.ntmps80
  go_wp2
  · go_loop [7, 8, 10] (fun n sc pl => ∃ i k N q : Nat, k ≤ 5 ∧ i ≤ s.size ∧ a + k = i ∧ 128 ^ k = q ∧ N < q ∧ n = .int .i64 N ∧ sc = .int .i64 q ∧ pl = .int .i64 i ∧ rvGo s 5 a 0 0 = rvGo s (5 - k) i k N) (fun _ _ pl => s.size - (intOf pl).toNat)
    case atStart => exact ⟨a, 0, 0, 1, by omega, ha, rfl, rfl, by omega, rfl, rfl, rfl, rfl⟩
    case round =>
      obtain ⟨i, k, N, q, hk, hi, hik, hq, hN, rfl, rfl, rfl, hr⟩ := hrel
      have HR : Hid (rvGo s 5 a 0 0 = rvGo s (5 - k) i k N) := hr
      have HQ : Hid (128 ^ k = q) := hq
      have HK : Hid (a + k = i) := hik
      have hai : a ≤ i := by omega
      have hia : i ≤ a + 5 := by omega
      clear hr hq hik
      by_cases hgo : i < s.size ∧ i < a + 5
      · obtain ⟨hlt, h5⟩ := hgo
        have hk4 : k ≤ 4 := by have := HK.out; omega
        have hq1 : 1 ≤ q ∧ q ≤ 268435456 := by rw [← HQ.out]; exact pow_le hk4
        have hm := mul_bd s[i].toNat q hq1.2
        have HM2 : Hid (((s[i].toNat % 128 * q : Nat) : Int) = (s[i].toNat : Int) % 128 * (q : Int)) := hm.2.2
        have hm1 := hm.1
        have hm2 := hm.2.1
        obtain ⟨hqa, hqb⟩ := hq1
        clear hm
        have h256 := s[i].toNat_lt
        by_cases hb : 127 < s[i].toNat
        · go_wp2
          go_round
          case rel => exact rv_more HR HQ HK HM2 hk4 hlt hb hN
          case measure => simp [intOf]; omega
        · by_cases hz : s[i].toNat = 0 ∧ a < i
          · obtain ⟨hz, hz2⟩ := hz
            go_wp2
            go_ret3
            exact ⟨rv_bad HR HQ HK HM2 hk4 hlt hb (Or.inr ⟨hz, hz2⟩), rfl⟩
          · by_cases hx : 1000000000 < (N : Int) + (s[i].toNat : Int) % 128 * (q : Int)
            · by_cases hz0 : s[i].toNat = 0
              · exfalso
                have hz2 : ¬ a < i := fun h => hz ⟨hz0, h⟩
                have hk0 : k = 0 := by have := HK.out; omega
                have hq0 := HQ.out
                rw [hk0] at hq0
                rw [hz0] at hx
                simp at hx hq0
                omega
              · clear hz
                go_wp2
                go_ret3
                exact ⟨rv_bad HR HQ HK HM2 hk4 hlt hb (Or.inl hx), rfl⟩
            · by_cases hz0 : s[i].toNat = 0
              · have hz2 : ¬ a < i := fun h => hz ⟨hz0, h⟩
                clear hz
                go_wp2
                go_ret3
                exact ⟨rv_ok0 HR HQ HK HM2 hk4 hlt (by omega) (by omega) hz0 (by omega), rfl⟩
              · clear hz
                go_wp2
                go_ret3
                exact ⟨rv_ok HR HQ HK HM2 hk4 hlt hb (by omega) (Or.inl hz0), rfl⟩
      · go_wp2
        go_ret3
        exact ⟨rv_end HR HK hk hgo, rfl⟩

theorem readVar_in (s : ByteArray) (a : Nat) (w : World) (ha : a ≤ s.size) (hs : s.size ≤ 1048576) :
    Calls Tryz.prog 80 #[.string s, .int .i64 a] w fun e w' => e = .returned (rvV (rvGo s 5 a 0 0)) ∧ w' = w := by
  by_cases h : (s.size : Int) ≤ (a : Int) + 5
  · exact readVar_in1 s a w ha hs h
  · exact readVar_in2 s a w ha hs h

end Go.Proofs.YtpjpheicldegkaaGreatDoor

namespace Go.Proofs.YtpjpheicldegkaaGreatDoor
open Go.RowKit

theorem l01Var_int (n : Int) (w : World) (h0 : 0 ≤ n) (hn : n ≤ 1000000000) :
    Calls Tryz.prog 62 #[.int .i64 n] w fun e w' => e = .returned (.string (bstr (varI n.toNat))) ∧ Below w.heap.size w w' := by
  obtain ⟨k, rfl⟩ := Int.eq_ofNat_of_zero_le h0
  exact qpc k w (by omega)

set_option maxHeartbeats 400000 in
theorem specReadVar_bad (s : ByteArray) (at' : Int) (w : World) (h : at' < 0 ∨ (s.size : Int) < at') :
    Calls Tryz.prog 68 #[.string s, .int .i64 at'] w fun e w' => e = .returned (rvV (0, 0, false)) ∧ Below w.heap.size w w' := by
  have HN : Hid (at' < 0 ∨ (s.size : Int) < at') := h
  clear h
  go_enter Tryz.func68, Tryz.ntmps68
  go_wp2_with (go_at_call 24; refine (l01In_no _ _ _ _ HN.out).mono ?_; rintro e w' ⟨rfl, rfl⟩)
  go_ret3
  exact ⟨rfl, Below.refl _ _⟩

theorem slice_at (s : ByteArray) (a i : Nat) (wx : World) (h1 : a ≤ i) (h2 : i < s.size) :
    (Instr.slice 9 (.string s) (some (.int .i64 (a : Int))) (some (.int .i64 ((i : Int) + 1))) none).run Tryz.prog wx = .ok (.string (s.extract a (i + 1))) wx := by
  have := run_slice_string (P := Tryz.prog) wx 9 s .i64 .i64 (a : Int) ((i : Int) + 1) Tryz.underlying9 (by omega) (by omega) (by omega)
  simpa using this
theorem slice_at_w (s : ByteArray) (a i : Nat) (wx : World) (h1 : a ≤ i) (h2 : i < s.size) (h3 : s.size ≤ 1048576) :
    (Instr.slice 9 (.string s) (some (.int .i64 (a : Int))) (some (.int .i64 (IntKind.i64.wrap ((i : Int) + 1)))) none).run Tryz.prog wx = .ok (.string (s.extract a (i + 1))) wx := by
  have e : IntKind.i64.wrap ((i : Int) + 1) = (i : Int) + 1 := by go_arith
  rw [e]
  exact slice_at s a i wx h1 h2

theorem rvs_more {s : ByteArray} {a i k N q : Nat} {R : Int × Int × Bool} {p : List Nat} (HR : Hid (R = rvGo s (5 - k) i k N)) (HQ : Hid (128 ^ k = q)) (HK : Hid (a + k = i)) {h : i < s.size} (HM : Hid (((s[i].toNat % 128 * q : Nat) : Int) = (s[i].toNat : Int) % 128 * (q : Int)))
    (HP : Hid (bytesAt s a p ∧ p.length = k ∧ (∀ b ∈ p, 128 ≤ b ∧ b < 256) ∧ N = valN p))
    (hk : k ≤ 4) (hlt : i < s.size) (hb : 127 < s[i].toNat) (hN : N < q) :
    ∃ (i' k' N' q' : Nat) (p' : List Nat), k' ≤ 5 ∧ i' ≤ s.size ∧ a + k' = i' ∧ 128 ^ k' = q' ∧ N' < q' ∧ Value.int .i64 ((N : Int) + (s[i].toNat : Int) % 128 * (q : Int)) = .int .i64 N' ∧ Value.int .i64 ((q : Int) * 128) = .int .i64 q' ∧ Value.int .i64 ((i : Int) + 1) = .int .i64 i' ∧ R = rvGo s (5 - k') i' k' N' ∧
      (bytesAt s a p' ∧ p'.length = k' ∧ (∀ b ∈ p', 128 ≤ b ∧ b < 256) ∧ N' = valN p') := by
  have e1 := HK.out
  have e2 := HM.out
  obtain ⟨p1, p2, p3, p4⟩ := HP.out
  subst p2
  subst e1
  have e3 : s[a + p.length].toNat % 128 * q ≤ 127 * q := Nat.mul_le_mul (by omega) (Nat.le_refl _)
  have h256 := s[a + p.length].toNat_lt
  refine ⟨a + p.length + 1, p.length + 1, N + s[a + p.length].toNat % 128 * q, q * 128, p ++ [s[a + p.length].toNat], by omega, by omega, by omega, ?_, by omega, ?_, ?_, ?_, ?_, bytesAt_snoc p1 hlt, by simp, ?_, ?_⟩
  · rw [Nat.pow_succ, HQ.out]
  · congr 1
  · congr 1
  · congr 1
  · rw [HR.out, show 5 - p.length = (4 - p.length) + 1 by omega, rvGo_more hlt (by omega), HQ.out]
    congr 1
    omega
  · intro b hb'
    rcases List.mem_append.1 hb' with h | h
    · exact p3 b h
    · simp at h; omega
  · rw [valN_snoc, HQ.out, ← p4]

theorem rvs_bad {s : ByteArray} {a i k N q : Nat} {R : Int × Int × Bool} {p : List Nat} (HR : Hid (R = rvGo s (5 - k) i k N)) (HQ : Hid (128 ^ k = q)) (HK : Hid (a + k = i)) {h : i < s.size} (HM : Hid (((s[i].toNat % 128 * q : Nat) : Int) = (s[i].toNat : Int) % 128 * (q : Int)))
    (HP : Hid (bytesAt s a p ∧ p.length = k ∧ (∀ b ∈ p, 128 ≤ b ∧ b < 256) ∧ N = valN p)) (hk : k ≤ 4) (hlt : i < s.size) (hb : ¬ 127 < s[i].toNat)
    (hne : (!(bstr (varI ((N : Int) + (s[i].toNat : Int) % 128 * (q : Int)).toNat)).toList == (s.extract a (i + 1)).toList) = true) : Ending.returned (rvV (0, 0, false)) = .returned (rvV R) := by
  obtain ⟨p1, p2, p3, p4⟩ := HP.out
  subst p2
  have e2 := HM.out
  rw [show ((N : Int) + (s[i].toNat : Int) % 128 * (q : Int)).toNat = N + s[i].toNat % 128 * q by omega, same_bytes p1 HK.out HQ.out p3 p4 hlt (by omega)] at hne
  exact rv_bad HR HQ HK HM hk hlt hb (Or.inr (by simpa using hne))
theorem rvs_ok {s : ByteArray} {a i k N q : Nat} {R : Int × Int × Bool} {p : List Nat} (HR : Hid (R = rvGo s (5 - k) i k N)) (HQ : Hid (128 ^ k = q)) (HK : Hid (a + k = i)) {h : i < s.size} (HM : Hid (((s[i].toNat % 128 * q : Nat) : Int) = (s[i].toNat : Int) % 128 * (q : Int)))
    (HP : Hid (bytesAt s a p ∧ p.length = k ∧ (∀ b ∈ p, 128 ≤ b ∧ b < 256) ∧ N = valN p)) (hk : k ≤ 4) (hlt : i < s.size) (hb : ¬ 127 < s[i].toNat) (hx : (N : Int) + (s[i].toNat : Int) % 128 * (q : Int) ≤ 1000000000)
    (hne : (!(bstr (varI ((N : Int) + (s[i].toNat : Int) % 128 * (q : Int)).toNat)).toList == (s.extract a (i + 1)).toList) = false) :
    Ending.returned (rvV ((N : Int) + (s[i].toNat : Int) % 128 * (q : Int), (i : Int) + 1, true)) = .returned (rvV R) := by
  obtain ⟨p1, p2, p3, p4⟩ := HP.out
  subst p2
  have e2 := HM.out
  rw [show ((N : Int) + (s[i].toNat : Int) % 128 * (q : Int)).toNat = N + s[i].toNat % 128 * q by omega, same_bytes p1 HK.out HQ.out p3 p4 hlt (by omega)] at hne
  have hz : ¬ (s[i].toNat = 0 ∧ a < i) := by simpa using hne
  refine rv_ok HR HQ HK HM hk hlt hb hx ?_
  by_cases h0 : s[i].toNat = 0
  · exact Or.inr fun h => hz ⟨h0, h⟩
  · exact Or.inl h0

set_option maxHeartbeats 1000000 in
set_option maxRecDepth 100000 in
theorem specReadVar_in (s : ByteArray) (a : Nat) (w : World) (ha : a ≤ s.size) (hs : s.size ≤ 1048576) :
    Calls Tryz.prog 68 #[.string s, .int .i64 a] w fun e w' => e = .returned (rvV (rvGo s 5 a 0 0)) ∧ Below w.heap.size w w' := by
  go_enter Tryz.func68, Tryz.ntmps68
  go_wp2_with (go_at_call 24; refine (l01In_yes _ _ _ _ (by omega) (by omega)).mono ?_; rintro e w' ⟨rfl, rfl⟩)
  go_loop [7, 8, 9] (fun n sc pl => ∃ (i k N q : Nat) (p : List Nat), k ≤ 5 ∧ i ≤ s.size ∧ a + k = i ∧ 128 ^ k = q ∧ N < q ∧ n = .int .i64 N ∧ sc = .int .i64 q ∧ pl = .int .i64 i ∧ rvGo s 5 a 0 0 = rvGo s (5 - k) i k N ∧ (bytesAt s a p ∧ p.length = k ∧ (∀ b ∈ p, 128 ≤ b ∧ b < 256) ∧ N = valN p)) (fun _ _ pl => s.size - (intOf pl).toNat)
  case atStart => exact ⟨a, 0, 0, 1, [], by omega, ha, rfl, rfl, by omega, rfl, rfl, rfl, rfl, ⟨by simpa using ha, by simp⟩, rfl, by simp, rfl⟩
  case round =>
      obtain ⟨i, k, N, q, p, hk, hi, hik, hq, hN, rfl, rfl, rfl, hr, hp⟩ := hrel
      have HR : Hid (rvGo s 5 a 0 0 = rvGo s (5 - k) i k N) := hr
      have HQ : Hid (128 ^ k = q) := hq
      have HK : Hid (a + k = i) := hik
      have HP : Hid (bytesAt s a p ∧ p.length = k ∧ (∀ b ∈ p, 128 ≤ b ∧ b < 256) ∧ N = valN p) := hp
      have hai : a ≤ i := by omega
      have hia : i ≤ a + 5 := by omega
      clear hr hq hik hp
      by_cases hlt : i < s.size
      · by_cases h5 : i < a + 5
        · have hk4 : k ≤ 4 := by have := HK.out; omega
          have hq1 : 1 ≤ q ∧ q ≤ 268435456 := by rw [← HQ.out]; exact pow_le hk4
          have hm := mul_bd s[i].toNat q hq1.2
          have HM2 : Hid (((s[i].toNat % 128 * q : Nat) : Int) = (s[i].toNat : Int) % 128 * (q : Int)) := hm.2.2
          have hm1 := hm.1
          have hm2 := hm.2.1
          obtain ⟨hqa, hqb⟩ := hq1
          clear hm
          have h256 := s[i].toNat_lt
          by_cases hb : 127 < s[i].toNat
          · go_wp2
            go_round
            case rel => exact rvs_more HR HQ HK HM2 HP hk4 hlt hb hN
            case measure => simp [intOf]; omega
          · by_cases hx : 1000000000 < (N : Int) + (s[i].toNat : Int) % 128 * (q : Int)
            · go_wp2
              go_quiet (fail)
              go_wp2
              go_ret3
              exact ⟨rv_bad HR HQ HK HM2 hk4 hlt hb (Or.inl hx), below_drewN (Below.refl _ _) _⟩
            · have hx' : decide (1000000000 < (N : Int) + (s[i].toNat : Int) % 128 * (q : Int)) = false := by simp; omega
              go_wp2
              have hsl : ∀ wx, (Instr.slice 9 (.string s) (some (.int .i64 (a : Int))) (some (.int .i64 ((i : Int) + 1))) none).run Tryz.prog wx = .ok (.string (s.extract a (i + 1))) wx := fun wx => slice_at s a i wx hai (by omega)
              have hslw : ∀ wx, (Instr.slice 9 (.string s) (some (.int .i64 (a : Int))) (some (.int .i64 (IntKind.i64.wrap ((i : Int) + 1)))) none).run Tryz.prog wx = .ok (.string (s.extract a (i + 1))) wx := fun wx => slice_at_w s a i wx hai (by omega) hs
              go_region_held (fun _ => True) (trivial) ((go_at_call 62; refine (l01Var_int _ _ (by omega) (by omega)).mono ?_; rintro e w1 ⟨rfl, hb1⟩))
              go_wp2
              · have hne : (!(bstr (varI ((N : Int) + (s[i].toNat : Int) % 128 * (q : Int)).toNat)).toList == (s.extract a (i + 1)).toList) = true := by assumption
                go_ret3
                exact ⟨rvs_bad HR HQ HK HM2 HP hk4 hlt hb hne, (Below.refl _ _).drew.trans hb1⟩
              · have hne : (!(bstr (varI ((N : Int) + (s[i].toNat : Int) % 128 * (q : Int)).toNat)).toList == (s.extract a (i + 1)).toList) = false := by assumption
                go_ret3
                exact ⟨rvs_ok HR HQ HK HM2 HP hk4 hlt hb (by omega) hne, (Below.refl _ _).drew.trans hb1⟩
        · go_wp2
          go_ret3
          exact ⟨rv_end HR HK hk (fun h => h5 h.2), Below.refl _ _⟩
      · go_wp2
        go_ret3
        exact ⟨rv_end HR HK hk (fun h => hlt h.1), Below.refl _ _⟩

theorem rv_bad_eq {s : ByteArray} {at' : Int} (h : at' < 0 ∨ (s.size : Int) < at') : rv s at' = (0, 0, false) := by
  unfold rv; rw [if_neg (by omega)]
theorem rv_in_eq {s : ByteArray} {a : Nat} (h : a ≤ s.size) : rv s (a : Int) = rvGo s 5 a 0 0 := by
  unfold rv; rw [if_pos (by omega)]; simp

theorem qne (s : ByteArray) (at' : Int) (w : World) (hs : s.size ≤ 1048576) (x y : Int) (z : Bool) (h : rv s at' = (x, y, z)) :
    Calls Tryz.prog 68 #[.string s, .int .i64 at'] w fun e w' => e = .returned (.tuple #[.int .i64 x, .int .i64 y, .bool z]) ∧ Below w.heap.size w w' := by
  by_cases hn : at' < 0 ∨ (s.size : Int) < at'
  · have := specReadVar_bad s at' w hn
    rw [← rv_bad_eq hn, h] at this
    exact this
  · obtain ⟨a, rfl⟩ := Int.eq_ofNat_of_zero_le (show 0 ≤ at' by omega)
    have := specReadVar_in s a w (by omega) hs
    rw [← rv_in_eq (by omega), h] at this
    exact this

theorem qgc (s : ByteArray) (at' : Int) (w : World) (hs : s.size ≤ 1048576) (x y : Int) (z : Bool) (h : rv s at' = (x, y, z)) :
    Calls Tryz.prog 80 #[.string s, .int .i64 at'] w fun e w' => e = .returned (.tuple #[.int .i64 x, .int .i64 y, .bool z]) ∧ w' = w := by
  by_cases hn : at' < 0 ∨ (s.size : Int) < at'
  · have := readVar_bad s at' w hn
    rw [← rv_bad_eq hn, h] at this
    exact this
  · obtain ⟨a, rfl⟩ := Int.eq_ofNat_of_zero_le (show 0 ≤ at' by omega)
    have := readVar_in s a w (by omega) hs
    rw [← rv_in_eq (by omega), h] at this
    exact this

end Go.Proofs.YtpjpheicldegkaaGreatDoor
