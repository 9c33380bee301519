/-
  What the model's reader of numbers answers: the walk.
-/
import Derived.Test.YtgjamikmjknlfaaDoorRv
import Derived.Deep.QuietTactic
import Derived.BigQuiet
import Derived.Deep.RegionWith
import Derived.Deep.RegionHeld
namespace Go.Proofs.YtgjamikmjknlfaaDoor
open Go.RowKit

theorem l01Var_int (n : Int) (w : World) (h0 : 0 ≤ n) (hn : n ≤ 1000000000) :
    Calls Tryd.prog 17 #[.int .i64 n] w fun e w' => e = .returned (.string (bstr (varI n.toNat))) ∧ Below w.heap.size w w' := by
  obtain ⟨k, rfl⟩ := Int.eq_ofNat_of_zero_le h0
  exact l01Var_any k w (by omega)

set_option maxHeartbeats 400000 in
theorem specReadVar_bad (s : ByteArray) (at' : Int) (w : World) (h : at' < 0 ∨ (s.size : Int) < at') :
    Calls Tryd.prog 62 #[.string s, .int .i64 at'] w fun e w' => e = .returned (rvV (0, 0, false)) ∧ Below w.heap.size w w' := by
  have HN : Hid (at' < 0 ∨ (s.size : Int) < at') := h
  clear h
  go_enter Tryd.func62, Tryd.ntmps62
  go_wp2_with (go_at_call 46; refine (l01In_no _ _ _ _ HN.out).mono ?_; rintro e w' ⟨rfl, rfl⟩)
  go_ret3
  exact ⟨rfl, Below.refl _ _⟩

theorem slice_at (s : ByteArray) (a i : Nat) (wx : World) (h1 : a ≤ i) (h2 : i < s.size) :
    (Instr.slice 9 (.string s) (some (.int .i64 (a : Int))) (some (.int .i64 ((i : Int) + 1))) none).run Tryd.prog wx = .ok (.string (s.extract a (i + 1))) wx := by
  have := run_slice_string (P := Tryd.prog) wx 9 s .i64 .i64 (a : Int) ((i : Int) + 1) Tryd.underlying9 (by omega) (by omega) (by omega)
  simpa using this
theorem slice_at_w (s : ByteArray) (a i : Nat) (wx : World) (h1 : a ≤ i) (h2 : i < s.size) (h3 : s.size ≤ 1048576) :
    (Instr.slice 9 (.string s) (some (.int .i64 (a : Int))) (some (.int .i64 (IntKind.i64.wrap ((i : Int) + 1)))) none).run Tryd.prog wx = .ok (.string (s.extract a (i + 1))) wx := by
  have e : IntKind.i64.wrap ((i : Int) + 1) = (i : Int) + 1 := by go_arith
  rw [e]
  exact slice_at s a i wx h1 h2

theorem rvs_more {s : ByteArray} {a i k N q : Nat} {R : Int × Int × Bool} {p : List Nat} (HR : Hid (R = rvGo s (5 - k) i k N)) (HQ : Hid (128 ^ k = q)) (HK : Hid (a + k = i)) {h : i < s.size} (HM : Hid (((s[i].toNat % 128 * q : Nat) : Int) = (s[i].toNat : Int) % 128 * (q : Int)))
    (HP : Hid (bytesAt s a p ∧ p.length = k ∧ (∀ b ∈ p, 128 ≤ b ∧ b < 256) ∧ N = valN p))
    (hk : k ≤ 4) (hlt : i < s.size) (hb : 127 < s[i].toNat) (hN : N < q) :
    ∃ (i' k' N' q' : Nat) (p' : List Nat), k' ≤ 5 ∧ i' ≤ s.size ∧ a + k' = i' ∧ 128 ^ k' = q' ∧ N' < q' ∧ Value.int .i64 ((N : Int) + (s[i].toNat : Int) % 128 * (q : Int)) = .int .i64 N' ∧ Value.int .i64 ((q : Int) * 128) = .int .i64 q' ∧ Value.int .i64 ((i : Int) + 1) = .int .i64 i' ∧ R = rvGo s (5 - k') i' k' N' ∧
      (bytesAt s a p' ∧ p'.length = k' ∧ (∀ b ∈ p', 128 ≤ b ∧ b < 256) ∧ N' = valN p') := by
  have e1 := HK.out
  have e2 := HM.out
  obtain ⟨p1, p2, p3, p4⟩ := HP.out
  subst p2
  subst e1
  have e3 : s[a + p.length].toNat % 128 * q ≤ 127 * q := Nat.mul_le_mul (by omega) (Nat.le_refl _)
  have h256 := s[a + p.length].toNat_lt
  refine ⟨a + p.length + 1, p.length + 1, N + s[a + p.length].toNat % 128 * q, q * 128, p ++ [s[a + p.length].toNat], by omega, by omega, by omega, ?_, by omega, ?_, ?_, ?_, ?_, bytesAt_snoc p1 hlt, by simp, ?_, ?_⟩
  · rw [Nat.pow_succ, HQ.out]
  · congr 1
  · congr 1
  · congr 1
  · rw [HR.out, show 5 - p.length = (4 - p.length) + 1 by omega, rvGo_more hlt (by omega), HQ.out]
    congr 1
    omega
  · intro b hb'
    rcases List.mem_append.1 hb' with h | h
    · exact p3 b h
    · simp at h; omega
  · rw [valN_snoc, HQ.out, ← p4]

theorem rvs_bad {s : ByteArray} {a i k N q : Nat} {R : Int × Int × Bool} {p : List Nat} (HR : Hid (R = rvGo s (5 - k) i k N)) (HQ : Hid (128 ^ k = q)) (HK : Hid (a + k = i)) {h : i < s.size} (HM : Hid (((s[i].toNat % 128 * q : Nat) : Int) = (s[i].toNat : Int) % 128 * (q : Int)))
    (HP : Hid (bytesAt s a p ∧ p.length = k ∧ (∀ b ∈ p, 128 ≤ b ∧ b < 256) ∧ N = valN p)) (hk : k ≤ 4) (hlt : i < s.size) (hb : ¬ 127 < s[i].toNat)
    (hne : (!(bstr (varI ((N : Int) + (s[i].toNat : Int) % 128 * (q : Int)).toNat)).toList == (s.extract a (i + 1)).toList) = true) : Ending.returned (rvV (0, 0, false)) = .returned (rvV R) := by
  obtain ⟨p1, p2, p3, p4⟩ := HP.out
  subst p2
  have e2 := HM.out
  rw [show ((N : Int) + (s[i].toNat : Int) % 128 * (q : Int)).toNat = N + s[i].toNat % 128 * q by omega, same_bytes p1 HK.out HQ.out p3 p4 hlt (by omega)] at hne
  exact rv_bad HR HQ HK HM hk hlt hb (Or.inr (by simpa using hne))
theorem rvs_ok {s : ByteArray} {a i k N q : Nat} {R : Int × Int × Bool} {p : List Nat} (HR : Hid (R = rvGo s (5 - k) i k N)) (HQ : Hid (128 ^ k = q)) (HK : Hid (a + k = i)) {h : i < s.size} (HM : Hid (((s[i].toNat % 128 * q : Nat) : Int) = (s[i].toNat : Int) % 128 * (q : Int)))
    (HP : Hid (bytesAt s a p ∧ p.length = k ∧ (∀ b ∈ p, 128 ≤ b ∧ b < 256) ∧ N = valN p)) (hk : k ≤ 4) (hlt : i < s.size) (hb : ¬ 127 < s[i].toNat) (hx : (N : Int) + (s[i].toNat : Int) % 128 * (q : Int) ≤ 1000000000)
    (hne : (!(bstr (varI ((N : Int) + (s[i].toNat : Int) % 128 * (q : Int)).toNat)).toList == (s.extract a (i + 1)).toList) = false) :
    Ending.returned (rvV ((N : Int) + (s[i].toNat : Int) % 128 * (q : Int), (i : Int) + 1, true)) = .returned (rvV R) := by
  obtain ⟨p1, p2, p3, p4⟩ := HP.out
  subst p2
  have e2 := HM.out
  rw [show ((N : Int) + (s[i].toNat : Int) % 128 * (q : Int)).toNat = N + s[i].toNat % 128 * q by omega, same_bytes p1 HK.out HQ.out p3 p4 hlt (by omega)] at hne
  have hz : ¬ (s[i].toNat = 0 ∧ a < i) := by simpa using hne
  refine rv_ok HR HQ HK HM hk hlt hb hx ?_
  by_cases h0 : s[i].toNat = 0
  · exact Or.inr fun h => hz ⟨h0, h⟩
  · exact Or.inl h0

set_option maxHeartbeats 1000000 in
set_option maxRecDepth 100000 in
theorem specReadVar_in (s : ByteArray) (a : Nat) (w : World) (ha : a ≤ s.size) (hs : s.size ≤ 1048576) :
    Calls Tryd.prog 62 #[.string s, .int .i64 a] w fun e w' => e = .returned (rvV (rvGo s 5 a 0 0)) ∧ Below w.heap.size w w' := by
  go_enter Tryd.func62, Tryd.ntmps62
  go_wp2_with (go_at_call 46; refine (l01In_yes _ _ _ _ (by omega) (by omega)).mono ?_; rintro e w' ⟨rfl, rfl⟩)
  go_loop [7, 8, 9] (fun n sc pl => ∃ (i k N q : Nat) (p : List Nat), k ≤ 5 ∧ i ≤ s.size ∧ a + k = i ∧ 128 ^ k = q ∧ N < q ∧ n = .int .i64 N ∧ sc = .int .i64 q ∧ pl = .int .i64 i ∧ rvGo s 5 a 0 0 = rvGo s (5 - k) i k N ∧ (bytesAt s a p ∧ p.length = k ∧ (∀ b ∈ p, 128 ≤ b ∧ b < 256) ∧ N = valN p)) (fun _ _ pl => s.size - (intOf pl).toNat)
  case atStart => exact ⟨a, 0, 0, 1, [], by omega, ha, rfl, rfl, by omega, rfl, rfl, rfl, rfl, ⟨by simpa using ha, by simp⟩, rfl, by simp, rfl⟩
  case round =>
      obtain ⟨i, k, N, q, p, hk, hi, hik, hq, hN, rfl, rfl, rfl, hr, hp⟩ := hrel
      have HR : Hid (rvGo s 5 a 0 0 = rvGo s (5 - k) i k N) := hr
      have HQ : Hid (128 ^ k = q) := hq
      have HK : Hid (a + k = i) := hik
      have HP : Hid (bytesAt s a p ∧ p.length = k ∧ (∀ b ∈ p, 128 ≤ b ∧ b < 256) ∧ N = valN p) := hp
      have hai : a ≤ i := by omega
      have hia : i ≤ a + 5 := by omega
      clear hr hq hik hp
      by_cases hlt : i < s.size
      · by_cases h5 : i < a + 5
        · have hk4 : k ≤ 4 := by have := HK.out; omega
          have hq1 : 1 ≤ q ∧ q ≤ 268435456 := by rw [← HQ.out]; exact pow_le hk4
          have hm := mul_bd s[i].toNat q hq1.2
          have HM2 : Hid (((s[i].toNat % 128 * q : Nat) : Int) = (s[i].toNat : Int) % 128 * (q : Int)) := hm.2.2
          have hm1 := hm.1
          have hm2 := hm.2.1
          obtain ⟨hqa, hqb⟩ := hq1
          clear hm
          have h256 := s[i].toNat_lt
          by_cases hb : 127 < s[i].toNat
          · go_wp2
            go_round
            case rel => exact rvs_more HR HQ HK HM2 HP hk4 hlt hb hN
            case measure => simp [intOf]; omega
          · by_cases hx : 1000000000 < (N : Int) + (s[i].toNat : Int) % 128 * (q : Int)
            · go_wp2
              go_quiet (fail)
              go_wp2
              go_ret3
              exact ⟨rv_bad HR HQ HK HM2 hk4 hlt hb (Or.inl hx), below_drewN (Below.refl _ _) _⟩
            · have hx' : decide (1000000000 < (N : Int) + (s[i].toNat : Int) % 128 * (q : Int)) = false := by simp; omega
              go_wp2
              have hsl : ∀ wx, (Instr.slice 9 (.string s) (some (.int .i64 (a : Int))) (some (.int .i64 ((i : Int) + 1))) none).run Tryd.prog wx = .ok (.string (s.extract a (i + 1))) wx := fun wx => slice_at s a i wx hai (by omega)
              have hslw : ∀ wx, (Instr.slice 9 (.string s) (some (.int .i64 (a : Int))) (some (.int .i64 (IntKind.i64.wrap ((i : Int) + 1)))) none).run Tryd.prog wx = .ok (.string (s.extract a (i + 1))) wx := fun wx => slice_at_w s a i wx hai (by omega) hs
              go_region_held (fun _ => True) (trivial) ((go_at_call 17; refine (l01Var_int _ _ (by omega) (by omega)).mono ?_; rintro e w1 ⟨rfl, hb1⟩))
              go_wp2
              · have hne : (!(bstr (varI ((N : Int) + (s[i].toNat : Int) % 128 * (q : Int)).toNat)).toList == (s.extract a (i + 1)).toList) = true := by assumption
                go_ret3
                exact ⟨rvs_bad HR HQ HK HM2 HP hk4 hlt hb hne, (Below.refl _ _).drew.trans hb1⟩
              · have hne : (!(bstr (varI ((N : Int) + (s[i].toNat : Int) % 128 * (q : Int)).toNat)).toList == (s.extract a (i + 1)).toList) = false := by assumption
                go_ret3
                exact ⟨rvs_ok HR HQ HK HM2 HP hk4 hlt hb (by omega) hne, (Below.refl _ _).drew.trans hb1⟩
        · go_wp2
          go_ret3
          exact ⟨rv_end HR HK hk (fun h => h5 h.2), Below.refl _ _⟩
      · go_wp2
        go_ret3
        exact ⟨rv_end HR HK hk (fun h => hlt h.1), Below.refl _ _⟩

theorem rv_bad_eq {s : ByteArray} {at' : Int} (h : at' < 0 ∨ (s.size : Int) < at') : rv s at' = (0, 0, false) := by
  unfold rv; rw [if_neg (by omega)]
theorem rv_in_eq {s : ByteArray} {a : Nat} (h : a ≤ s.size) : rv s (a : Int) = rvGo s 5 a 0 0 := by
  unfold rv; rw [if_pos (by omega)]; simp

theorem specReadVar_any (s : ByteArray) (at' : Int) (w : World) (hs : s.size ≤ 1048576) (x y : Int) (z : Bool) (h : rv s at' = (x, y, z)) :
    Calls Tryd.prog 62 #[.string s, .int .i64 at'] w fun e w' => e = .returned (.tuple #[.int .i64 x, .int .i64 y, .bool z]) ∧ Below w.heap.size w w' := by
  by_cases hn : at' < 0 ∨ (s.size : Int) < at'
  · have := specReadVar_bad s at' w hn
    rw [← rv_bad_eq hn, h] at this
    exact this
  · obtain ⟨a, rfl⟩ := Int.eq_ofNat_of_zero_le (show 0 ≤ at' by omega)
    have := specReadVar_in s a w (by omega) hs
    rw [← rv_in_eq (by omega), h] at this
    exact this

theorem readVar_any (s : ByteArray) (at' : Int) (w : World) (hs : s.size ≤ 1048576) (x y : Int) (z : Bool) (h : rv s at' = (x, y, z)) :
    Calls Tryd.prog 81 #[.string s, .int .i64 at'] w fun e w' => e = .returned (.tuple #[.int .i64 x, .int .i64 y, .bool z]) ∧ w' = w := by
  by_cases hn : at' < 0 ∨ (s.size : Int) < at'
  · have := readVar_bad s at' w hn
    rw [← rv_bad_eq hn, h] at this
    exact this
  · obtain ⟨a, rfl⟩ := Int.eq_ofNat_of_zero_le (show 0 ≤ at' by omega)
    have := readVar_in s a w (by omega) hs
    rw [← rv_in_eq (by omega), h] at this
    exact this

end Go.Proofs.YtgjamikmjknlfaaDoor
