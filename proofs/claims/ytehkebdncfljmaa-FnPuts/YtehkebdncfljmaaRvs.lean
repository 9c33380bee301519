/-
  What the model's reader of numbers answers: the walk.
-/
import Derived.Test.YtehkebdncfljmaaRv
import Derived.Deep.QuietTactic
import Derived.BigQuiet
import Derived.Deep.RegionWith
import Derived.Deep.RegionHeld
namespace Go.Proofs.Ytehkebdncfljmaa
open Go.RowKit

theorem l01Var_int (n : Int) (w : World) (h0 : 0 ≤ n) (hn : n ≤ 1000000000) :
    Calls Try.prog 39 #[.int .i64 n] w fun e w' => e = .returned (.string (bstr (varI n.toNat))) ∧ Below w.heap.size w w' := by
  obtain ⟨k, rfl⟩ := Int.eq_ofNat_of_zero_le h0
  exact l01Var_any k w (by omega)

theorem slice_at (s : ByteArray) (a i : Nat) (wx : World) (h1 : a ≤ i) (h2 : i < s.size) :
    (Instr.slice 9 (.string s) (some (.int .i64 (a : Int))) (some (.int .i64 ((i : Int) + 1))) none).run Try.prog wx = .ok (.string (s.extract a (i + 1))) wx := by
  have := run_slice_string (P := Try.prog) wx 9 s .i64 .i64 (a : Int) ((i : Int) + 1) Try.underlying9 (by omega) (by omega) (by omega)
  simpa using this
theorem slice_at_w (s : ByteArray) (a i : Nat) (wx : World) (h1 : a ≤ i) (h2 : i < s.size) (h3 : s.size ≤ 1048576) :
    (Instr.slice 9 (.string s) (some (.int .i64 (a : Int))) (some (.int .i64 (IntKind.i64.wrap ((i : Int) + 1)))) none).run Try.prog wx = .ok (.string (s.extract a (i + 1))) wx := by
  have e : IntKind.i64.wrap ((i : Int) + 1) = (i : Int) + 1 := by go_arith
  rw [e]
  exact slice_at s a i wx h1 h2

theorem rvs_more {s : ByteArray} {a i k N q : Nat} {R : Int × Int × Bool} {p : List Nat} (HR : Hid (R = rvGo s (5 - k) i k N)) (HQ : Hid (128 ^ k = q)) (HK : Hid (a + k = i)) {h : i < s.size} (HM : Hid (((s[i].toNat % 128 * q : Nat) : Int) = (s[i].toNat : Int) % 128 * (q : Int)))
    (HP : Hid (bytesAt s a p ∧ p.length = k ∧ (∀ b ∈ p, 128 ≤ b ∧ b < 256) ∧ N = valN p))
    (hk : k ≤ 4) (hlt : i < s.size) (hb : 127 < s[i].toNat) (hN : N < q) :
    ∃ (i' k' N' q' : Nat) (p' : List Nat), k' ≤ 5 ∧ i' ≤ s.size ∧ a + k' = i' ∧ 128 ^ k' = q' ∧ N' < q' ∧ Value.int .i64 ((N : Int) + (s[i].toNat : Int) % 128 * (q : Int)) = .int .i64 N' ∧ Value.int .i64 ((q : Int) * 128) = .int .i64 q' ∧ Value.int .i64 ((i : Int) + 1) = .int .i64 i' ∧ R = rvGo s (5 - k') i' k' N' ∧
      (bytesAt s a p' ∧ p'.length = k' ∧ (∀ b ∈ p', 128 ≤ b ∧ b < 256) ∧ N' = valN p') := by
  have e1 := HK.out
  have e2 := HM.out
  obtain ⟨p1, p2, p3, p4⟩ := HP.out
  subst p2
  subst e1
  have e3 : s[a + p.length].toNat % 128 * q ≤ 127 * q := Nat.mul_le_mul (by omega) (Nat.le_refl _)
  have h256 := s[a + p.length].toNat_lt
  refine ⟨a + p.length + 1, p.length + 1, N + s[a + p.length].toNat % 128 * q, q * 128, p ++ [s[a + p.length].toNat], by omega, by omega, by omega, ?_, by omega, ?_, ?_, ?_, ?_, bytesAt_snoc p1 hlt, by simp, ?_, ?_⟩
  · rw [Nat.pow_succ, HQ.out]
  · congr 1
  · congr 1
  · congr 1
  · rw [HR.out, show 5 - p.length = (4 - p.length) + 1 by omega, rvGo_more hlt (by omega), HQ.out]
    congr 1
    omega
  · intro b hb'
    rcases List.mem_append.1 hb' with h | h
    · exact p3 b h
    · simp at h; omega
  · rw [valN_snoc, HQ.out, ← p4]

theorem rvs_bad {s : ByteArray} {a i k N q : Nat} {R : Int × Int × Bool} {p : List Nat} (HR : Hid (R = rvGo s (5 - k) i k N)) (HQ : Hid (128 ^ k = q)) (HK : Hid (a + k = i)) {h : i < s.size} (HM : Hid (((s[i].toNat % 128 * q : Nat) : Int) = (s[i].toNat : Int) % 128 * (q : Int)))
    (HP : Hid (bytesAt s a p ∧ p.length = k ∧ (∀ b ∈ p, 128 ≤ b ∧ b < 256) ∧ N = valN p)) (hk : k ≤ 4) (hlt : i < s.size) (hb : ¬ 127 < s[i].toNat)
    (hne : (!(bstr (varI ((N : Int) + (s[i].toNat : Int) % 128 * (q : Int)).toNat)).toList == (s.extract a (i + 1)).toList) = true) : Ending.returned (rvV (0, 0, false)) = .returned (rvV R) := by
  obtain ⟨p1, p2, p3, p4⟩ := HP.out
  subst p2
  have e2 := HM.out
  rw [show ((N : Int) + (s[i].toNat : Int) % 128 * (q : Int)).toNat = N + s[i].toNat % 128 * q by omega, same_bytes p1 HK.out HQ.out p3 p4 hlt (by omega)] at hne
  exact rv_bad HR HQ HK HM hk hlt hb (Or.inr (by simpa using hne))
theorem rvs_ok {s : ByteArray} {a i k N q : Nat} {R : Int × Int × Bool} {p : List Nat} (HR : Hid (R = rvGo s (5 - k) i k N)) (HQ : Hid (128 ^ k = q)) (HK : Hid (a + k = i)) {h : i < s.size} (HM : Hid (((s[i].toNat % 128 * q : Nat) : Int) = (s[i].toNat : Int) % 128 * (q : Int)))
    (HP : Hid (bytesAt s a p ∧ p.length = k ∧ (∀ b ∈ p, 128 ≤ b ∧ b < 256) ∧ N = valN p)) (hk : k ≤ 4) (hlt : i < s.size) (hb : ¬ 127 < s[i].toNat) (hx : (N : Int) + (s[i].toNat : Int) % 128 * (q : Int) ≤ 1000000000)
    (hne : (!(bstr (varI ((N : Int) + (s[i].toNat : Int) % 128 * (q : Int)).toNat)).toList == (s.extract a (i + 1)).toList) = false) :
    Ending.returned (rvV ((N : Int) + (s[i].toNat : Int) % 128 * (q : Int), (i : Int) + 1, true)) = .returned (rvV R) := by
  obtain ⟨p1, p2, p3, p4⟩ := HP.out
  subst p2
  have e2 := HM.out
  rw [show ((N : Int) + (s[i].toNat : Int) % 128 * (q : Int)).toNat = N + s[i].toNat % 128 * q by omega, same_bytes p1 HK.out HQ.out p3 p4 hlt (by omega)] at hne
  have hz : ¬ (s[i].toNat = 0 ∧ a < i) := by simpa using hne
  refine rv_ok HR HQ HK HM hk hlt hb hx ?_
  by_cases h0 : s[i].toNat = 0
  · exact Or.inr fun h => hz ⟨h0, h⟩
  · exact Or.inl h0

theorem rv_bad_eq {s : ByteArray} {at' : Int} (h : at' < 0 ∨ (s.size : Int) < at') : rv s at' = (0, 0, false) := by
  unfold rv; rw [if_neg (by omega)]
theorem rv_in_eq {s : ByteArray} {a : Nat} (h : a ≤ s.size) : rv s (a : Int) = rvGo s 5 a 0 0 := by
  unfold rv; rw [if_pos (by omega)]; simp

theorem readVar_any (s : ByteArray) (at' : Int) (w : World) (hs : s.size ≤ 1048576) (x y : Int) (z : Bool) (h : rv s at' = (x, y, z)) :
    Calls Try.prog 40 #[.string s, .int .i64 at'] w fun e w' => e = .returned (.tuple #[.int .i64 x, .int .i64 y, .bool z]) ∧ w' = w := by
  by_cases hn : at' < 0 ∨ (s.size : Int) < at'
  · have := readVar_bad s at' w hn
    rw [← rv_bad_eq hn, h] at this
    exact this
  · obtain ⟨a, rfl⟩ := Int.eq_ofNat_of_zero_le (show 0 ≤ at' by omega)
    have := readVar_in s a w (by omega) hs
    rw [← rv_in_eq (by omega), h] at this
    exact this

end Go.Proofs.Ytehkebdncfljmaa
