/-
  Pools, and lines of a text, as the specification tells them: the walks.
-/
import Derived.Test.YtehkebdncfljmaaTa
namespace Go.Proofs.Ytehkebdncfljmaa
open Go Go.RowKit

theorem one_list : (⟨#[111, 110, 101]⟩ : ByteArray).toList = [111, 110, 101] := (ByteArray.toList_eq _).trans rfl
theorem two_list : (⟨#[116, 119, 111]⟩ : ByteArray).toList = [116, 119, 111] := (ByteArray.toList_eq _).trans rfl
theorem wide_list : (⟨#[119, 105, 100, 101]⟩ : ByteArray).toList = [119, 105, 100, 101] := (ByteArray.toList_eq _).trans rfl
/-- How many may run in a pool. -/
def poolN (s : ByteArray) : Int := if s = ⟨#[111, 110, 101]⟩ then 1 else if s = ⟨#[116, 119, 111]⟩ then 2 else if s = ⟨#[119, 105, 100, 101]⟩ then 4 else 0
set_option maxHeartbeats 400000 in
theorem poolSize_any (s : ByteArray) (w : World) : Calls Try.prog 101 #[.string s] w fun e w' => e = .returned (.int .i64 (poolN s)) ∧ w' = w := by
  unfold poolN
  by_cases h1 : s = ⟨#[111, 110, 101]⟩
  · rw [if_pos h1]
    subst h1
    go_enter Try.func101, Try.ntmps101
    go_wp2
    go_ret
    exact ⟨rfl, rfl⟩
  · rw [if_neg h1]
    have q1 : (s.toList == [111, 110, 101]) = false := by rw [← one_list]; exact ne_list h1
    clear h1
    by_cases h2 : s = ⟨#[116, 119, 111]⟩
    · rw [if_pos h2]
      subst h2
      go_enter Try.func101, Try.ntmps101
      go_wp2
      go_ret
      exact ⟨rfl, rfl⟩
    · rw [if_neg h2]
      have q2 : (s.toList == [116, 119, 111]) = false := by rw [← two_list]; exact ne_list h2
      clear h2
      by_cases h3 : s = ⟨#[119, 105, 100, 101]⟩
      · rw [if_pos h3]
        subst h3
        go_enter Try.func101, Try.ntmps101
        go_wp2
        go_ret
        exact ⟨rfl, rfl⟩
      · rw [if_neg h3]
        have q3 : (s.toList == [119, 105, 100, 101]) = false := by rw [← wide_list]; exact ne_list h3
        clear h3
        go_enter Try.func101, Try.ntmps101
        go_wp2
        go_ret
        exact ⟨rfl, rfl⟩

/-- The lines behind the first i places, and where the next one begins. -/
def linesN (s : ByteArray) : Nat → List ByteArray × Nat
  | 0 => ([], 0)
  | i + 1 => if (s.data[i]?.map (fun b => b.toNat)) = some 10 then ((linesN s i).1 ++ [s.extract (linesN s i).2 i], i + 1) else linesN s i
/-- The lines of a text. -/
def linesB (s : ByteArray) : List ByteArray := if (linesN s s.size).2 < s.size then (linesN s s.size).1 ++ [s.extract (linesN s s.size).2 s.size] else (linesN s s.size).1
theorem linesN_bd (s : ByteArray) : ∀ i, (linesN s i).2 ≤ i ∧ (linesN s i).1.length ≤ i
  | 0 => ⟨Nat.le_refl _, Nat.le_refl _⟩
  | i + 1 => by
    obtain ⟨h1, h2⟩ := linesN_bd s i
    unfold linesN
    split
    · exact ⟨Nat.le_refl _, by simp; omega⟩
    · exact ⟨by omega, by omega⟩
set_option maxRecDepth 10000 in
set_option maxHeartbeats 1000000 in
theorem l12Lines_any (s : ByteArray) (w : World) (hs : s.size ≤ 1048576) :
    Calls Try.prog 87 #[.string s] w fun e w' => ∃ v, e = .returned v ∧ ownsS w' w.heap.size 9 v (linesB s) ∧ Below w.heap.size w w' := by
  go_enter Try.func87, Try.ntmps87
  go_wp2
  go_loopw [3, 4, 5] (fun out bg i wr => ∃ (k b : Nat) (l : List ByteArray), k ≤ s.size ∧ i = .int .i64 k ∧ bg = .int .i64 b ∧ b ≤ k ∧ l.length ≤ k ∧ Hid (linesN s k = (l, b)) ∧ ownsS wr w.heap.size 9 out l ∧ Below w.heap.size w wr) (fun _ _ i _ => s.size - (intOf i).toNat)
  case atStart => exact ⟨0, 0, [], Nat.zero_le _, rfl, rfl, Nat.le_refl _, Nat.le_refl _, rfl, ownsS_made _ _ _ _ _ (Nat.le_refl _) (by decide) rfl, (Below.refl _ _).alloc (Nat.le_refl _) _⟩
  case round =>
    obtain ⟨k, b, l, hk, rfl, rfl, hb, hl, HE, hown, hbel⟩ := hrel
    have hsz := hbel.size
    by_cases hlt : k < s.size
    · have hcut : ∀ wx, (Instr.slice 9 (.string s) (some (.int .i64 (b : Int))) (some (.int .i64 (k : Int))) none).run Try.prog wx = .ok (.string (s.extract b k)) wx := fun wx => by
        have := run_slice_string (P := Try.prog) wx 9 s .i64 .i64 (b : Int) (k : Int) Try.underlying9 (by omega) (by omega) (by omega)
        rw [Int.toNat_natCast, Int.toNat_natCast] at this
        exact this
      by_cases hby : s[k].toNat = 10
      · have HN : Hid (linesN s (k + 1) = (l ++ [s.extract b k], k + 1)) := by
          show linesN s (k + 1) = _
          rw [linesN, if_pos (by rw [byte_is hlt, hby]), HE.out]
        go_wp2_with (at_builtin; refine wpList_append_text _ w rfl (.tmp 17) (.tmp 22) 128 rfl w.heap.size 9 Try.underlying128 info9 _ l rfl (hown.alloc _) (hbel.alloc hsz _) ⟨wr.heap.size, 0, none⟩ 1 (s.extract b k) rfl ?c1 ?c2 ?c3 ?_)
        case c1 => simp
        case c2 => omega
        case c3 => simp; omega
        intro v' w1 hown1 hbel1
        clear hown hbel
        go_wp2
        go_roundw
        case rel => exact ⟨k + 1, k + 1, _, by omega, by go_num, by go_num, Nat.le_refl _, by simp; omega, HN, hown1, hbel1⟩
        case measure => simp [intOf]; omega
      · have HN : Hid (linesN s (k + 1) = (l, b)) := by
          show linesN s (k + 1) = _
          rw [linesN, if_neg, HE.out]
          intro h
          rw [byte_is hlt] at h
          exact hby (Option.some.inj h)
        have hby2 : ((s[k].toNat : Int) == (10 : Int)) = false := beq_eq_false_iff_ne.2 (by omega)
        have hby3 : (s[k].toNat == 10) = false := by simpa using hby
        go_wp2
        go_roundw
        case rel => exact ⟨k + 1, b, l, by omega, by go_num, rfl, by omega, by omega, HN, hown, hbel⟩
        case measure => simp [intOf]; omega
    · have hkn : k = s.size := by omega
      subst hkn
      by_cases hbs : b < s.size
      · have HF : Hid (linesB s = l ++ [s.extract b s.size]) := by show linesB s = _; unfold linesB; rw [HE.out, if_pos hbs]
        have hcut : ∀ wx, (Instr.slice 9 (.string s) (some (.int .i64 (b : Int))) none none).run Try.prog wx = .ok (.string (s.extract b s.size)) wx := fun wx => by
          rw [run_slice_string_from_if (P := Try.prog) wx 9 s .i64 b Try.underlying9]
          have : (b : Int) ≤ s.size := by omega
          simp [this]
        go_wp2_with (at_builtin; refine wpList_append_text _ w rfl (.tmp 30) (.tmp 34) 128 rfl w.heap.size 9 Try.underlying128 info9 _ l rfl (hown.alloc _) (hbel.alloc hsz _) ⟨wr.heap.size, 0, none⟩ 1 (s.extract b s.size) rfl ?c1 ?c2 ?c3 ?_)
        case c1 => simp
        case c2 => omega
        case c3 => simp; omega
        intro v' w1 hown1 hbel1
        go_wp2
        go_ret
        exact ⟨_, rfl, by rw [HF.out]; exact hown1, hbel1⟩
      · have HF : Hid (linesB s = l) := by show linesB s = _; unfold linesB; rw [HE.out, if_neg hbs]
        go_wp2
        go_ret
        exact ⟨_, rfl, by rw [HF.out]; exact hown, hbel⟩
end Go.Proofs.Ytehkebdncfljmaa
