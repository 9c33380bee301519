/-
  The law's helpers on lists of texts: held against another, marked, looked at: the walks.
-/
import Derived.Test.YteefacjjdalncaaMt
import Derived.Test.YteefacjjdalncaaStr
import Derived.Deep.QuietTactic
import Derived.BigQuiet
import Derived.Deep.RegionHeld
import Derived.WalkSpells
import Derived.WalkLawsBesides
import Derived.Handy
namespace Go.Proofs.Yteefacjjdalncaa
open Go.RowKit

/-- n marksT from k on. -/
def marksT (k : Nat) : Nat → List ByteArray
  | 0 => []
  | n + 1 => markB k :: marksT (k + 1) n
theorem marksT_length (k : Nat) : ∀ n, (marksT k n).length = n := by
  intro n
  induction n generalizing k with
  | zero => rfl
  | succ n ih => simp [marksT, ih]
theorem marks_at (k : Nat) : ∀ (n j : Nat), j < n → (marksT k n)[j]? = some (markB (k + j)) := by
  intro n
  induction n generalizing k with
  | zero => intro j h; omega
  | succ n ih =>
    intro j h
    cases j with
    | zero => simp [marksT]
    | succ j =>
      simp only [marksT, List.getElem?_cons_succ]
      rw [ih (k + 1) j (by omega)]
      congr 2
      omega

set_option maxHeartbeats 400000 in
theorem eqS_none (a b : Option Addr) (c d : Nat) (w : World) :
    Calls Try.prog 18 #[.slice a 0 c, .slice b 0 d] w fun e w' => e = .returned (.bool true) ∧ Below w.heap.size w w' := by
  go_enter Try.func18, Try.ntmps18
  go_wp2
  refine wp_loop_rounds 1 ?_
  rw [rounds_succ]
  go_wp2
  go_ret
  exact ⟨rfl, Below.refl _ _⟩

set_option maxHeartbeats 1000000 in
theorem eqS_some (g h n c d : Nat) (l : List ByteArray) (w : World) (hn : n ≤ 1048577) (hl : l.length = n) (ha : ∀ j (hj : j < l.length), w.cell? ⟨g, j, none⟩ = some (.string l[j])) (hb : ∀ j (hj : j < l.length), w.cell? ⟨h, j, none⟩ = some (.string l[j])) :
    Calls Try.prog 18 #[.slice (some ⟨g, 0, none⟩) n c, .slice (some ⟨h, 0, none⟩) n d] w fun e w' => e = .returned (.bool true) ∧ Below w.heap.size w w' := by
  have HA : Hid (∀ j (hj : j < l.length), w.cell? ⟨g, j, none⟩ = some (.string l[j])) := ha
  have HB : Hid (∀ j (hj : j < l.length), w.cell? ⟨h, j, none⟩ = some (.string l[j])) := hb
  have HL : Hid (l.length = n) := hl
  clear ha hb hl
  go_enter Try.func18, Try.ntmps18
  go_wp2
  go_loopw [5] (fun i wr => ∃ (k m : Nat), k ≤ n ∧ i = .int .i64 k ∧ wr = w.drewN m) (fun i _ => n - (intOf i).toNat)
  case atStart => exact ⟨0, 0, Nat.zero_le _, rfl, rfl⟩
  case round =>
    obtain ⟨k, m, hk, rfl, rfl⟩ := hrel
    by_cases hlt : k < n
    · obtain ⟨t, hta, htb⟩ : ∃ t, w.cell? ⟨g, k, none⟩ = some (.string t) ∧ w.cell? ⟨h, k, none⟩ = some (.string t) := ⟨_, HA.out k (by rw [HL.out]; exact hlt), HB.out k (by rw [HL.out]; exact hlt)⟩
      go_wp2
      go_quiet (fail)
      go_wp2
      go_roundw
      case rel => exact ⟨k + 1, _, by omega, by go_num, rfl⟩
      case measure => simp [intOf]; omega
    · go_wp2
      go_ret
      exact ⟨rfl, ⟨rfl, rfl, rfl, Nat.le_refl _, fun _ _ => rfl⟩⟩

theorem eqS_any {w : World} {A B : Nat} {va vb : Value} {l : List ByteArray} (ha : ownsS w A 9 va l) (hb : ownsS w B 9 vb l) (hl : l.length ≤ 1048577) :
    Calls Try.prog 18 #[va, vb] w fun e w' => e = .returned (.bool true) ∧ Below w.heap.size w w' := by
  by_cases hne : l = []
  · subst hne
    obtain ⟨ao, c, rfl⟩ := ownsS_empty ha
    obtain ⟨bo, d, rfl⟩ := ownsS_empty hb
    exact eqS_none ao bo c d w
  · obtain ⟨g, c, rfl, _, _, _, hca, _⟩ := ownsS_form ha hne
    obtain ⟨h, d, rfl, _, _, _, hcb, _⟩ := ownsS_form hb hne
    exact eqS_some g h l.length c d l w hl rfl hca hcb

/-- The first k marked, the rest as they were. -/
def marked (l : List ByteArray) (k : Nat) : List ByteArray := marksT 1 k ++ l.drop k
theorem marked_length (l : List ByteArray) (k : Nat) (h : k ≤ l.length) : (marked l k).length = l.length := by simp [marked, marksT_length]; omega
theorem marks_snoc (k : Nat) : ∀ n, marksT k (n + 1) = marksT k n ++ [markB (k + n)] := by
  intro n
  induction n generalizing k with
  | zero => simp [marksT]
  | succ n ih => rw [marksT, ih (k + 1)]; simp [marksT]; congr 1; omega
theorem marked_set (l : List ByteArray) (k : Nat) (h : k < l.length) : (marked l k).set k (markB (k + 1)) = marked l (k + 1) := by
  unfold marked
  rw [marks_snoc, List.drop_eq_getElem_cons h, List.set_append_right _ _ (by rw [marksT_length]; omega), marksT_length, Nat.add_comm 1 k]
  simp
  rw [List.drop_eq_getElem_cons h]
  rfl
theorem marked_all (l : List ByteArray) : marked l l.length = marksT 1 l.length := by simp [marked]

end Go.Proofs.Yteefacjjdalncaa
