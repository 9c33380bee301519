/-
  The law's helpers on lists of texts: held against another, marked, looked at: the walks.
-/
import Derived.Test.YtkfhmeiiicidaaaMt
import Derived.Test.YtkfhmeiiicidaaaStr
import Derived.Deep.QuietTactic
import Derived.BigQuiet
import Derived.Deep.RegionHeld
import Derived.WalkSpells
import Derived.WalkLawsBesides
import Derived.Handy
namespace Go.Proofs.Ytkfhmeiiicidaaa
open Go.RowKit

/-- n marks from k on. -/
def marks (k : Nat) : Nat → List ByteArray
  | 0 => []
  | n + 1 => markB k :: marks (k + 1) n
theorem marks_length (k : Nat) : ∀ n, (marks k n).length = n := by
  intro n
  induction n generalizing k with
  | zero => rfl
  | succ n ih => simp [marks, ih]
theorem marks_at (k : Nat) : ∀ (n j : Nat), j < n → (marks k n)[j]? = some (markB (k + j)) := by
  intro n
  induction n generalizing k with
  | zero => intro j h; omega
  | succ n ih =>
    intro j h
    cases j with
    | zero => simp [marks]
    | succ j =>
      simp only [marks, List.getElem?_cons_succ]
      rw [ih (k + 1) j (by omega)]
      congr 2
      omega

set_option maxHeartbeats 400000 in
theorem eqS_none (a b : Option Addr) (c d : Nat) (w : World) :
    Calls Try.prog 91 #[.slice a 0 c, .slice b 0 d] w fun e w' => e = .returned (.bool true) ∧ Below w.heap.size w w' := by
  go_enter Try.func91, Try.ntmps91
  go_wp2
  refine wp_loop_rounds 1 ?_
  rw [rounds_succ]
  go_wp2
  go_ret
  exact ⟨rfl, Below.refl _ _⟩

set_option maxHeartbeats 1000000 in
theorem eqS_some (g h n c d : Nat) (l : List ByteArray) (w : World) (hn : n ≤ 1048577) (hl : l.length = n) (ha : ∀ j (hj : j < l.length), w.cell? ⟨g, j, none⟩ = some (.string l[j])) (hb : ∀ j (hj : j < l.length), w.cell? ⟨h, j, none⟩ = some (.string l[j])) :
    Calls Try.prog 91 #[.slice (some ⟨g, 0, none⟩) n c, .slice (some ⟨h, 0, none⟩) n d] w fun e w' => e = .returned (.bool true) ∧ Below w.heap.size w w' := by
  have HA : Hid (∀ j (hj : j < l.length), w.cell? ⟨g, j, none⟩ = some (.string l[j])) := ha
  have HB : Hid (∀ j (hj : j < l.length), w.cell? ⟨h, j, none⟩ = some (.string l[j])) := hb
  have HL : Hid (l.length = n) := hl
  clear ha hb hl
  go_enter Try.func91, Try.ntmps91
  go_wp2
  go_loopw [5] (fun i wr => ∃ (k m : Nat), k ≤ n ∧ i = .int .i64 k ∧ wr = w.drewN m) (fun i _ => n - (intOf i).toNat)
  case atStart => exact ⟨0, 0, Nat.zero_le _, rfl, rfl⟩
  case round =>
    obtain ⟨k, m, hk, rfl, rfl⟩ := hrel
    by_cases hlt : k < n
    · obtain ⟨t, hta, htb⟩ : ∃ t, w.cell? ⟨g, k, none⟩ = some (.string t) ∧ w.cell? ⟨h, k, none⟩ = some (.string t) := ⟨_, HA.out k (by rw [HL.out]; exact hlt), HB.out k (by rw [HL.out]; exact hlt)⟩
      go_wp2
      go_quiet (fail)
      go_wp2
      go_roundw
      case rel => exact ⟨k + 1, _, by omega, by go_num, rfl⟩
      case measure => simp [intOf]; omega
    · go_wp2
      go_ret
      exact ⟨rfl, ⟨rfl, rfl, rfl, Nat.le_refl _, fun _ _ => rfl⟩⟩

theorem eqS_any {w : World} {A B : Nat} {va vb : Value} {l : List ByteArray} (ha : ownsS w A 9 va l) (hb : ownsS w B 9 vb l) (hl : l.length ≤ 1048577) :
    Calls Try.prog 91 #[va, vb] w fun e w' => e = .returned (.bool true) ∧ Below w.heap.size w w' := by
  by_cases hne : l = []
  · subst hne
    obtain ⟨ao, c, rfl⟩ := ownsS_empty ha
    obtain ⟨bo, d, rfl⟩ := ownsS_empty hb
    exact eqS_none ao bo c d w
  · obtain ⟨g, c, rfl, _, _, _, hca, _⟩ := ownsS_form ha hne
    obtain ⟨h, d, rfl, _, _, _, hcb, _⟩ := ownsS_form hb hne
    exact eqS_some g h l.length c d l w hl rfl hca hcb

set_option maxHeartbeats 400000 in
theorem markS_none (a : Option Addr) (c : Nat) (w : World) :
    Calls Try.prog 75 #[.slice a 0 c, .int .i64 1] w fun e w' => e = .returned (.int .i64 1) ∧ Below w.heap.size w w' := by
  go_enter Try.func75, Try.ntmps75
  go_wp2
  refine wp_loop_rounds 1 ?_
  rw [rounds_succ]
  go_wp2
  go_ret
  exact ⟨rfl, Below.refl _ _⟩

/-- The first k marked, the rest as they were. -/
def marked (l : List ByteArray) (k : Nat) : List ByteArray := marks 1 k ++ l.drop k
theorem marked_length (l : List ByteArray) (k : Nat) (h : k ≤ l.length) : (marked l k).length = l.length := by simp [marked, marks_length]; omega
theorem marks_snoc (k : Nat) : ∀ n, marks k (n + 1) = marks k n ++ [markB (k + n)] := by
  intro n
  induction n generalizing k with
  | zero => simp [marks]
  | succ n ih => rw [marks, ih (k + 1)]; simp [marks]; congr 1; omega
theorem marked_set (l : List ByteArray) (k : Nat) (h : k < l.length) : (marked l k).set k (markB (k + 1)) = marked l (k + 1) := by
  unfold marked
  rw [marks_snoc, List.drop_eq_getElem_cons h, List.set_append_right _ _ (by rw [marks_length]; omega), marks_length, Nat.add_comm 1 k]
  simp
  rw [List.drop_eq_getElem_cons h]
  rfl
theorem marked_all (l : List ByteArray) : marked l l.length = marks 1 l.length := by simp [marked]

set_option maxHeartbeats 1000000 in
theorem markS_some (g n cap B : Nat) (l : List ByteArray) (w : World) (hn : n ≤ 1048577) (hl : l.length = n) (hB : B ≤ w.heap.size) (ho : ownsS w B 9 (.slice (some ⟨g, 0, none⟩) n cap) l) (hg : B ≤ g) :
    Calls Try.prog 75 #[.slice (some ⟨g, 0, none⟩) n cap, .int .i64 1] w fun e w' => e = .returned (.int .i64 ((n : Int) + 1)) ∧ ownsS w' B 9 (.slice (some ⟨g, 0, none⟩) n cap) (marks 1 n) ∧ Below B w w' := by
  have HL : Hid (l.length = n) := hl
  clear hl
  go_enter Try.func75, Try.ntmps75
  go_wp2
  go_loopw [1, 5] (fun c i wr => ∃ k : Nat, k ≤ n ∧ i = .int .i64 k ∧ c = .int .i64 ((k : Int) + 1) ∧ ownsS wr B 9 (.slice (some ⟨g, 0, none⟩) n cap) (marked l k) ∧ Below B w wr) (fun _ i _ => n - (intOf i).toNat)
  case atStart => exact ⟨0, Nat.zero_le _, rfl, rfl, ho, Below.refl _ _⟩
  case round =>
    obtain ⟨k, hk, rfl, rfl, hown, hbel⟩ := hrel
    clear ho
    have hsz := hbel.size
    by_cases hlt : k < n
    · obtain ⟨t, ht2, hcell, hfr, hgs, hnn⟩ := ownsS_cell hown hlt
      clear hnn ht2
      go_wp2_with (go_at_call 55; refine (markText_any (k + 1) _ (by omega) (by omega)).mono ?_; rintro e w2 ⟨rfl, hb2⟩; have hc2 := (hb2.cell (p := ⟨g, k, none⟩) hgs).trans hcell; have hf2 := (hb2.frozen (p := ⟨g, k, none⟩) hgs).trans hfr)
      have R := ownsS_store (hown.all hb2) k (markB (k + 1))
      rw [marked_set l k (by rw [HL.out]; exact hlt)] at R
      clear hown hcell hfr hc2 hf2
      go_roundw
      case rel => exact ⟨k + 1, by omega, by go_num, by go_num, R, (hbel.trans (hb2.mono (by omega))).setCell (p := ⟨g, k, none⟩) hg _⟩
      case measure => simp [intOf]; omega
    · have hkn : k = n := by omega
      subst hkn
      have R : ownsS wr B 9 (.slice (some ⟨g, 0, none⟩) k cap) (marks 1 k) := by
        have e := marked_all l
        rw [HL.out] at e
        rw [← e]
        exact hown
      clear hown
      go_wp2
      go_ret
      exact ⟨rfl, R, hbel⟩

theorem markS_any {w : World} {B : Nat} {v : Value} {l : List ByteArray} (ho : ownsS w B 9 v l) (hl : l.length ≤ 1048577) (hB : B ≤ w.heap.size) :
    Calls Try.prog 75 #[v, .int .i64 1] w fun e w' => e = .returned (.int .i64 ((l.length : Int) + 1)) ∧ ownsS w' B 9 v (marks 1 l.length) ∧ Below B w w' := by
  by_cases hne : l = []
  · subst hne
    have ho2 := ho
    obtain ⟨ao, c, rfl⟩ := ownsS_empty ho
    exact (markS_none ao c w).mono fun e w' ⟨he, hb⟩ => ⟨he, ho2.all hb, hb.mono hB⟩
  · have ho2 := ho
    obtain ⟨g, c, rfl, hg, _⟩ := ownsS_form ho hne
    exact markS_some g l.length c B l w hl rfl hB ho2 hg

set_option maxHeartbeats 400000 in
theorem heldS_none (a : Option Addr) (c : Nat) (w : World) :
    Calls Try.prog 76 #[.slice a 0 c, .int .i64 1] w fun e w' => e = .returned (.int .i64 1) ∧ Below w.heap.size w w' := by
  go_enter Try.func76, Try.ntmps76
  go_wp2
  refine wp_loop_rounds 1 ?_
  rw [rounds_succ]
  go_wp2
  go_ret
  exact ⟨rfl, Below.refl _ _⟩

set_option maxHeartbeats 1000000 in
theorem heldS_some (g n cap : Nat) (w : World) (hn : n ≤ 1048577) (hg : g < w.heap.size) (ha : ∀ j, j < n → w.cell? ⟨g, j, none⟩ = some (.string (markB (j + 1)))) :
    Calls Try.prog 76 #[.slice (some ⟨g, 0, none⟩) n cap, .int .i64 1] w fun e w' => e = .returned (.int .i64 ((n : Int) + 1)) ∧ Below w.heap.size w w' := by
  have HA : Hid (∀ j, j < n → w.cell? ⟨g, j, none⟩ = some (.string (markB (j + 1)))) := ha
  clear ha
  go_enter Try.func76, Try.ntmps76
  go_wp2
  go_loopw [1, 5] (fun c i wr => ∃ k : Nat, k ≤ n ∧ i = .int .i64 k ∧ c = .int .i64 ((k : Int) + 1) ∧ Below w.heap.size w wr) (fun _ i _ => n - (intOf i).toNat)
  case atStart => exact ⟨0, Nat.zero_le _, rfl, rfl, Below.refl _ _⟩
  case round =>
    obtain ⟨k, hk, rfl, rfl, hbel⟩ := hrel
    have hsz := hbel.size
    by_cases hlt : k < n
    · have hc := (hbel.cell (p := ⟨g, k, none⟩) hg).trans (HA.out k hlt)
      have hgr : g < wr.heap.size := by omega
      go_wp2
      go_region_held (fun w' => w'.cell? ⟨g, k, none⟩ = some (.string (markB (k + 1)))) ((first | exact hc | exact (hb2.cell (p := ⟨g, k, none⟩) hgr).trans hc)) ((go_at_call 55; refine (markText_any (k + 1) _ (by omega) (by omega)).mono ?_; rintro e w2 ⟨rfl, hb2⟩))
      go_wp2
      go_roundw
      case rel => exact ⟨k + 1, by omega, by go_num, by go_num, hbel.trans (((Below.refl _ _).drew.trans hb2).mono hsz)⟩
      case measure => simp [intOf]; omega
    · have hkn : k = n := by omega
      subst hkn
      go_wp2
      go_ret
      exact ⟨rfl, hbel⟩

theorem heldS_any {w : World} {B n : Nat} {v : Value} (ho : ownsS w B 9 v (marks 1 n)) (hn : n ≤ 1048577) :
    Calls Try.prog 76 #[v, .int .i64 1] w fun e w' => e = .returned (.int .i64 ((n : Int) + 1)) ∧ Below w.heap.size w w' := by
  by_cases h0 : n = 0
  · subst h0
    obtain ⟨ao, c, rfl⟩ := ownsS_empty ho
    exact heldS_none ao c w
  · obtain ⟨g, c, rfl, _, hg, _, hc, _⟩ := ownsS_form ho (by intro e; have := congrArg List.length e; rw [marks_length] at this; simp at this; omega)
    rw [marks_length]
    refine heldS_some g n c w hn hg fun j hj => ?_
    rw [hc j (by rw [marks_length]; exact hj)]
    have := marks_at 1 n j hj
    rw [List.getElem?_eq_getElem (by rw [marks_length]; exact hj)] at this
    rw [Option.some.inj this, Nat.add_comm 1 j]

end Go.Proofs.Ytkfhmeiiicidaaa
