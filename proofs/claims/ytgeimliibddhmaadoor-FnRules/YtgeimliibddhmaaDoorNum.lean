/-
  The numbers of a field's flags, as the program lists them: the walk.
-/
import Derived.Test.YtgeimliibddhmaaDoorFq
import Derived.Test.YtgeimliibddhmaaDoorFo
import Derived.Test.YtgeimliibddhmaaDoorFul
import Derived.Test.YtgeimliibddhmaaDoorStr
import Derived.Test.YtgeimliibddhmaaDoorDraw
namespace Go.Proofs.YtgeimliibddhmaaDoor
open Go Go.RowKit
set_option linter.unusedVariables false

/-- The numbers below one whose flags are set. -/
def numsTo (p : Nat → Bool) : Nat → List Int
  | 0 => []
  | k + 1 => numsTo p k ++ (if p k then [(k : Int)] else [])
theorem numsTo_len (p : Nat → Bool) : ∀ k, (numsTo p k).length ≤ k
  | 0 => Nat.le_refl _
  | k + 1 => by have := numsTo_len p k; unfold numsTo; split <;> simp <;> omega
theorem numsTo_mem {p : Nat → Bool} {x : Int} : ∀ k, x ∈ numsTo p k ↔ ∃ i : Nat, i < k ∧ x = i ∧ p i = true
  | 0 => ⟨fun h => (by cases h), fun ⟨i, h, _⟩ => (by omega)⟩
  | k + 1 => by
    unfold numsTo
    rw [List.mem_append, numsTo_mem k]
    constructor
    · rintro (⟨i, h1, h2, h3⟩ | h)
      · exact ⟨i, by omega, h2, h3⟩
      · split at h
        · rw [List.mem_singleton] at h
          exact ⟨k, by omega, h, by assumption⟩
        · cases h
    · rintro ⟨i, h1, h2, h3⟩
      by_cases hk : i = k
      · subst hk
        right
        rw [if_pos h3]
        exact List.mem_singleton.2 h2
      · exact .inl ⟨i, by omega, h2, h3⟩
theorem numsTo_rise (p : Nat → Bool) : ∀ k, (numsTo p k).Pairwise (· < ·)
  | 0 => List.Pairwise.nil
  | k + 1 => by
    unfold numsTo
    refine List.pairwise_append.2 ⟨numsTo_rise p k, ?_, ?_⟩
    · split
      · exact List.pairwise_singleton _ _
      · exact List.Pairwise.nil
    · intro a ha b hb
      obtain ⟨i, h1, rfl, _⟩ := (numsTo_mem k).1 ha
      split at hb
      · rw [List.mem_singleton] at hb
        omega
      · cases hb
theorem numsTo_list {lo hi : Int} {l : List Int} (h0 : 0 ≤ lo) (h9 : hi ≤ 59) (hB : listB lo hi l = true) : numsTo (memP l) 60 = l := by
  obtain ⟨h1, h2, _⟩ := listB_up hB
  refine rise_ext _ _ (numsTo_rise _ _) h2 fun x => ?_
  rw [numsTo_mem]
  constructor
  · rintro ⟨i, _, rfl, hp⟩
    exact of_decide_eq_true hp
  · intro hx
    have := h1 x hx
    exact ⟨x.toNat, by omega, by omega, decide_eq_true (by rw [Int.toNat_of_nonneg (by omega)]; exact hx)⟩
theorem index55 {p : Nat → Bool} {k : Nat} (hk : k < 60) (w : World) : (Instr.index 55 (.agg (fldA p)) (.int .i64 (k : Int))).run Tryd.prog w = .ok (.bool (p k)) w := by
  simp [Instr.index, go_sem, run_underlying under55, hk, fldA_at hk, part]

set_option maxRecDepth 10000 in
set_option maxHeartbeats 1000000 in
theorem numbers_any (p : Nat → Bool) (w : World) :
    Calls Tryd.prog 42 #[.agg (fldA p)] w fun x w' => ∃ v, x = .returned v ∧ ownsR w' w.heap.size 3 v (numsTo p 60) ∧ Below w.heap.size w w' := by
  obtain ⟨L, HL⟩ : ∃ L, Hid (∀ n, n = 60 → numsTo p n = L) := ⟨numsTo p 60, fun n hn => by rw [hn]⟩
  rw [HL.out 60 rfl]
  go_enter Tryd.func42, Tryd.ntmps42
  obtain ⟨W, HW⟩ : ∃ W, Hid ((w.alloc (.cells (fldA p) 55)).alloc (.cells #[] 3) = W) := ⟨_, rfl⟩
  have HF : Hid (Fb 55 W w.heap.size p) := by show Fb _ _ _ _; rw [← HW.out]; exact (Fb.new 55 w p rfl).alloc _
  have HB : Hid (Below w.heap.size w W) := by show Below _ _ _; rw [← HW.out]; exact ba (ba (Below.refl _ _) _) _
  have HO : Hid (ownsI W w.heap.size 3 (.slice (some ⟨w.heap.size + 1, 0, none⟩) 0 0) []) := by
    show ownsI _ _ _ _ _
    rw [← HW.out]
    have := ownsI_made (w.alloc (.cells (fldA p) 55)) w.heap.size 0 3 #[] (by simp) (by decide) rfl
    simpa using this
  have HIX : Hid (∀ k : Nat, k < 60 → ∀ wx, (Instr.index 55 (.agg (fldA p)) (.int .i64 (k : Int))).run Tryd.prog wx = .ok (.bool (p k)) wx) := fun k hk wx => index55 hk wx
  go_wp2_with (first | (rw [HW.out]) | (refine wpl_load HF.out (.tmp 1) rfl rfl rfl ?_))
  obtain ⟨F, HFF⟩ : ∃ F, Hid (fldA p = F) := ⟨_, rfl⟩
  rw [HFF.out] at HIX
  rw [HFF.out]
  clear HFF HF HW
  generalize hB : w.heap.size = B at *
  go_loopw [3, 8] (fun out i wr => ∃ (k : Nat) (l : List Int), k ≤ 60 ∧ i = .int .i64 k ∧ l.length ≤ k ∧ Hid (numsTo p k = l) ∧ ownsI wr B 3 out l ∧ Below B w wr) (fun _ i _ => 60 - (intOf i).toNat)
  case atStart => exact ⟨0, [], Nat.zero_le _, rfl, Nat.le_refl _, rfl, HO.out, HB.out⟩
  case round =>
    obtain ⟨k, l, hk, rfl, hl, HE, hown, hbel⟩ := hrel
    clear HB HO
    by_cases hlt : k < 60
    · have hidx := HIX.out k hlt
      cases hp : p k with
      | true =>
        rw [hp] at hidx
        have HN : Hid (numsTo p (k + 1) = l ++ [(k : Int)]) := by show _ = _; rw [numsTo, HE.out, hp]; rfl
        clear hp
        have hBW : B ≤ wr.heap.size := by have := hbel.size; omega
        go_wp2_with (at_builtin; refine wpList_append_int _ w rfl (.tmp 13) (.tmp 15) 24 rfl B 3 Tryd.underlying24 info3 _ l rfl (hown.alloc _) (hbel.alloc hBW _) ⟨wr.heap.size, 0, none⟩ 1 (k : Int) rfl ?c1 ?c2 ?c3 ?_)
        case c1 => simp
        case c2 => omega
        case c3 => simp; omega
        intro v' w1 hown1 hbel1
        clear hown hbel
        go_wp2
        go_roundw
        case rel => exact ⟨k + 1, _, by omega, by go_num, by simp; omega, HN, hown1, hbel1⟩
        case measure => simp [intOf]; omega
      | false =>
        rw [hp] at hidx
        have HN : Hid (numsTo p (k + 1) = l) := by show _ = _; rw [numsTo, HE.out, hp]; simp
        clear hp
        go_wp2
        go_roundw
        case rel => exact ⟨k + 1, l, by omega, by go_num, by omega, HN, hown, hbel⟩
        case measure => simp [intOf]; omega
    · have hkn : k = 60 := by omega
      have HF2 : Hid (L = l) := by show _ = _; rw [← HL.out k hkn]; exact HE.out
      clear hkn HE HL
      go_wp2
      go_ret
      subst hB
      exact ⟨_, rfl, by rw [HF2.out]; unfold ownsR; rw [flat_int]; exact hown, hbel⟩
end Go.Proofs.YtgeimliibddhmaaDoor
