/-
  Flags: each so many-th of a reach.
-/
import Derived.Test.YtbecdaholpiaeaaDoorFb
namespace Go.Proofs.YtbecdaholpiaeaaDoor
open Go Go.RowKit
set_option linter.unusedVariables false

/-- Each so many-th of a reach. -/
def eachP (l : Nat) (hi : Int) (s : Nat) (i : Nat) : Bool := decide (l ≤ i ∧ (i : Int) ≤ hi ∧ (i - l) % s = 0)
def eachTo (l s n : Nat) (i : Nat) : Bool := decide (l ≤ i ∧ i < n ∧ (i - l) % s = 0)
theorem eachTo_start (l s i : Nat) : eachTo l s l i = false := decide_eq_false (by omega)
theorem eachTo_next {l s q i : Nat} (hs : 1 ≤ s) : eachTo l s (l + s * q + s) i = if i = l + s * q then true else eachTo l s (l + s * q) i := by
  by_cases h : i = l + s * q
  · subst h
    rw [if_pos rfl]
    exact decide_eq_true ⟨by omega, by omega, by rw [Nat.add_sub_cancel_left, Nat.mul_mod_right]⟩
  · rw [if_neg h]
    unfold eachTo
    congr 1
    apply propext
    constructor
    · rintro ⟨h1, h2, h3⟩
      refine ⟨h1, ?_, h3⟩
      refine Nat.lt_of_not_le fun hle => h ?_
      obtain ⟨j, rfl⟩ : ∃ j, i = l + s * q + j := ⟨i - (l + s * q), by omega⟩
      have e : l + s * q + j - l = s * q + j := by omega
      rw [e, Nat.mul_add_mod, Nat.mod_eq_of_lt (by omega)] at h3
      omega
    · rintro ⟨h1, h2, h3⟩
      exact ⟨h1, by omega, h3⟩
theorem eachTo_end {l s n : Nat} {hi : Int} (h : hi < n) {q : Nat} (hn : n = l + s * q) (hs : 1 ≤ s) (hlast : ∀ m, n = m + s → l ≤ m → (m : Int) ≤ hi) (i : Nat) : eachTo l s n i = eachP l hi s i := by
  unfold eachTo eachP
  congr 1
  apply propext
  constructor
  · rintro ⟨h1, h2, h3⟩
    refine ⟨h1, ?_, h3⟩
    cases q with
    | zero => omega
    | succ q =>
      have hm := hlast (l + s * q) (by rw [hn, Nat.mul_succ]; omega) (by omega)
      rcases Nat.lt_or_ge (l + s * q) i with hc | hc
      · exfalso
        obtain ⟨j, rfl⟩ : ∃ j, i = l + s * q + j := ⟨i - (l + s * q), by omega⟩
        have e : l + s * q + j - l = s * q + j := by omega
        rw [hn, Nat.mul_succ] at h2
        rw [e, Nat.mul_add_mod, Nat.mod_eq_of_lt (by omega)] at h3
        omega
      · omega
  · rintro ⟨h1, h2, h3⟩
    exact ⟨h1, by omega, h3⟩
/-- What lies there while the flags are set. -/
structure EaS (w : World) (B : Nat) (hi : Int) (W : World) (p : Nat → Bool) : Prop where
  z1 : ∃ q, Fb 88 W (B + 1) q
  z2 : Fb 88 W (B + 1 + 1) p
  c1 : W.cell? ⟨B, 1, none⟩ = some (.int .i64 hi)
  be : Below B w W
theorem EaS.put {w W : World} {B : Nat} {hi : Int} {p : Nat → Bool} (h : EaS w B hi W p) (n : Nat) : EaS w B hi (W.setCell ⟨B + 1 + 1, n, none⟩ (.bool true)) (fun i => if i = n then true else p i) := by
  obtain ⟨⟨q, z1⟩, z2, c1, be⟩ := h
  refine ⟨⟨q, z1.far (by show B + 1 + 1 ≠ B + 1; omega) _⟩, z2.set n true, ?_, be.setCell (by show B ≤ B + 1 + 1; omega) _⟩
  have e := heap_setCell_other W ⟨B + 1 + 1, n, none⟩ B (.bool true) (by show B ≠ B + 1 + 1; omega)
  unfold World.cell? at c1 ⊢
  rw [e]
  exact c1

set_option maxRecDepth 10000 in
set_option maxHeartbeats 1000000 in
theorem eachOf_nat (l s : Nat) (hi : Int) (w : World) (hl : l ≤ 60) (h1 : hi ≤ 59) (hs : 1 ≤ s) (hs2 : s ≤ 4611686018427387904) :
    Calls Tryd.prog 73 #[.agg #[.int .i64 (l : Int), .int .i64 hi], .int .i64 (s : Int)] w fun e w' => e = .returned (.agg (fldA (eachP l hi s))) ∧ Below w.heap.size w w' := by
  go_enter Tryd.func73, Tryd.ntmps73
  go_wp2
  rw [none55]
  obtain ⟨W, hW⟩ : ∃ W, ((w.alloc (.cells #[.int .i64 (l : Int), .int .i64 hi] 100)).alloc (.cells (fldA fun _ => false) 88)).alloc (.cells (fldA fun _ => false) 88) = W := ⟨_, rfl⟩
  have Z1 : Fb 88 W (w.heap.size + 1) (fun _ => false) := by rw [← hW]; exact ((Fb.new 88 (w.alloc (.cells #[.int .i64 (l : Int), .int .i64 hi] 100)) _ (by simp)).alloc _)
  have Z2 : Fb 88 W (w.heap.size + 1 + 1) (fun _ => false) := by rw [← hW]; exact (Fb.new 88 _ _ (by simp))
  have c1 : W.cell? ⟨w.heap.size, 1, none⟩ = some (.int .i64 hi) := by rw [← hW]; simp [go_sem]
  have hb : Below w.heap.size w W := by rw [← hW]; exact ba (ba (ba (Below.refl _ _) _) _) _
  rw [hW]
  clear hW
  have HZ : Hid (EaS w w.heap.size hi W fun _ => false) := ⟨⟨_, Z1⟩, Z2, c1, hb⟩
  clear Z1 Z2 c1 hb
  generalize hB : w.heap.size = B at *
  go_loopw [6] (fun i wr => ∃ (k q : Nat) (p : Nat → Bool), i = .int .i64 k ∧ k ≤ 60 + s ∧ l ≤ k ∧ Hid (k = l + s * q ∧ (∀ m, k = m + s → l ≤ m → (m : Int) ≤ hi) ∧ ∀ i, p i = eachTo l s k i) ∧ Hid (EaS w B hi wr p)) (fun i _ => 60 + s + 1 - (intOf i).toNat)
  case atStart => exact ⟨l, 0, _, rfl, by omega, Nat.le_refl _, ⟨by omega, fun m hm hlm => by omega, fun i => (eachTo_start l s i).symm⟩, HZ⟩
  case round =>
    obtain ⟨k, q, p, rfl, hk, hlk, HE, HS⟩ := hrel
    have c1 := HS.out.c1
    by_cases hle : (k : Int) ≤ hi
    · have f0 := HS.out.z2.fr k
      have d0 := HS.out.z2.cell (i := k) (by omega)
      have HN : Hid (k + s = l + s * (q + 1) ∧ (∀ m, k + s = m + s → l ≤ m → (m : Int) ≤ hi) ∧ ∀ i, (if i = k then true else p i) = eachTo l s (k + s) i) := by
        have h3 : ∀ m, k + s = m + s → l ≤ m → (m : Int) ≤ hi := fun m hm _ => by omega
        refine ⟨by have := HE.out.1; rw [Nat.mul_succ]; omega, h3, fun i => ?_⟩
        rw [HE.out.2.2 i, HE.out.1, eachTo_next hs]
      have HT : Hid (EaS w B hi (wr.setCell ⟨B + 1 + 1, k, none⟩ (.bool true)) (fun i => if i = k then true else p i)) := HS.out.put k
      go_wp2
      go_roundw
      case rel => exact ⟨k + s, q + 1, _, by go_num, by omega, by omega, HN, HT⟩
      case measure => simp [intOf]; omega
    · obtain ⟨q1, z1⟩ := HS.out.z1
      have HF : Hid (fldA p = fldA (eachP l hi s)) := fldA_ext fun i _ => (HE.out.2.2 i).trans (eachTo_end (by omega) HE.out.1 hs HE.out.2.1 i)
      have HR : Hid (Fb 88 (wr.setRow (B + 1) (fldA p)) (B + 1) p ∧ Below B w (wr.setRow (B + 1) (fldA p))) := ⟨z1.row p, below_setRow HS.out.be (by omega) _⟩
      have HZ1 : Hid (Fb 88 wr (B + 1) q1) := z1
      clear z1 HZ
      go_wp2_with (first | (refine wpl_load HS.out.z2 (.tmp 5) rfl rfl rfl ?_) | (refine wpl_store HZ1.out p (.tmp 4) (.tmp 18) rfl rfl rfl rfl ?_))
      refine bodyPost_ret (ret_f rfl rfl HR.out.1) rfl ?_
      subst hB
      exact ⟨by rw [HF.out], HR.out.2⟩
end Go.Proofs.YtbecdaholpiaeaaDoor
