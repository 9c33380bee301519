/-
  The first minute of a day that fires, and how many do, as the program tells it: the walks.
-/
import Derived.Test.YtbecdaholpiaeaaDoorOnd
namespace Go.Proofs.YtbecdaholpiaeaaDoor
open Go Go.RowKit
set_option linter.unusedVariables false

/-- The time of a minute is among the flags. -/
def timeQ (r : Nat → Nat → Bool) (m : Int) : Bool := r 1 (m % 1440 / 60).toNat && r 0 (m % 60).toNat
/-- The first of a day. -/
def FdP (r : Nat → Nat → Bool) (bg en : Int) (q : Bool) (o : Option Int) : Prop := (q = false → o = none) ∧ (q = true → Least (timeQ r) bg en o)
set_option maxHeartbeats 400000 in
theorem dayBehind_any (m : Int) (w : World) (h0 : 0 ≤ m) (h1 : m ≤ 4611686018427387904) :
    Calls Tryd.prog 60 #[.int .i64 m] w fun e w' => e = .returned (.int .i64 ((m / 1440 + 1) * 1440)) ∧ w' = w := by
  go_enter Tryd.func60, Tryd.ntmps60
  go_wp2
  go_ret
  refine ⟨congrArg (fun x => Ending.returned (.int .i64 x)) ?_, rfl⟩
  omega

set_option maxRecDepth 10000 in
set_option maxHeartbeats 2000000 in
theorem firstOfDay_try (r : Nat → Nat → Bool) (bg en : Int) (q : Bool) (w : World) (h0 : 0 ≤ bg) (h1 : en ≤ 1152921504606846976) (hq : ∀ W, Below w.heap.size w W → Calls Tryd.prog 65 #[.agg (rulA r), .int .i64 bg] W fun x w' => x = .returned (.bool q) ∧ Below W.heap.size W w') :
    Calls Tryd.prog 61 #[.agg (rulA r), .int .i64 bg, .int .i64 en] w fun x w' => ∃ o : Option Int, x = .returned (.tuple #[.int .i64 (o.getD 0), .bool o.isSome]) ∧ FdP r bg en q o ∧ Below w.heap.size w w' := by
  have HQ : Hid (∀ W, Below w.heap.size w W → Calls Tryd.prog 65 #[.agg (rulA r), .int .i64 bg] W fun x w' => x = .returned (.bool q) ∧ Below W.heap.size W w') := hq
  have HT : Hid (∀ (m : Int) (W : World), 0 ≤ m → m ≤ 4611686018427387904 → Calls Tryd.prog 66 #[.agg (rulA r), .int .i64 m] W fun e w' => e = .returned (.bool (timeQ r m)) ∧ Below W.heap.size W w') := fun m W g0 g1 => atTime_any r m W g0 g1
  clear hq
  go_enter Tryd.func61, Tryd.ntmps61
  obtain ⟨W, hW⟩ : ∃ W, w.alloc (.cells (rulA r) 90) = W := ⟨_, rfl⟩
  have HZ : Hid (Rb W w.heap.size r) := by show Rb _ _ _; rw [← hW]; exact Rb.new _ _ 90 rfl
  have hb : Below w.heap.size w W := by rw [← hW]; exact ba (Below.refl _ _) _
  go_wp2_with (first | (rw [hW]; clear hW) | (refine wpr_load HZ.out (.tmp 3) rfl rfl rfl ?_))
  refine (HQ.out _ hb).mono ?_
  rintro x w1 ⟨rfl, hb1⟩
  have B1 := Below.on hb hb1
  have HZ1 : Hid (Rb w1 w.heap.size r) := HZ.out.up hb1
  clear hb hb1 HZ HQ
  cases q with
  | false =>
    go_wp2
    go_ret2
    exact ⟨none, rfl, ⟨fun _ => rfl, fun h => (by cases h)⟩, B1⟩
  | true =>
    have HB : Hid (Below w.heap.size w w1) := B1
    clear B1
    go_wp2
    go_loopw [8] (fun i wr => ∃ m : Int, bg ≤ m ∧ (m ≤ en ∨ m = bg) ∧ i = .int .i64 m ∧ Hid (∀ x, bg ≤ x → x < m → timeQ r x = false) ∧ Hid (Rb wr w.heap.size r ∧ Below w.heap.size w wr)) (fun i _ => (en - intOf i).toNat)
    case atStart => exact ⟨bg, Int.le_refl _, .inr rfl, rfl, fun x g0 g1 => absurd g1 (by omega), HZ1.out, HB.out⟩
    case round =>
      obtain ⟨m, hm0, hm1, rfl, HP, HS⟩ := hrel
      clear HZ1 HB
      by_cases hlt : m < en
      · obtain ⟨t, ht⟩ : ∃ t, timeQ r m = t := ⟨_, rfl⟩
        have HTT : Hid (timeQ r m = t) := ht
        have HT2 : Hid (∀ W : World, Calls Tryd.prog 66 #[.agg (rulA r), .int .i64 m] W fun e w' => e = .returned (.bool t) ∧ Below W.heap.size W w') := fun W => by rw [← ht]; exact HT.out m W (by omega) (by omega)
        clear ht
        go_wp2_with (refine wpr_load HS.out.1 (.tmp 3) rfl rfl rfl ?_)
        refine (HT2.out _).mono ?_
        rintro x w2 ⟨rfl, hb2⟩
        have HS2 : Hid (Rb w2 w.heap.size r ∧ Below w.heap.size w w2) := ⟨HS.out.1.up hb2, Below.on HS.out.2 hb2⟩
        clear hb2
        cases t with
        | true =>
          have HL : Hid (Least (timeQ r) bg en (some m)) := ⟨hm0, hlt, HTT.out, HP.out⟩
          go_wp2
          go_ret2
          exact ⟨some m, rfl, ⟨fun h => (by cases h), fun _ => HL.out⟩, HS2.out.2⟩
        | false =>
          have HN : Hid (∀ x, bg ≤ x → x < m + 1 → timeQ r x = false) := fun x g0 g1 => by
            by_cases hx : x = m
            · subst hx; exact HTT.out
            · exact HP.out x g0 (by omega)
          go_wp2
          go_roundw
          case rel => exact ⟨m + 1, by omega, .inl (by omega), by go_num, HN, HS2.out⟩
          case measure => simp [intOf]; omega
      · have HL : Hid (Least (timeQ r) bg en none) := fun x g0 g1 => HP.out x g0 (by omega)
        go_wp2
        go_ret2
        exact ⟨none, rfl, ⟨fun h => (by cases h), fun _ => HL.out⟩, HS.out.2⟩

end Go.Proofs.YtbecdaholpiaeaaDoor
