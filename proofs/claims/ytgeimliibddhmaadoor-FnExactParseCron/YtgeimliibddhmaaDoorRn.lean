/-
  A number of a reach, steps of a reach, and two fields together, as the program reads them: the walks.
-/
import Derived.Test.YtgeimliibddhmaaDoorAt
import Derived.Test.YtgeimliibddhmaaDoorNum
import Derived.Test.YtgeimliibddhmaaDoorPi
namespace Go.Proofs.YtgeimliibddhmaaDoor
open Go Go.RowKit
set_option linter.unusedVariables false

theorem readDec_all (s : ByteArray) (w : World) (hs : s.size ≤ 9223372036854775807) :
    Calls Tryd.prog 113 #[.string s] w fun e w' => e = .returned (.tuple #[.int .i64 (rd s).1, .bool (rd s).2]) ∧ Below w.heap.size w w' := by
  by_cases h : s.size = 0 ∨ 10 < s.size
  · rw [rd_out h]
    exact readDec_out s w hs h
  · exact readDec_any s w (by omega) _ _ rfl

set_option maxRecDepth 10000 in
set_option maxHeartbeats 1000000 in
theorem readNumber_any (s : ByteArray) (lo hi : Int) (w : World) (hs : s.size ≤ 9223372036854775807) :
    Calls Tryd.prog 98 #[.string s, .agg #[.int .i64 lo, .int .i64 hi]] w fun e w' => e = .returned (.tuple #[.int .i64 (rd s).1, .bool ((rd s).2 && decide (lo ≤ (rd s).1) && decide ((rd s).1 ≤ hi))]) ∧ Below w.heap.size w w' := by
  have HR : Hid (∀ W, Calls Tryd.prog 113 #[.string s] W fun e w' => e = .returned (.tuple #[.int .i64 (rd s).1, .bool (rd s).2]) ∧ Below W.heap.size W w') := fun W => readDec_all s W hs
  obtain ⟨x, hx⟩ : ∃ x, (rd s).1 = x := ⟨_, rfl⟩
  obtain ⟨q, hq⟩ : ∃ q, (rd s).2 = q := ⟨_, rfl⟩
  rw [hx, hq] at HR
  rw [hx, hq]
  clear hx hq
  go_enter Tryd.func98, Tryd.ntmps98
  go_wp2_with fail
  refine (HR.out _).mono ?_
  rintro e w1 ⟨rfl, hb1⟩
  have c0 : w1.cell? ⟨w.heap.size, 0, none⟩ = some (.int .i64 lo) := (hb1.cell (by simp)).trans (by simp [go_sem])
  have c1 : w1.cell? ⟨w.heap.size, 1, none⟩ = some (.int .i64 hi) := (hb1.cell (by simp)).trans (by simp [go_sem])
  have B1 := below_new hb1
  clear hb1 HR
  cases q with
  | false =>
    go_wp2
    go_quiet (fail)
    go_wp2
    go_ret2
    exact ⟨by simp, bdrewN B1 _⟩
  | true =>
    by_cases h1 : lo ≤ x
    · have g1 : decide (lo ≤ x) = true := decide_eq_true h1
      go_wp2
      go_quiet (fail)
      go_wp2
      go_ret2
      exact ⟨by simp [h1], bdrewN B1 _⟩
    · have g1 : decide (lo ≤ x) = false := decide_eq_false h1
      go_wp2
      go_quiet (fail)
      go_wp2
      go_ret2
      exact ⟨by simp; omega, bdrewN B1 _⟩

/-- Flags, or none. -/
def orNone (q : Bool) (p : Nat → Bool) : Nat → Bool := if q then p else fun _ => false
set_option maxRecDepth 10000 in
set_option maxHeartbeats 1000000 in
theorem readSteps_any (s : ByteArray) (lo : Nat) (hi : Int) (w : World) (hs : s.size ≤ 9223372036854775807) (hlo : lo ≤ 60) (h9 : hi ≤ 59) :
    Calls Tryd.prog 96 #[.string s, .agg #[.int .i64 (lo : Int), .int .i64 hi]] w fun e w' => e = .returned (.tuple #[.agg (fldA (orNone ((rd s).2 && decide (1 ≤ (rd s).1)) (eachP lo hi (rd s).1.toNat))), .bool ((rd s).2 && decide (1 ≤ (rd s).1))]) ∧ Below w.heap.size w w' := by
  have HR : Hid (∀ W, Calls Tryd.prog 113 #[.string s] W fun e w' => e = .returned (.tuple #[.int .i64 (rd s).1, .bool (rd s).2]) ∧ Below W.heap.size W w') := fun W => readDec_all s W hs
  have hbd := rd_bd s
  obtain ⟨x, hx⟩ : ∃ x : Nat, (rd s).1 = x := ⟨(rd s).1.toNat, by omega⟩
  obtain ⟨q, hq⟩ : ∃ q, (rd s).2 = q := ⟨_, rfl⟩
  rw [hx, hq] at HR
  rw [hx] at hbd
  rw [hx, hq, Int.toNat_natCast]
  clear hx hq
  have HE : Hid (1 ≤ x → ∀ W, Calls Tryd.prog 67 #[.agg #[.int .i64 (lo : Int), .int .i64 hi], .int .i64 (x : Int)] W fun e w' => e = .returned (.agg (fldA (eachP lo hi x))) ∧ Below W.heap.size W w') := fun h W => eachOf_nat lo x hi W hlo h9 h (by omega)
  go_enter Tryd.func96, Tryd.ntmps96
  obtain ⟨V, HV⟩ : ∃ V, Hid ((w.alloc (.cells #[.int .i64 (lo : Int), .int .i64 hi] 63)).alloc (.cells (fldA fun _ => false) 55) = V) := ⟨_, rfl⟩
  have HZ : Hid (Fb 55 V (w.heap.size + 1) (fun _ => false)) := by show Fb _ _ _ _; rw [← HV.out]; exact Fb.new 55 _ _ (by simp)
  have c0 : V.cell? ⟨w.heap.size, 0, none⟩ = some (.int .i64 (lo : Int)) := by rw [← HV.out]; simp [go_sem]
  have c1 : V.cell? ⟨w.heap.size, 1, none⟩ = some (.int .i64 hi) := by rw [← HV.out]; simp [go_sem]
  have BV : Below w.heap.size w V := by rw [← HV.out]; exact ba (ba (Below.refl _ _) _) _
  go_wp2_with (first | (refine wpl_alloc rfl rfl ?_; rw [HV.out]))
  refine (HR.out _).mono ?_
  rintro e w1 ⟨rfl, hb1⟩
  have d0 := cell_up hb1 c0
  have d1 := cell_up hb1 c1
  have B1 := Below.on BV hb1
  have HZ1 : Hid (Fb 55 w1 (w.heap.size + 1) (fun _ => false)) := HZ.out.up hb1
  clear hb1 HR c0 c1 BV HZ HV
  by_cases hok : q = true ∧ 1 ≤ x
  · obtain ⟨rfl, h1⟩ := hok
    have g1 : decide ((x : Int) < 1) = false := decide_eq_false (by omega)
    have g2 : decide (1 ≤ (x : Int)) = true := decide_eq_true (by omega)
    have HE1 := HE.out h1
    have HEE : Hid (∀ W, Calls Tryd.prog 67 #[.agg #[.int .i64 (lo : Int), .int .i64 hi], .int .i64 (x : Int)] W fun e w' => e = .returned (.agg (fldA (eachP lo hi x))) ∧ Below W.heap.size W w') := HE1
    clear HE HE1
    go_wp2_with fail
    refine (HEE.out _).mono ?_
    rintro e w2 ⟨rfl, hb2⟩
    have HZ2 : Hid (Fb 55 w2 (w.heap.size + 1) (fun _ => false)) := HZ1.out.up hb2
    have B2 := Below.on B1 hb2
    clear hb2 d0 d1
    go_wp2_with (refine wpl_store HZ2.out (eachP lo hi x) (.tmp 4) (.tmp 22) rfl rfl rfl rfl ?_)
    refine bodyPost_ret (ret_f2 rfl rfl rfl (HZ2.out.row _)) rfl ?_
    exact ⟨by rw [g2]; rfl, below_setRow B2 (by omega) _⟩
  · have hr : (q && decide (1 ≤ (x : Int))) = false := by
      cases q with
      | false => rfl
      | true => rw [decide_eq_false (fun h => hok ⟨rfl, by omega⟩)]; rfl
    have HRR : Hid ((q && decide (1 ≤ (x : Int))) = false) := hr
    clear hr HE
    cases q with
    | false =>
      go_wp2_with (first | (refine wpl_build rfl rfl ?_) | (refine wpl_store HZ1.out (fun _ => false) (.tmp 4) (.tmp 19) rfl rfl rfl rfl ?_))
      refine bodyPost_ret (ret_f2 rfl rfl rfl (HZ1.out.row _)) rfl ?_
      exact ⟨by rw [HRR.out]; rfl, below_setRow B1 (by omega) _⟩
    | true =>
      have g1 : decide ((x : Int) < 1) = true := decide_eq_true (by have : ¬ 1 ≤ x := fun h => hok ⟨rfl, h⟩; omega)
      clear hok
      go_wp2_with (first | (refine wpl_build rfl rfl ?_) | (refine wpl_store HZ1.out (fun _ => false) (.tmp 4) (.tmp 19) rfl rfl rfl rfl ?_))
      refine bodyPost_ret (ret_f2 rfl rfl rfl (HZ1.out.row _)) rfl ?_
      exact ⟨by rw [HRR.out]; rfl, below_setRow B1 (by omega) _⟩

set_option maxRecDepth 10000 in
set_option maxHeartbeats 1000000 in
theorem with_any (p q : Nat → Bool) (w : World) :
    Calls Tryd.prog 77 #[.agg (fldA p), .agg (fldA q)] w fun e w' => e = .returned (.agg (fldA fun i => p i || q i)) ∧ Below w.heap.size w w' := by
  have HIX : Hid (∀ k : Nat, k < 60 → ∀ wx, (Instr.index 55 (.agg (fldA q)) (.int .i64 (k : Int))).run Tryd.prog wx = .ok (.bool (q k)) wx) := fun k hk wx => index55 hk wx
  obtain ⟨R, HRR⟩ : ∃ R, Hid (fldA (fun i => p i || q i) = R) := ⟨_, rfl⟩
  rw [HRR.out]
  go_enter Tryd.func77, Tryd.ntmps77
  obtain ⟨V, HV⟩ : ∃ V, Hid (((w.alloc (.cells (fldA p) 55)).alloc (.cells (fldA q) 55)).alloc (.cells (fldA fun _ => false) 55) = V) := ⟨_, rfl⟩
  have Z0 : Fb 55 V w.heap.size p := by rw [← HV.out]; exact ((Fb.new 55 w p rfl).alloc _).alloc _
  have Z1 : Fb 55 V (w.heap.size + 1) q := by rw [← HV.out]; exact (Fb.new 55 _ q (by simp)).alloc _
  have Z2 : Fb 55 V (w.heap.size + 1 + 1) (fun _ => false) := by rw [← HV.out]; exact Fb.new 55 _ _ (by simp)
  have BV : Below w.heap.size w V := by rw [← HV.out]; exact ba (ba (ba (Below.refl _ _) _) _) _
  have HZ : Hid (Fb 55 V w.heap.size p ∧ Fb 55 V (w.heap.size + 1) q ∧ Fb 55 V (w.heap.size + 1 + 1) (fun _ => false) ∧ Below w.heap.size w V) := ⟨Z0, Z1, Z2, BV⟩
  clear Z0 Z1 Z2 BV
  go_wp2_with (first | (refine wpl_alloc rfl rfl ?_; rw [HV.out]) | (refine wpl_load HZ.out.2.1 (.tmp 3) rfl rfl rfl ?_))
  obtain ⟨F, HFF⟩ : ∃ F, Hid (fldA q = F) := ⟨_, rfl⟩
  obtain ⟨F2, HF2⟩ : ∃ F, Hid (fldA p = F) := ⟨_, rfl⟩
  rw [HFF.out] at HIX
  rw [HFF.out, HF2.out]
  clear HFF HF2 HV
  generalize hB : w.heap.size = B at *
  go_loopw [8] (fun i wr => ∃ (k : Nat) (r : Nat → Bool), k ≤ 60 ∧ i = .int .i64 k ∧ Hid (∀ i, r i = (p i || (decide (i < k) && q i))) ∧ Hid (Fb 55 wr B r ∧ Fb 55 wr (B + 1 + 1) (fun _ => false) ∧ Below B w wr)) (fun i _ => 60 - (intOf i).toNat)
  case atStart => exact ⟨0, p, Nat.zero_le _, rfl, fun i => by simp, HZ.out.1, HZ.out.2.2.1, HZ.out.2.2.2⟩
  case round =>
    obtain ⟨k, r, hk, rfl, HE, HS⟩ := hrel
    clear HZ
    by_cases hlt : k < 60
    · have hidx := HIX.out k hlt
      have e0 := HS.out.1.cell (i := k) hlt
      have f0 := HS.out.1.fr k
      cases hp : q k with
      | true =>
        rw [hp] at hidx
        have HN : Hid (∀ i, (if i = k then true else r i) = (p i || (decide (i < k + 1) && q i))) := fun i => by
          by_cases hi : i = k
          · subst hi; simp [hp]
          · rw [if_neg hi, HE.out i]
            congr 2
            by_cases h : i < k
            · rw [decide_eq_true h, decide_eq_true (show i < k + 1 by omega)]
            · rw [decide_eq_false h, decide_eq_false (show ¬ i < k + 1 by omega)]
        have HT : Hid (Fb 55 (wr.setCell ⟨B, k, none⟩ (.bool true)) B (fun i => if i = k then true else r i) ∧ Fb 55 (wr.setCell ⟨B, k, none⟩ (.bool true)) (B + 1 + 1) (fun _ => false) ∧ Below B w (wr.setCell ⟨B, k, none⟩ (.bool true))) := ⟨HS.out.1.set k true, HS.out.2.1.far (by show B ≠ B + 1 + 1; omega) _, HS.out.2.2.setCell (Nat.le_refl _) _⟩
        clear hp
        go_wp2
        go_roundw
        case rel => exact ⟨k + 1, _, by omega, by go_num, HN, HT⟩
        case measure => simp [intOf]; omega
      | false =>
        rw [hp] at hidx
        have HN : Hid (∀ i, r i = (p i || (decide (i < k + 1) && q i))) := fun i => by
          rw [HE.out i]
          by_cases hi : i = k
          · subst hi; simp [hp]
          · congr 2
            by_cases h : i < k
            · rw [decide_eq_true h, decide_eq_true (show i < k + 1 by omega)]
            · rw [decide_eq_false h, decide_eq_false (show ¬ i < k + 1 by omega)]
        clear hp
        go_wp2
        go_roundw
        case rel => exact ⟨k + 1, r, by omega, by go_num, HN, HS⟩
        case measure => simp [intOf]; omega
    · have HF : Hid (fldA r = R) := by
        show _ = _
        rw [← HRR.out]
        exact fldA_ext fun i hi => by rw [HE.out i, decide_eq_true (show i < k by omega), Bool.true_and]
      go_wp2_with (first | (refine wpl_load HS.out.1 (.tmp 2) rfl rfl rfl ?_) | (refine wpl_store HS.out.2.1 r (.tmp 4) (.tmp 16) rfl rfl rfl rfl ?_))
      refine bodyPost_ret (ret_f rfl rfl (HS.out.2.1.row r)) rfl ?_
      subst hB
      exact ⟨by rw [HF.out], below_setRow HS.out.2.2 (by omega) _⟩
end Go.Proofs.YtgeimliibddhmaaDoor
