/-
  Flags: each so many-th of a reach. Whether a rule's flags have all of a reach, and whether they have a minute's time: the walks. Leap years and the days of a month, on both sides: the walks.
-/
import Derived.Test.YtgeimliibddhmaaDoorC1
import Derived.Test.YtgeimliibddhmaaDoorC3
import Derived.Test.YtgeimliibddhmaaDoorRows
import Derived.Test.YtgeimliibddhmaaDoorCv
import Derived.Test.YtgeimliibddhmaaDoorCrl
import Derived.WalkLawsBesides
namespace Go.Proofs.YtgeimliibddhmaaDoor
open Go Go.RowKit
set_option linter.unusedVariables false

/-- Each so many-th of a reach. -/
def eachP (l : Nat) (hi : Int) (s : Nat) (i : Nat) : Bool := decide (l ≤ i ∧ (i : Int) ≤ hi ∧ (i - l) % s = 0)
def eachTo (l s n : Nat) (i : Nat) : Bool := decide (l ≤ i ∧ i < n ∧ (i - l) % s = 0)
theorem eachTo_start (l s i : Nat) : eachTo l s l i = false := decide_eq_false (by omega)
theorem eachTo_next {l s q i : Nat} (hs : 1 ≤ s) : eachTo l s (l + s * q + s) i = if i = l + s * q then true else eachTo l s (l + s * q) i := by
  by_cases h : i = l + s * q
  · subst h
    rw [if_pos rfl]
    exact decide_eq_true ⟨by omega, by omega, by rw [Nat.add_sub_cancel_left, Nat.mul_mod_right]⟩
  · rw [if_neg h]
    unfold eachTo
    congr 1
    apply propext
    constructor
    · rintro ⟨h1, h2, h3⟩
      refine ⟨h1, ?_, h3⟩
      refine Nat.lt_of_not_le fun hle => h ?_
      obtain ⟨j, rfl⟩ : ∃ j, i = l + s * q + j := ⟨i - (l + s * q), by omega⟩
      have e : l + s * q + j - l = s * q + j := by omega
      rw [e, Nat.mul_add_mod, Nat.mod_eq_of_lt (by omega)] at h3
      omega
    · rintro ⟨h1, h2, h3⟩
      exact ⟨h1, by omega, h3⟩
theorem eachTo_end {l s n : Nat} {hi : Int} (h : hi < n) {q : Nat} (hn : n = l + s * q) (hs : 1 ≤ s) (hlast : ∀ m, n = m + s → l ≤ m → (m : Int) ≤ hi) (i : Nat) : eachTo l s n i = eachP l hi s i := by
  unfold eachTo eachP
  congr 1
  apply propext
  constructor
  · rintro ⟨h1, h2, h3⟩
    refine ⟨h1, ?_, h3⟩
    cases q with
    | zero => omega
    | succ q =>
      have hm := hlast (l + s * q) (by rw [hn, Nat.mul_succ]; omega) (by omega)
      rcases Nat.lt_or_ge (l + s * q) i with hc | hc
      · exfalso
        obtain ⟨j, rfl⟩ : ∃ j, i = l + s * q + j := ⟨i - (l + s * q), by omega⟩
        have e : l + s * q + j - l = s * q + j := by omega
        rw [hn, Nat.mul_succ] at h2
        rw [e, Nat.mul_add_mod, Nat.mod_eq_of_lt (by omega)] at h3
        omega
      · omega
  · rintro ⟨h1, h2, h3⟩
    exact ⟨h1, by omega, h3⟩
/-- What lies there while the flags are set. -/
structure EaS (w : World) (B : Nat) (hi : Int) (W : World) (p : Nat → Bool) : Prop where
  z1 : ∃ q, Fb 55 W (B + 1) q
  z2 : Fb 55 W (B + 1 + 1) p
  c1 : W.cell? ⟨B, 1, none⟩ = some (.int .i64 hi)
  be : Below B w W
theorem EaS.put {w W : World} {B : Nat} {hi : Int} {p : Nat → Bool} (h : EaS w B hi W p) (n : Nat) : EaS w B hi (W.setCell ⟨B + 1 + 1, n, none⟩ (.bool true)) (fun i => if i = n then true else p i) := by
  obtain ⟨⟨q, z1⟩, z2, c1, be⟩ := h
  refine ⟨⟨q, z1.far (by show B + 1 + 1 ≠ B + 1; omega) _⟩, z2.set n true, ?_, be.setCell (by show B ≤ B + 1 + 1; omega) _⟩
  have e := heap_setCell_other W ⟨B + 1 + 1, n, none⟩ B (.bool true) (by show B ≠ B + 1 + 1; omega)
  unfold World.cell? at c1 ⊢
  rw [e]
  exact c1

set_option maxRecDepth 10000 in
set_option maxHeartbeats 1000000 in
theorem eachOf_nat (l s : Nat) (hi : Int) (w : World) (hl : l ≤ 60) (h1 : hi ≤ 59) (hs : 1 ≤ s) (hs2 : s ≤ 4611686018427387904) :
    Calls Tryd.prog 67 #[.agg #[.int .i64 (l : Int), .int .i64 hi], .int .i64 (s : Int)] w fun e w' => e = .returned (.agg (fldA (eachP l hi s))) ∧ Below w.heap.size w w' := by
  go_enter Tryd.func67, Tryd.ntmps67
  go_wp2
  rw [none55]
  obtain ⟨W, hW⟩ : ∃ W, ((w.alloc (.cells #[.int .i64 (l : Int), .int .i64 hi] 63)).alloc (.cells (fldA fun _ => false) 55)).alloc (.cells (fldA fun _ => false) 55) = W := ⟨_, rfl⟩
  have Z1 : Fb 55 W (w.heap.size + 1) (fun _ => false) := by rw [← hW]; exact ((Fb.new 55 (w.alloc (.cells #[.int .i64 (l : Int), .int .i64 hi] 63)) _ (by simp)).alloc _)
  have Z2 : Fb 55 W (w.heap.size + 1 + 1) (fun _ => false) := by rw [← hW]; exact (Fb.new 55 _ _ (by simp))
  have c1 : W.cell? ⟨w.heap.size, 1, none⟩ = some (.int .i64 hi) := by rw [← hW]; simp [go_sem]
  have hb : Below w.heap.size w W := by rw [← hW]; exact ba (ba (ba (Below.refl _ _) _) _) _
  rw [hW]
  clear hW
  have HZ : Hid (EaS w w.heap.size hi W fun _ => false) := ⟨⟨_, Z1⟩, Z2, c1, hb⟩
  clear Z1 Z2 c1 hb
  generalize hB : w.heap.size = B at *
  go_loopw [6] (fun i wr => ∃ (k q : Nat) (p : Nat → Bool), i = .int .i64 k ∧ k ≤ 60 + s ∧ l ≤ k ∧ Hid (k = l + s * q ∧ (∀ m, k = m + s → l ≤ m → (m : Int) ≤ hi) ∧ ∀ i, p i = eachTo l s k i) ∧ Hid (EaS w B hi wr p)) (fun i _ => 60 + s + 1 - (intOf i).toNat)
  case atStart => exact ⟨l, 0, _, rfl, by omega, Nat.le_refl _, ⟨by omega, fun m hm hlm => by omega, fun i => (eachTo_start l s i).symm⟩, HZ⟩
  case round =>
    obtain ⟨k, q, p, rfl, hk, hlk, HE, HS⟩ := hrel
    have c1 := HS.out.c1
    by_cases hle : (k : Int) ≤ hi
    · have f0 := HS.out.z2.fr k
      have d0 := HS.out.z2.cell (i := k) (by omega)
      have HN : Hid (k + s = l + s * (q + 1) ∧ (∀ m, k + s = m + s → l ≤ m → (m : Int) ≤ hi) ∧ ∀ i, (if i = k then true else p i) = eachTo l s (k + s) i) := by
        have h3 : ∀ m, k + s = m + s → l ≤ m → (m : Int) ≤ hi := fun m hm _ => by omega
        refine ⟨by have := HE.out.1; rw [Nat.mul_succ]; omega, h3, fun i => ?_⟩
        rw [HE.out.2.2 i, HE.out.1, eachTo_next hs]
      have HT : Hid (EaS w B hi (wr.setCell ⟨B + 1 + 1, k, none⟩ (.bool true)) (fun i => if i = k then true else p i)) := HS.out.put k
      go_wp2
      go_roundw
      case rel => exact ⟨k + s, q + 1, _, by go_num, by omega, by omega, HN, HT⟩
      case measure => simp [intOf]; omega
    · obtain ⟨q1, z1⟩ := HS.out.z1
      have HF : Hid (fldA p = fldA (eachP l hi s)) := fldA_ext fun i _ => (HE.out.2.2 i).trans (eachTo_end (by omega) HE.out.1 hs HE.out.2.1 i)
      have HR : Hid (Fb 55 (wr.setRow (B + 1) (fldA p)) (B + 1) p ∧ Below B w (wr.setRow (B + 1) (fldA p))) := ⟨z1.row p, below_setRow HS.out.be (by omega) _⟩
      have HZ1 : Hid (Fb 55 wr (B + 1) q1) := z1
      clear z1 HZ
      go_wp2_with (first | (refine wpl_load HS.out.z2 (.tmp 5) rfl rfl rfl ?_) | (refine wpl_store HZ1.out p (.tmp 4) (.tmp 18) rfl rfl rfl rfl ?_))
      refine bodyPost_ret (ret_f rfl rfl HR.out.1) rfl ?_
      subst hB
      exact ⟨by rw [HF.out], HR.out.2⟩
end Go.Proofs.YtgeimliibddhmaaDoor

namespace Go.Proofs.YtgeimliibddhmaaDoor
open Go Go.RowKit
set_option linter.unusedVariables false

theorem wpq_loadSub {ops : Array Oper} {C : World → Prop} {Q : Act → Prop} {rest : List Oper} {o : Oper} {a : Act} {b : Nat} {r : Nat → Nat → Bool} (h : ∀ w, C w → Rb w b r) (n : Nat) (hn : n < 5) (x : Operand) (hgd : o.guard = none) (ho : o.op = .load 55 x) (hx : a.eval x = .pointer (some ⟨b, n * 60, none⟩))
    (k : wpQuiet Tryd.prog ops C Q rest (a.put o.dst (.agg (fldA (r n))))) : wpQuiet Tryd.prog ops C Q (o :: rest) a := by
  refine wpq_of _ hgd (fun w hw => ?_) k
  have hl := run_loadVar_mid (P := Tryd.prog) w b (n * 60) 55 (fldA (r n)).toList _ ((h w hw).sub hn) under55 rfl (by rw [Array.length_toList, fldA_size]; exact info55)
  have e : (fldA (r n)).toList.toArray = fldA (r n) := by simp
  rw [e] at hl
  unfold execOp
  simp only [ho, hx, Instr.loadAt, Instr.sureAddr, Sem.run_bind, Sem.run_pure, Result.andThen_ok, hl]
theorem wpr_load_g {ops : Array Oper} {rest : List Oper} {o : Oper} {a : Act} {W : World} {b : Nat} {r : Nat → Nat → Bool} {Q : Exit → Act → World → Prop} (h : Rb W b r) (x : Operand) (hw : Region.wanted o (yielded ops a.tmps) = true) (ho : o.op = .load 57 x) (hx : a.eval x = .pointer (some ⟨b, 0, none⟩))
    (k : wpList Tryd.prog ops Q rest (a.put o.dst (.agg (rulA r))) W) : wpList Tryd.prog ops Q (o :: rest) a W := by
  unfold wpList
  rw [if_pos hw]
  refine .inl ?_
  refine wp_load_mid 57 x ho b 0 hx (rulA r).toList _ h.all under57 rfl (by rw [Array.length_toList, rulA_size]; exact info57) ?_
  rw [listA]
  exact k

set_option maxRecDepth 10000 in
set_option maxHeartbeats 1000000 in
theorem hasAll_2 (r : Nat → Nat → Bool) (w : World) (hg : RchIs w) :
    Calls Tryd.prog 87 #[.agg (rulA r), .int .i64 2] w fun e w' => e = .returned (.bool (fldE (r 2) (eachP 1 31 1))) ∧ Below w.heap.size w w' := by
  have HG : Hid (RchIs w) := hg
  clear hg
  have HE : Hid (∀ W, Calls Tryd.prog 67 #[.agg #[.int .i64 1, .int .i64 31], .int .i64 1] W fun e w' => e = .returned (.agg (fldA (eachP 1 31 1))) ∧ Below W.heap.size W w') := fun W => eachOf_nat 1 1 31 W (by decide) (by decide) (by decide) (by decide)
  go_enter Tryd.func87, Tryd.ntmps87
  go_wp2
  obtain ⟨W, hW⟩ : ∃ W, w.alloc (.cells (rulA r) 57) = W := ⟨_, rfl⟩
  have Z : Rb W w.heap.size r := by rw [← hW]; exact Rb.new _ _ 57 rfl
  have hb : Below w.heap.size w W := by rw [← hW]; exact ba (Below.refl _ _) _
  rw [hW]
  clear hW
  have HZ : Hid (∀ x : Wd W, Rb x.at' w.heap.size r) := fun x => Z.up x.ok
  have q0 := Wd.cell ((HG.out.up hb).at 4 _ rfl)
  have q1 := Wd.cell ((HG.out.up hb).at 5 _ rfl)
  have HB : Hid (∀ x : Wd W, Below w.heap.size w x.at') := fun x => Below.on hb x.ok
  clear Z hb
  refine wp_region_wd (by kernel_rfl) (by kernel_rfl) ?_
  go_big_quiet_step (fail)
  go_big_quiet_step (fail)
  refine wpq_loadSub (fun _ ⟨x, hx⟩ => by rw [hx]; exact HZ.out x) 2 (by decide) (.tmp 6) rfl rfl rfl ?_
  simp only [Act.put, List.setIfInBounds_toArray, List.set_cons_succ, List.set_cons_zero]
  go_big_quiet_step (fail)
  go_big_quiet_step (fail)
  go_big_quiet_step (fail)
  go_big_quiet_step ((go_at_call 67; refine calls_wd (v := .agg (fldA (eachP 1 31 1))) ?_; with_reducible exact HE.out _))
  refine wpq_eql (.tmp 7) (.tmp 11) rfl rfl rfl rfl ?_
  simp only [Act.put, List.setIfInBounds_toArray, List.set_cons_succ, List.set_cons_zero]
  go_big_quiet_step (fail)
  refine wpQuiet_nil ?_
  rintro _ ⟨y, rfl⟩
  go_wp2
  go_ret
  exact ⟨rfl, HB.out y⟩
set_option maxRecDepth 10000 in
set_option maxHeartbeats 1000000 in
theorem hasAll_4 (r : Nat → Nat → Bool) (w : World) (hg : RchIs w) :
    Calls Tryd.prog 87 #[.agg (rulA r), .int .i64 4] w fun e w' => e = .returned (.bool (fldE (r 4) (eachP 0 6 1))) ∧ Below w.heap.size w w' := by
  have HG : Hid (RchIs w) := hg
  clear hg
  have HE : Hid (∀ W, Calls Tryd.prog 67 #[.agg #[.int .i64 0, .int .i64 6], .int .i64 1] W fun e w' => e = .returned (.agg (fldA (eachP 0 6 1))) ∧ Below W.heap.size W w') := fun W => eachOf_nat 0 1 6 W (by decide) (by decide) (by decide) (by decide)
  go_enter Tryd.func87, Tryd.ntmps87
  go_wp2
  obtain ⟨W, hW⟩ : ∃ W, w.alloc (.cells (rulA r) 57) = W := ⟨_, rfl⟩
  have Z : Rb W w.heap.size r := by rw [← hW]; exact Rb.new _ _ 57 rfl
  have hb : Below w.heap.size w W := by rw [← hW]; exact ba (Below.refl _ _) _
  rw [hW]
  clear hW
  have HZ : Hid (∀ x : Wd W, Rb x.at' w.heap.size r) := fun x => Z.up x.ok
  have q0 := Wd.cell ((HG.out.up hb).at 8 _ rfl)
  have q1 := Wd.cell ((HG.out.up hb).at 9 _ rfl)
  have HB : Hid (∀ x : Wd W, Below w.heap.size w x.at') := fun x => Below.on hb x.ok
  clear Z hb
  refine wp_region_wd (by kernel_rfl) (by kernel_rfl) ?_
  go_big_quiet_step (fail)
  go_big_quiet_step (fail)
  refine wpq_loadSub (fun _ ⟨x, hx⟩ => by rw [hx]; exact HZ.out x) 4 (by decide) (.tmp 6) rfl rfl rfl ?_
  simp only [Act.put, List.setIfInBounds_toArray, List.set_cons_succ, List.set_cons_zero]
  go_big_quiet_step (fail)
  go_big_quiet_step (fail)
  go_big_quiet_step (fail)
  go_big_quiet_step ((go_at_call 67; refine calls_wd (v := .agg (fldA (eachP 0 6 1))) ?_; with_reducible exact HE.out _))
  refine wpq_eql (.tmp 7) (.tmp 11) rfl rfl rfl rfl ?_
  simp only [Act.put, List.setIfInBounds_toArray, List.set_cons_succ, List.set_cons_zero]
  go_big_quiet_step (fail)
  refine wpQuiet_nil ?_
  rintro _ ⟨y, rfl⟩
  go_wp2
  go_ret
  exact ⟨rfl, HB.out y⟩

set_option maxRecDepth 10000 in
set_option maxHeartbeats 1000000 in
theorem atTime_any (r : Nat → Nat → Bool) (m : Int) (w : World) (h0 : 0 ≤ m) (h1 : m ≤ 4611686018427387904) :
    Calls Tryd.prog 57 #[.agg (rulA r), .int .i64 m] w fun e w' => e = .returned (.bool (r 1 (m % 1440 / 60).toNat && r 0 (m % 60).toNat)) ∧ Below w.heap.size w w' := by
  obtain ⟨h, hh⟩ : ∃ h : Nat, m % 1440 / 60 = (h : Int) := ⟨(m % 1440 / 60).toNat, by omega⟩
  obtain ⟨i, hi⟩ : ∃ i : Nat, m % 1440 % 60 = (i : Int) := ⟨(m % 1440 % 60).toNat, by omega⟩
  have HE : Hid ((m % 1440 / 60).toNat = h ∧ (m % 60).toNat = i) := ⟨by omega, by omega⟩
  have hlt : h < 24 := by omega
  have ilt : i < 60 := by omega
  rw [HE.out.1, HE.out.2]
  have c1 : (rulA r)[60 + h]? = some (.bool (r 1 h)) := by rw [rulA_at (by omega), show (60 + h) / 60 = 1 by omega, show (60 + h) % 60 = h by omega]
  have c0 : (rulA r)[i]? = some (.bool (r 0 i)) := by rw [rulA_at (by omega), show i / 60 = 0 by omega, show i % 60 = i by omega]
  obtain ⟨q, hq⟩ : ∃ q, r 1 h = q := ⟨_, rfl⟩
  rw [hq] at c1
  rw [hq]
  clear hq
  cases q with
  | false =>
    go_enter Tryd.func57, Tryd.ntmps57
    go_wp2
    go_ret
    exact ⟨rfl, ba (Below.refl _ _) _⟩
  | true =>
    go_enter Tryd.func57, Tryd.ntmps57
    go_wp2
    go_ret
    exact ⟨rfl, ba (Below.refl _ _) _⟩
end Go.Proofs.YtgeimliibddhmaaDoor

namespace Go.Proofs.YtgeimliibddhmaaDoor
open Go Go.RowKit

theorem leap_4 {y : Int} (h : ¬ y.tmod 4 = 0) : leapB y = (y.tmod 400 == 0) := by
  unfold leapB
  rw [decide_eq_false h, Bool.false_and, Bool.false_or]
  exact Bool.eq_iff_iff.2 (by simp)
theorem leap_100 {y : Int} (h : y.tmod 100 = 0) : leapB y = (y.tmod 400 == 0) := by
  unfold leapB
  rw [decide_eq_true h, Bool.not_true, Bool.and_false, Bool.false_or]
  exact Bool.eq_iff_iff.2 (by simp)
theorem leap_yes {y : Int} (h : y.tmod 4 = 0) (h2 : ¬ y.tmod 100 = 0) : leapB y = true := by
  unfold leapB
  rw [decide_eq_true h, decide_eq_false h2]
  rfl
set_option maxHeartbeats 1000000 in
theorem leap_any (y : Int) (w : World) :
    Calls Tryd.prog 126 #[.int .i64 y] w fun e w' => e = .returned (.bool (leapB y)) ∧ w' = w := by
  by_cases h4 : y.tmod 4 = 0
  · by_cases h1 : y.tmod 100 = 0
    · rw [leap_100 h1]
      go_enter Tryd.func126, Tryd.ntmps126
      go_wp2
      go_ret
      exact ⟨rfl, rfl⟩
    · rw [leap_yes h4 h1]
      go_enter Tryd.func126, Tryd.ntmps126
      go_wp2
      go_ret
      exact ⟨rfl, rfl⟩
  · rw [leap_4 h4]
    go_enter Tryd.func126, Tryd.ntmps126
    go_wp2
    go_ret
    exact ⟨rfl, rfl⟩
set_option maxHeartbeats 1000000 in
theorem specLeap_any (y : Int) (w : World) :
    Calls Tryd.prog 115 #[.int .i64 y] w fun e w' => e = .returned (.bool (leapB y)) ∧ w' = w := by
  by_cases h4 : y.tmod 4 = 0
  · by_cases h1 : y.tmod 100 = 0
    · rw [leap_100 h1]
      go_enter Tryd.func115, Tryd.ntmps115
      go_wp2
      go_ret
      exact ⟨rfl, rfl⟩
    · rw [leap_yes h4 h1]
      go_enter Tryd.func115, Tryd.ntmps115
      go_wp2
      go_ret
      exact ⟨rfl, rfl⟩
  · rw [leap_4 h4]
    go_enter Tryd.func115, Tryd.ntmps115
    go_wp2
    go_ret
    exact ⟨rfl, rfl⟩
set_option maxHeartbeats 400000 in
theorem yearL_any (y : Int) (w : World) :
    Calls Tryd.prog 116 #[.int .i64 y] w fun e w' => e = .returned (.int .i64 (yearL y)) ∧ w' = w := by
  have hL := leap_any y w
  unfold yearL
  cases h : leapB y with
  | true =>
    rw [h] at hL
    go_enter Tryd.func116, Tryd.ntmps116
    go_wp2_with (go_at_call 126; refine hL.mono ?_; rintro e w1 ⟨rfl, hw⟩; have hw2 := hw.symm; subst hw2)
    go_ret
    exact ⟨rfl, rfl⟩
  | false =>
    rw [h] at hL
    go_enter Tryd.func116, Tryd.ntmps116
    go_wp2_with (go_at_call 126; refine hL.mono ?_; rintro e w1 ⟨rfl, hw⟩; have hw2 := hw.symm; subst hw2)
    go_ret
    exact ⟨rfl, rfl⟩
set_option maxHeartbeats 1000000 in
theorem days_any (y m : Int) (w : World) :
    Calls Tryd.prog 117 #[.int .i64 y, .int .i64 m] w fun e w' => e = .returned (.int .i64 (daysB y m)) ∧ w' = w := by
  by_cases hm : 1 ≤ m ∧ m ≤ 12
  · have hL := leap_any y w
    unfold daysB
    obtain ⟨b, hb⟩ : ∃ b, leapB y = b := ⟨_, rfl⟩
    rw [hb] at hL ⊢
    clear hb
    rcases months hm.1 hm.2 with h | h | h | h | h | h | h | h | h | h | h | h <;> subst h <;> clear hm
    case inr.inl =>
      cases b <;>
      · go_enter Tryd.func117, Tryd.ntmps117
        go_wp2_with (go_at_call 126; refine hL.mono ?_; rintro e w1 ⟨rfl, hw⟩; have hw2 := hw.symm; subst hw2)
        go_ret
        exact ⟨rfl, rfl⟩
    all_goals
      clear hL
      go_enter Tryd.func117, Tryd.ntmps117
      go_wp2
      go_ret
      exact ⟨rfl, rfl⟩
  · rw [daysB_no hm]
    go_enter Tryd.func117, Tryd.ntmps117
    have e1 : ¬ m = 1 := by omega
    have e2 : ¬ m = 2 := by omega
    have e3 : ¬ m = 3 := by omega
    have e4 : ¬ m = 4 := by omega
    have e5 : ¬ m = 5 := by omega
    have e6 : ¬ m = 6 := by omega
    have e7 : ¬ m = 7 := by omega
    have e8 : ¬ m = 8 := by omega
    have e9 : ¬ m = 9 := by omega
    have e10 : ¬ m = 10 := by omega
    have e11 : ¬ m = 11 := by omega
    have e12 : ¬ m = 12 := by omega
    clear hm
    go_wp2
    go_ret
    exact ⟨rfl, rfl⟩
theorem in_yes {x lo hi : Int} {w : World} (h0 : lo ≤ x) (h1 : x ≤ hi) :
    Calls Tryd.prog 54 #[.int .i64 x, .int .i64 lo, .int .i64 hi] w fun e w' => e = .returned (.bool true) ∧ w' = w := by
  have := in_any x lo hi w
  rwa [decide_eq_true h0, decide_eq_true h1] at this
theorem in_no {x lo hi : Int} {w : World} (h : ¬ (lo ≤ x ∧ x ≤ hi)) :
    Calls Tryd.prog 54 #[.int .i64 x, .int .i64 lo, .int .i64 hi] w fun e w' => e = .returned (.bool false) ∧ w' = w := by
  have := in_any x lo hi w
  rwa [show (decide (lo ≤ x) && decide (x ≤ hi)) = false by rw [← Bool.decide_and]; exact decide_eq_false h] at this
set_option maxHeartbeats 1000000 in
theorem specDays_any (y m : Int) (w : World) :
    Calls Tryd.prog 102 #[.int .i64 y, .int .i64 m] w fun e w' => e = .returned (.int .i64 (daysB y m)) ∧ Below w.heap.size w w' := by
  by_cases hm : 1 ≤ m ∧ m ≤ 12
  · have hL : ∀ w, Calls Tryd.prog 115 #[.int .i64 y] w fun e w' => e = .returned (.bool (leapB y)) ∧ w' = w := specLeap_any y
    unfold daysB
    obtain ⟨b, hb⟩ : ∃ b, leapB y = b := ⟨_, rfl⟩
    rw [hb] at hL ⊢
    clear hb
    have hI : ∀ w, Calls Tryd.prog 54 #[.int .i64 m, .int .i64 1, .int .i64 12] w fun e w' => e = .returned (.bool true) ∧ w' = w := fun w => in_yes hm.1 hm.2
    rcases months hm.1 hm.2 with h | h | h | h | h | h | h | h | h | h | h | h <;> subst h <;> clear hm
    case inr.inl =>
      cases b <;>
      · go_enter Tryd.func102, Tryd.ntmps102
        go_wp2_with (first | (go_at_call 54; refine (hI _).mono ?_; rintro e w1 ⟨rfl, hw⟩; have hw2 := hw.symm; subst hw2) | (go_at_call 115; refine (hL _).mono ?_; rintro e w2 ⟨rfl, hw3⟩; have hw4 := hw3.symm; subst hw4))
        go_ret
        exact ⟨rfl, (Below.refl _ _).alloc (Nat.le_refl _) _⟩
    all_goals
      · go_enter Tryd.func102, Tryd.ntmps102
        go_wp2_with (first | (go_at_call 54; refine (hI _).mono ?_; rintro e w1 ⟨rfl, hw⟩; have hw2 := hw.symm; subst hw2) | (go_at_call 115; refine (hL _).mono ?_; rintro e w2 ⟨rfl, hw3⟩; have hw4 := hw3.symm; subst hw4))
        go_ret
        exact ⟨rfl, (Below.refl _ _).alloc (Nat.le_refl _) _⟩
  · rw [daysB_no hm]
    go_enter Tryd.func102, Tryd.ntmps102
    go_wp2_with (go_at_call 54; refine (in_no hm).mono ?_; rintro e w1 ⟨rfl, hw⟩; have hw2 := hw.symm; subst hw2)
    go_ret
    exact ⟨rfl, (Below.refl _ _).alloc (Nat.le_refl _) _⟩
end Go.Proofs.YtgeimliibddhmaaDoor
