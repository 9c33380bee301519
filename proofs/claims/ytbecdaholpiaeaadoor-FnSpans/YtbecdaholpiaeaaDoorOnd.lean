/-
  Whether a rule fires on the day of a minute, as the program tells it: the walk.
-/
import Derived.Test.YtbecdaholpiaeaaDoorAt
import Derived.Test.YtbecdaholpiaeaaDoorDy
import Derived.Test.YtbecdaholpiaeaaDoorFul
namespace Go.Proofs.YtbecdaholpiaeaaDoor
open Go Go.RowKit
set_option linter.unusedVariables false

theorem Rb.cell3 {W : World} {b : Nat} {r : Nat → Nat → Bool} (h : Rb W b r) (k o : Nat) (hk : k < 5) (ho : o = k * 60) {i : Nat} (hi : i < 60) : W.cell? ⟨b, o + i, none⟩ = some (.bool (r k i)) := by
  subst ho
  exact h.cell hk hi

def dayQ (a2 a4 qd qw : Bool) : Bool := if a2 || a4 then qd && qw else qd || qw
set_option maxRecDepth 10000 in
set_option maxHeartbeats 4000000 in
theorem onDay_try (r : Nat → Nat → Bool) (m y hh mi : Int) (mo dd k : Nat) (qm qd qw a2 a4 : Bool) (w : World) (hm : r 3 mo = qm) (hd : r 2 dd = qd) (hk : r 4 k = qw) (h2 : fldE (r 2) (eachP 1 31 1) = a2) (h4 : fldE (r 4) (eachP 0 6 1) = a4) (bm : mo < 60) (bd : dd < 60) (bk : k < 60) (hg : RchIs w)
    (hc : ∀ W, Calls Tryd.prog 68 #[.int .i64 m] W fun e w' => e = .returned (.tuple #[.agg #[.int .i64 y, .int .i64 (mo : Int), .int .i64 (dd : Int), .int .i64 hh, .int .i64 mi], .bool true]) ∧ Below W.heap.size W w')
    (hw : ∀ W, Calls Tryd.prog 69 #[.int .i64 m] W fun e w' => e = .returned (.int .i64 (k : Int)) ∧ w' = W) :
    Calls Tryd.prog 65 #[.agg (rulA r), .int .i64 m] w fun e w' => e = .returned (.bool (qm && dayQ a2 a4 qd qw)) ∧ Below w.heap.size w w' := by
  have HC : Hid (∀ W, Calls Tryd.prog 68 #[.int .i64 m] W fun e w' => e = .returned (.tuple #[.agg #[.int .i64 y, .int .i64 (mo : Int), .int .i64 (dd : Int), .int .i64 hh, .int .i64 mi], .bool true]) ∧ Below W.heap.size W w') := hc
  have HK : Hid (∀ W, Calls Tryd.prog 69 #[.int .i64 m] W fun e w' => e = .returned (.int .i64 (k : Int)) ∧ w' = W) := hw
  have HM : Hid (r 3 mo = qm ∧ r 2 dd = qd ∧ r 4 k = qw) := ⟨hm, hd, hk⟩
  have H2 : Hid (∀ W, Below w.heap.size w W → Calls Tryd.prog 70 #[.agg (rulA r), .int .i64 2] W fun e w' => e = .returned (.bool a2) ∧ Below W.heap.size W w') := fun W hb => by rw [← h2]; exact hasAll_2 r W (hg.up hb)
  have H4 : Hid (∀ W, Below w.heap.size w W → Calls Tryd.prog 70 #[.agg (rulA r), .int .i64 4] W fun e w' => e = .returned (.bool a4) ∧ Below W.heap.size W w') := fun W hb => by rw [← h4]; exact hasAll_4 r W (hg.up hb)
  clear hc hw hm hd hk h2 h4 hg
  go_enter Tryd.func65, Tryd.ntmps65
  go_wp2_with fail
  refine (HC.out _).mono ?_
  rintro x w1 ⟨rfl, hb1⟩
  have B1 := below_new hb1
  have HZ1 : Hid (Rb w1 w.heap.size r) := (Rb.new w r 90 rfl).up hb1
  clear hb1 HC
  have HZ : Hid (Rb (w1.alloc (.cells #[.int .i64 y, .int .i64 (mo : Int), .int .i64 (dd : Int), .int .i64 hh, .int .i64 mi] 77)) w.heap.size r) := HZ1.out.alloc _
  have BW : Below w.heap.size w (w1.alloc (.cells #[.int .i64 y, .int .i64 (mo : Int), .int .i64 (dd : Int), .int .i64 hh, .int .i64 mi] 77)) := ba B1 _
  have e3 := HZ1.out.cell3 3 180 (by decide) rfl bm
  rw [HM.out.1] at e3
  have hlt : w.heap.size < w1.heap.size := HZ1.out.lt
  cases qm with
  | false =>
    go_wp2
    go_ret
    exact ⟨rfl, BW⟩
  | true =>
    go_wp2_with fail
    obtain ⟨W, hW⟩ : ∃ W, w1.alloc (.cells #[.int .i64 y, .int .i64 (mo : Int), .int .i64 (dd : Int), .int .i64 hh, .int .i64 mi] 77) = W := ⟨_, rfl⟩
    have p2 : W.cell? ⟨w1.heap.size, 2, none⟩ = some (.int .i64 (dd : Int)) := by rw [← hW]; simp [go_sem]
    rw [hW] at HZ BW
    rw [hW]
    clear hW e3 B1
    have f2 := Wd.cell p2
    have f3 := Wd.cell (HZ.out.cell3 2 120 (by decide) rfl bd)
    have f4 := Wd.cell (HZ.out.cell3 4 240 (by decide) rfl bk)
    rw [HM.out.2.1] at f3
    rw [HM.out.2.2] at f4
    clear p2
    refine wp_region_wd (by kernel_rfl) (by kernel_rfl) ?_
    repeat (go_big_quiet_step ((go_at_call 69; refine calls_wd_same (v := .int .i64 (k : Int)) ?_; with_reducible exact HK.out _)))
    refine wpQuiet_nil ?_
    rintro _ ⟨x, rfl⟩
    have BX := Below.on BW x.ok
    have HX : Hid (Rb x.at' w.heap.size r) := HZ.out.up x.ok
    clear f2 f3 f4 HZ BW HK
    go_wp2_with (refine wpr_load HX.out (.tmp 2) rfl rfl rfl ?_)
    refine (H2.out _ BX).mono ?_
    rintro z w2 ⟨rfl, hb2⟩
    have BY := Below.on BX hb2
    have HY : Hid (Rb w2 w.heap.size r) := HX.out.up hb2
    clear hb2
    cases a2 with
    | true =>
      cases qd <;> cases qw <;>
      · go_wp2
        go_ret
        exact ⟨rfl, BY⟩
    | false =>
      go_wp2_with (refine wpr_load_g HY.out (.tmp 2) rfl rfl rfl ?_)
      refine (H4.out _ BY).mono ?_
      rintro z w3 ⟨rfl, hb3⟩
      have BZ := Below.on BY hb3
      clear hb3
      cases a4 <;> cases qd <;> cases qw <;>
      · go_wp2
        go_ret
        exact ⟨rfl, BZ⟩

theorem full_rise (lo : Int) (n : Nat) : ((List.range n).map fun i : Nat => lo + (i : Int)).Pairwise (· < ·) := by
  rw [List.pairwise_map]
  exact List.Pairwise.imp (fun {a b} h => by show lo + (a : Int) < lo + (b : Int); omega) (List.pairwise_lt_range (n := n))
theorem all_iff {lo : Nat} {hi : Int} {l : List Int} (h9 : hi ≤ 59) (hlh : lo ≤ hi) (hB : listB lo hi l = true) : fldE (memP l) (eachP lo hi 1) = decide ((l.length : Int) = hi - lo + 1) := by
  obtain ⟨h1, h2, h3⟩ := listB_up hB
  by_cases h : (l.length : Int) = hi - lo + 1
  · rw [decide_eq_true h, fldE_iff]
    intro i hi6
    unfold memP eachP
    congr 1
    apply propext
    constructor
    · intro hm
      have := h1 _ hm
      exact ⟨by omega, this.2, Nat.mod_one _⟩
    · rintro ⟨g1, g2, _⟩
      exact full_list h1 h2 h (by omega) g2
  · rw [decide_eq_false h]
    cases he : fldE (memP l) (eachP lo hi 1) with
    | false => rfl
    | true =>
      exfalso
      apply h
      have hr := fldE_iff.1 he
      have e : l = (List.range (hi - lo + 1).toNat).map fun i : Nat => (lo : Int) + (i : Int) := by
        refine rise_ext _ _ h2 (full_rise _ _) fun x => ⟨fun hx => ?_, fun hx => ?_⟩
        · have := h1 x hx
          exact List.mem_map.2 ⟨(x - lo).toNat, List.mem_range.2 (by omega), by omega⟩
        · obtain ⟨i, hi2, rfl⟩ := List.mem_map.1 hx
          have hi3 := List.mem_range.1 hi2
          have := hr (lo + i) (by omega)
          unfold memP eachP at this
          rw [decide_eq_true (show lo ≤ lo + i ∧ ((lo + i : Nat) : Int) ≤ hi ∧ (lo + i - lo) % 1 = 0 from ⟨by omega, by omega, Nat.mod_one _⟩)] at this
          have := of_decide_eq_true this
          rw [show ((lo + i : Nat) : Int) = (lo : Int) + (i : Int) by omega] at this
          exact this
      have := congrArg List.length e
      rw [List.length_map, List.length_range] at this
      omega
theorem civilOf_civ (m : Int) (w : World) (h0 : 0 ≤ m) (h1 : m ≤ 68374079) :
    Calls Tryd.prog 68 #[.int .i64 m] w fun e w' => e = .returned (.tuple #[.agg #[.int .i64 (civ m).y, .int .i64 (civ m).mo, .int .i64 (civ m).d, .int .i64 (civ m).h, .int .i64 (civ m).mi], .bool true]) ∧ Below w.heap.size w w' := by
  refine (civilOf_yes m w h0 h1).mono ?_
  rintro e w' ⟨c, rfl, hr, hm, hb⟩
  obtain rfl := civ_is hr hm
  exact ⟨rfl, hb⟩
theorem dayF_is {a b c d e : List Int} {m : Int} (hB : cronB a b c d e = true) {mo dd k : Nat} (hmo : (civ m).mo = mo) (hdd : (civ m).d = dd) (hk : weekN m = k) :
    (mem5 a b c d e 3 mo && dayQ (fldE (mem5 a b c d e 2) (eachP 1 31 1)) (fldE (mem5 a b c d e 4) (eachP 0 6 1)) (mem5 a b c d e 2 dd) (mem5 a b c d e 4 k)) = dayF c d e m := by
  unfold dayQ
  unfold cronB at hB
  simp only [Bool.and_eq_true] at hB
  obtain ⟨_, _, h3, h4, h5⟩ := hB
  have e2 : fldE (mem5 a b c d e 2) (eachP 1 31 1) = decide (c.length = 31) := by
    have := all_iff (lo := 1) (hi := 31) (l := c) (by decide) (by decide) h3
    show fldE (memP c) _ = _
    rw [this]
    congr 1
    apply propext
    constructor <;> intro h <;> omega
  have e4 : fldE (mem5 a b c d e 4) (eachP 0 6 1) = decide (e.length = 7) := by
    have := all_iff (lo := 0) (hi := 6) (l := e) (by decide) (by decide) h5
    show fldE (memP e) _ = _
    rw [this]
    congr 1
    apply propext
    constructor <;> intro h <;> omega
  rw [e2, e4]
  unfold dayF
  rw [hmo, hdd, hk]
  show (memP d mo && (if _ then memP c dd && memP e k else memP c dd || memP e k)) = _
  unfold memP
  congr 1
  by_cases h : c.length = 31 ∨ e.length = 7
  · rw [if_pos h, if_pos (by rcases h with h | h <;> simp [h])]
  · rw [if_neg h, if_neg (by simp only [Bool.or_eq_true, decide_eq_true_eq]; exact h)]
theorem onDay_any {a b c d e : List Int} {m : Int} (w : World) (hB : cronB a b c d e = true) (hg : RchIs w) (h0 : 0 ≤ m) (h1 : m ≤ 68374079) :
    Calls Tryd.prog 65 #[.agg (rulA (mem5 a b c d e)), .int .i64 m] w fun x w' => x = .returned (.bool (dayF c d e m)) ∧ Below w.heap.size w w' := by
  obtain ⟨hr, hm⟩ := civ_right h0 h1
  have hw0 : 0 ≤ weekN m ∧ weekN m ≤ 6 := by unfold weekN; rw [if_pos ⟨h0, h1⟩]; omega
  have hd1 : (civ m).d ≤ 31 := Int.le_trans hr.d1 daysB_bd.2
  have := hr.m0
  have := hr.m1
  have := hr.d0
  obtain ⟨mo, hmo⟩ : ∃ n : Nat, (civ m).mo = n := ⟨(civ m).mo.toNat, by omega⟩
  obtain ⟨dd, hdd⟩ : ∃ n : Nat, (civ m).d = n := ⟨(civ m).d.toNat, by omega⟩
  obtain ⟨k, hk⟩ : ∃ n : Nat, weekN m = n := ⟨(weekN m).toNat, by omega⟩
  rw [← dayF_is hB hmo hdd hk]
  refine onDay_try (mem5 a b c d e) m (civ m).y (civ m).h (civ m).mi mo dd k _ _ _ _ _ w rfl rfl rfl rfl rfl (by omega) (by omega) (by omega) hg (fun W => ?_) (fun W => ?_)
  · rw [← hmo, ← hdd]
    exact civilOf_civ m W h0 h1
  · rw [← hk]
    exact week_any m W
set_option maxRecDepth 10000 in
set_option maxHeartbeats 1000000 in
theorem onDay_no (r : Nat → Nat → Bool) (m : Int) (w : World) (h : ¬ (0 ≤ m ∧ m ≤ 68374079)) :
    Calls Tryd.prog 65 #[.agg (rulA r), .int .i64 m] w fun x w' => x = .returned (.bool false) ∧ Below w.heap.size w w' := by
  have HC : Hid (∀ W, Calls Tryd.prog 68 #[.int .i64 m] W fun e w' => e = .returned (.tuple #[.agg #[.int .i64 0, .int .i64 0, .int .i64 0, .int .i64 0, .int .i64 0], .bool false]) ∧ Below W.heap.size W w') := fun W => civilOf_no m W h
  clear h
  go_enter Tryd.func65, Tryd.ntmps65
  go_wp2_with fail
  refine (HC.out _).mono ?_
  rintro x w1 ⟨rfl, hb1⟩
  have B1 := below_new hb1
  clear hb1
  go_wp2
  go_ret
  exact ⟨rfl, ba B1 _⟩
end Go.Proofs.YtbecdaholpiaeaaDoor
