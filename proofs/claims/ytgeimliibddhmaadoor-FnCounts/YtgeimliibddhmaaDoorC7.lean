/-
  Whether a rule fires on the day of a minute, as the specification tells it: the walk. Whether a rule fires on the day of a minute, as the program tells it: the walk. The first minute of a day that fires, and how many do, as the program tells it: the walks.
-/
import Derived.Test.YtgeimliibddhmaaDoorNfp
import Derived.Test.YtgeimliibddhmaaDoorC6
import Derived.Test.YtgeimliibddhmaaDoorC4
import Derived.Test.YtgeimliibddhmaaDoorFul
namespace Go.Proofs.YtgeimliibddhmaaDoor
open Go Go.RowKit

theorem specCivilOf_civ (m : Int) (w : World) (h0 : 0 ≤ m) (h1 : m ≤ 68374079) :
    Calls Tryd.prog 83 #[.int .i64 m] w fun e w' => e = .returned (.tuple #[.agg #[.int .i64 (civ m).y, .int .i64 (civ m).mo, .int .i64 (civ m).d, .int .i64 (civ m).h, .int .i64 (civ m).mi], .bool true]) ∧ Below w.heap.size w w' := by
  refine (specCivilOf_yes m w h0 h1).mono ?_
  rintro e w' ⟨c, rfl, hr, hm, hb⟩
  obtain rfl := civ_is hr hm
  exact ⟨rfl, hb⟩
theorem dayF_not {c d e : List Int} {m : Int} (h : decide ((civ m).mo ∈ d) = false) : dayF c d e m = false := by unfold dayF; rw [h]; rfl
theorem dayF_both {c d e : List Int} {m : Int} (h : decide ((civ m).mo ∈ d) = true) (hl : c.length = 31 ∨ e.length = 7) : dayF c d e m = (decide ((civ m).d ∈ c) && decide (weekN m ∈ e)) := by unfold dayF; rw [h, if_pos hl]; rfl
theorem dayF_one {c d e : List Int} {m : Int} (h : decide ((civ m).mo ∈ d) = true) (hl : ¬ (c.length = 31 ∨ e.length = 7)) : dayF c d e m = (decide ((civ m).d ∈ c) || decide (weekN m ∈ e)) := by unfold dayF; rw [h, if_neg hl]; rfl

set_option maxRecDepth 10000 in
set_option maxHeartbeats 2000000 in
theorem l10Day_any (va vb vc vd ve : Value) (c d e : List Int) (m : Int) (w : World) (h3 : Reads w vc c) (h4 : Reads w vd d) (h5 : Reads w ve e) (n3 : c.length ≤ 1048577) (n4 : d.length ≤ 1048577) (n5 : e.length ≤ 1048577) (m0 : 0 ≤ m) (m1 : m ≤ 68374079) :
    Calls Tryd.prog 55 #[.agg #[va, vb, vc, vd, ve], .int .i64 m] w fun x w' => x = .returned (.bool (dayF c d e m)) ∧ Below w.heap.size w w' := by
  obtain ⟨co, cc, rfl, -⟩ := id h3
  obtain ⟨d0, dc, rfl, -⟩ := id h4
  obtain ⟨eo, ec, rfl, -⟩ := id h5
  obtain ⟨qd, HD⟩ : ∃ q, Hid (decide ((civ m).d ∈ c) = q) := ⟨_, rfl⟩
  obtain ⟨qm, HM⟩ : ∃ q, Hid (decide ((civ m).mo ∈ d) = q) := ⟨_, rfl⟩
  obtain ⟨qw, HW⟩ : ∃ q, Hid (decide (weekN m ∈ e) = q) := ⟨_, rfl⟩
  have HF0 : Hid (qm = false → dayF c d e m = false) := fun h => dayF_not (HM.out.trans h)
  have HF1 : Hid (qm = true → (c.length = 31 ∨ e.length = 7) → dayF c d e m = (qd && qw)) := fun h hl => by rw [dayF_both (HM.out.trans h) hl, HD.out, HW.out]
  have HF2 : Hid (qm = true → ¬ (c.length = 31 ∨ e.length = 7) → dayF c d e m = (qd || qw)) := fun h hl => by rw [dayF_one (HM.out.trans h) hl, HD.out, HW.out]
  have HCV := specCivilOf_civ m
  obtain ⟨X, HX⟩ : ∃ X, Hid (civ m = X) := ⟨_, rfl⟩
  rw [HX.out] at HD HM
  have HC : Hid (∀ w, Calls Tryd.prog 83 #[.int .i64 m] w fun e w' => e = .returned (.tuple #[.agg #[.int .i64 X.y, .int .i64 X.mo, .int .i64 X.d, .int .i64 X.h, .int .i64 X.mi], .bool true]) ∧ Below w.heap.size w w') := by intro w; rw [← HX.out]; exact HCV w m0 m1
  clear HCV HX
  obtain ⟨y, mo, dd, hh, mi⟩ := X
  simp only at HD HM HC
  obtain ⟨k, HK⟩ : ∃ k, Hid (weekN m = k) := ⟨_, rfl⟩
  rw [HK.out] at HW
  have HK2 : Hid (∀ w, Calls Tryd.prog 84 #[.int .i64 m] w fun e w' => e = .returned (.int .i64 k) ∧ w' = w) := by intro w; rw [← HK.out]; exact specWeek_any m w
  have H1 : Hid (∀ W, Below w.heap.size w W → Calls Tryd.prog 64 #[.slice co c.length cc, .int .i64 dd] W fun x w' => x = .returned (.bool qd) ∧ w' = W) := by intro W hb; rw [← HD.out]; exact l10In_try co _ cc c dd W (h3.below hb) n3
  have H2 : Hid (∀ W, Below w.heap.size w W → Calls Tryd.prog 64 #[.slice d0 d.length dc, .int .i64 mo] W fun x w' => x = .returned (.bool qm) ∧ w' = W) := by intro W hb; rw [← HM.out]; exact l10In_try d0 _ dc d mo W (h4.below hb) n4
  have H3 : Hid (∀ W, Below w.heap.size w W → Calls Tryd.prog 64 #[.slice eo e.length ec, .int .i64 k] W fun x w' => x = .returned (.bool qw) ∧ w' = W) := by intro W hb; rw [← HW.out]; exact l10In_try eo _ ec e k W (h5.below hb) n5
  clear h3 h4 h5 HD HM HW HK
  obtain ⟨r, HR⟩ : ∃ r, Hid (dayF c d e m = r) := ⟨_, rfl⟩
  rw [HR.out] at HF0 HF1 HF2
  rw [HR.out]
  clear HR
  generalize c.length = lc at *
  generalize d.length = ld at *
  generalize e.length = le at *
  clear c d e
  go_enter Tryd.func55, Tryd.ntmps55
  go_wp2_with fail
  refine (HC.out _).mono ?_
  rintro x w1 ⟨rfl, hb1⟩
  have B1 := below_new hb1
  have c2 : w1.cell? ⟨w.heap.size, 2, none⟩ = some (.slice co lc cc) := (hb1.cell (by simp)).trans (by simp [go_sem])
  have c3 : w1.cell? ⟨w.heap.size, 3, none⟩ = some (.slice d0 ld dc) := (hb1.cell (by simp)).trans (by simp [go_sem])
  have c4 : w1.cell? ⟨w.heap.size, 4, none⟩ = some (.slice eo le ec) := (hb1.cell (by simp)).trans (by simp [go_sem])
  have hg : w.heap.size < w1.heap.size := World.block_lt_of_cell? _ _ c2
  clear hb1 HC
  go_wp2_with fail
  refine (H1.out _ (ba B1 _)).mono ?_
  rintro x w2 ⟨rfl, hw⟩
  subst hw
  obtain ⟨W, hW⟩ : ∃ W, w1.alloc (.cells #[.int .i64 y, .int .i64 mo, .int .i64 dd, .int .i64 hh, .int .i64 mi] 115) = W := ⟨_, rfl⟩
  have Z := At5.made w1 ⟨y, mo, dd, hh, mi⟩ 115
  have hb : Below w1.heap.size w1 W := by rw [← hW]; exact ba (Below.refl _ _) _
  have BW : Below w.heap.size w W := Below.on B1 hb
  have e2 := (hb.cell hg).trans c2
  have e3 := (hb.cell hg).trans c3
  have e4 := (hb.cell hg).trans c4
  rw [hW] at Z ⊢
  clear hW c2 c3 c4 hb H1
  have q4 := Wd.cell e4
  go_wp2_with fail
  refine wp_region_wd (by kernel_rfl) (by kernel_rfl) ?_
  repeat (go_big_quiet_step (first | (go_at_call 84; refine calls_wd_same (v := .int .i64 k) ?_; with_reducible exact HK2.out _) | (go_at_call 64; refine calls_wd_same (v := .bool qw) ?_; with_reducible exact H3.out _ (Below.on BW (Wd.ok _)))))
  refine wpQuiet_nil ?_
  rintro _ ⟨x, rfl⟩
  have BX := Below.on BW x.ok
  have p2 := Wd.cell e2 x
  have p3 := Wd.cell e3 x
  have p4 := Wd.cell e4 x
  have p1 := Wd.cell Z.c1 x
  clear q4 e2 e3 e4 Z
  go_wp2_with fail
  refine (H2.out _ BX).mono ?_
  rintro z w3 ⟨rfl, hw⟩
  have hw2 := hw.symm
  subst hw2
  clear H2 H3 HK2
  cases qm with
  | false =>
    have HF := HF0.out rfl
    go_wp2
    go_ret
    exact ⟨by rw [HF]; rfl, BX⟩
  | true =>
    by_cases h31 : lc = 31
    · have HF := HF1.out rfl (.inl h31)
      subst h31
      cases qd <;> cases qw <;>
      · go_wp2
        go_ret
        exact ⟨by rw [HF]; rfl, BX⟩
    · have b1 : ((lc : Int) == 31) = false := beq_eq_false_iff_ne.2 (by omega)
      by_cases h7 : le = 7
      · have HF := HF1.out rfl (.inr h7)
        subst h7
        cases qd <;> cases qw <;>
        · go_wp2
          go_ret
          exact ⟨by rw [HF]; rfl, BX⟩
      · have b2 : ((le : Int) == 7) = false := beq_eq_false_iff_ne.2 (by omega)
        have HF := HF2.out rfl (by rintro (h | h); exact h31 h; exact h7 h)
        cases qd <;> cases qw <;>
        · go_wp2
          go_ret
          exact ⟨by rw [HF]; rfl, BX⟩
end Go.Proofs.YtgeimliibddhmaaDoor

namespace Go.Proofs.YtgeimliibddhmaaDoor
open Go Go.RowKit
set_option linter.unusedVariables false

theorem Rb.cell3 {W : World} {b : Nat} {r : Nat → Nat → Bool} (h : Rb W b r) (k o : Nat) (hk : k < 5) (ho : o = k * 60) {i : Nat} (hi : i < 60) : W.cell? ⟨b, o + i, none⟩ = some (.bool (r k i)) := by
  subst ho
  exact h.cell hk hi

def dayQ (a2 a4 qd qw : Bool) : Bool := if a2 || a4 then qd && qw else qd || qw
set_option maxRecDepth 10000 in
set_option maxHeartbeats 4000000 in
theorem onDay_try (r : Nat → Nat → Bool) (m y hh mi : Int) (mo dd k : Nat) (qm qd qw a2 a4 : Bool) (w : World) (hm : r 3 mo = qm) (hd : r 2 dd = qd) (hk : r 4 k = qw) (h2 : fldE (r 2) (eachP 1 31 1) = a2) (h4 : fldE (r 4) (eachP 0 6 1) = a4) (bm : mo < 60) (bd : dd < 60) (bk : k < 60) (hg : RchIs w)
    (hc : ∀ W, Calls Tryd.prog 85 #[.int .i64 m] W fun e w' => e = .returned (.tuple #[.agg #[.int .i64 y, .int .i64 (mo : Int), .int .i64 (dd : Int), .int .i64 hh, .int .i64 mi], .bool true]) ∧ Below W.heap.size W w')
    (hw : ∀ W, Calls Tryd.prog 86 #[.int .i64 m] W fun e w' => e = .returned (.int .i64 (k : Int)) ∧ w' = W) :
    Calls Tryd.prog 56 #[.agg (rulA r), .int .i64 m] w fun e w' => e = .returned (.bool (qm && dayQ a2 a4 qd qw)) ∧ Below w.heap.size w w' := by
  have HC : Hid (∀ W, Calls Tryd.prog 85 #[.int .i64 m] W fun e w' => e = .returned (.tuple #[.agg #[.int .i64 y, .int .i64 (mo : Int), .int .i64 (dd : Int), .int .i64 hh, .int .i64 mi], .bool true]) ∧ Below W.heap.size W w') := hc
  have HK : Hid (∀ W, Calls Tryd.prog 86 #[.int .i64 m] W fun e w' => e = .returned (.int .i64 (k : Int)) ∧ w' = W) := hw
  have HM : Hid (r 3 mo = qm ∧ r 2 dd = qd ∧ r 4 k = qw) := ⟨hm, hd, hk⟩
  have H2 : Hid (∀ W, Below w.heap.size w W → Calls Tryd.prog 87 #[.agg (rulA r), .int .i64 2] W fun e w' => e = .returned (.bool a2) ∧ Below W.heap.size W w') := fun W hb => by rw [← h2]; exact hasAll_2 r W (hg.up hb)
  have H4 : Hid (∀ W, Below w.heap.size w W → Calls Tryd.prog 87 #[.agg (rulA r), .int .i64 4] W fun e w' => e = .returned (.bool a4) ∧ Below W.heap.size W w') := fun W hb => by rw [← h4]; exact hasAll_4 r W (hg.up hb)
  clear hc hw hm hd hk h2 h4 hg
  go_enter Tryd.func56, Tryd.ntmps56
  go_wp2_with fail
  refine (HC.out _).mono ?_
  rintro x w1 ⟨rfl, hb1⟩
  have B1 := below_new hb1
  have HZ1 : Hid (Rb w1 w.heap.size r) := (Rb.new w r 57 rfl).up hb1
  clear hb1 HC
  have HZ : Hid (Rb (w1.alloc (.cells #[.int .i64 y, .int .i64 (mo : Int), .int .i64 (dd : Int), .int .i64 hh, .int .i64 mi] 115)) w.heap.size r) := HZ1.out.alloc _
  have BW : Below w.heap.size w (w1.alloc (.cells #[.int .i64 y, .int .i64 (mo : Int), .int .i64 (dd : Int), .int .i64 hh, .int .i64 mi] 115)) := ba B1 _
  have e3 := HZ1.out.cell3 3 180 (by decide) rfl bm
  rw [HM.out.1] at e3
  have hlt : w.heap.size < w1.heap.size := HZ1.out.lt
  cases qm with
  | false =>
    go_wp2
    go_ret
    exact ⟨rfl, BW⟩
  | true =>
    go_wp2_with fail
    obtain ⟨W, hW⟩ : ∃ W, w1.alloc (.cells #[.int .i64 y, .int .i64 (mo : Int), .int .i64 (dd : Int), .int .i64 hh, .int .i64 mi] 115) = W := ⟨_, rfl⟩
    have p2 : W.cell? ⟨w1.heap.size, 2, none⟩ = some (.int .i64 (dd : Int)) := by rw [← hW]; simp [go_sem]
    rw [hW] at HZ BW
    rw [hW]
    clear hW e3 B1
    have f2 := Wd.cell p2
    have f3 := Wd.cell (HZ.out.cell3 2 120 (by decide) rfl bd)
    have f4 := Wd.cell (HZ.out.cell3 4 240 (by decide) rfl bk)
    rw [HM.out.2.1] at f3
    rw [HM.out.2.2] at f4
    clear p2
    refine wp_region_wd (by kernel_rfl) (by kernel_rfl) ?_
    repeat (go_big_quiet_step ((go_at_call 86; refine calls_wd_same (v := .int .i64 (k : Int)) ?_; with_reducible exact HK.out _)))
    refine wpQuiet_nil ?_
    rintro _ ⟨x, rfl⟩
    have BX := Below.on BW x.ok
    have HX : Hid (Rb x.at' w.heap.size r) := HZ.out.up x.ok
    clear f2 f3 f4 HZ BW HK
    go_wp2_with (refine wpr_load HX.out (.tmp 2) rfl rfl rfl ?_)
    refine (H2.out _ BX).mono ?_
    rintro z w2 ⟨rfl, hb2⟩
    have BY := Below.on BX hb2
    have HY : Hid (Rb w2 w.heap.size r) := HX.out.up hb2
    clear hb2
    cases a2 with
    | true =>
      cases qd <;> cases qw <;>
      · go_wp2
        go_ret
        exact ⟨rfl, BY⟩
    | false =>
      go_wp2_with (refine wpr_load_g HY.out (.tmp 2) rfl rfl rfl ?_)
      refine (H4.out _ BY).mono ?_
      rintro z w3 ⟨rfl, hb3⟩
      have BZ := Below.on BY hb3
      clear hb3
      cases a4 <;> cases qd <;> cases qw <;>
      · go_wp2
        go_ret
        exact ⟨rfl, BZ⟩

theorem full_rise (lo : Int) (n : Nat) : ((List.range n).map fun i : Nat => lo + (i : Int)).Pairwise (· < ·) := by
  rw [List.pairwise_map]
  exact List.Pairwise.imp (fun {a b} h => by show lo + (a : Int) < lo + (b : Int); omega) (List.pairwise_lt_range (n := n))
theorem all_iff {lo : Nat} {hi : Int} {l : List Int} (h9 : hi ≤ 59) (hlh : lo ≤ hi) (hB : listB lo hi l = true) : fldE (memP l) (eachP lo hi 1) = decide ((l.length : Int) = hi - lo + 1) := by
  obtain ⟨h1, h2, h3⟩ := listB_up hB
  by_cases h : (l.length : Int) = hi - lo + 1
  · rw [decide_eq_true h, fldE_iff]
    intro i hi6
    unfold memP eachP
    congr 1
    apply propext
    constructor
    · intro hm
      have := h1 _ hm
      exact ⟨by omega, this.2, Nat.mod_one _⟩
    · rintro ⟨g1, g2, _⟩
      exact full_list h1 h2 h (by omega) g2
  · rw [decide_eq_false h]
    cases he : fldE (memP l) (eachP lo hi 1) with
    | false => rfl
    | true =>
      exfalso
      apply h
      have hr := fldE_iff.1 he
      have e : l = (List.range (hi - lo + 1).toNat).map fun i : Nat => (lo : Int) + (i : Int) := by
        refine rise_ext _ _ h2 (full_rise _ _) fun x => ⟨fun hx => ?_, fun hx => ?_⟩
        · have := h1 x hx
          exact List.mem_map.2 ⟨(x - lo).toNat, List.mem_range.2 (by omega), by omega⟩
        · obtain ⟨i, hi2, rfl⟩ := List.mem_map.1 hx
          have hi3 := List.mem_range.1 hi2
          have := hr (lo + i) (by omega)
          unfold memP eachP at this
          rw [decide_eq_true (show lo ≤ lo + i ∧ ((lo + i : Nat) : Int) ≤ hi ∧ (lo + i - lo) % 1 = 0 from ⟨by omega, by omega, Nat.mod_one _⟩)] at this
          have := of_decide_eq_true this
          rw [show ((lo + i : Nat) : Int) = (lo : Int) + (i : Int) by omega] at this
          exact this
      have := congrArg List.length e
      rw [List.length_map, List.length_range] at this
      omega
theorem civilOf_civ (m : Int) (w : World) (h0 : 0 ≤ m) (h1 : m ≤ 68374079) :
    Calls Tryd.prog 85 #[.int .i64 m] w fun e w' => e = .returned (.tuple #[.agg #[.int .i64 (civ m).y, .int .i64 (civ m).mo, .int .i64 (civ m).d, .int .i64 (civ m).h, .int .i64 (civ m).mi], .bool true]) ∧ Below w.heap.size w w' := by
  refine (civilOf_yes m w h0 h1).mono ?_
  rintro e w' ⟨c, rfl, hr, hm, hb⟩
  obtain rfl := civ_is hr hm
  exact ⟨rfl, hb⟩
theorem dayF_is {a b c d e : List Int} {m : Int} (hB : cronB a b c d e = true) {mo dd k : Nat} (hmo : (civ m).mo = mo) (hdd : (civ m).d = dd) (hk : weekN m = k) :
    (mem5 a b c d e 3 mo && dayQ (fldE (mem5 a b c d e 2) (eachP 1 31 1)) (fldE (mem5 a b c d e 4) (eachP 0 6 1)) (mem5 a b c d e 2 dd) (mem5 a b c d e 4 k)) = dayF c d e m := by
  unfold dayQ
  unfold cronB at hB
  simp only [Bool.and_eq_true] at hB
  obtain ⟨_, _, h3, h4, h5⟩ := hB
  have e2 : fldE (mem5 a b c d e 2) (eachP 1 31 1) = decide (c.length = 31) := by
    have := all_iff (lo := 1) (hi := 31) (l := c) (by decide) (by decide) h3
    show fldE (memP c) _ = _
    rw [this]
    congr 1
    apply propext
    constructor <;> intro h <;> omega
  have e4 : fldE (mem5 a b c d e 4) (eachP 0 6 1) = decide (e.length = 7) := by
    have := all_iff (lo := 0) (hi := 6) (l := e) (by decide) (by decide) h5
    show fldE (memP e) _ = _
    rw [this]
    congr 1
    apply propext
    constructor <;> intro h <;> omega
  rw [e2, e4]
  unfold dayF
  rw [hmo, hdd, hk]
  show (memP d mo && (if _ then memP c dd && memP e k else memP c dd || memP e k)) = _
  unfold memP
  congr 1
  by_cases h : c.length = 31 ∨ e.length = 7
  · rw [if_pos h, if_pos (by rcases h with h | h <;> simp [h])]
  · rw [if_neg h, if_neg (by simp only [Bool.or_eq_true, decide_eq_true_eq]; exact h)]
theorem onDay_any {a b c d e : List Int} {m : Int} (w : World) (hB : cronB a b c d e = true) (hg : RchIs w) (h0 : 0 ≤ m) (h1 : m ≤ 68374079) :
    Calls Tryd.prog 56 #[.agg (rulA (mem5 a b c d e)), .int .i64 m] w fun x w' => x = .returned (.bool (dayF c d e m)) ∧ Below w.heap.size w w' := by
  obtain ⟨hr, hm⟩ := civ_right h0 h1
  have hw0 : 0 ≤ weekN m ∧ weekN m ≤ 6 := by unfold weekN; rw [if_pos ⟨h0, h1⟩]; omega
  have hd1 : (civ m).d ≤ 31 := Int.le_trans hr.d1 daysB_bd.2
  have := hr.m0
  have := hr.m1
  have := hr.d0
  obtain ⟨mo, hmo⟩ : ∃ n : Nat, (civ m).mo = n := ⟨(civ m).mo.toNat, by omega⟩
  obtain ⟨dd, hdd⟩ : ∃ n : Nat, (civ m).d = n := ⟨(civ m).d.toNat, by omega⟩
  obtain ⟨k, hk⟩ : ∃ n : Nat, weekN m = n := ⟨(weekN m).toNat, by omega⟩
  rw [← dayF_is hB hmo hdd hk]
  refine onDay_try (mem5 a b c d e) m (civ m).y (civ m).h (civ m).mi mo dd k _ _ _ _ _ w rfl rfl rfl rfl rfl (by omega) (by omega) (by omega) hg (fun W => ?_) (fun W => ?_)
  · rw [← hmo, ← hdd]
    exact civilOf_civ m W h0 h1
  · rw [← hk]
    exact week_any m W
set_option maxRecDepth 10000 in
set_option maxHeartbeats 1000000 in
theorem onDay_no (r : Nat → Nat → Bool) (m : Int) (w : World) (h : ¬ (0 ≤ m ∧ m ≤ 68374079)) :
    Calls Tryd.prog 56 #[.agg (rulA r), .int .i64 m] w fun x w' => x = .returned (.bool false) ∧ Below w.heap.size w w' := by
  have HC : Hid (∀ W, Calls Tryd.prog 85 #[.int .i64 m] W fun e w' => e = .returned (.tuple #[.agg #[.int .i64 0, .int .i64 0, .int .i64 0, .int .i64 0, .int .i64 0], .bool false]) ∧ Below W.heap.size W w') := fun W => civilOf_no m W h
  clear h
  go_enter Tryd.func56, Tryd.ntmps56
  go_wp2_with fail
  refine (HC.out _).mono ?_
  rintro x w1 ⟨rfl, hb1⟩
  have B1 := below_new hb1
  clear hb1
  go_wp2
  go_ret
  exact ⟨rfl, ba B1 _⟩
end Go.Proofs.YtgeimliibddhmaaDoor

namespace Go.Proofs.YtgeimliibddhmaaDoor
open Go Go.RowKit
set_option linter.unusedVariables false

/-- The time of a minute is among the flags. -/
def timeQ (r : Nat → Nat → Bool) (m : Int) : Bool := r 1 (m % 1440 / 60).toNat && r 0 (m % 60).toNat
/-- The first of a day. -/
def FdP (r : Nat → Nat → Bool) (bg en : Int) (q : Bool) (o : Option Int) : Prop := (q = false → o = none) ∧ (q = true → Least (timeQ r) bg en o)
set_option maxHeartbeats 400000 in
theorem dayBehind_any (m : Int) (w : World) (h0 : 0 ≤ m) (h1 : m ≤ 4611686018427387904) :
    Calls Tryd.prog 52 #[.int .i64 m] w fun e w' => e = .returned (.int .i64 ((m / 1440 + 1) * 1440)) ∧ w' = w := by
  go_enter Tryd.func52, Tryd.ntmps52
  go_wp2
  go_ret
  refine ⟨congrArg (fun x => Ending.returned (.int .i64 x)) ?_, rfl⟩
  omega

set_option maxRecDepth 10000 in
set_option maxHeartbeats 2000000 in
theorem firstOfDay_try (r : Nat → Nat → Bool) (bg en : Int) (q : Bool) (w : World) (h0 : 0 ≤ bg) (h1 : en ≤ 1152921504606846976) (hq : ∀ W, Below w.heap.size w W → Calls Tryd.prog 56 #[.agg (rulA r), .int .i64 bg] W fun x w' => x = .returned (.bool q) ∧ Below W.heap.size W w') :
    Calls Tryd.prog 53 #[.agg (rulA r), .int .i64 bg, .int .i64 en] w fun x w' => ∃ o : Option Int, x = .returned (.tuple #[.int .i64 (o.getD 0), .bool o.isSome]) ∧ FdP r bg en q o ∧ Below w.heap.size w w' := by
  have HQ : Hid (∀ W, Below w.heap.size w W → Calls Tryd.prog 56 #[.agg (rulA r), .int .i64 bg] W fun x w' => x = .returned (.bool q) ∧ Below W.heap.size W w') := hq
  have HT : Hid (∀ (m : Int) (W : World), 0 ≤ m → m ≤ 4611686018427387904 → Calls Tryd.prog 57 #[.agg (rulA r), .int .i64 m] W fun e w' => e = .returned (.bool (timeQ r m)) ∧ Below W.heap.size W w') := fun m W g0 g1 => atTime_any r m W g0 g1
  clear hq
  go_enter Tryd.func53, Tryd.ntmps53
  obtain ⟨W, hW⟩ : ∃ W, w.alloc (.cells (rulA r) 57) = W := ⟨_, rfl⟩
  have HZ : Hid (Rb W w.heap.size r) := by show Rb _ _ _; rw [← hW]; exact Rb.new _ _ 57 rfl
  have hb : Below w.heap.size w W := by rw [← hW]; exact ba (Below.refl _ _) _
  go_wp2_with (first | (rw [hW]; clear hW) | (refine wpr_load HZ.out (.tmp 3) rfl rfl rfl ?_))
  refine (HQ.out _ hb).mono ?_
  rintro x w1 ⟨rfl, hb1⟩
  have B1 := Below.on hb hb1
  have HZ1 : Hid (Rb w1 w.heap.size r) := HZ.out.up hb1
  clear hb hb1 HZ HQ
  cases q with
  | false =>
    go_wp2
    go_ret2
    exact ⟨none, rfl, ⟨fun _ => rfl, fun h => (by cases h)⟩, B1⟩
  | true =>
    have HB : Hid (Below w.heap.size w w1) := B1
    clear B1
    go_wp2
    go_loopw [8] (fun i wr => ∃ m : Int, bg ≤ m ∧ (m ≤ en ∨ m = bg) ∧ i = .int .i64 m ∧ Hid (∀ x, bg ≤ x → x < m → timeQ r x = false) ∧ Hid (Rb wr w.heap.size r ∧ Below w.heap.size w wr)) (fun i _ => (en - intOf i).toNat)
    case atStart => exact ⟨bg, Int.le_refl _, .inr rfl, rfl, fun x g0 g1 => absurd g1 (by omega), HZ1.out, HB.out⟩
    case round =>
      obtain ⟨m, hm0, hm1, rfl, HP, HS⟩ := hrel
      clear HZ1 HB
      by_cases hlt : m < en
      · obtain ⟨t, ht⟩ : ∃ t, timeQ r m = t := ⟨_, rfl⟩
        have HTT : Hid (timeQ r m = t) := ht
        have HT2 : Hid (∀ W : World, Calls Tryd.prog 57 #[.agg (rulA r), .int .i64 m] W fun e w' => e = .returned (.bool t) ∧ Below W.heap.size W w') := fun W => by rw [← ht]; exact HT.out m W (by omega) (by omega)
        clear ht
        go_wp2_with (refine wpr_load HS.out.1 (.tmp 3) rfl rfl rfl ?_)
        refine (HT2.out _).mono ?_
        rintro x w2 ⟨rfl, hb2⟩
        have HS2 : Hid (Rb w2 w.heap.size r ∧ Below w.heap.size w w2) := ⟨HS.out.1.up hb2, Below.on HS.out.2 hb2⟩
        clear hb2
        cases t with
        | true =>
          have HL : Hid (Least (timeQ r) bg en (some m)) := ⟨hm0, hlt, HTT.out, HP.out⟩
          go_wp2
          go_ret2
          exact ⟨some m, rfl, ⟨fun h => (by cases h), fun _ => HL.out⟩, HS2.out.2⟩
        | false =>
          have HN : Hid (∀ x, bg ≤ x → x < m + 1 → timeQ r x = false) := fun x g0 g1 => by
            by_cases hx : x = m
            · subst hx; exact HTT.out
            · exact HP.out x g0 (by omega)
          go_wp2
          go_roundw
          case rel => exact ⟨m + 1, by omega, .inl (by omega), by go_num, HN, HS2.out⟩
          case measure => simp [intOf]; omega
      · have HL : Hid (Least (timeQ r) bg en none) := fun x g0 g1 => HP.out x g0 (by omega)
        go_wp2
        go_ret2
        exact ⟨none, rfl, ⟨fun h => (by cases h), fun _ => HL.out⟩, HS.out.2⟩

set_option maxRecDepth 10000 in
set_option maxHeartbeats 2000000 in
theorem countOfDay_try (r : Nat → Nat → Bool) (bg en : Int) (q : Bool) (w : World) (h0 : 0 ≤ bg) (h1 : en ≤ 1152921504606846976) (hq : ∀ W, Below w.heap.size w W → Calls Tryd.prog 56 #[.agg (rulA r), .int .i64 bg] W fun x w' => x = .returned (.bool q) ∧ Below W.heap.size W w') :
    Calls Tryd.prog 58 #[.agg (rulA r), .int .i64 bg, .int .i64 en] w fun x w' => x = .returned (.int .i64 (if q then (countN (timeQ r) bg (en - bg).toNat : Int) else 0)) ∧ Below w.heap.size w w' := by
  have HQ : Hid (∀ W, Below w.heap.size w W → Calls Tryd.prog 56 #[.agg (rulA r), .int .i64 bg] W fun x w' => x = .returned (.bool q) ∧ Below W.heap.size W w') := hq
  have HT : Hid (∀ (m : Int) (W : World), 0 ≤ m → m ≤ 4611686018427387904 → Calls Tryd.prog 57 #[.agg (rulA r), .int .i64 m] W fun e w' => e = .returned (.bool (timeQ r m)) ∧ Below W.heap.size W w') := fun m W g0 g1 => atTime_any r m W g0 g1
  clear hq
  obtain ⟨RES, HRES⟩ : ∃ x : Int, Hid ((if q then (countN (timeQ r) bg (en - bg).toNat : Int) else 0) = x) := ⟨_, rfl⟩
  rw [HRES.out]
  go_enter Tryd.func58, Tryd.ntmps58
  obtain ⟨W, hW⟩ : ∃ W, w.alloc (.cells (rulA r) 57) = W := ⟨_, rfl⟩
  have HZ : Hid (Rb W w.heap.size r) := by show Rb _ _ _; rw [← hW]; exact Rb.new _ _ 57 rfl
  have hb : Below w.heap.size w W := by rw [← hW]; exact ba (Below.refl _ _) _
  go_wp2_with (first | (rw [hW]; clear hW) | (refine wpr_load HZ.out (.tmp 3) rfl rfl rfl ?_))
  refine (HQ.out _ hb).mono ?_
  rintro x w1 ⟨rfl, hb1⟩
  have B1 := Below.on hb hb1
  have HZ1 : Hid (Rb w1 w.heap.size r) := HZ.out.up hb1
  clear hb hb1 HZ HQ
  cases q with
  | false =>
    go_wp2
    go_ret
    exact ⟨by rw [← HRES.out]; rfl, B1⟩
  | true =>
    have HB : Hid (Below w.heap.size w w1) := B1
    clear B1
    go_wp2
    go_loopw [7, 8] (fun c i wr => ∃ (n k : Nat), (bg + n ≤ en ∨ n = 0) ∧ i = .int .i64 (bg + n) ∧ c = .int .i64 k ∧ k ≤ n ∧ Hid (countN (timeQ r) bg n = k) ∧ Hid (Rb wr w.heap.size r ∧ Below w.heap.size w wr)) (fun _ i _ => (en - intOf i).toNat)
    case atStart => exact ⟨0, 0, .inr rfl, by simp, by simp, Nat.le_refl _, rfl, HZ1.out, HB.out⟩
    case round =>
      obtain ⟨n, k, hn, rfl, rfl, hkn, HP, HS⟩ := hrel
      clear HZ1 HB
      by_cases hlt : bg + (n : Int) < en
      · obtain ⟨t, ht⟩ : ∃ t, timeQ r (bg + n) = t := ⟨_, rfl⟩
        have HTT : Hid (countN (timeQ r) bg (n + 1) = k + if t then 1 else 0) := by show _ = _; rw [countN, HP.out, ht]
        have HT2 : Hid (∀ W : World, Calls Tryd.prog 57 #[.agg (rulA r), .int .i64 (bg + n)] W fun e w' => e = .returned (.bool t) ∧ Below W.heap.size W w') := fun W => by rw [← ht]; exact HT.out _ W (by omega) (by omega)
        clear ht
        go_wp2_with (refine wpr_load HS.out.1 (.tmp 3) rfl rfl rfl ?_)
        refine (HT2.out _).mono ?_
        rintro x w2 ⟨rfl, hb2⟩
        have HS2 : Hid (Rb w2 w.heap.size r ∧ Below w.heap.size w w2) := ⟨HS.out.1.up hb2, Below.on HS.out.2 hb2⟩
        clear hb2
        cases t with
        | true =>
          have HN : Hid (countN (timeQ r) bg (n + 1) = k + 1) := HTT.out
          go_wp2
          go_roundw
          case rel => exact ⟨n + 1, k + 1, .inl (by omega), by congr 1; omega, by go_num, by omega, HN, HS2.out⟩
          case measure => simp [intOf]; omega
        | false =>
          have HN : Hid (countN (timeQ r) bg (n + 1) = k) := HTT.out
          go_wp2
          go_roundw
          case rel => exact ⟨n + 1, k, .inl (by omega), by congr 1; omega, rfl, by omega, HN, HS2.out⟩
          case measure => simp [intOf]; omega
      · have HF : Hid (RES = (k : Int)) := by
          show _ = _
          rw [← HRES.out, if_pos trivial, ← HP.out]
          congr 2
          omega
        go_wp2
        go_ret
        exact ⟨by rw [HF.out]; rfl, HS.out.2⟩
end Go.Proofs.YtgeimliibddhmaaDoor
