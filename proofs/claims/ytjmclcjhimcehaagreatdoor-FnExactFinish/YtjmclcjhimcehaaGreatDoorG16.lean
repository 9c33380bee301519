/-
  Whether a plan is right, as the specification tells it: the walk. The text of a rule that is written in any way, as the program makes it: the walk; the tables that the program's walks read. Names and pools, as the program tells them: the walks. Whether a task has a name among tasks, as the program asks it: the walks of hasTask and of what it calls. Names that ascend, as the program asks it: the walk.
-/
import Derived.Test.YtjmclcjhimcehaaGreatDoorG15
import Derived.Test.YtjmclcjhimcehaaGreatDoorG10
import Derived.Test.YtjmclcjhimcehaaGreatDoorG12
import Derived.Test.YtjmclcjhimcehaaGreatDoorG14
import Derived.Lib.OthersKept
import Derived.Laws.RangeAny
import Derived.Sort.Walk0
namespace Go.Proofs.YtjmclcjhimcehaaGreatDoor
open Go Go.RowKit

/-- A plan, plain. -/
structure Dg where
  name : ByteArray
  cron : ByteArray
  fr : Int
  up : Int
  cu : Bool
  tasks : List Ta
def tasksB (ts : List Ta) : Nat → List Ta → Bool
  | _, [] => true
  | i, t :: r => taskB ts i t && tasksB ts (i + 1) r
theorem tasksB_at {ts : List Ta} {i : Nat} {t : Ta} (h : ts[i]? = some t) : tasksB ts i (ts.drop i) = (taskB ts i t && tasksB ts (i + 1) (ts.drop (i + 1))) := by
  obtain ⟨hk, rfl⟩ := List.getElem?_eq_some_iff.1 h
  rw [List.drop_eq_getElem_cons hk]
  rfl
theorem tasksB_end {ts : List Ta} {i : Nat} (h : i = ts.length) : tasksB ts i (ts.drop i) = true := by
  subst h
  rw [List.drop_length]
  rfl
/-- A rule's text, told again. -/
def againS (s : ByteArray) : ByteArray := cronX (pcN (pcO s) 0) (pcN (pcO s) 1) (pcN (pcO s) 2) (pcN (pcO s) 3) (pcN (pcO s) 4)
/-- A right plan. -/
def dagB (d : Dg) : Bool := nameB d.name && ((pcO d.cron).isSome && (decide (againS d.cron = d.cron) && (decide (0 ≤ d.up ∧ d.up ≤ 68374079) && (decide (0 ≤ d.fr ∧ d.fr ≤ d.up) && (decide (1 ≤ (d.tasks.length : Int) ∧ (d.tasks.length : Int) ≤ 4) && (tasksB d.tasks 0 d.tasks && decide ((orderL d.tasks).length = d.tasks.length)))))))
theorem fieldL_len (s : ByteArray) (lo hi : Int) (h : hi - lo + 1 ≤ 60) : (fieldL s lo hi).length ≤ 60 := by
  unfold fieldL picksO
  split
  · simp
  · have := picks_length ‹List Bool› lo (hi - lo + 1).toNat
    omega
theorem pcN_len (s : ByteArray) (k : Nat) : (pcN (pcO s) k).length ≤ 60 := by
  unfold pcN pcO
  split
  · unfold pcT
    split
    · split
      · rename_i x1 x2 x3 x4 x5 _ _
        have f1 := fieldL_len x1 0 59 (by decide)
        have f2 := fieldL_len x2 0 23 (by decide)
        have f3 := fieldL_len x3 1 31 (by decide)
        have f4 := fieldL_len x4 1 12 (by decide)
        have f5 := fieldL_len x5 0 6 (by decide)
        match k with
        | 0 => exact f1
        | 1 => exact f2
        | 2 => exact f3
        | 3 => exact f4
        | 4 => exact f5
        | k + 5 => simp
      · simp
    · simp
  · simp
theorem natbeq (a b : Nat) : ((a : Int) == (b : Int)) = decide (a = b) := by
  by_cases h : a = b
  · subst h; simp
  · rw [decide_eq_false h, beq_eq_false_iff_ne]; omega
/-- A plan as it lies there. -/
structure DagAt (w : World) (tv : Value) (d : Dg) : Prop where
  tasks : Tasks w tv d.tasks
  few : d.tasks.length ≤ 1048577
  small : ∀ t ∈ d.tasks, t.after.length ≤ 1048576 ∧ t.name.size ≤ 9223372036854775807
  cron : d.cron.size ≤ 1048576
  name : d.name.size ≤ 9223372036854775807
theorem DagAt.below {w w' : World} {tv : Value} {d : Dg} (h : DagAt w tv d) (hb : Below w.heap.size w w') : DagAt w' tv d := ⟨h.tasks.below hb, h.few, h.small, h.cron, h.name⟩

set_option maxRecDepth 10000 in
set_option maxHeartbeats 4000000 in
theorem dagOk_try (tv : Value) (nm cr : ByteArray) (fr up : Int) (cu : Bool) (ts : List Ta) (w : World) (hd : DagAt w tv ⟨nm, cr, fr, up, cu, ts⟩) :
    Calls Tryz.prog 35 #[.agg #[.string nm, .string cr, .int .i64 fr, .int .i64 up, .bool cu, tv]] w fun e w' => e = .returned (.bool (dagB ⟨nm, cr, fr, up, cu, ts⟩)) ∧ Below w.heap.size w w' := by
  have hn : ts.length ≤ 1048577 := hd.few
  obtain ⟨ao, cap, htv⟩ := hd.tasks.slice
  subst htv
  obtain ⟨n, HN⟩ : ∃ n, Hid (ts.length = n) := ⟨_, rfl⟩
  have HT : Hid (Tasks w (.slice ao ts.length cap) ts) := hd.tasks
  have HSM : Hid (∀ t ∈ ts, t.after.length ≤ 1048576 ∧ t.name.size ≤ 9223372036854775807) := hd.small
  have HDF : Hid (dagB ⟨nm, cr, fr, up, cu, ts⟩ = (nameB nm && ((pcO cr).isSome && (decide (againS cr = cr) && (decide (0 ≤ up ∧ up ≤ 68374079) && (decide (0 ≤ fr ∧ fr ≤ up) && (decide (1 ≤ (ts.length : Int) ∧ (ts.length : Int) ≤ 4) && (tasksB ts 0 ts && decide ((orderL ts).length = ts.length))))))))) := rfl
  show Calls Tryz.prog 35 #[.agg #[.string nm, .string cr, .int .i64 fr, .int .i64 up, .bool cu, .slice ao ts.length cap]] w _
  rw [HN.out] at hn HT HDF
  rw [HN.out]
  have HPC : Hid (∀ w, Calls Tryz.prog 89 #[.string cr] w (PcP cr w)) := fun w => parseCron_any cr w hd.cron
  have HNA : Hid (∀ w, Calls Tryz.prog 91 #[.string nm] w fun e w' => e = .returned (.bool (nameB nm)) ∧ w' = w) := fun w => nameOk_any nm w hd.name
  have HOR0 : Hid (n ≤ 4 → ∀ W, Below w.heap.size w W → Calls Tryz.prog 93 #[.slice ao n cap] W fun e w' => ∃ v', e = .returned v' ∧ ownsR w' W.heap.size 3 v' (orderL ts) ∧ Below W.heap.size W w') := fun h4 W hb => l12Order_any (HT.out.below hb) (by rw [HN.out]; omega) (fun t ht => (HSM.out t ht).1)
  have HTK0 : Hid (n ≤ 4 → ∀ W i t, Below w.heap.size w W → ts[i]? = some t → Calls Tryz.prog 92 #[.slice ao n cap, .int .i64 (i : Nat)] W fun e w' => e = .returned (.bool (taskB ts i t)) ∧ Below W.heap.size W w') := fun h4 W i t hb hi => l12Task_any (HT.out.below hb) (by rw [HN.out]; omega) hi (HSM.out t (List.mem_of_getElem? hi))
  clear hd
  obtain ⟨R, HR⟩ : ∃ R, Hid (dagB ⟨nm, cr, fr, up, cu, ts⟩ = R) := ⟨_, rfl⟩
  rw [HR.out] at HDF ⊢
  obtain ⟨q1, HQ1⟩ : ∃ q, Hid (nameB nm = q) := ⟨_, rfl⟩
  obtain ⟨q2, HQ2⟩ : ∃ q, Hid ((pcO cr).isSome = q) := ⟨_, rfl⟩
  obtain ⟨tx, HTX⟩ : ∃ x, Hid (againS cr = x) := ⟨_, rfl⟩
  obtain ⟨OL, HOL⟩ : ∃ x, Hid ((orderL ts).length = x) := ⟨_, rfl⟩
  rw [HQ1.out] at HNA HDF
  rw [HQ2.out, HTX.out, HOL.out] at HDF
  clear HR HQ1
  have I1 : Hid (∀ w, Calls Tryz.prog 56 #[.int .i64 up, .int .i64 0, .int .i64 68374079] w fun e w' => e = .returned (.bool (decide (0 ≤ up ∧ up ≤ 68374079))) ∧ w' = w) := by intro w; rw [Bool.decide_and]; exact in_any up 0 68374079 w
  have I2 : Hid (∀ w, Calls Tryz.prog 56 #[.int .i64 fr, .int .i64 0, .int .i64 up] w fun e w' => e = .returned (.bool (decide (0 ≤ fr ∧ fr ≤ up))) ∧ w' = w) := by intro w; rw [Bool.decide_and]; exact in_any fr 0 up w
  have I3 : Hid (∀ w, Calls Tryz.prog 56 #[.int .i64 n, .int .i64 1, .int .i64 4] w fun e w' => e = .returned (.bool (decide (1 ≤ (n : Int) ∧ (n : Int) ≤ 4))) ∧ w' = w) := by intro w; rw [Bool.decide_and]; exact in_any n 1 4 w
  go_enter Tryz.func35, Tryz.ntmps35
  go_wp2_with fail
  refine (HPC.out _).mono ?_
  rintro e w1 ⟨v0, v1, v2, v3, v4, rfl, o0, o1, o2, o3, o4, hb1⟩
  rw [HQ2.out]
  obtain ⟨a0, k0, rfl⟩ := o0.slice
  obtain ⟨a1, k1, rfl⟩ := o1.slice
  obtain ⟨a2, k2, rfl⟩ := o2.slice
  obtain ⟨a3, k3, rfl⟩ := o3.slice
  obtain ⟨a4, k4, rfl⟩ := o4.slice
  have hsz0 : w.heap.size < (w.alloc (.cells #[.string nm, .string cr, .int .i64 fr, .int .i64 up, .bool cu, .slice ao n cap] 36)).heap.size := by simp
  have B1 := below_new hb1
  have x0 : w1.cell? ⟨w.heap.size, 0, none⟩ = some (.string nm) := (hb1.cell (by simp)).trans (by simp [go_sem])
  have x1 : w1.cell? ⟨w.heap.size, 1, none⟩ = some (.string cr) := (hb1.cell (by simp)).trans (by simp [go_sem])
  have x2 : w1.cell? ⟨w.heap.size, 2, none⟩ = some (.int .i64 fr) := (hb1.cell (by simp)).trans (by simp [go_sem])
  have x3 : w1.cell? ⟨w.heap.size, 3, none⟩ = some (.int .i64 up) := (hb1.cell (by simp)).trans (by simp [go_sem])
  have x5 : w1.cell? ⟨w.heap.size, 5, none⟩ = some (.slice ao n cap) := (hb1.cell (by simp)).trans (by simp [go_sem])
  have hg : w.heap.size < w1.heap.size := World.block_lt_of_cell? _ _ x0
  have hX : Below w1.heap.size w1 (w1.alloc (.cells #[.slice a0 (pcN (pcO cr) 0).length k0, .slice a1 (pcN (pcO cr) 1).length k1, .slice a2 (pcN (pcO cr) 2).length k2, .slice a3 (pcN (pcO cr) 3).length k3, .slice a4 (pcN (pcO cr) 4).length k4] 120)) := ba (Below.refl _ _) _
  have HCT : Hid (Calls Tryz.prog 90 #[.agg #[.slice a0 (pcN (pcO cr) 0).length k0, .slice a1 (pcN (pcO cr) 1).length k1, .slice a2 (pcN (pcO cr) 2).length k2, .slice a3 (pcN (pcO cr) 3).length k3, .slice a4 (pcN (pcO cr) 4).length k4]] (w1.alloc (.cells #[.slice a0 (pcN (pcO cr) 0).length k0, .slice a1 (pcN (pcO cr) 1).length k1, .slice a2 (pcN (pcO cr) 2).length k2, .slice a3 (pcN (pcO cr) 3).length k3, .slice a4 (pcN (pcO cr) 4).length k4] 120)) fun x w' => x = .returned (.tuple #[.string tx, .bool (cronB (pcN (pcO cr) 0) (pcN (pcO cr) 1) (pcN (pcO cr) 2) (pcN (pcO cr) 3) (pcN (pcO cr) 4))]) ∧ Below (w1.alloc (.cells #[.slice a0 (pcN (pcO cr) 0).length k0, .slice a1 (pcN (pcO cr) 1).length k1, .slice a2 (pcN (pcO cr) 2).length k2, .slice a3 (pcN (pcO cr) 3).length k3, .slice a4 (pcN (pcO cr) 4).length k4] 120)).heap.size (w1.alloc (.cells #[.slice a0 (pcN (pcO cr) 0).length k0, .slice a1 (pcN (pcO cr) 1).length k1, .slice a2 (pcN (pcO cr) 2).length k2, .slice a3 (pcN (pcO cr) 3).length k3, .slice a4 (pcN (pcO cr) 4).length k4] 120)) w') := by
    have := cronText_any _ _ _ _ _ _ _ _ _ _ _ (o0.reads.below hX) (o1.reads.below hX) (o2.reads.below hX) (o3.reads.below hX) (o4.reads.below hX) (by have := pcN_len cr 0; omega) (by have := pcN_len cr 1; omega) (by have := pcN_len cr 2; omega) (by have := pcN_len cr 3; omega) (by have := pcN_len cr 4; omega)
    rw [show cronX _ _ _ _ _ = tx from HTX.out] at this
    exact this
  clear o0 o1 o2 o3 o4 hb1 hsz0 HPC
  generalize (pcN (pcO cr) 0).length = l0 at *
  generalize (pcN (pcO cr) 1).length = l1 at *
  generalize (pcN (pcO cr) 2).length = l2 at *
  generalize (pcN (pcO cr) 3).length = l3 at *
  generalize (pcN (pcO cr) 4).length = l4 at *
  go_wp2_with fail
  refine HCT.out.mono ?_
  rintro e w2 ⟨rfl, hb2⟩
  have hY := Below.on hX hb2
  have B2 := Below.on B1 hY
  have y0 := (hY.cell hg).trans x0
  have y1 := (hY.cell hg).trans x1
  have y2 := (hY.cell hg).trans x2
  have y3 := (hY.cell hg).trans x3
  have y5 := (hY.cell hg).trans x5
  have hg2 := Nat.lt_of_lt_of_le hg hY.size
  clear hX hb2 hY x0 x1 x2 x3 x5 HCT B1 hg
  cases q1 with
  | false =>
    have HF : Hid (R = false) := HDF.out
    go_wp2_with (first | (go_at_call 91; refine (HNA.out _).mono ?_; rintro e w3 ⟨rfl, hw⟩; have hw2 := hw.symm; subst hw2) | (go_at_call 56; with_reducible refine (I1.out _).mono ?_; rintro e w3 ⟨rfl, hw⟩; have hw2 := hw.symm; subst hw2) | (go_at_call 56; with_reducible refine (I2.out _).mono ?_; rintro e w3 ⟨rfl, hw⟩; have hw2 := hw.symm; subst hw2) | (go_at_call 56; with_reducible refine (I3.out _).mono ?_; rintro e w3 ⟨rfl, hw⟩; have hw2 := hw.symm; subst hw2))
    go_ret
    exact ⟨by rw [HF.out]; rfl, B2⟩
  | true =>
    cases q2 with
    | false =>
      have HF : Hid (R = false) := HDF.out
      go_wp2_with (first | (go_at_call 91; refine (HNA.out _).mono ?_; rintro e w3 ⟨rfl, hw⟩; have hw2 := hw.symm; subst hw2) | (go_at_call 56; with_reducible refine (I1.out _).mono ?_; rintro e w3 ⟨rfl, hw⟩; have hw2 := hw.symm; subst hw2) | (go_at_call 56; with_reducible refine (I2.out _).mono ?_; rintro e w3 ⟨rfl, hw⟩; have hw2 := hw.symm; subst hw2) | (go_at_call 56; with_reducible refine (I3.out _).mono ?_; rintro e w3 ⟨rfl, hw⟩; have hw2 := hw.symm; subst hw2))
      go_ret
      exact ⟨by rw [HF.out]; rfl, B2⟩
    | true =>
      by_cases ht : tx = cr
      case neg =>
        have HF : Hid (R = false) := HDF.out.trans (by rw [decide_eq_false ht]; rfl)
        have e1 := ne_list ht
        go_wp2_with (first | (go_at_call 91; refine (HNA.out _).mono ?_; rintro e w3 ⟨rfl, hw⟩; have hw2 := hw.symm; subst hw2) | (go_at_call 56; with_reducible refine (I1.out _).mono ?_; rintro e w3 ⟨rfl, hw⟩; have hw2 := hw.symm; subst hw2) | (go_at_call 56; with_reducible refine (I2.out _).mono ?_; rintro e w3 ⟨rfl, hw⟩; have hw2 := hw.symm; subst hw2) | (go_at_call 56; with_reducible refine (I3.out _).mono ?_; rintro e w3 ⟨rfl, hw⟩; have hw2 := hw.symm; subst hw2))
        go_ret
        exact ⟨by rw [HF.out]; rfl, B2⟩
      have HD2 : Hid (R = (decide (0 ≤ up ∧ up ≤ 68374079) && (decide (0 ≤ fr ∧ fr ≤ up) && (decide (1 ≤ (n : Int) ∧ (n : Int) ≤ 4) && (tasksB ts 0 ts && decide (OL = n)))))) := HDF.out.trans (by rw [decide_eq_true ht]; rfl)
      subst ht
      clear HDF
      cases h1 : decide (0 ≤ up ∧ up ≤ 68374079) with
      | false =>
        rw [h1] at I1 HD2
        have HF : Hid (R = false) := HD2.out
        clear h1
        go_wp2_with (first | (go_at_call 91; refine (HNA.out _).mono ?_; rintro e w3 ⟨rfl, hw⟩; have hw2 := hw.symm; subst hw2) | (go_at_call 56; with_reducible refine (I1.out _).mono ?_; rintro e w3 ⟨rfl, hw⟩; have hw2 := hw.symm; subst hw2) | (go_at_call 56; with_reducible refine (I2.out _).mono ?_; rintro e w3 ⟨rfl, hw⟩; have hw2 := hw.symm; subst hw2) | (go_at_call 56; with_reducible refine (I3.out _).mono ?_; rintro e w3 ⟨rfl, hw⟩; have hw2 := hw.symm; subst hw2))
        go_ret
        exact ⟨by rw [HF.out]; rfl, B2⟩
      | true =>
        rw [h1] at I1 HD2
        clear h1
        cases h2 : decide (0 ≤ fr ∧ fr ≤ up) with
        | false =>
          rw [h2] at I2 HD2
          have HF : Hid (R = false) := HD2.out
          clear h2
          go_wp2_with (first | (go_at_call 91; refine (HNA.out _).mono ?_; rintro e w3 ⟨rfl, hw⟩; have hw2 := hw.symm; subst hw2) | (go_at_call 56; with_reducible refine (I1.out _).mono ?_; rintro e w3 ⟨rfl, hw⟩; have hw2 := hw.symm; subst hw2) | (go_at_call 56; with_reducible refine (I2.out _).mono ?_; rintro e w3 ⟨rfl, hw⟩; have hw2 := hw.symm; subst hw2) | (go_at_call 56; with_reducible refine (I3.out _).mono ?_; rintro e w3 ⟨rfl, hw⟩; have hw2 := hw.symm; subst hw2))
          go_ret
          exact ⟨by rw [HF.out]; rfl, B2⟩
        | true =>
          rw [h2] at I2 HD2
          clear h2
          cases h3 : decide (1 ≤ (n : Int) ∧ (n : Int) ≤ 4) with
          | false =>
            rw [h3] at I3 HD2
            have HF : Hid (R = false) := HD2.out
            clear h3
            go_wp2_with (first | (go_at_call 91; refine (HNA.out _).mono ?_; rintro e w3 ⟨rfl, hw⟩; have hw2 := hw.symm; subst hw2) | (go_at_call 56; with_reducible refine (I1.out _).mono ?_; rintro e w3 ⟨rfl, hw⟩; have hw2 := hw.symm; subst hw2) | (go_at_call 56; with_reducible refine (I2.out _).mono ?_; rintro e w3 ⟨rfl, hw⟩; have hw2 := hw.symm; subst hw2) | (go_at_call 56; with_reducible refine (I3.out _).mono ?_; rintro e w3 ⟨rfl, hw⟩; have hw2 := hw.symm; subst hw2))
            go_ret
            exact ⟨by rw [HF.out]; rfl, B2⟩
          | true =>
            rw [h3] at I3 HD2
            have h4 := of_decide_eq_true h3
            have HOR : Hid (∀ W, Below w.heap.size w W → Calls Tryz.prog 93 #[.slice ao n cap] W fun e w' => ∃ v', e = .returned v' ∧ ownsR w' W.heap.size 3 v' (orderL ts) ∧ Below W.heap.size W w') := HOR0.out (by omega)
            have HTK : Hid (∀ W i t, Below w.heap.size w W → ts[i]? = some t → Calls Tryz.prog 92 #[.slice ao n cap, .int .i64 (i : Nat)] W fun e w' => e = .returned (.bool (taskB ts i t)) ∧ Below W.heap.size W w') := HTK0.out (by omega)
            clear HOR0 HTK0
            have HF : Hid (R = (tasksB ts 0 ts && decide (OL = n))) := HD2.out
            clear h3 HD2
            go_wp2_with (first | (go_at_call 91; refine (HNA.out _).mono ?_; rintro e w3 ⟨rfl, hw⟩; have hw2 := hw.symm; subst hw2) | (go_at_call 56; with_reducible refine (I1.out _).mono ?_; rintro e w3 ⟨rfl, hw⟩; have hw2 := hw.symm; subst hw2) | (go_at_call 56; with_reducible refine (I2.out _).mono ?_; rintro e w3 ⟨rfl, hw⟩; have hw2 := hw.symm; subst hw2) | (go_at_call 56; with_reducible refine (I3.out _).mono ?_; rintro e w3 ⟨rfl, hw⟩; have hw2 := hw.symm; subst hw2))
            clear I1 I2 I3 HNA
            go_loopw [7] (fun kv wr => ∃ k : Nat, k ≤ n ∧ kv = .int .i64 k ∧ Hid (R = (tasksB ts k (ts.drop k) && decide (OL = n))) ∧ Below w2.heap.size w2 wr) (fun kv _ => n - (intOf kv).toNat)
            case atStart => exact ⟨0, Nat.zero_le _, rfl, (by rw [List.drop_zero]; exact HF), Below.refl _ _⟩
            case round =>
              obtain ⟨k, hk, rfl, HE, hbel⟩ := hrel
              have z5 := (hbel.cell hg2).trans y5
              have BR := Below.on B2 hbel
              by_cases hkn : k < n
              · obtain ⟨t, ht⟩ : ∃ t, ts[k]? = some t := ⟨_, List.getElem?_eq_getElem (by rw [HN.out]; exact hkn)⟩
                have H1 := HTK.out wr k t BR ht
                have HE2 : Hid (R = ((taskB ts k t && tasksB ts (k + 1) (ts.drop (k + 1))) && decide (OL = n))) := by show R = _; rw [HE.out, tasksB_at ht]
                clear ht
                cases hq : taskB ts k t with
                | false =>
                  rw [hq] at H1 HE2
                  have HF2 : Hid (R = false) := HE2.out
                  clear hq
                  go_wp2_with (go_at_call 92; refine H1.mono ?_; rintro e w3 ⟨rfl, hb3⟩)
                  go_ret
                  exact ⟨by rw [HF2.out]; rfl, Below.on BR hb3⟩
                | true =>
                  rw [hq] at H1 HE2
                  have HF2 : Hid (R = (tasksB ts (k + 1) (ts.drop (k + 1)) && decide (OL = n))) := HE2.out
                  clear hq
                  go_wp2_with (go_at_call 92; refine H1.mono ?_; rintro e w3 ⟨rfl, hb3⟩)
                  go_roundw
                  case rel => exact ⟨k + 1, by omega, by go_num, HF2, Below.on hbel hb3⟩
                  case measure => simp [intOf]; omega
              · have HF2 : Hid (R = decide (OL = n)) := HE.out.trans (by rw [tasksB_end (by rw [HN.out]; omega)]; rfl)
                have hol : OL ≤ 100000 := by have := ordL_len ts ts.length; rw [← HOL.out]; show (ordL ts ts.length).length ≤ _; rw [HN.out] at this ⊢; omega
                go_wp2
                have K5 := Below.cellOf (B := wr.heap.size) (World.block_lt_of_cell? _ _ z5) z5
                go_region_held3 (fun w' => Below wr.heap.size wr w') ((first | exact (Below.refl _ _).drew | exact hS0)) ((go_at_call 93; refine (HOR.out _ (Below.on BR (by assumption))).mono ?_; rintro e w4 ⟨v', rfl, ho, hb4⟩; have hS0 := keep_on (B := wr.heap.size) (W := wr) hb4 (by assumption) (Nat.le_refl _); obtain ⟨oo, oc, rfl⟩ := ho.slice; rw [HOL.out] at *))
                all_goals
                  go_wp2
                  go_ret
                  exact ⟨by rw [HF2.out, ← natbeq]; rfl, Below.on BR hS0⟩
end Go.Proofs.YtjmclcjhimcehaaGreatDoor

namespace Go.Proofs.YtjmclcjhimcehaaGreatDoor
open Go Go.RowKit

/-- The tables that are read. -/
structure Gl (w : World) : Prop where
  rch : RchIs w
  max : MaxIs w
  space : SpaceIs w
  pow : PowIs w
theorem Gl.up {w W : World} (h : Gl w) (hb : Below w.heap.size w W) : Gl W := ⟨h.rch.up hb, h.max.up hb, h.space.below hb, h.pow.below hb⟩
theorem again_ok (s : ByteArray) : cronB (pcN (pcO s) 0) (pcN (pcO s) 1) (pcN (pcO s) 2) (pcN (pcO s) 3) (pcN (pcO s) 4) = (pcO s).isSome := by
  cases h : pcO s with
  | none => rfl
  | some l =>
    obtain ⟨a, b, c, d, e, rfl, hq⟩ := rule_right h
    exact hq
theorem pcn_len (s : ByteArray) (k : Nat) : (pcN (pcO s) k).length ≤ 1048577 := Nat.le_trans (pcN_len s k) (by decide)
set_option maxRecDepth 10000 in
set_option maxHeartbeats 1000000 in
theorem cronTextOf_any (s : ByteArray) (w : World) (hs : s.size ≤ 1048576) (hg : Gl w) :
    Calls Tryz.prog 95 #[.string s] w fun e w' => e = .returned (.tuple #[.string (againS s), .bool (pcO s).isSome]) ∧ Below w.heap.size w w' := by
  have HP : Hid (Calls Tryz.prog 139 #[.string s] w (PcI s w)) := implParse_any s w hs hg.rch hg.max hg.space
  have HG : Hid (∀ W, Below w.heap.size w W → Gl W) := fun W hb => hg.up hb
  clear hs hg
  go_enter Tryz.func95, Tryz.ntmps95
  go_wp2_with fail
  refine HP.out.mono ?_
  rintro e w1 ⟨v0, v1, v2, v3, v4, rfl, o0, o1, o2, o3, o4, hb1, _⟩
  obtain ⟨a0, l0, k0, rfl⟩ := o0.slice3
  obtain ⟨a1, l1, k1, rfl⟩ := o1.slice3
  obtain ⟨a2, l2, k2, rfl⟩ := o2.slice3
  obtain ⟨a3, l3, k3, rfl⟩ := o3.slice3
  obtain ⟨a4, l4, k4, rfl⟩ := o4.slice3
  have HT : Hid (∀ W, Below w1.heap.size w1 W → Calls Tryz.prog 140 #[.agg #[.slice a0 l0 k0, .slice a1 l1 k1, .slice a2 l2 k2, .slice a3 l3 k3, .slice a4 l4 k4]] W fun x w' => x = .returned (.tuple #[.string (againS s), .bool (pcO s).isSome]) ∧ Below W.heap.size W w') := by
    intro W hb
    have := implText_any _ _ _ _ _ _ _ _ _ _ W (o0.reads.below hb) (o1.reads.below hb) (o2.reads.below hb) (o3.reads.below hb) (o4.reads.below hb) (pcn_len s 0) (pcn_len s 1) (pcn_len s 2) (pcn_len s 3) (pcn_len s 4) (HG.out W (hb1.trans (hb.mono hb1.size))).rch (HG.out W (hb1.trans (hb.mono hb1.size))).pow
    rw [again_ok] at this
    exact this
  clear o0 o1 o2 o3 o4 HP HG
  obtain ⟨T, HTT⟩ : ∃ T, Hid (againS s = T) := ⟨_, rfl⟩
  obtain ⟨q, HQ⟩ : ∃ q, Hid ((pcO s).isSome = q) := ⟨_, rfl⟩
  rw [HTT.out, HQ.out] at HT
  rw [HQ.out]
  go_wp2_with (go_at_call 140; refine (HT.out _ (ba (Below.refl _ _) _)).mono ?_; rintro e w2 ⟨rfl, hb2⟩)
  go_ret2
  refine ⟨by rw [HTT.out, HQ.out]; rfl, ?_⟩
  exact hb1.trans ((below_new hb2).mono hb1.size)
end Go.Proofs.YtjmclcjhimcehaaGreatDoor

namespace Go.Proofs.YtjmclcjhimcehaaGreatDoor
open Go Go.RowKit

theorem decode_step {s : ByteArray} {k : Nat} (h : k < s.size) (ha : s[k].toNat < 128) : Utf8.decode s k = (s[k].toNat, 1) := decode_ascii s k h ha
theorem iter_below (w : World) (s : ByteArray) (k : Nat) : Below w.heap.size w (w.iter s k) := (Below.refl _ _).alloc (Nat.le_refl _) _
theorem char_no {n : Nat} (h1 : ¬ (97 ≤ n ∧ n ≤ 122)) (h2 : ¬ (48 ≤ n ∧ n ≤ 57)) : charB n = false := by unfold charB; rw [decide_eq_false h1, decide_eq_false h2]; rfl
theorem char_letter {n : Nat} (h1 : 97 ≤ n) (h2 : n ≤ 122) : charB n = true := by unfold charB; rw [decide_eq_true (p := 97 ≤ n ∧ n ≤ 122) ⟨h1, h2⟩]; rfl
theorem char_figure {n : Nat} (h1 : 48 ≤ n) (h2 : n ≤ 57) : charB n = true := by unfold charB; rw [decide_eq_true (p := 48 ≤ n ∧ n ≤ 57) ⟨h1, h2⟩, Bool.or_true]
theorem name_first {s : ByteArray} (hn : 0 < s.size) (h : ¬ (97 ≤ s[0].toNat ∧ s[0].toNat ≤ 122)) : nameB s = false := name_head hn h
set_option maxRecDepth 10000 in
set_option maxHeartbeats 2000000 in
theorem implName_any (s : ByteArray) (w : World) (hs : s.size ≤ 9223372036854775807) :
    Calls Tryz.prog 96 #[.string s] w fun e w' => e = .returned (.bool (nameB s)) ∧ Below w.heap.size w w' := by
  by_cases hz : 1 ≤ s.size ∧ s.size ≤ 8
  · have h0 : 0 < s.size := hz.1
    have h8 : s.size ≤ 8 := hz.2
    clear hz
    have HG : Hid ((∀ j (h : j < s.size), charB s[j].toNat = true) → (97 ≤ s[0].toNat ∧ s[0].toNat ≤ 122) → nameB s = true) := fun ha hc => name_good h0 h8 hc ha
    have HH : Hid (¬ (97 ≤ s[0].toNat ∧ s[0].toNat ≤ 122) → nameB s = false) := fun hc => name_first h0 hc
    go_enter Tryz.func96, Tryz.ntmps96
    go_wp2
    go_loopw [] (fun wr => ∃ k : Nat, k ≤ s.size ∧ Hid ((∀ j (h : j < s.size), j < k → charB s[j].toNat = true) ∧ (0 < k → 97 ≤ s[0].toNat ∧ s[0].toNat ≤ 122)) ∧ wr = w.iter s k) (fun wr => s.size - wr.iterPos w.heap.size)
    case atStart => exact ⟨0, Nat.zero_le _, ⟨fun j _ hj => by omega, fun h => by omega⟩, rfl⟩
    case round =>
      obtain ⟨k, hk, HE, rfl⟩ := hrel
      have HB : Hid (∀ j, Below w.heap.size w (w.iter s j)) := fun j => iter_below w s j
      by_cases hlt : k < s.size
      · have next (hq : charB s[k].toNat = true) (h0' : k = 0 → 97 ≤ s[k].toNat ∧ s[k].toNat ≤ 122) : Hid ((∀ j (h : j < s.size), j < k + 1 → charB s[j].toNat = true) ∧ (0 < k + 1 → 97 ≤ s[0].toNat ∧ s[0].toNat ≤ 122)) := by
          refine ⟨fun j h hj => ?_, fun _ => ?_⟩
          · by_cases e : j = k
            · subst e; exact hq
            · exact HE.out.1 j h (by omega)
          · by_cases e : k = 0
            · subst e; exact h0' rfl
            · exact HE.out.2 (by omega)
        by_cases hasc : s[k].toNat < 128
        · have hnx : ∀ ty, (Instr.next (.pointer (some ⟨w.heap.size, 0, none⟩)) true ty).run Tryz.prog (w.iter s k) = .ok (.tuple #[.bool true, .int .i64 k, .int .i32 s[k].toNat]) (w.iter s (k + 1)) := fun ty => run_next_ascii w s k ty hlt hasc
          by_cases a1 : 97 ≤ s[k].toNat
          · by_cases a2 : s[k].toNat ≤ 122
            · have HN := next (char_letter a1 a2) (fun _ => ⟨a1, a2⟩)
              clear next
              go_wp2
              go_roundw
              case rel => exact ⟨k + 1, by omega, HN, rfl⟩
              case measure => simp only [World.iterPos_iter]; omega
            · have HF : Hid (nameB s = false) := name_bad hlt (char_no (by omega) (by omega))
              have b1 : ¬ s[k].toNat ≤ 57 := by omega
              have b2 : 48 ≤ s[k].toNat := by omega
              have b5 : decide ((s[k].toNat : Int) ≤ 122) = false := decide_eq_false (by omega)
              clear next
              go_wp2
              go_ret
              exact ⟨by rw [HF.out]; rfl, HB.out _⟩
          · by_cases a3 : 48 ≤ s[k].toNat
            · by_cases a4 : s[k].toNat ≤ 57
              · by_cases e : 0 < k
                · have HN := next (char_figure a3 a4) (fun h => by omega)
                  clear next
                  go_wp2
                  go_roundw
                  case rel => exact ⟨k + 1, by omega, HN, rfl⟩
                  case measure => simp only [World.iterPos_iter]; omega
                · have e0 : k = 0 := by omega
                  subst e0
                  have HF : Hid (nameB s = false) := HH.out (by omega)
                  clear next
                  go_wp2
                  go_ret
                  exact ⟨by rw [HF.out]; rfl, HB.out _⟩
              · have HF : Hid (nameB s = false) := name_bad hlt (char_no (by omega) (by omega))
                clear next
                go_wp2
                go_ret
                exact ⟨by rw [HF.out]; rfl, HB.out _⟩
            · have HF : Hid (nameB s = false) := name_bad hlt (char_no (by omega) (by omega))
              clear next
              go_wp2
              go_ret
              exact ⟨by rw [HF.out]; rfl, HB.out _⟩
        · have HF : Hid (nameB s = false) := name_bad hlt (char_no (by omega) (by omega))
          have hhi := (decode_high s k hlt (by omega)).1
          have hle := decode_le s k
          obtain ⟨r, wd, hrw⟩ : ∃ r wd, Utf8.decode s k = (r, wd) := ⟨_, _, rfl⟩
          rw [hrw] at hhi hle
          have hnx : ∀ ty, (Instr.next (.pointer (some ⟨w.heap.size, 0, none⟩)) true ty).run Tryz.prog (w.iter s k) = .ok (.tuple #[.bool true, .int .i64 k, .int .i32 r]) (w.iter s (k + wd)) := fun ty => by
            have := run_next_any (P := Tryz.prog) w s k ty hlt
            rw [hrw] at this
            exact this
          dsimp only at hhi hle
          have b1 : ¬ r ≤ 57 := by omega
          have b2 : 48 ≤ r := by omega
          have b3 : ¬ r ≤ 122 := by omega
          have b4 : 97 ≤ r := by omega
          have b5 : decide ((r : Int) ≤ 122) = false := decide_eq_false (by omega)
          clear next
          go_wp2
          go_ret
          exact ⟨by rw [HF.out]; rfl, HB.out _⟩
      · have hnx : ∀ ty, (Instr.next (.pointer (some ⟨w.heap.size, 0, none⟩)) true ty).run Tryz.prog (w.iter s k) = _ := fun ty => run_next_end w s k ty hlt
        have HF : Hid (nameB s = true) := HG.out (fun j h => HE.out.1 j h (by omega)) (HE.out.2 (by omega))
        go_wp2
        go_ret
        exact ⟨by rw [HF.out]; rfl, HB.out _⟩
  · have HF : Hid (nameB s = false) := name_size hz
    by_cases hs0 : s.size < 1
    · clear hz
      go_enter Tryz.func96, Tryz.ntmps96
      go_wp2
      go_ret
      exact ⟨by rw [HF.out]; rfl, Below.refl _ _⟩
    · have hs1 : 8 < s.size := by omega
      clear hz
      go_enter Tryz.func96, Tryz.ntmps96
      go_wp2
      go_ret
      exact ⟨by rw [HF.out]; rfl, Below.refl _ _⟩
set_option maxHeartbeats 400000 in
theorem implPool_any (s : ByteArray) (w : World) : Calls Tryz.prog 128 #[.string s] w fun e w' => e = .returned (.int .i64 (poolN s)) ∧ w' = w := by
  unfold poolN
  by_cases h1 : s = ⟨#[111, 110, 101]⟩
  · rw [if_pos h1]
    subst h1
    go_enter Tryz.func128, Tryz.ntmps128
    go_wp2
    go_ret
    exact ⟨rfl, rfl⟩
  · rw [if_neg h1]
    have q1 : (s.toList == [111, 110, 101]) = false := by rw [← one_list]; exact ne_list h1
    clear h1
    by_cases h2 : s = ⟨#[116, 119, 111]⟩
    · rw [if_pos h2]
      subst h2
      go_enter Tryz.func128, Tryz.ntmps128
      go_wp2
      go_ret
      exact ⟨rfl, rfl⟩
    · rw [if_neg h2]
      have q2 : (s.toList == [116, 119, 111]) = false := by rw [← two_list]; exact ne_list h2
      clear h2
      by_cases h3 : s = ⟨#[119, 105, 100, 101]⟩
      · rw [if_pos h3]
        subst h3
        go_enter Tryz.func128, Tryz.ntmps128
        go_wp2
        go_ret
        exact ⟨rfl, rfl⟩
      · rw [if_neg h3]
        have q3 : (s.toList == [119, 105, 100, 101]) = false := by rw [← wide_list]; exact ne_list h3
        clear h3
        go_enter Tryz.func128, Tryz.ntmps128
        go_wp2
        go_ret
        exact ⟨rfl, rfl⟩
end Go.Proofs.YtjmclcjhimcehaaGreatDoor

namespace Go.Proofs.YtjmclcjhimcehaaGreatDoor
open Go Go.RowKit

theorem up_alloc {B : Nat} {w W : World} (h : Below B w W) (hB : B ≤ W.heap.size) (o : Obj) : Below B w (W.alloc o) := h.alloc hB o
def hasB (l : List Ta) (s : ByteArray) : Bool := l.any fun t => decide (t.name = s)
theorem hasB_at {l : List Ta} {s : ByteArray} {k : Nat} {t : Ta} (h : l[k]? = some t) : hasB (l.drop k) s = (decide (t.name = s) || hasB (l.drop (k + 1)) s) := by
  obtain ⟨hk, rfl⟩ := List.getElem?_eq_some_iff.1 h
  rw [List.drop_eq_getElem_cons hk]
  rfl
theorem hasB_end {l : List Ta} {s : ByteArray} {k : Nat} (h : k = l.length) : hasB (l.drop k) s = false := by subst h; rw [List.drop_length]; rfl
set_option maxRecDepth 10000 in
set_option maxHeartbeats 1000000 in
theorem hasLit_any (nm po : ByteArray) (rt : Int) (pa : Bool) (af : Value) (b : Nat) (s : ByteArray) (w : World) (hc : w.cell? ⟨b, 0, none⟩ = some (.string s)) :
    Calls Tryz.prog 169 #[.agg #[.string nm, .string po, .int .i64 rt, .bool pa, af], .pointer (some ⟨b, 0, none⟩)] w fun e w' => e = .returned (.bool (decide (nm = s))) ∧ Below w.heap.size w w' := by
  have hb : b < w.heap.size := World.block_lt_of_cell? w _ hc
  by_cases hq : nm = s
  · have hq2 := eq_list hq
    rw [decide_eq_true hq]
    clear hq
    go_enter Tryz.func169, Tryz.ntmps169
    go_wp2
    go_ret
    exact ⟨rfl, ba (Below.refl _ _) _⟩
  · have hq2 := ne_list hq
    rw [decide_eq_false hq]
    clear hq
    go_enter Tryz.func169, Tryz.ntmps169
    go_wp2
    go_ret
    exact ⟨rfl, ba (Below.refl _ _) _⟩
set_option maxRecDepth 10000 in
set_option maxHeartbeats 1000000 in
theorem idxTask_any {w : World} {v : Value} {l : List Ta} (b : Nat) (s : ByteArray) (hr : Tasks w v l) (hn : l.length ≤ 1048577) (hc : w.cell? ⟨b, 0, none⟩ = some (.string s)) :
    Calls Tryz.prog 201 #[v, .func (.func 169) #[] #[.pointer (some ⟨b, 0, none⟩)]] w fun e w' => ∃ r : Int, e = .returned (.int .i64 r) ∧ decide (0 ≤ r) = hasB l s ∧ Below w.heap.size w w' := by
  have hb : b < w.heap.size := World.block_lt_of_cell? w _ hc
  obtain ⟨ao, cap, rfl⟩ := hr.slice
  have HR : Hid (∀ W, Below w.heap.size w W → Tasks W (.slice ao l.length cap) l) := fun W h => hr.below h
  have HC : Hid (∀ W, Below w.heap.size w W → ∀ nm po rt pa af, Calls Tryz.prog 169 #[.agg #[.string nm, .string po, .int .i64 rt, .bool pa, af], .pointer (some ⟨b, 0, none⟩)] W fun e w' => e = .returned (.bool (decide (nm = s))) ∧ Below W.heap.size W w') :=
    fun W h nm po rt pa af => hasLit_any nm po rt pa af b s W ((h.cell (p := ⟨b, 0, none⟩) hb).trans hc)
  clear hr hc hb
  obtain ⟨n, HN⟩ : ∃ n, Hid (l.length = n) := ⟨_, rfl⟩
  rw [HN.out] at hn
  rw [HN.out] at HR ⊢
  go_enter Tryz.func201, Tryz.ntmps201
  go_wp2
  go_loopw [8] (fun i wr => ∃ k : Nat, k ≤ n ∧ i = .int .i64 k ∧ Hid (hasB l s = hasB (l.drop k) s) ∧ Below w.heap.size w wr) (fun i _ => n - (intOf i).toNat)
  case atStart => exact ⟨0, Nat.zero_le _, rfl, (by show hasB l s = hasB (l.drop 0) s; rw [List.drop_zero]), Below.refl _ _⟩
  case round =>
    obtain ⟨k, hk, rfl, HE, hbel⟩ := hrel
    by_cases hlt : k < n
    · obtain ⟨t, ht⟩ : ∃ t, l[k]? = some t := ⟨_, List.getElem?_eq_getElem (by rw [HN.out]; exact hlt)⟩
      obtain ⟨b', o, av, rfl, hb, c0, c1, c2, c3, c4, _⟩ := (HR.out wr hbel).at ht
      by_cases hq : t.name = s
      · have HF : Hid (true = hasB l s) := (HE.out.trans (by rw [hasB_at ht, decide_eq_true hq]; rfl)).symm
        have HC2 : Hid (Calls Tryz.prog 169 #[.agg #[.string t.name, .string t.pool, .int .i64 t.ret, .bool t.past, av], .pointer (some ⟨b, 0, none⟩)] wr fun e w' => e = .returned (.bool true) ∧ Below wr.heap.size wr w') := by
          have := HC.out wr hbel t.name t.pool t.ret t.past av
          rwa [decide_eq_true hq] at this
        clear ht hq HC
        go_wp2_with (go_at_call 169; refine HC2.out.mono ?_; rintro e w1 ⟨rfl, hb1⟩)
        go_ret
        exact ⟨_, rfl, (decide_eq_true (by omega)).trans HF.out, hbel.trans (hb1.mono hbel.size)⟩
      · have HF : Hid (hasB l s = hasB (l.drop (k + 1)) s) := HE.out.trans (by rw [hasB_at ht, decide_eq_false hq]; rfl)
        have HC2 : Hid (Calls Tryz.prog 169 #[.agg #[.string t.name, .string t.pool, .int .i64 t.ret, .bool t.past, av], .pointer (some ⟨b, 0, none⟩)] wr fun e w' => e = .returned (.bool false) ∧ Below wr.heap.size wr w') := by
          have := HC.out wr hbel t.name t.pool t.ret t.past av
          rwa [decide_eq_false hq] at this
        clear ht hq HC
        go_wp2_with (go_at_call 169; refine HC2.out.mono ?_; rintro e w1 ⟨rfl, hb1⟩)
        have hbel2 := hbel.trans (hb1.mono hbel.size)
        clear hbel hb1 HC2
        go_wp2
        go_roundw
        case rel => exact ⟨k + 1, by omega, by go_num, HF, hbel2⟩
        case measure => simp [intOf]; omega
    · have HF : Hid (false = hasB l s) := (HE.out.trans (hasB_end (by rw [HN.out]; omega))).symm
      go_wp2
      go_ret
      exact ⟨_, rfl, (decide_eq_false (by omega)).trans HF.out, hbel⟩
set_option maxRecDepth 10000 in
set_option maxHeartbeats 1000000 in
theorem hasTask_any {w : World} {v : Value} {l : List Ta} (s : ByteArray) (hr : Tasks w v l) (hn : l.length ≤ 1048577) :
    Calls Tryz.prog 142 #[v, .string s] w fun e w' => e = .returned (.bool (hasB l s)) ∧ Below w.heap.size w w' := by
  obtain ⟨ao, cap, rfl⟩ := hr.slice
  have HC : Hid (∀ W b, Below w.heap.size w W → W.cell? ⟨b, 0, none⟩ = some (.string s) → Calls Tryz.prog 168 #[.slice ao l.length cap, .func (.func 169) #[] #[.pointer (some ⟨b, 0, none⟩)]] W fun e w' => e = .returned (.bool (hasB l s)) ∧ Below W.heap.size W w') := by
    intro W b hb hc
    have HI : Hid (Calls Tryz.prog 201 #[.slice ao l.length cap, .func (.func 169) #[] #[.pointer (some ⟨b, 0, none⟩)]] W fun e w' => ∃ r : Int, e = .returned (.int .i64 r) ∧ decide (0 ≤ r) = hasB l s ∧ Below W.heap.size W w') := idxTask_any b s (hr.below hb) hn hc
    clear hr hb hc
    go_enter Tryz.func168, Tryz.ntmps168
    go_wp2_with (go_at_call 201; refine HI.out.mono ?_; rintro e w1 ⟨r, rfl, hd, hb1⟩)
    go_ret
    exact ⟨by rw [← hd]; rfl, hb1⟩
  clear hr
  go_enter Tryz.func142, Tryz.ntmps142
  go_wp2_with (go_at_call 168; refine (HC.out _ w.heap.size (ba (Below.refl _ _) _) (by simp)).mono ?_; rintro e w1 ⟨rfl, hb1⟩)
  go_ret
  exact ⟨rfl, below_new hb1⟩
end Go.Proofs.YtjmclcjhimcehaaGreatDoor

namespace Go.Proofs.YtjmclcjhimcehaaGreatDoor
open Go Go.RowKit

def leB (a b : ByteArray) : Bool := Op.bytesLess a.toList b.toList || a.toList == b.toList
theorem lt_tri (x y : List UInt8) : decide (x < y) = !(decide (y < x) || (y == x)) := by
  rcases Std.lt_trichotomy x y with h | h | h
  · have h1 : ¬ y < x := fun h' => Std.lt_irrefl (Std.lt_trans h h')
    have h2 : y ≠ x := fun e => Std.lt_irrefl (e ▸ h)
    simp [h, h1, h2]
  · subst h
    simp [Std.lt_irrefl]
  · have h1 : ¬ x < y := fun h' => Std.lt_irrefl (Std.lt_trans h h')
    simp [h, h1]
theorem less_le (a b : ByteArray) : lessB a b = !leB b a := by
  unfold lessB leB
  rw [bytesLess_eq, bytesLess_eq]
  exact lt_tri _ _
theorem leB_none {s : ByteArray} (h : 0 < s.size) : leB s ⟨#[]⟩ = false := by
  have e : (⟨#[]⟩ : ByteArray).toList = [] := (ByteArray.toList_eq _).trans rfl
  have h2 : s.toList ≠ [] := by
    rw [ByteArray.toList_eq]
    intro e
    have h3 : s.data.toList.length = s.size := rfl
    rw [e] at h3
    exact absurd h3 (by simp; omega)
  unfold leB
  rw [e]
  cases hs : s.toList with
  | nil => exact absurd hs h2
  | cons a r => rfl
/-- Names that ascend from one on. -/
def ascB (p : ByteArray) : List ByteArray → Bool
  | [] => true
  | s :: r => (nameB s && !leB s p) && ascB s r
theorem ascB_at {l : List ByteArray} {p s : ByteArray} {k : Nat} (h : l[k]? = some s) : ascB p (l.drop k) = ((nameB s && !leB s p) && ascB s (l.drop (k + 1))) := by
  obtain ⟨hk, rfl⟩ := List.getElem?_eq_some_iff.1 h
  rw [List.drop_eq_getElem_cons hk]
  rfl
theorem ascB_end {l : List ByteArray} {p : ByteArray} {k : Nat} (h : k = l.length) : ascB p (l.drop k) = true := by subst h; rw [List.drop_length]; rfl
set_option maxRecDepth 10000 in
set_option maxHeartbeats 1000000 in
theorem asc_any {w : World} {v : Value} {l : List ByteArray} (hr : Reads w v l) (hn : l.length ≤ 1048577) (hs : ∀ s ∈ l, s.size ≤ 9223372036854775807) :
    Calls Tryz.prog 167 #[v] w fun e w' => e = .returned (.bool (ascB ⟨#[]⟩ l)) ∧ Below w.heap.size w w' := by
  obtain ⟨ao, cap, rfl, hh⟩ := id hr
  clear hh
  have HR : Hid (∀ W, Below w.heap.size w W → Reads W (.slice ao l.length cap) l) := fun W h => hr.below h
  have HS : Hid (∀ s ∈ l, ∀ W, Calls Tryz.prog 96 #[.string s] W fun e w' => e = .returned (.bool (nameB s)) ∧ Below W.heap.size W w') := fun s h W => implName_any s W (hs s h)
  clear hr hs
  obtain ⟨n, HN⟩ : ∃ n, Hid (l.length = n) := ⟨_, rfl⟩
  rw [HN.out] at hn
  rw [HN.out] at HR
  rw [HN.out]
  go_enter Tryz.func167, Tryz.ntmps167
  go_wp2
  go_loopw [3, 8] (fun pv i wr => ∃ (k : Nat) (p : ByteArray), k ≤ n ∧ i = .int .i64 k ∧ pv = .string p ∧ Hid (ascB ⟨#[]⟩ l = ascB p (l.drop k)) ∧ Below w.heap.size w wr) (fun _ i _ => n - (intOf i).toNat)
  case atStart => exact ⟨0, ⟨#[]⟩, Nat.zero_le _, rfl, rfl, (by show ascB ⟨#[]⟩ l = ascB ⟨#[]⟩ (l.drop 0); rw [List.drop_zero]), Below.refl _ _⟩
  case round =>
    obtain ⟨k, p, hk, rfl, rfl, HE, hbel⟩ := hrel
    by_cases hlt : k < n
    · obtain ⟨t, ht⟩ : ∃ t, l[k]? = some t := ⟨_, List.getElem?_eq_getElem (by rw [HN.out]; exact hlt)⟩
      obtain ⟨b', o, rfl, hb, c0⟩ := text_at (HR.out wr hbel) ht
      have HC : Hid (∀ W, Calls Tryz.prog 96 #[.string t] W fun e w' => e = .returned (.bool (nameB t)) ∧ Below W.heap.size W w') := HS.out t (List.mem_of_getElem? ht)
      have HA : Hid (ascB ⟨#[]⟩ l = ((nameB t && !leB t p) && ascB t (l.drop (k + 1)))) := HE.out.trans (ascB_at ht)
      have HL : Hid (Op.bytesLess t.toList p.toList || t.toList == p.toList) = leB t p := rfl
      obtain ⟨q, HQ⟩ : ∃ q, Hid (nameB t = q) := ⟨_, rfl⟩
      rw [HQ.out] at HC HA
      clear HQ ht HE HL
      cases q with
      | false =>
        have HF : Hid (ascB ⟨#[]⟩ l = false) := HA.out
        clear HA
        go_wp2_with (go_at_call 96; refine (HC.out _).mono ?_; rintro e w1 ⟨rfl, hb1⟩)
        go_ret
        exact ⟨by rw [HF.out]; rfl, hbel.trans (hb1.mono hbel.size)⟩
      | true =>
        by_cases hle : leB t p = true
        · have HF : Hid (ascB ⟨#[]⟩ l = false) := HA.out.trans (by rw [hle]; rfl)
          have hle2 : (Op.bytesLess t.toList p.toList || t.toList == p.toList) = true := hle
          clear HA hle
          go_wp2_with (go_at_call 96; refine (HC.out _).mono ?_; rintro e w1 ⟨rfl, hb1⟩)
          go_ret
          exact ⟨by rw [HF.out]; rfl, hbel.trans (hb1.mono hbel.size)⟩
        · have hle1 : leB t p = false := by simpa using hle
          have HF : Hid (ascB ⟨#[]⟩ l = ascB t (l.drop (k + 1))) := HA.out.trans (by rw [hle1]; rfl)
          have hle2 : (Op.bytesLess t.toList p.toList || t.toList == p.toList) = false := hle1
          clear HA hle hle1
          go_wp2_with (go_at_call 96; refine (HC.out _).mono ?_; rintro e w1 ⟨rfl, hb1⟩)
          have hbel2 := hbel.trans (hb1.mono hbel.size)
          clear hbel hb1 HC
          go_wp2
          go_roundw
          case rel => exact ⟨k + 1, t, by omega, by go_num, rfl, HF, hbel2⟩
          case measure => simp [intOf]; omega
    · have HF : Hid (ascB ⟨#[]⟩ l = true) := HE.out.trans (ascB_end (by rw [HN.out]; omega))
      go_wp2
      go_ret
      exact ⟨by rw [HF.out]; rfl, hbel⟩
end Go.Proofs.YtjmclcjhimcehaaGreatDoor
