/-
  Whether a plan is right, as the specification tells it: the walk. Plans whose tasks can be put in order are right: plain facts. One of a row of texts, as the specification draws it: the walk. The built-in copy over rows of records, each of as many cells, as a law of the walk. Over any program. The built-in append of a row of records behind another one, as a run. Over any program.
-/
import Derived.Test.YtehkebdncfljmaaTsk
import Derived.Test.YtehkebdncfljmaaME3
import Derived.Test.YtehkebdncfljmaaDraw2
import Derived.Test.YtehkebdncfljmaaGn
import Derived.Laws.CopyRow
namespace Go.Proofs.Ytehkebdncfljmaa
open Go Go.RowKit

/-- A plan, plain. -/
structure Dg where
  name : ByteArray
  cron : ByteArray
  fr : Int
  up : Int
  cu : Bool
  tasks : List Ta
def tasksB (ts : List Ta) : Nat → List Ta → Bool
  | _, [] => true
  | i, t :: r => taskB ts i t && tasksB ts (i + 1) r
theorem tasksB_at {ts : List Ta} {i : Nat} {t : Ta} (h : ts[i]? = some t) : tasksB ts i (ts.drop i) = (taskB ts i t && tasksB ts (i + 1) (ts.drop (i + 1))) := by
  obtain ⟨hk, rfl⟩ := List.getElem?_eq_some_iff.1 h
  rw [List.drop_eq_getElem_cons hk]
  rfl
theorem tasksB_end {ts : List Ta} {i : Nat} (h : i = ts.length) : tasksB ts i (ts.drop i) = true := by
  subst h
  rw [List.drop_length]
  rfl
/-- A rule's text, told again. -/
def againS (s : ByteArray) : ByteArray := cronX (pcN (pcO s) 0) (pcN (pcO s) 1) (pcN (pcO s) 2) (pcN (pcO s) 3) (pcN (pcO s) 4)
/-- A right plan. -/
def dagB (d : Dg) : Bool := nameB d.name && ((pcO d.cron).isSome && (decide (againS d.cron = d.cron) && (decide (0 ≤ d.up ∧ d.up ≤ 68374079) && (decide (0 ≤ d.fr ∧ d.fr ≤ d.up) && (decide (1 ≤ (d.tasks.length : Int) ∧ (d.tasks.length : Int) ≤ 4) && (tasksB d.tasks 0 d.tasks && decide ((orderL d.tasks).length = d.tasks.length)))))))
theorem fieldL_len (s : ByteArray) (lo hi : Int) (h : hi - lo + 1 ≤ 60) : (fieldL s lo hi).length ≤ 60 := by
  unfold fieldL picksO
  split
  · simp
  · have := picks_length ‹List Bool› lo (hi - lo + 1).toNat
    omega
theorem pcN_len (s : ByteArray) (k : Nat) : (pcN (pcO s) k).length ≤ 60 := by
  unfold pcN pcO
  split
  · unfold pcT
    split
    · split
      · rename_i x1 x2 x3 x4 x5 _ _
        have f1 := fieldL_len x1 0 59 (by decide)
        have f2 := fieldL_len x2 0 23 (by decide)
        have f3 := fieldL_len x3 1 31 (by decide)
        have f4 := fieldL_len x4 1 12 (by decide)
        have f5 := fieldL_len x5 0 6 (by decide)
        match k with
        | 0 => exact f1
        | 1 => exact f2
        | 2 => exact f3
        | 3 => exact f4
        | 4 => exact f5
        | k + 5 => simp
      · simp
    · simp
  · simp
theorem natbeq (a b : Nat) : ((a : Int) == (b : Int)) = decide (a = b) := by
  by_cases h : a = b
  · subst h; simp
  · rw [decide_eq_false h, beq_eq_false_iff_ne]; omega
/-- A plan as it lies there. -/
structure DagAt (w : World) (tv : Value) (d : Dg) : Prop where
  tasks : Tasks w tv d.tasks
  few : d.tasks.length ≤ 1048577
  small : ∀ t ∈ d.tasks, t.after.length ≤ 1048576 ∧ t.name.size ≤ 9223372036854775807
  cron : d.cron.size ≤ 1048576
  name : d.name.size ≤ 9223372036854775807
theorem DagAt.below {w w' : World} {tv : Value} {d : Dg} (h : DagAt w tv d) (hb : Below w.heap.size w w') : DagAt w' tv d := ⟨h.tasks.below hb, h.few, h.small, h.cron, h.name⟩

set_option maxRecDepth 10000 in
set_option maxHeartbeats 4000000 in
theorem dagOk_try (tv : Value) (nm cr : ByteArray) (fr up : Int) (cu : Bool) (ts : List Ta) (w : World) (hd : DagAt w tv ⟨nm, cr, fr, up, cu, ts⟩) :
    Calls Try.prog 91 #[.agg #[.string nm, .string cr, .int .i64 fr, .int .i64 up, .bool cu, tv]] w fun e w' => e = .returned (.bool (dagB ⟨nm, cr, fr, up, cu, ts⟩)) ∧ Below w.heap.size w w' := by
  have hn : ts.length ≤ 1048577 := hd.few
  obtain ⟨ao, cap, htv⟩ := hd.tasks.slice
  subst htv
  obtain ⟨n, HN⟩ : ∃ n, Hid (ts.length = n) := ⟨_, rfl⟩
  have HT : Hid (Tasks w (.slice ao ts.length cap) ts) := hd.tasks
  have HSM : Hid (∀ t ∈ ts, t.after.length ≤ 1048576 ∧ t.name.size ≤ 9223372036854775807) := hd.small
  have HDF : Hid (dagB ⟨nm, cr, fr, up, cu, ts⟩ = (nameB nm && ((pcO cr).isSome && (decide (againS cr = cr) && (decide (0 ≤ up ∧ up ≤ 68374079) && (decide (0 ≤ fr ∧ fr ≤ up) && (decide (1 ≤ (ts.length : Int) ∧ (ts.length : Int) ≤ 4) && (tasksB ts 0 ts && decide ((orderL ts).length = ts.length))))))))) := rfl
  show Calls Try.prog 91 #[.agg #[.string nm, .string cr, .int .i64 fr, .int .i64 up, .bool cu, .slice ao ts.length cap]] w _
  rw [HN.out] at hn HT HDF
  rw [HN.out]
  have HPC : Hid (∀ w, Calls Try.prog 97 #[.string cr] w (PcP cr w)) := fun w => parseCron_any cr w hd.cron
  have HNA : Hid (∀ w, Calls Try.prog 79 #[.string nm] w fun e w' => e = .returned (.bool (nameB nm)) ∧ w' = w) := fun w => nameOk_any nm w hd.name
  have HOR0 : Hid (n ≤ 4 → ∀ W, Below w.heap.size w W → Calls Try.prog 104 #[.slice ao n cap] W fun e w' => ∃ v', e = .returned v' ∧ ownsR w' W.heap.size 3 v' (orderL ts) ∧ Below W.heap.size W w') := fun h4 W hb => l12Order_any (HT.out.below hb) (by rw [HN.out]; omega) (fun t ht => (HSM.out t ht).1)
  have HTK0 : Hid (n ≤ 4 → ∀ W i t, Below w.heap.size w W → ts[i]? = some t → Calls Try.prog 103 #[.slice ao n cap, .int .i64 (i : Nat)] W fun e w' => e = .returned (.bool (taskB ts i t)) ∧ Below W.heap.size W w') := fun h4 W i t hb hi => l12Task_any (HT.out.below hb) (by rw [HN.out]; omega) hi (HSM.out t (List.mem_of_getElem? hi))
  clear hd
  obtain ⟨R, HR⟩ : ∃ R, Hid (dagB ⟨nm, cr, fr, up, cu, ts⟩ = R) := ⟨_, rfl⟩
  rw [HR.out] at HDF ⊢
  obtain ⟨q1, HQ1⟩ : ∃ q, Hid (nameB nm = q) := ⟨_, rfl⟩
  obtain ⟨q2, HQ2⟩ : ∃ q, Hid ((pcO cr).isSome = q) := ⟨_, rfl⟩
  obtain ⟨tx, HTX⟩ : ∃ x, Hid (againS cr = x) := ⟨_, rfl⟩
  obtain ⟨OL, HOL⟩ : ∃ x, Hid ((orderL ts).length = x) := ⟨_, rfl⟩
  rw [HQ1.out] at HNA HDF
  rw [HQ2.out, HTX.out, HOL.out] at HDF
  clear HR HQ1
  have I1 : Hid (∀ w, Calls Try.prog 38 #[.int .i64 up, .int .i64 0, .int .i64 68374079] w fun e w' => e = .returned (.bool (decide (0 ≤ up ∧ up ≤ 68374079))) ∧ w' = w) := by intro w; rw [Bool.decide_and]; exact in_any up 0 68374079 w
  have I2 : Hid (∀ w, Calls Try.prog 38 #[.int .i64 fr, .int .i64 0, .int .i64 up] w fun e w' => e = .returned (.bool (decide (0 ≤ fr ∧ fr ≤ up))) ∧ w' = w) := by intro w; rw [Bool.decide_and]; exact in_any fr 0 up w
  have I3 : Hid (∀ w, Calls Try.prog 38 #[.int .i64 n, .int .i64 1, .int .i64 4] w fun e w' => e = .returned (.bool (decide (1 ≤ (n : Int) ∧ (n : Int) ≤ 4))) ∧ w' = w) := by intro w; rw [Bool.decide_and]; exact in_any n 1 4 w
  go_enter Try.func91, Try.ntmps91
  go_wp2_with fail
  refine (HPC.out _).mono ?_
  rintro e w1 ⟨v0, v1, v2, v3, v4, rfl, o0, o1, o2, o3, o4, hb1⟩
  rw [HQ2.out]
  obtain ⟨a0, k0, rfl⟩ := o0.slice
  obtain ⟨a1, k1, rfl⟩ := o1.slice
  obtain ⟨a2, k2, rfl⟩ := o2.slice
  obtain ⟨a3, k3, rfl⟩ := o3.slice
  obtain ⟨a4, k4, rfl⟩ := o4.slice
  have hsz0 : w.heap.size < (w.alloc (.cells #[.string nm, .string cr, .int .i64 fr, .int .i64 up, .bool cu, .slice ao n cap] 115)).heap.size := by simp
  have B1 := below_new hb1
  have x0 : w1.cell? ⟨w.heap.size, 0, none⟩ = some (.string nm) := (hb1.cell (by simp)).trans (by simp [go_sem])
  have x1 : w1.cell? ⟨w.heap.size, 1, none⟩ = some (.string cr) := (hb1.cell (by simp)).trans (by simp [go_sem])
  have x2 : w1.cell? ⟨w.heap.size, 2, none⟩ = some (.int .i64 fr) := (hb1.cell (by simp)).trans (by simp [go_sem])
  have x3 : w1.cell? ⟨w.heap.size, 3, none⟩ = some (.int .i64 up) := (hb1.cell (by simp)).trans (by simp [go_sem])
  have x5 : w1.cell? ⟨w.heap.size, 5, none⟩ = some (.slice ao n cap) := (hb1.cell (by simp)).trans (by simp [go_sem])
  have hg : w.heap.size < w1.heap.size := World.block_lt_of_cell? _ _ x0
  have hX : Below w1.heap.size w1 (w1.alloc (.cells #[.slice a0 (pcN (pcO cr) 0).length k0, .slice a1 (pcN (pcO cr) 1).length k1, .slice a2 (pcN (pcO cr) 2).length k2, .slice a3 (pcN (pcO cr) 3).length k3, .slice a4 (pcN (pcO cr) 4).length k4] 146)) := ba (Below.refl _ _) _
  have HCT : Hid (Calls Try.prog 98 #[.agg #[.slice a0 (pcN (pcO cr) 0).length k0, .slice a1 (pcN (pcO cr) 1).length k1, .slice a2 (pcN (pcO cr) 2).length k2, .slice a3 (pcN (pcO cr) 3).length k3, .slice a4 (pcN (pcO cr) 4).length k4]] (w1.alloc (.cells #[.slice a0 (pcN (pcO cr) 0).length k0, .slice a1 (pcN (pcO cr) 1).length k1, .slice a2 (pcN (pcO cr) 2).length k2, .slice a3 (pcN (pcO cr) 3).length k3, .slice a4 (pcN (pcO cr) 4).length k4] 146)) fun x w' => x = .returned (.tuple #[.string tx, .bool (cronB (pcN (pcO cr) 0) (pcN (pcO cr) 1) (pcN (pcO cr) 2) (pcN (pcO cr) 3) (pcN (pcO cr) 4))]) ∧ Below (w1.alloc (.cells #[.slice a0 (pcN (pcO cr) 0).length k0, .slice a1 (pcN (pcO cr) 1).length k1, .slice a2 (pcN (pcO cr) 2).length k2, .slice a3 (pcN (pcO cr) 3).length k3, .slice a4 (pcN (pcO cr) 4).length k4] 146)).heap.size (w1.alloc (.cells #[.slice a0 (pcN (pcO cr) 0).length k0, .slice a1 (pcN (pcO cr) 1).length k1, .slice a2 (pcN (pcO cr) 2).length k2, .slice a3 (pcN (pcO cr) 3).length k3, .slice a4 (pcN (pcO cr) 4).length k4] 146)) w') := by
    have := cronText_any _ _ _ _ _ _ _ _ _ _ _ (o0.reads.below hX) (o1.reads.below hX) (o2.reads.below hX) (o3.reads.below hX) (o4.reads.below hX) (by have := pcN_len cr 0; omega) (by have := pcN_len cr 1; omega) (by have := pcN_len cr 2; omega) (by have := pcN_len cr 3; omega) (by have := pcN_len cr 4; omega)
    rw [show cronX _ _ _ _ _ = tx from HTX.out] at this
    exact this
  clear o0 o1 o2 o3 o4 hb1 hsz0 HPC
  generalize (pcN (pcO cr) 0).length = l0 at *
  generalize (pcN (pcO cr) 1).length = l1 at *
  generalize (pcN (pcO cr) 2).length = l2 at *
  generalize (pcN (pcO cr) 3).length = l3 at *
  generalize (pcN (pcO cr) 4).length = l4 at *
  go_wp2_with fail
  refine HCT.out.mono ?_
  rintro e w2 ⟨rfl, hb2⟩
  have hY := Below.on hX hb2
  have B2 := Below.on B1 hY
  have y0 := (hY.cell hg).trans x0
  have y1 := (hY.cell hg).trans x1
  have y2 := (hY.cell hg).trans x2
  have y3 := (hY.cell hg).trans x3
  have y5 := (hY.cell hg).trans x5
  have hg2 := Nat.lt_of_lt_of_le hg hY.size
  clear hX hb2 hY x0 x1 x2 x3 x5 HCT B1 hg
  cases q1 with
  | false =>
    have HF : Hid (R = false) := HDF.out
    go_wp2_with (first | (go_at_call 79; refine (HNA.out _).mono ?_; rintro e w3 ⟨rfl, hw⟩; have hw2 := hw.symm; subst hw2) | (go_at_call 38; with_reducible refine (I1.out _).mono ?_; rintro e w3 ⟨rfl, hw⟩; have hw2 := hw.symm; subst hw2) | (go_at_call 38; with_reducible refine (I2.out _).mono ?_; rintro e w3 ⟨rfl, hw⟩; have hw2 := hw.symm; subst hw2) | (go_at_call 38; with_reducible refine (I3.out _).mono ?_; rintro e w3 ⟨rfl, hw⟩; have hw2 := hw.symm; subst hw2))
    go_ret
    exact ⟨by rw [HF.out]; rfl, B2⟩
  | true =>
    cases q2 with
    | false =>
      have HF : Hid (R = false) := HDF.out
      go_wp2_with (first | (go_at_call 79; refine (HNA.out _).mono ?_; rintro e w3 ⟨rfl, hw⟩; have hw2 := hw.symm; subst hw2) | (go_at_call 38; with_reducible refine (I1.out _).mono ?_; rintro e w3 ⟨rfl, hw⟩; have hw2 := hw.symm; subst hw2) | (go_at_call 38; with_reducible refine (I2.out _).mono ?_; rintro e w3 ⟨rfl, hw⟩; have hw2 := hw.symm; subst hw2) | (go_at_call 38; with_reducible refine (I3.out _).mono ?_; rintro e w3 ⟨rfl, hw⟩; have hw2 := hw.symm; subst hw2))
      go_ret
      exact ⟨by rw [HF.out]; rfl, B2⟩
    | true =>
      by_cases ht : tx = cr
      case neg =>
        have HF : Hid (R = false) := HDF.out.trans (by rw [decide_eq_false ht]; rfl)
        have e1 := ne_list ht
        go_wp2_with (first | (go_at_call 79; refine (HNA.out _).mono ?_; rintro e w3 ⟨rfl, hw⟩; have hw2 := hw.symm; subst hw2) | (go_at_call 38; with_reducible refine (I1.out _).mono ?_; rintro e w3 ⟨rfl, hw⟩; have hw2 := hw.symm; subst hw2) | (go_at_call 38; with_reducible refine (I2.out _).mono ?_; rintro e w3 ⟨rfl, hw⟩; have hw2 := hw.symm; subst hw2) | (go_at_call 38; with_reducible refine (I3.out _).mono ?_; rintro e w3 ⟨rfl, hw⟩; have hw2 := hw.symm; subst hw2))
        go_ret
        exact ⟨by rw [HF.out]; rfl, B2⟩
      have HD2 : Hid (R = (decide (0 ≤ up ∧ up ≤ 68374079) && (decide (0 ≤ fr ∧ fr ≤ up) && (decide (1 ≤ (n : Int) ∧ (n : Int) ≤ 4) && (tasksB ts 0 ts && decide (OL = n)))))) := HDF.out.trans (by rw [decide_eq_true ht]; rfl)
      subst ht
      clear HDF
      cases h1 : decide (0 ≤ up ∧ up ≤ 68374079) with
      | false =>
        rw [h1] at I1 HD2
        have HF : Hid (R = false) := HD2.out
        clear h1
        go_wp2_with (first | (go_at_call 79; refine (HNA.out _).mono ?_; rintro e w3 ⟨rfl, hw⟩; have hw2 := hw.symm; subst hw2) | (go_at_call 38; with_reducible refine (I1.out _).mono ?_; rintro e w3 ⟨rfl, hw⟩; have hw2 := hw.symm; subst hw2) | (go_at_call 38; with_reducible refine (I2.out _).mono ?_; rintro e w3 ⟨rfl, hw⟩; have hw2 := hw.symm; subst hw2) | (go_at_call 38; with_reducible refine (I3.out _).mono ?_; rintro e w3 ⟨rfl, hw⟩; have hw2 := hw.symm; subst hw2))
        go_ret
        exact ⟨by rw [HF.out]; rfl, B2⟩
      | true =>
        rw [h1] at I1 HD2
        clear h1
        cases h2 : decide (0 ≤ fr ∧ fr ≤ up) with
        | false =>
          rw [h2] at I2 HD2
          have HF : Hid (R = false) := HD2.out
          clear h2
          go_wp2_with (first | (go_at_call 79; refine (HNA.out _).mono ?_; rintro e w3 ⟨rfl, hw⟩; have hw2 := hw.symm; subst hw2) | (go_at_call 38; with_reducible refine (I1.out _).mono ?_; rintro e w3 ⟨rfl, hw⟩; have hw2 := hw.symm; subst hw2) | (go_at_call 38; with_reducible refine (I2.out _).mono ?_; rintro e w3 ⟨rfl, hw⟩; have hw2 := hw.symm; subst hw2) | (go_at_call 38; with_reducible refine (I3.out _).mono ?_; rintro e w3 ⟨rfl, hw⟩; have hw2 := hw.symm; subst hw2))
          go_ret
          exact ⟨by rw [HF.out]; rfl, B2⟩
        | true =>
          rw [h2] at I2 HD2
          clear h2
          cases h3 : decide (1 ≤ (n : Int) ∧ (n : Int) ≤ 4) with
          | false =>
            rw [h3] at I3 HD2
            have HF : Hid (R = false) := HD2.out
            clear h3
            go_wp2_with (first | (go_at_call 79; refine (HNA.out _).mono ?_; rintro e w3 ⟨rfl, hw⟩; have hw2 := hw.symm; subst hw2) | (go_at_call 38; with_reducible refine (I1.out _).mono ?_; rintro e w3 ⟨rfl, hw⟩; have hw2 := hw.symm; subst hw2) | (go_at_call 38; with_reducible refine (I2.out _).mono ?_; rintro e w3 ⟨rfl, hw⟩; have hw2 := hw.symm; subst hw2) | (go_at_call 38; with_reducible refine (I3.out _).mono ?_; rintro e w3 ⟨rfl, hw⟩; have hw2 := hw.symm; subst hw2))
            go_ret
            exact ⟨by rw [HF.out]; rfl, B2⟩
          | true =>
            rw [h3] at I3 HD2
            have h4 := of_decide_eq_true h3
            have HOR : Hid (∀ W, Below w.heap.size w W → Calls Try.prog 104 #[.slice ao n cap] W fun e w' => ∃ v', e = .returned v' ∧ ownsR w' W.heap.size 3 v' (orderL ts) ∧ Below W.heap.size W w') := HOR0.out (by omega)
            have HTK : Hid (∀ W i t, Below w.heap.size w W → ts[i]? = some t → Calls Try.prog 103 #[.slice ao n cap, .int .i64 (i : Nat)] W fun e w' => e = .returned (.bool (taskB ts i t)) ∧ Below W.heap.size W w') := HTK0.out (by omega)
            clear HOR0 HTK0
            have HF : Hid (R = (tasksB ts 0 ts && decide (OL = n))) := HD2.out
            clear h3 HD2
            go_wp2_with (first | (go_at_call 79; refine (HNA.out _).mono ?_; rintro e w3 ⟨rfl, hw⟩; have hw2 := hw.symm; subst hw2) | (go_at_call 38; with_reducible refine (I1.out _).mono ?_; rintro e w3 ⟨rfl, hw⟩; have hw2 := hw.symm; subst hw2) | (go_at_call 38; with_reducible refine (I2.out _).mono ?_; rintro e w3 ⟨rfl, hw⟩; have hw2 := hw.symm; subst hw2) | (go_at_call 38; with_reducible refine (I3.out _).mono ?_; rintro e w3 ⟨rfl, hw⟩; have hw2 := hw.symm; subst hw2))
            clear I1 I2 I3 HNA
            go_loopw [7] (fun kv wr => ∃ k : Nat, k ≤ n ∧ kv = .int .i64 k ∧ Hid (R = (tasksB ts k (ts.drop k) && decide (OL = n))) ∧ Below w2.heap.size w2 wr) (fun kv _ => n - (intOf kv).toNat)
            case atStart => exact ⟨0, Nat.zero_le _, rfl, (by rw [List.drop_zero]; exact HF), Below.refl _ _⟩
            case round =>
              obtain ⟨k, hk, rfl, HE, hbel⟩ := hrel
              have z5 := (hbel.cell hg2).trans y5
              have BR := Below.on B2 hbel
              by_cases hkn : k < n
              · obtain ⟨t, ht⟩ : ∃ t, ts[k]? = some t := ⟨_, List.getElem?_eq_getElem (by rw [HN.out]; exact hkn)⟩
                have H1 := HTK.out wr k t BR ht
                have HE2 : Hid (R = ((taskB ts k t && tasksB ts (k + 1) (ts.drop (k + 1))) && decide (OL = n))) := by show R = _; rw [HE.out, tasksB_at ht]
                clear ht
                cases hq : taskB ts k t with
                | false =>
                  rw [hq] at H1 HE2
                  have HF2 : Hid (R = false) := HE2.out
                  clear hq
                  go_wp2_with (go_at_call 103; refine H1.mono ?_; rintro e w3 ⟨rfl, hb3⟩)
                  go_ret
                  exact ⟨by rw [HF2.out]; rfl, Below.on BR hb3⟩
                | true =>
                  rw [hq] at H1 HE2
                  have HF2 : Hid (R = (tasksB ts (k + 1) (ts.drop (k + 1)) && decide (OL = n))) := HE2.out
                  clear hq
                  go_wp2_with (go_at_call 103; refine H1.mono ?_; rintro e w3 ⟨rfl, hb3⟩)
                  go_roundw
                  case rel => exact ⟨k + 1, by omega, by go_num, HF2, Below.on hbel hb3⟩
                  case measure => simp [intOf]; omega
              · have HF2 : Hid (R = decide (OL = n)) := HE.out.trans (by rw [tasksB_end (by rw [HN.out]; omega)]; rfl)
                have hol : OL ≤ 100000 := by have := ordL_len ts ts.length; rw [← HOL.out]; show (ordL ts ts.length).length ≤ _; rw [HN.out] at this ⊢; omega
                go_wp2
                have K5 := Below.cellOf (B := wr.heap.size) (World.block_lt_of_cell? _ _ z5) z5
                go_region_held3 (fun w' => Below wr.heap.size wr w') ((first | exact (Below.refl _ _).drew | exact hS0)) ((go_at_call 104; refine (HOR.out _ (Below.on BR (by assumption))).mono ?_; rintro e w4 ⟨v', rfl, ho, hb4⟩; have hS0 := keep_on (B := wr.heap.size) (W := wr) hb4 (by assumption) (Nat.le_refl _); obtain ⟨oo, oc, rfl⟩ := ho.slice; rw [HOL.out] at *))
                all_goals
                  go_wp2
                  go_ret
                  exact ⟨by rw [HF2.out, ← natbeq]; rfl, Below.on BR hS0⟩
end Go.Proofs.Ytehkebdncfljmaa

namespace Go.Proofs.Ytehkebdncfljmaa
open Go Go.RowKit
set_option linter.unusedVariables false

theorem atG_ex {s : ByteArray} : ∀ (l : List Ta) (k : Nat), 0 ≤ atG s k l → ∃ j t, l[j]? = some t ∧ t.name = s ∧ atG s k l = ((k + j : Nat) : Int)
  | [], k, h => by simp [atG] at h
  | t :: r, k, h => by
    unfold atG at h ⊢
    split at h
    · rename_i e
      rw [if_pos e]
      exact ⟨0, t, rfl, e, rfl⟩
    · rename_i e
      rw [if_neg e]
      obtain ⟨j, u, h1, h2, h3⟩ := atG_ex r (k + 1) h
      exact ⟨j + 1, u, by rw [List.getElem?_cons_succ]; exact h1, h2, by rw [h3]; omega⟩
theorem atG_is {s : ByteArray} : ∀ (l : List Ta) (k i : Nat) (t : Ta), l[i]? = some t → t.name = s → (∀ j u, j < i → l[j]? = some u → u.name ≠ s) → atG s k l = ((k + i : Nat) : Int)
  | [], k, i, t, h, _, _ => by simp at h
  | u :: r, k, i, t, h, hn, hf => by
    unfold atG
    match i, h, hf with
    | 0, h, _ =>
      simp only [List.getElem?_cons_zero, Option.some.injEq] at h
      subst h
      rw [if_pos hn]; rfl
    | i + 1, h, hf =>
      rw [List.getElem?_cons_succ] at h
      rw [if_neg (hf 0 u (by omega) rfl), atG_is r (k + 1) i t h hn fun j v hj hv => hf (j + 1) v (by omega) (by rw [List.getElem?_cons_succ]; exact hv)]
      congr 1
      omega
/-- Tasks that can be put in order. -/
structure GoodT (ts : List Ta) (rank : Nat → Nat) : Prop where
  apart : ∀ (i j : Nat) (t u : Ta), ts[i]? = some t → ts[j]? = some u → t.name = u.name → i = j
  name : ∀ t ∈ ts, nameB t.name = true
  pool : ∀ t ∈ ts, poolN t.pool ≠ 0
  ret : ∀ t ∈ ts, 0 ≤ t.ret ∧ t.ret ≤ 3
  up : ∀ t ∈ ts, t.after.Pairwise (fun a b => lessB a b = true)
  aft : ∀ (i : Nat) (t : Ta), ts[i]? = some t → ∀ s ∈ t.after, ∃ (j : Nat) (u : Ta), ts[j]? = some u ∧ u.name = s ∧ rank j < rank i
theorem GoodT.at {ts : List Ta} {rank : Nat → Nat} (h : GoodT ts rank) {i : Nat} {t : Ta} (hi : ts[i]? = some t) : atN ts t.name = (i : Int) := by
  have := atG_is ts 0 i t hi rfl fun j u hj hu e => by
    have := h.apart j i u t hu hi e
    omega
  simpa [atN] using this
theorem afterB_up {ts : List Ta} {nm : ByteArray} : ∀ (l : List ByteArray) (p : Option ByteArray), l.Pairwise (fun a b => lessB a b = true) → (∀ x, p = some x → ∀ s ∈ l, lessB x s = true) → (∀ s ∈ l, 0 ≤ atN ts s ∧ s ≠ nm) → afterB ts nm p l = true
  | [], p, _, _, _ => rfl
  | s :: r, p, hp, hx, ha => by
    have h1 := ha s (List.mem_cons_self ..)
    have hc := List.pairwise_cons.1 hp
    have ih := afterB_up (ts := ts) (nm := nm) r (some s) hc.2 (fun x e t ht => by cases e; exact hc.1 t ht) (fun t ht => ha t (List.mem_cons_of_mem _ ht))
    have hpa : (p.all fun x => lessB x s) = true := by
      cases p with
      | none => rfl
      | some x => exact hx x rfl s (List.mem_cons_self ..)
    unfold afterB
    rw [ih, hpa, decide_eq_true h1.1, decide_eq_false h1.2]
    rfl
theorem GoodT.task {ts : List Ta} {rank : Nat → Nat} (h : GoodT ts rank) {i : Nat} {t : Ta} (hi : ts[i]? = some t) : taskB ts i t = true := by
  have hm := List.mem_of_getElem? hi
  rw [task_5 (h.name t hm) (h.at hi) (h.pool t hm) (h.ret t hm)]
  refine afterB_up t.after none (h.up t hm) (fun x e => by cases e) fun s hs => ?_
  obtain ⟨j, u, hj, hu, hr⟩ := h.aft i t hi s hs
  subst hu
  refine ⟨by rw [h.at hj]; omega, fun e => ?_⟩
  have := h.apart j i u t hj hi e
  subst this
  omega
theorem GoodT.tasks {ts : List Ta} {rank : Nat → Nat} (h : GoodT ts rank) : tasksB ts 0 ts = true := by
  have : ∀ n i, i + n = ts.length → tasksB ts i (ts.drop i) = true := by
    intro n
    induction n with
    | zero => intro i hi; exact tasksB_end (by omega)
    | succ n ih =>
      intro i hi
      obtain ⟨t, ht⟩ : ∃ t, ts[i]? = some t := ⟨_, List.getElem?_eq_getElem (by omega)⟩
      rw [tasksB_at ht, h.task ht, ih (i + 1) (by omega)]
      rfl
  have := this ts.length 0 (by omega)
  rwa [List.drop_zero] at this
/-- A list with fewer places than there are lacks one. -/
theorem lacks : ∀ (n : Nat) (out : List Int), (∀ i, i < n → ((i : Nat) : Int) ∈ out) → n ≤ out.length
  | 0, _, _ => Nat.zero_le _
  | n + 1, out, h => by
    have hm := h n (by omega)
    have := lacks n (out.erase (n : Int)) fun i hi => (List.mem_erase_of_ne (by omega)).2 (h i (by omega))
    rw [List.length_erase_of_mem hm] at this
    have := List.length_pos_of_mem hm
    omega
theorem ordScan_found {ts : List Ta} {out : List Int} : ∀ (r : List Ta) (i : Nat), (∃ j t, r[j]? = some t ∧ ¬ ((i + j : Nat) : Int) ∈ out ∧ freeB ts out t.after = true) → ∃ q, ordScan ts out i r = out ++ [q]
  | [], i, ⟨j, t, h, _⟩ => by simp at h
  | t :: r, i, ⟨j, u, hj, hn, hf⟩ => by
    unfold ordScan
    by_cases hi : (i : Int) ∈ out
    · rw [if_pos hi]
      match j, hj, hn with
      | 0, _, hn => exact absurd hi hn
      | j + 1, hj, hn =>
        rw [List.getElem?_cons_succ] at hj
        exact ordScan_found r (i + 1) ⟨j, u, hj, by rwa [show i + 1 + j = i + (j + 1) by omega], hf⟩
    · rw [if_neg hi]
      by_cases hb : freeB ts out t.after = true
      · rw [if_pos hb]; exact ⟨_, rfl⟩
      · rw [if_neg hb]
        match j, hj, hn with
        | 0, hj, _ =>
          simp only [List.getElem?_cons_zero, Option.some.injEq] at hj
          subst hj
          exact absurd hf hb
        | j + 1, hj, hn =>
          rw [List.getElem?_cons_succ] at hj
          exact ordScan_found r (i + 1) ⟨j, u, hj, by rwa [show i + 1 + j = i + (j + 1) by omega], hf⟩
theorem GoodT.free {ts : List Ta} {rank : Nat → Nat} (h : GoodT ts rank) {out : List Int} : ∀ (n i : Nat) (t : Ta), rank i ≤ n → ts[i]? = some t → ¬ ((i : Nat) : Int) ∈ out → ∃ j u, ts[j]? = some u ∧ ¬ ((j : Nat) : Int) ∈ out ∧ freeB ts out u.after = true
  | n, i, t, hr, hi, hn => by
    by_cases hf : freeB ts out t.after = true
    · exact ⟨i, t, hi, hn, hf⟩
    · unfold freeB at hf
      rw [List.all_eq_true] at hf
      simp only [decide_eq_true_eq, Classical.not_forall] at hf
      obtain ⟨s, hs, ho⟩ := hf
      obtain ⟨j, u, hj, hu, hrj⟩ := h.aft i t hi s hs
      subst hu
      rw [h.at hj] at ho
      match n with
      | 0 => omega
      | n + 1 => exact h.free n j u (by omega) hj ho
theorem GoodT.order {ts : List Ta} {rank : Nat → Nat} (h : GoodT ts rank) : (orderL ts).length = ts.length := by
  have : ∀ k, k ≤ ts.length → (ordL ts k).length = k := by
    intro k
    induction k with
    | zero => intro _; rfl
    | succ k ih =>
      intro hk
      have hl := ih (by omega)
      obtain ⟨i, hi, hni⟩ : ∃ i, i < ts.length ∧ ¬ ((i : Nat) : Int) ∈ ordL ts k := by
        apply Classical.byContradiction
        intro hc
        have := lacks ts.length (ordL ts k) fun i hi => Classical.byContradiction fun hn => hc ⟨i, hi, hn⟩
        omega
      obtain ⟨t, ht⟩ : ∃ t, ts[i]? = some t := ⟨_, List.getElem?_eq_getElem hi⟩
      obtain ⟨j, u, hj, hnj, hf⟩ := h.free (rank i) i t (Nat.le_refl _) ht hni
      obtain ⟨q, hq⟩ := ordScan_found (ts := ts) (out := ordL ts k) ts 0 ⟨j, u, hj, by rwa [Nat.zero_add], hf⟩
      show (ordScan ts (ordL ts k) 0 ts).length = k + 1
      rw [hq, List.length_append, hl]
      rfl
  exact this ts.length (Nat.le_refl _)
/-- The four names. -/
def nm4 : Nat → ByteArray
  | 0 => ⟨#[97]⟩
  | 1 => ⟨#[98]⟩
  | 2 => ⟨#[99]⟩
  | _ => ⟨#[100]⟩
theorem nm4_inj {i j : Nat} (hi : i < 4) (hj : j < 4) (h : nm4 i = nm4 j) : i = j := by
  have key : ∀ i : Fin 4, ∀ j : Fin 4, nm4 i.val = nm4 j.val → i = j := by decide
  have := key ⟨i, hi⟩ ⟨j, hj⟩ h
  exact congrArg Fin.val this
theorem nm4_less {i j : Nat} (hj : j < 4) (h : i < j) : lessB (nm4 i) (nm4 j) = true := by
  have key : ∀ i : Fin 4, ∀ j : Fin 4, i < j → lessB (nm4 i.val) (nm4 j.val) = true := by decide +kernel
  exact key ⟨i, by omega⟩ ⟨j, hj⟩ h
theorem nm4_name (i : Nat) : nameB (nm4 i) = true := by
  match i with
  | 0 => decide
  | 1 => decide
  | 2 => decide
  | i + 3 => show nameB ⟨#[100]⟩ = true; decide
theorem nm4_size (i : Nat) : (nm4 i).size ≤ 8 := by
  match i with
  | 0 => decide
  | 1 => decide
  | 2 => decide
  | i + 3 => show ByteArray.size ⟨#[100]⟩ ≤ 8; decide
/-- Names that a drawn task is after: some of the first p ones, of tasks ahead. -/
structure AlO (tn i p : Nat) (al : List ByteArray) : Prop where
  len : al.length ≤ p
  up : al.Pairwise (fun a b => lessB a b = true)
  mem : ∀ s ∈ al, ∃ q, q < p ∧ q < 4 ∧ s = nm4 q ∧ ∃ j, j < i ∧ q = (j + tn) % 4
theorem AlO.start (tn i : Nat) : AlO tn i 0 [] := ⟨Nat.le_refl _, List.Pairwise.nil, fun s hs => by cases hs⟩
theorem AlO.skip {tn i p : Nat} {al : List ByteArray} (h : AlO tn i p al) : AlO tn i (p + 1) al := ⟨by have := h.len; omega, h.up, fun s hs => by
  obtain ⟨q, h1, h2, h3, h4⟩ := h.mem s hs
  exact ⟨q, by omega, h2, h3, h4⟩⟩
theorem AlO.next {tn i p : Nat} {al : List ByteArray} (h : AlO tn i p al) (hp : p < 4) {j : Nat} (hj : j < i) (hpj : p = (j + tn) % 4) : AlO tn i (p + 1) (al ++ [nm4 p]) := by
  refine ⟨by have := h.len; simp; omega, List.pairwise_append.2 ⟨h.up, List.pairwise_singleton _ _, fun a ha b hb => ?_⟩, fun s hs => ?_⟩
  · rw [List.mem_singleton] at hb
    subst hb
    obtain ⟨q, h1, h2, h3, h4⟩ := h.mem a ha
    rw [h3]
    exact nm4_less hp h1
  · rcases List.mem_append.1 hs with hs | hs
    · obtain ⟨q, h1, h2, h3, h4⟩ := h.mem s hs
      exact ⟨q, by omega, h2, h3, h4⟩
    · rw [List.mem_singleton] at hs
      exact ⟨p, by omega, hp, hs, j, hj, hpj⟩
/-- Tasks that are drawn. -/
structure DrT (tn : Nat) (ts : List Ta) : Prop where
  few : ts.length ≤ 4
  name : ∀ (i : Nat) (t : Ta), ts[i]? = some t → t.name = nm4 ((i + tn) % 4)
  pool : ∀ t ∈ ts, poolN t.pool ≠ 0 ∧ t.pool.size ≤ 8
  ret : ∀ t ∈ ts, 0 ≤ t.ret ∧ t.ret ≤ 2
  aft : ∀ (i : Nat) (t : Ta), ts[i]? = some t → AlO tn i 4 t.after
theorem DrT.start (tn : Nat) : DrT tn [] := ⟨by decide, fun i t h => by simp at h, fun t h => (by cases h), fun t h => (by cases h), fun i t h => by simp at h⟩
theorem DrT.next {tn : Nat} {ts : List Ta} (h : DrT tn ts) (hf : ts.length < 4) {t : Ta} (hn : t.name = nm4 ((ts.length + tn) % 4)) (hp : poolN t.pool ≠ 0 ∧ t.pool.size ≤ 8) (hr : 0 ≤ t.ret ∧ t.ret ≤ 2) (ha : AlO tn ts.length 4 t.after) : DrT tn (ts ++ [t]) := by
  have hat : ∀ (i : Nat) (u : Ta), (ts ++ [t])[i]? = some u → (i < ts.length ∧ ts[i]? = some u) ∨ (i = ts.length ∧ u = t) := by
    intro i u hu
    by_cases hi : i < ts.length
    · rw [List.getElem?_append_left hi] at hu
      exact .inl ⟨hi, hu⟩
    · have := (List.getElem?_eq_some_iff.1 hu).1
      simp at this
      have hi2 : i = ts.length := by omega
      subst hi2
      simp only [List.getElem?_concat_length, Option.some.injEq] at hu
      exact .inr ⟨rfl, hu.symm⟩
  have hmem : ∀ u ∈ ts ++ [t], u ∈ ts ∨ u = t := fun u hu => by
    rcases List.mem_append.1 hu with hu | hu
    · exact .inl hu
    · exact .inr (List.mem_singleton.1 hu)
  refine ⟨by simp; omega, fun i u hu => ?_, fun u hu => ?_, fun u hu => ?_, fun i u hu => ?_⟩
  · rcases hat i u hu with ⟨_, h1⟩ | ⟨rfl, rfl⟩
    · exact h.name i u h1
    · exact hn
  · rcases hmem u hu with h1 | rfl
    · exact h.pool u h1
    · exact hp
  · rcases hmem u hu with h1 | rfl
    · exact h.ret u h1
    · exact hr
  · rcases hat i u hu with ⟨_, h1⟩ | ⟨rfl, rfl⟩
    · exact h.aft i u h1
    · exact ha
theorem DrT.good {tn : Nat} {ts : List Ta} (h : DrT tn ts) : GoodT ts id := by
  have hf := h.few
  refine ⟨fun i j t u hi hj he => ?_, fun t ht => ?_, fun t ht => (h.pool t ht).1, fun t ht => by have := h.ret t ht; omega, fun t ht => ?_, fun i t hi s hs => ?_⟩
  · have h1 := (List.getElem?_eq_some_iff.1 hi).1
    have h2 := (List.getElem?_eq_some_iff.1 hj).1
    rw [h.name i t hi, h.name j u hj] at he
    have := nm4_inj (Nat.mod_lt _ (by decide)) (Nat.mod_lt _ (by decide)) he
    omega
  · obtain ⟨i, hi⟩ := List.getElem?_of_mem ht
    rw [h.name i t hi]
    exact nm4_name _
  · obtain ⟨i, hi⟩ := List.getElem?_of_mem ht
    exact (h.aft i t hi).up
  · obtain ⟨q, h1, h2, h3, j, hj, hq⟩ := (h.aft i t hi).mem s hs
    have hil := (List.getElem?_eq_some_iff.1 hi).1
    obtain ⟨u, hu⟩ : ∃ u, ts[j]? = some u := ⟨_, List.getElem?_eq_getElem (by omega)⟩
    exact ⟨j, u, hu, by rw [h.name j u hu, h3, hq], hj⟩
/-- Turned round, too. -/
theorem DrT.turn {tn : Nat} {t0 : Ta} {l : List Ta} (h : DrT tn (t0 :: l)) : GoodT (l ++ [t0]) (fun i => if i = l.length then 0 else i + 1) := by
  have hg := h.good
  have hat : ∀ (i : Nat) (u : Ta), (l ++ [t0])[i]? = some u → (i < l.length ∧ (t0 :: l)[i + 1]? = some u) ∨ (i = l.length ∧ u = t0) := by
    intro i u hu
    by_cases hi : i < l.length
    · rw [List.getElem?_append_left hi] at hu
      exact .inl ⟨hi, by rw [List.getElem?_cons_succ]; exact hu⟩
    · have := (List.getElem?_eq_some_iff.1 hu).1
      simp at this
      have hi2 : i = l.length := by omega
      subst hi2
      simp only [List.getElem?_concat_length, Option.some.injEq] at hu
      exact .inr ⟨rfl, hu.symm⟩
  have hmem : ∀ u ∈ l ++ [t0], u ∈ t0 :: l := fun u hu => by
    rcases List.mem_append.1 hu with hu | hu
    · exact List.mem_cons_of_mem _ hu
    · rw [List.mem_singleton.1 hu]; exact List.mem_cons_self ..
  refine ⟨fun i j t u hi hj he => ?_, fun t ht => hg.name t (hmem t ht), fun t ht => hg.pool t (hmem t ht), fun t ht => hg.ret t (hmem t ht), fun t ht => hg.up t (hmem t ht), fun i t hi s hs => ?_⟩
  · rcases hat i t hi with ⟨h1, h2⟩ | ⟨h1, h2⟩
    · rcases hat j u hj with ⟨h3, h4⟩ | ⟨h3, h4⟩
      · have := hg.apart _ _ _ _ h2 h4 he; omega
      · subst h4; have := hg.apart (i + 1) 0 t u h2 rfl he; omega
    · rcases hat j u hj with ⟨h3, h4⟩ | ⟨h3, h4⟩
      · subst h2; have := hg.apart 0 (j + 1) t u rfl h4 he; omega
      · omega
  · rcases hat i t hi with ⟨h1, h2⟩ | ⟨h1, h2⟩
    · obtain ⟨j, u, hj, hu, hr⟩ := hg.aft (i + 1) t h2 s hs
      have hr' : j < i + 1 := hr
      match j, hj, hr' with
      | 0, hj, _ =>
        simp only [List.getElem?_cons_zero, Option.some.injEq] at hj
        refine ⟨l.length, t0, by simp, by rw [← hu, hj], ?_⟩
        rw [if_pos rfl, if_neg (by omega)]
        omega
      | j + 1, hj, hr' =>
        rw [List.getElem?_cons_succ] at hj
        have hjl := (List.getElem?_eq_some_iff.1 hj).1
        refine ⟨j, u, by rw [List.getElem?_append_left hjl]; exact hj, hu, ?_⟩
        rw [if_neg (by omega), if_neg (by omega)]
        omega
    · subst h2
      obtain ⟨j, u, hj, hu, hr⟩ := hg.aft 0 t rfl s hs
      exact absurd hr (by show ¬ j < 0; omega)
end Go.Proofs.Ytehkebdncfljmaa

namespace Go.Proofs.Ytehkebdncfljmaa
open Go Go.RowKit

/-- A row of texts that lies apart from the cursor. -/
def TextsAt (w : World) (g r : Nat) (l : List ByteArray) : Prop := r ≠ g ∧ ∀ j (h : j < l.length), w.cell? ⟨r, j, none⟩ = some (.string l[j])
set_option maxHeartbeats 400000 in
theorem pick_any (g r n cap : Nat) (l : List ByteArray) (w : World) (hd : Drw w g) (h0 : 0 < n) (h1 : n ≤ 1000000) (hl : l.length = n) (hr : TextsAt w g r l) :
    Calls Try.prog 96 #[.pointer (some ⟨g, 0, none⟩), .slice (some ⟨r, 0, none⟩) n cap] w fun e w' => ∃ x ∈ l, e = .returned (.string x) ∧ Drw w' g ∧ Save g w w' := by
  go_enter Try.func96, Try.ntmps96
  go_wp2_with (go_at_call 48; refine (below_any g n _ hd (by omega) (by omega)).mono ?_; rintro e w1 ⟨x, rfl, hx0, hx1, hd1, hs1⟩; obtain ⟨k, rfl⟩ := Int.eq_ofNat_of_zero_le hx0; have hkl : k < l.length := (by omega); have hz2 : w1.cell? ⟨r, k, none⟩ = some (.string l[k]) := hs1.cell hr.1 (hr.2 k hkl))
  go_ret
  exact ⟨l[k], List.getElem_mem hkl, rfl, hd1, hs1⟩
/-- One of a row just written out. -/
theorem pickText_from (g : Nat) (l : List ByteArray) (w0 w : World) (hd : Drw w g) (hs : Save g w0 w) (h0 : 0 < l.length) (h1 : l.length ≤ 1000000) (cs : Array Value) (hcs : cs = (l.map Value.string).toArray) (n : Nat) (hn : n = l.length) :
    Calls Try.prog 96 #[.pointer (some ⟨g, 0, none⟩), .slice (some ⟨w.heap.size, 0, none⟩) n n] (w.alloc (.cells cs 9)) fun e w' => ∃ x ∈ l, e = .returned (.string x) ∧ Drw w' g ∧ Save g w0 w' := by
  have hg := hd.lt
  subst hn hcs
  refine (pick_any g w.heap.size l.length l.length l _ (hd.keep ((Below.refl _ _).alloc (by omega) _)) h0 h1 rfl ⟨by omega, fun j hj => by simp [hj]⟩).mono fun _ _ ⟨x, h1, h2, h3, h4⟩ => ⟨x, h1, h2, h3, (hs.alloc _).trans h4⟩
end Go.Proofs.Ytehkebdncfljmaa

namespace Go.Proofs.Ytehkebdncfljmaa
open Go Go.RowKit
section
variable {α : Type} [Rec α]
open Rec

theorem flat_cell {l : List α} {j : Nat} {v : Value} (h : (l.flatMap cells)[j]? = some v) : ∃ x, l[j / width α]? = some x ∧ (cells x)[j % width α]? = some v := by
  have hpos : 0 < width α := Rec.pos
  have e := flat_at l (j / width α) (j % width α) (Nat.mod_lt _ hpos)
  rw [Nat.mul_comm, Nat.div_add_mod] at e
  rw [e] at h
  cases hx : l[j / width α]? with
  | none => rw [hx] at h; simp at h
  | some x => rw [hx] at h; exact ⟨x, rfl, h⟩

theorem run_copy_rec {P : Program} (w : World) (dT sT ty elem : TypeId) (g cap B : Nat) (a : Option Addr) (n sCap : Nat) (l zs : List α)
    (hu : P.underlying dT = some (.slice elem)) (hs : (P.info? elem).map (·.size) = some (width α))
    (ho : ownsR w B elem (.slice (some ⟨g, 0, none⟩) n cap) zs) (hr : Reads w (.slice a n sCap) l) (h1 : ∀ x ∈ l, ∀ v ∈ cells x, v.oneCell' = true) :
    ∃ w', (Builtin.copy_ #[dT, sT] ty #[.slice (some ⟨g, 0, none⟩) n cap, .slice a n sCap]).run P w = .ok (goInt n) w' ∧ ownsR w' B elem (.slice (some ⟨g, 0, none⟩) n cap) l ∧ w.grownBy w' (some g) := by
  have hn := hr.len
  have hzn := ho.reads.len
  cases hq : P.info? elem with
  | none => simp [hq] at hs
  | some i =>
  have hi : i.size = width α := by simpa [hq] using hs
  by_cases h0 : n = 0
  · subst h0
    have hl0 : l = [] := List.eq_nil_of_length_eq_zero hn.symm
    have hz0 : zs = [] := List.eq_nil_of_length_eq_zero hzn.symm
    subst hl0 hz0
    have hl : ∀ (x : Addr), (loadCells x 0).run P w = .ok #[] w := fun x => by simpa using run_loadCells_list (P := P) w x [] (by simp)
    refine ⟨w, ?_, ho, grown_refl _ _⟩
    cases a <;> simp [Builtin.copy_, run_underlying hu, Builtin.lenOf, Builtin.firstCells, sizeOf, typeInfo, hq, storeCells, hl]
  · obtain ⟨ao, cap', e, hc⟩ := hr
    simp only [Value.slice.injEq] at e
    obtain ⟨rfl, _, rfl⟩ := e
    obtain ⟨b, o, rfl, hlt, hcell⟩ := hc (by rintro rfl; simp at hn; omega)
    have hlen : (l.flatMap cells).length = n * width α := by rw [flat_length, ← hn]
    have hl : (loadCells ⟨b, o, none⟩ (n * width α)).run P w = .ok (l.flatMap cells).toArray w := by
      rw [← hlen]
      refine run_loadCells_list (P := P) w ⟨b, o, none⟩ _ fun j v hv => ?_
      obtain ⟨x, hx, hv⟩ := flat_cell hv
      have := hcell _ x hx _ v hv
      have hadd : (⟨b, o, none⟩ : Addr).add j = ⟨b, o + j, none⟩ := by unfold Addr.add; split <;> simp_all
      rw [hadd]
      rw [Nat.add_assoc, Nat.mul_comm, Nat.div_add_mod] at this
      exact this
    rcases ho.2 with ⟨hv, _⟩ | ⟨g', cap2, cur, hv, hBg, hg, hcap, hmax, hsz, htake⟩
    · simp at hv
    · simp only [Value.slice.injEq, Option.some.injEq, Addr.mk.injEq, and_true] at hv
      obtain ⟨rfl, _, rfl⟩ := hv
      have hfit : (l.flatMap cells).length ≤ cur.size := by rw [hlen, hsz]; exact Nat.mul_le_mul_right _ (by omega)
      have hst := run_storeCells_at P g 0 elem (l.flatMap cells) 0 cur w hg (by simpa using hfit) (fun v hv => by
        obtain ⟨x, hx, hv⟩ := List.mem_flatMap.1 hv
        exact h1 x hx v hv)
      simp only [Nat.zero_add, List.take_zero, List.nil_append] at hst
      refine ⟨w.setRow g (l.flatMap cells ++ cur.toList.drop (l.flatMap cells).length).toArray, ?_, ?_, ?_⟩
      · simp [Builtin.copy_, run_underlying hu, Builtin.lenOf, Builtin.firstCells, sizeOf, typeInfo, hq, hi, hl, hst]
      · refine ⟨by rw [flat_length], .inr ⟨g, cap, _, by rw [← hn], hBg, setRow_heap w g cur _ elem _ hg, by omega, hmax, ?_, ?_⟩⟩
        · simp only [List.size_toArray, List.length_append, List.length_drop, Array.length_toList]
          omega
        · rw [← hn, ← hlen]; simp
      · exact ⟨rfl, rfl, rfl, by simp [World.setRow], fun k _ hk => setRow_other w g k _ (fun e => hk (by rw [e]))⟩

/-- copy(out, list) where out is a row of the call's own, as long as list. -/
theorem wpList_copy_rec {P : Program} {w : World} {ops : Array Oper} {rest : List Oper} {o : Oper} {a : Act} {Q : Exit → Act → World → Prop} (hgd : o.guard = none) (d s : Operand) (dT sT : TypeId)
    (ho : o.op = .call { callee := .builtin .copy, args := #[d, s], argTypes := #[dT, sT] }) (elem : TypeId) (hu : P.underlying dT = some (.slice elem)) (hsz : (P.info? elem).map (·.size) = some (width α))
    (g n cap B : Nat) (sp : Option Addr) (sCap : Nat) (hd : a.eval d = .slice (some ⟨g, 0, none⟩) n cap) (hs : a.eval s = .slice sp n sCap) (l zs : List α)
    (hown : ownsR w B elem (.slice (some ⟨g, 0, none⟩) n cap) zs) (hr : Reads w (.slice sp n sCap) l) (h1 : ∀ x ∈ l, ∀ v ∈ cells x, v.oneCell' = true)
    (h : ∀ w', ownsR w' B elem (.slice (some ⟨g, 0, none⟩) n cap) l → w.grownBy w' (some g) → wpList P ops Q rest (a.put o.dst (goInt n)) w') :
    wpList P ops Q (o :: rest) a w := by
  refine wpList_plain hgd fun K hK => ?_
  obtain ⟨w', hrun, ho', hg'⟩ := run_copy_rec (P := P) w dT sT o.type elem g cap B sp n sCap l zs hu hsz hown hr h1
  unfold Oper.wp
  simp [execOp, ho, resolve, invoke, builtin, hd, hs, hrun, Result.andThen]
  exact hK _ _ (h w' ho' hg')
end
end Go.Proofs.Ytehkebdncfljmaa

namespace Go.Proofs.Ytehkebdncfljmaa
open Go Go.RowKit
section
variable {α : Type} [Rec α]
open Rec
/-- A row without anything that was just made. -/
theorem ownsR_made0 (w : World) (B : Nat) (e : TypeId) (hB : B ≤ w.heap.size) : ownsR (w.alloc (.cells #[] e)) B e (.slice (some ⟨w.heap.size, 0, none⟩) 0 0) ([] : List α) :=
  World.ownsRow_made w #[] 0 hB (Nat.zero_le _) (by simp)
theorem run_append_recs {P : Program} (w : World) (B : Nat) (t ty e : TypeId) (z : Value) (bytes : Nat) (ht : P.underlying t = some (.slice e)) (hi : (P.info? e).map (fun i => (i.zero, i.size, i.bytes)) = some (some z, width α, bytes)) (hz : z.cells.size = width α)
    (v v2 : Value) (l1 l2 : List α) (hown : ownsR w B e v l1) (hr : Reads w v2 l2) (h1 : ∀ x ∈ l2, ∀ u ∈ cells x, u.oneCell' = true) (hlen : l1.length + l2.length ≤ 1048577) (hby : bytes ≤ 134217000) (hB : B ≤ w.heap.size) :
    ∃ v' w', (Builtin.append_ #[t, t] ty #[v, v2]).run P w = .ok v' w' ∧ ownsR w' B e v' (l1 ++ l2) ∧ w.grownBy w' v.ownBlock := by
  obtain ⟨i0, hi0, hz0, hz1, hz2⟩ := info_parts hi
  have hbytes : (l1.length + l2.length) * bytes ≤ 140737488355328 := by
    have : (l1.length + l2.length) * bytes ≤ 1048577 * 134217000 := Nat.mul_le_mul hlen hby
    omega
  have h63 : l1.length + l2.length ≤ maxLen := by unfold maxLen; omega
  have hone : ∀ u ∈ l2.flatMap cells, u.oneCell' = true := fun u hu => by
    obtain ⟨x, hx, hu⟩ := List.mem_flatMap.1 hu
    exact h1 x hx u hu
  obtain ⟨ao, cap, rfl, hc⟩ := hr
  cases ao with
  | none =>
    have h0 : l2 = [] := by
      cases l2 with
      | nil => rfl
      | cons x r => obtain ⟨b, o, e, _⟩ := hc (by simp); cases e
    subst h0
    refine ⟨v, w, ?_, by simpa using hown, grown_refl _ _⟩
    rcases hown.2 with ⟨rfl, h0⟩ | ⟨g, cap, cur, rfl, _, _, hnc, _⟩
    · simp [Builtin.append_, run_underlying ht, sizeOf, typeInfo, hi0, Builtin.lenOf, Builtin.firstCells]
    · simp [Builtin.append_, run_underlying ht, sizeOf, typeInfo, hi0, Builtin.lenOf, Builtin.firstCells, hnc, storeCells]
  | some a =>
    obtain ⟨v', w', hrun, ho, hg, _⟩ := run_append_own (P := P) (w := w) B t ty e i0 z (width α) bytes ht hi0 hz0 hz1 hz2 hz Rec.pos v l1.length _ hown a l2.length cap (l2.flatMap cells) (flat_length l2) (fun j u hj => by
      obtain ⟨x, hx, hu⟩ := flat_cell hj
      obtain ⟨b, o, e, _, hcell⟩ := hc (by rintro rfl; simp at hx)
      cases e
      have := hcell _ x hx _ u hu
      have hadd : (⟨b, o, none⟩ : Addr).add j = ⟨b, o + j, none⟩ := by unfold Addr.add; split <;> simp_all
      rw [hadd]
      rw [Nat.add_assoc, Nat.mul_comm, Nat.div_add_mod] at this
      exact this) hone h63 hbytes hB
    exact ⟨v', w', hrun, by simpa [ownsR, List.flatMap_append] using ho, hg⟩
/-- append(s, x...) where s is a row of the call's own. -/
theorem wpList_append_recs {P : Program} {w : World} {ops : Array Oper} {rest : List Oper} {o : Oper} {a : Act} {Q : Exit → Act → World → Prop} (hgd : o.guard = none) (s x : Operand) (t : TypeId)
    (ho : o.op = .call { callee := .builtin .append, args := #[s, x], argTypes := #[t, t] }) (B : Nat) (e : TypeId) (z : Value) (bytes : Nat) (ht : P.underlying t = some (.slice e)) (hi : (P.info? e).map (fun i => (i.zero, i.size, i.bytes)) = some (some z, width α, bytes)) (hz : z.cells.size = width α)
    (v v2 : Value) (l1 l2 : List α) (hs : a.eval s = v) (hx : a.eval x = v2) (hown : ownsR w B e v l1) (hr : Reads w v2 l2) (h1 : ∀ x ∈ l2, ∀ u ∈ cells x, u.oneCell' = true) (hlen : l1.length + l2.length ≤ 1048577) (hby : bytes ≤ 134217000) (hB : B ≤ w.heap.size)
    (h : ∀ v' w', ownsR w' B e v' (l1 ++ l2) → w.grownBy w' v.ownBlock → wpList P ops Q rest (a.put o.dst v') w') : wpList P ops Q (o :: rest) a w := by
  refine wpList_plain hgd fun K hK => ?_
  obtain ⟨v', w', hrun, ho', hg'⟩ := run_append_recs (P := P) w B t o.type e z bytes ht hi hz v v2 l1 l2 hown hr h1 hlen hby hB
  unfold Oper.wp
  simp [execOp, ho, resolve, invoke, builtin, hs, hx, hrun, Result.andThen]
  exact hK _ _ (h v' w' ho' hg')
/-- The same as one step of a region that draws its order. -/
theorem step_append_recs {P : Program} {ops : Array Oper} {o : Oper} {a : Act} {w : World} {K : Act → World → Prop} {Q : Exit → Act → World → Prop} {E : Prop} (hgd : o.guard = none) (s x : Operand) (t : TypeId)
    (ho : o.op = .call { callee := .builtin .append, args := #[s, x], argTypes := #[t, t] }) (B : Nat) (e : TypeId) (z : Value) (bytes : Nat) (ht : P.underlying t = some (.slice e)) (hi : (P.info? e).map (fun i => (i.zero, i.size, i.bytes)) = some (some z, width α, bytes)) (hz : z.cells.size = width α)
    (v v2 : Value) (l1 l2 : List α) (hs : a.eval s = v) (hx : a.eval x = v2) (hown : ownsR w B e v l1) (hr : Reads w v2 l2) (h1 : ∀ x ∈ l2, ∀ u ∈ cells x, u.oneCell' = true) (hlen : l1.length + l2.length ≤ 1048577) (hby : bytes ≤ 134217000) (hB : B ≤ w.heap.size)
    (h : ∀ v' w', ownsR w' B e v' (l1 ++ l2) → w.grownBy w' v.ownBlock → K (a.put o.dst v') w') :
    if Region.wanted o (yielded ops a.tmps) = true then Oper.wp P o a w K Q else E := by
  have hw : Region.wanted o (yielded ops a.tmps) = true := by simp [Region.wanted, hgd]
  rw [if_pos hw]
  obtain ⟨v', w', hrun, ho', hg'⟩ := run_append_recs (P := P) w B t o.type e z bytes ht hi hz v v2 l1 l2 hown hr h1 hlen hby hB
  unfold Oper.wp
  simp [execOp, ho, resolve, invoke, builtin, hs, hx, hrun, Result.andThen]
  exact h v' w' ho' hg'
end
end Go.Proofs.Ytehkebdncfljmaa
