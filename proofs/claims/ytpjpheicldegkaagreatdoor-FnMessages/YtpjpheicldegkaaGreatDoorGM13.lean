/- Cte,Dok -/
import Derived.Test.YtpjpheicldegkaaGreatDoorGM12
import Derived.Test.YtpjpheicldegkaaGreatDoorGM10
namespace Go.Proofs.YtpjpheicldegkaaGreatDoor
open Go Go.RowKit

theorem rise_bd {lo hi : Int} : ∀ (l : List Int) (p : Option Int) (q : Int), (∀ y, p = some y → q ≤ y + 1) → (p = none → q ≤ lo) → lo ≤ q → q ≤ hi + 1 → riseB lo hi p l = true → (∀ x ∈ l, lo ≤ x ∧ x ≤ hi) ∧ (l.length : Int) ≤ hi + 1 - q
  | [], _, q, _, _, _, h4, _ => ⟨fun x hx => by (cases hx), by simp; omega⟩
  | x :: r, p, q, h1, h2, h3, h4, h => by
    unfold riseB at h
    simp only [Bool.and_eq_true, decide_eq_true_eq] at h
    obtain ⟨⟨⟨ha, hb⟩, hc⟩, hd⟩ := h
    have hq : q ≤ x := by
      cases p with
      | none => have := h2 rfl; omega
      | some y => have := h1 y rfl; simp at hc; omega
    have ih := rise_bd r (some x) (x + 1) (fun y hy => by cases hy; omega) (fun hn => by cases hn) (by omega) (by omega) hd
    refine ⟨fun y hy => ?_, ?_⟩
    · rcases List.mem_cons.1 hy with rfl | hy
      · exact ⟨ha, hb⟩
      · exact ih.1 y hy
    · have := ih.2
      simp only [List.length_cons]
      omega
theorem qrd {lo hi : Int} {l : List Int} (h0 : 0 ≤ lo) (hh : lo ≤ hi) (h9 : hi ≤ 59) (h : listB lo hi l = true) : (∀ x ∈ l, 0 ≤ x ∧ x < 100) ∧ l.length ≤ 60 := by
  unfold listB at h
  rw [Bool.and_eq_true] at h
  have := rise_bd l none lo (fun y hy => by cases hy) (fun _ => Int.le_refl _) (Int.le_refl _) (by omega) h.2
  exact ⟨fun x hx => by have := this.1 x hx; omega, by have := this.2; omega⟩
theorem qdc {l : List Int} (z : Int) (h : (∀ x ∈ l, 0 ≤ x ∧ x < 100) ∧ l.length ≤ 60) : (showS l z).size ≤ 180 := by
  unfold showS
  split
  · decide
  · have := showP_size h.1 l.length (Nat.le_refl _)
    omega
def cronS (a b c d e : List Int) : ByteArray := showS a 60 ++ ⟨#[32]⟩ ++ showS b 24 ++ ⟨#[32]⟩ ++ showS c 31 ++ ⟨#[32]⟩ ++ showS d 12 ++ ⟨#[32]⟩ ++ showS e 7
def cronX (a b c d e : List Int) : ByteArray := if cronB a b c d e then cronS a b c d e else ⟨#[]⟩

set_option maxRecDepth 10000 in
set_option maxHeartbeats 2000000 in
theorem cronText_any (va vb vc vd ve : Value) (a b c d e : List Int) (w : World) (h1 : Reads w va a) (h2 : Reads w vb b) (h3 : Reads w vc c) (h4 : Reads w vd d) (h5 : Reads w ve e)
    (n1 : a.length ≤ 1048577) (n2 : b.length ≤ 1048577) (n3 : c.length ≤ 1048577) (n4 : d.length ≤ 1048577) (n5 : e.length ≤ 1048577) :
    Calls Tryz.prog 121 #[.agg #[va, vb, vc, vd, ve]] w fun x w' => x = .returned (.tuple #[.string (cronX a b c d e), .bool (cronB a b c d e)]) ∧ Below w.heap.size w w' := by
  obtain ⟨ao, ac, rfl, _⟩ := id h1
  obtain ⟨bo, bc, rfl, _⟩ := id h2
  obtain ⟨co, cc, rfl, _⟩ := id h3
  obtain ⟨d0, dc, rfl, _⟩ := id h4
  obtain ⟨eo, ec, rfl, _⟩ := id h5
  have HC : Hid (∀ W, Below w.heap.size w W → Calls Tryz.prog 130 #[.agg #[.slice ao a.length ac, .slice bo b.length bc, .slice co c.length cc, .slice d0 d.length dc, .slice eo e.length ec]] W fun x w' => x = .returned (.bool (cronB a b c d e)) ∧ Below W.heap.size W w') := fun W hb => cronOk_any _ _ _ _ _ a b c d e W (h1.below hb) (h2.below hb) (h3.below hb) (h4.below hb) (h5.below hb) n1 n2 n3 n4 n5
  cases hq : cronB a b c d e with
  | false =>
    have HX : Hid (cronX a b c d e = ⟨#[]⟩) := by show _ = _; unfold cronX; rw [hq]; rfl
    rw [hq] at HC
    rw [HX.out]
    clear h1 h2 h3 h4 h5 hq
    generalize a.length = la at *
    generalize b.length = lb at *
    generalize c.length = lc at *
    generalize d.length = ld at *
    generalize e.length = le at *
    go_enter Tryz.func121, Tryz.ntmps121
    go_wp2_with (go_at_call 130; refine (HC.out _ (ba (Below.refl _ _) _)).mono ?_; rintro x w1 ⟨rfl, hb1⟩)
    go_ret2
    exact ⟨rfl, qma hb1⟩
  | true =>
    have HX : Hid (cronX a b c d e = cronS a b c d e) := by show _ = _; unfold cronX; rw [hq]; rfl
    rw [hq] at HC
    rw [HX.out]
    unfold cronB at hq
    simp only [Bool.and_eq_true] at hq
    obtain ⟨q0, q1, q2, q3, q4⟩ := hq
    have k0 := qrd (by decide) (by decide) (by decide) q0
    have y0 := qdc 60 k0
    have C0 : Hid (∀ W, Below w.heap.size w W → Calls Tryz.prog 131 #[.slice ao a.length ac, .int .i64 60] W fun x w' => x = .returned (.string (showS a 60)) ∧ Below W.heap.size W w') := fun W hb => qke 60 (h1.below hb) (by omega) k0.1
    have k1 := qrd (by decide) (by decide) (by decide) q1
    have y1 := qdc 24 k1
    have C1 : Hid (∀ W, Below w.heap.size w W → Calls Tryz.prog 131 #[.slice bo b.length bc, .int .i64 24] W fun x w' => x = .returned (.string (showS b 24)) ∧ Below W.heap.size W w') := fun W hb => qke 24 (h2.below hb) (by omega) k1.1
    have k2 := qrd (by decide) (by decide) (by decide) q2
    have y2 := qdc 31 k2
    have C2 : Hid (∀ W, Below w.heap.size w W → Calls Tryz.prog 131 #[.slice co c.length cc, .int .i64 31] W fun x w' => x = .returned (.string (showS c 31)) ∧ Below W.heap.size W w') := fun W hb => qke 31 (h3.below hb) (by omega) k2.1
    have k3 := qrd (by decide) (by decide) (by decide) q3
    have y3 := qdc 12 k3
    have C3 : Hid (∀ W, Below w.heap.size w W → Calls Tryz.prog 131 #[.slice d0 d.length dc, .int .i64 12] W fun x w' => x = .returned (.string (showS d 12)) ∧ Below W.heap.size W w') := fun W hb => qke 12 (h4.below hb) (by omega) k3.1
    have k4 := qrd (by decide) (by decide) (by decide) q4
    have y4 := qdc 7 k4
    have C4 : Hid (∀ W, Below w.heap.size w W → Calls Tryz.prog 131 #[.slice eo e.length ec, .int .i64 7] W fun x w' => x = .returned (.string (showS e 7)) ∧ Below W.heap.size W w') := fun W hb => qke 7 (h5.below hb) (by omega) k4.1
    unfold cronS
    clear h1 h2 h3 h4 h5 HX q0 q1 q2 q3 q4 k0 k1 k2 k3 k4
    generalize showS a 60 = s0 at *
    generalize showS b 24 = s1 at *
    generalize showS c 31 = s2 at *
    generalize showS d 12 = s3 at *
    generalize showS e 7 = s4 at *
    generalize a.length = la at *
    generalize b.length = lb at *
    generalize c.length = lc at *
    generalize d.length = ld at *
    generalize e.length = le at *
    go_enter Tryz.func121, Tryz.ntmps121
    go_wp2_with fail
    refine (HC.out _ (ba (Below.refl _ _) _)).mono ?_
    rintro x w1 ⟨rfl, hb1⟩
    have Z1 : B5 194 w1 w.heap.size (.slice ao la ac) (.slice bo lb bc) (.slice co lc cc) (.slice d0 ld dc) (.slice eo le ec) := (B5.new 194 w _ _ _ _ _).up hb1
    have B1 : Below w.heap.size w w1 := qma hb1
    have K0 := Wd.cell Z1.c0
    have K1 := Wd.cell Z1.c1
    have K2 := Wd.cell Z1.c2
    have K3 := Wd.cell Z1.c3
    have K4 := Wd.cell Z1.c4
    clear hb1 Z1 HC
    have one : (ByteArray.mk #[32]).size = 1 := rfl
    have z1 : (s0 ++ ⟨#[32]⟩).size = s0.size + 1 := by rw [ByteArray.size_append, one]
    have v1 : (s0 ++ ⟨#[32]⟩ ++ s1).size = s0.size+s1.size + 1 := by rw [ByteArray.size_append, z1]; omega
    have z2 : (s0 ++ ⟨#[32]⟩ ++ s1 ++ ⟨#[32]⟩).size = s0.size+s1.size + 2 := by rw [ByteArray.size_append, one]; omega
    have v2 : (s0 ++ ⟨#[32]⟩ ++ s1 ++ ⟨#[32]⟩ ++ s2).size = s0.size+s1.size+s2.size + 2 := by rw [ByteArray.size_append, z2]; omega
    have z3 : (s0 ++ ⟨#[32]⟩ ++ s1 ++ ⟨#[32]⟩ ++ s2 ++ ⟨#[32]⟩).size = s0.size+s1.size+s2.size + 3 := by rw [ByteArray.size_append, one]; omega
    have v3 : (s0 ++ ⟨#[32]⟩ ++ s1 ++ ⟨#[32]⟩ ++ s2 ++ ⟨#[32]⟩ ++ s3).size = s0.size+s1.size+s2.size+s3.size + 3 := by rw [ByteArray.size_append, z3]; omega
    have z4 : (s0 ++ ⟨#[32]⟩ ++ s1 ++ ⟨#[32]⟩ ++ s2 ++ ⟨#[32]⟩ ++ s3 ++ ⟨#[32]⟩).size = s0.size+s1.size+s2.size+s3.size + 4 := by rw [ByteArray.size_append, one]; omega
    have v4 : (s0 ++ ⟨#[32]⟩ ++ s1 ++ ⟨#[32]⟩ ++ s2 ++ ⟨#[32]⟩ ++ s3 ++ ⟨#[32]⟩ ++ s4).size = s0.size+s1.size+s2.size+s3.size+s4.size + 4 := by rw [ByteArray.size_append, z4]; omega
    clear one
    go_wp2_with fail
    refine qba (by kernel_rfl) (by kernel_rfl) ?_
    repeat (go_big_quiet_step (first | (go_at_call 131; refine qwa (v := .string s0) ?_; with_reducible exact C0.out _ (Below.on B1 (Wd.ok _))) | (go_at_call 131; refine qwa (v := .string s1) ?_; with_reducible exact C1.out _ (Below.on B1 (Wd.ok _))) | (go_at_call 131; refine qwa (v := .string s2) ?_; with_reducible exact C2.out _ (Below.on B1 (Wd.ok _))) | (go_at_call 131; refine qwa (v := .string s3) ?_; with_reducible exact C3.out _ (Below.on B1 (Wd.ok _))) | (go_at_call 131; refine qwa (v := .string s4) ?_; with_reducible exact C4.out _ (Below.on B1 (Wd.ok _)))))
    refine wpQuiet_nil ?_
    rintro _ ⟨x, rfl⟩
    go_wp2
    go_ret2
    exact ⟨rfl, Below.on B1 x.ok⟩
end Go.Proofs.YtpjpheicldegkaaGreatDoor

namespace Go.Proofs.YtpjpheicldegkaaGreatDoor
open Go Go.RowKit

structure Dg where
  name : ByteArray
  cron : ByteArray
  fr : Int
  up : Int
  cu : Bool
  tasks : List Ta
def qje (ts : List Ta) : Nat → List Ta → Bool
  | _, [] => true
  | i, t :: r => taskB ts i t && qje ts (i + 1) r
theorem tasksB_at {ts : List Ta} {i : Nat} {t : Ta} (h : ts[i]? = some t) : qje ts i (ts.drop i) = (taskB ts i t && qje ts (i + 1) (ts.drop (i + 1))) := by
  obtain ⟨hk, rfl⟩ := List.getElem?_eq_some_iff.1 h
  rw [List.drop_eq_getElem_cons hk]
  rfl
theorem tasksB_end {ts : List Ta} {i : Nat} (h : i = ts.length) : qje ts i (ts.drop i) = true := by
  subst h
  rw [List.drop_length]
  rfl
def againS (s : ByteArray) : ByteArray := cronX (pcN (pcO s) 0) (pcN (pcO s) 1) (pcN (pcO s) 2) (pcN (pcO s) 3) (pcN (pcO s) 4)
def dagB (d : Dg) : Bool := nameB d.name && ((pcO d.cron).isSome && (decide (againS d.cron = d.cron) && (decide (0 ≤ d.up ∧ d.up ≤ 68374079) && (decide (0 ≤ d.fr ∧ d.fr ≤ d.up) && (decide (1 ≤ (d.tasks.length : Int) ∧ (d.tasks.length : Int) ≤ 4) && (qje d.tasks 0 d.tasks && decide ((orderL d.tasks).length = d.tasks.length)))))))
theorem fieldL_len (s : ByteArray) (lo hi : Int) (h : hi - lo + 1 ≤ 60) : (qce s lo hi).length ≤ 60 := by
  unfold qce picksO
  split
  · simp
  · have := picks_length ‹List Bool› lo (hi - lo + 1).toNat
    omega
theorem qbd (s : ByteArray) (k : Nat) : (pcN (pcO s) k).length ≤ 60 := by
  unfold pcN pcO
  split
  · unfold pcT
    split
    · split
      · rename_i x1 x2 x3 x4 x5 _ _
        have f1 := fieldL_len x1 0 59 (by decide)
        have f2 := fieldL_len x2 0 23 (by decide)
        have f3 := fieldL_len x3 1 31 (by decide)
        have f4 := fieldL_len x4 1 12 (by decide)
        have f5 := fieldL_len x5 0 6 (by decide)
        match k with
        | 0 => exact f1
        | 1 => exact f2
        | 2 => exact f3
        | 3 => exact f4
        | 4 => exact f5
        | k + 5 => simp
      · simp
    · simp
  · simp
theorem natbeq (a b : Nat) : ((a : Int) == (b : Int)) = decide (a = b) := by
  by_cases h : a = b
  · subst h; simp
  · rw [decide_eq_false h, beq_eq_false_iff_ne]; omega
structure DagAt (w : World) (tv : Value) (d : Dg) : Prop where
  tasks : Tasks w tv d.tasks
  few : d.tasks.length ≤ 1048577
  small : ∀ t ∈ d.tasks, t.after.length ≤ 1048576 ∧ t.name.size ≤ 9223372036854775807
  cron : d.cron.size ≤ 1048576
  name : d.name.size ≤ 9223372036854775807
theorem DagAt.below {w w' : World} {tv : Value} {d : Dg} (h : DagAt w tv d) (hb : Below w.heap.size w w') : DagAt w' tv d := ⟨h.tasks.below hb, h.few, h.small, h.cron, h.name⟩

set_option maxRecDepth 10000 in
set_option maxHeartbeats 4000000 in
theorem dagOk_try (tv : Value) (nm cr : ByteArray) (fr up : Int) (cu : Bool) (ts : List Ta) (w : World) (hd : DagAt w tv ⟨nm, cr, fr, up, cu, ts⟩) :
    Calls Tryz.prog 114 #[.agg #[.string nm, .string cr, .int .i64 fr, .int .i64 up, .bool cu, tv]] w fun e w' => e = .returned (.bool (dagB ⟨nm, cr, fr, up, cu, ts⟩)) ∧ Below w.heap.size w w' := by
  have hn : ts.length ≤ 1048577 := hd.few
  obtain ⟨ao, cap, htv⟩ := hd.tasks.slice
  subst htv
  obtain ⟨n, HN⟩ : ∃ n, Hid (ts.length = n) := ⟨_, rfl⟩
  have HT : Hid (Tasks w (.slice ao ts.length cap) ts) := hd.tasks
  have HSM : Hid (∀ t ∈ ts, t.after.length ≤ 1048576 ∧ t.name.size ≤ 9223372036854775807) := hd.small
  have HDF : Hid (dagB ⟨nm, cr, fr, up, cu, ts⟩ = (nameB nm && ((pcO cr).isSome && (decide (againS cr = cr) && (decide (0 ≤ up ∧ up ≤ 68374079) && (decide (0 ≤ fr ∧ fr ≤ up) && (decide (1 ≤ (ts.length : Int) ∧ (ts.length : Int) ≤ 4) && (qje ts 0 ts && decide ((orderL ts).length = ts.length))))))))) := rfl
  show Calls Tryz.prog 114 #[.agg #[.string nm, .string cr, .int .i64 fr, .int .i64 up, .bool cu, .slice ao ts.length cap]] w _
  rw [HN.out] at hn HT HDF
  rw [HN.out]
  have HPC : Hid (∀ w, Calls Tryz.prog 120 #[.string cr] w (PcP cr w)) := fun w => parseCron_any cr w hd.cron
  have HNA : Hid (∀ w, Calls Tryz.prog 102 #[.string nm] w fun e w' => e = .returned (.bool (nameB nm)) ∧ w' = w) := fun w => qib nm w hd.name
  have HOR0 : Hid (n ≤ 4 → ∀ W, Below w.heap.size w W → Calls Tryz.prog 127 #[.slice ao n cap] W fun e w' => ∃ v', e = .returned v' ∧ ownsR w' W.heap.size 3 v' (orderL ts) ∧ Below W.heap.size W w') := fun h4 W hb => l12Order_any (HT.out.below hb) (by rw [HN.out]; omega) (fun t ht => (HSM.out t ht).1)
  have HTK0 : Hid (n ≤ 4 → ∀ W i t, Below w.heap.size w W → ts[i]? = some t → Calls Tryz.prog 126 #[.slice ao n cap, .int .i64 (i : Nat)] W fun e w' => e = .returned (.bool (taskB ts i t)) ∧ Below W.heap.size W w') := fun h4 W i t hb hi => l12Task_any (HT.out.below hb) (by rw [HN.out]; omega) hi (HSM.out t (List.mem_of_getElem? hi))
  clear hd
  obtain ⟨R, HR⟩ : ∃ R, Hid (dagB ⟨nm, cr, fr, up, cu, ts⟩ = R) := ⟨_, rfl⟩
  rw [HR.out] at HDF ⊢
  obtain ⟨q1, HQ1⟩ : ∃ q, Hid (nameB nm = q) := ⟨_, rfl⟩
  obtain ⟨q2, HQ2⟩ : ∃ q, Hid ((pcO cr).isSome = q) := ⟨_, rfl⟩
  obtain ⟨tx, HTX⟩ : ∃ x, Hid (againS cr = x) := ⟨_, rfl⟩
  obtain ⟨OL, HOL⟩ : ∃ x, Hid ((orderL ts).length = x) := ⟨_, rfl⟩
  rw [HQ1.out] at HNA HDF
  rw [HQ2.out, HTX.out, HOL.out] at HDF
  clear HR HQ1
  have I1 : Hid (∀ w, Calls Tryz.prog 24 #[.int .i64 up, .int .i64 0, .int .i64 68374079] w fun e w' => e = .returned (.bool (decide (0 ≤ up ∧ up ≤ 68374079))) ∧ w' = w) := by intro w; rw [Bool.decide_and]; exact qub up 0 68374079 w
  have I2 : Hid (∀ w, Calls Tryz.prog 24 #[.int .i64 fr, .int .i64 0, .int .i64 up] w fun e w' => e = .returned (.bool (decide (0 ≤ fr ∧ fr ≤ up))) ∧ w' = w) := by intro w; rw [Bool.decide_and]; exact qub fr 0 up w
  have I3 : Hid (∀ w, Calls Tryz.prog 24 #[.int .i64 n, .int .i64 1, .int .i64 4] w fun e w' => e = .returned (.bool (decide (1 ≤ (n : Int) ∧ (n : Int) ≤ 4))) ∧ w' = w) := by intro w; rw [Bool.decide_and]; exact qub n 1 4 w
  go_enter Tryz.func114, Tryz.ntmps114
  go_wp2_with fail
  refine (HPC.out _).mono ?_
  rintro e w1 ⟨v0, v1, v2, v3, v4, rfl, o0, o1, o2, o3, o4, hb1⟩
  rw [HQ2.out]
  obtain ⟨a0, k0, rfl⟩ := o0.slice
  obtain ⟨a1, k1, rfl⟩ := o1.slice
  obtain ⟨a2, k2, rfl⟩ := o2.slice
  obtain ⟨a3, k3, rfl⟩ := o3.slice
  obtain ⟨a4, k4, rfl⟩ := o4.slice
  have hsz0 : w.heap.size < (w.alloc (.cells #[.string nm, .string cr, .int .i64 fr, .int .i64 up, .bool cu, .slice ao n cap] 163)).heap.size := by simp
  have B1 := qma hb1
  have x0 : w1.cell? ⟨w.heap.size, 0, none⟩ = some (.string nm) := (hb1.cell (by simp)).trans (by simp [go_sem])
  have x1 : w1.cell? ⟨w.heap.size, 1, none⟩ = some (.string cr) := (hb1.cell (by simp)).trans (by simp [go_sem])
  have x2 : w1.cell? ⟨w.heap.size, 2, none⟩ = some (.int .i64 fr) := (hb1.cell (by simp)).trans (by simp [go_sem])
  have x3 : w1.cell? ⟨w.heap.size, 3, none⟩ = some (.int .i64 up) := (hb1.cell (by simp)).trans (by simp [go_sem])
  have x5 : w1.cell? ⟨w.heap.size, 5, none⟩ = some (.slice ao n cap) := (hb1.cell (by simp)).trans (by simp [go_sem])
  have hg : w.heap.size < w1.heap.size := World.block_lt_of_cell? _ _ x0
  have hX : Below w1.heap.size w1 (w1.alloc (.cells #[.slice a0 (pcN (pcO cr) 0).length k0, .slice a1 (pcN (pcO cr) 1).length k1, .slice a2 (pcN (pcO cr) 2).length k2, .slice a3 (pcN (pcO cr) 3).length k3, .slice a4 (pcN (pcO cr) 4).length k4] 194)) := ba (Below.refl _ _) _
  have HCT : Hid (Calls Tryz.prog 121 #[.agg #[.slice a0 (pcN (pcO cr) 0).length k0, .slice a1 (pcN (pcO cr) 1).length k1, .slice a2 (pcN (pcO cr) 2).length k2, .slice a3 (pcN (pcO cr) 3).length k3, .slice a4 (pcN (pcO cr) 4).length k4]] (w1.alloc (.cells #[.slice a0 (pcN (pcO cr) 0).length k0, .slice a1 (pcN (pcO cr) 1).length k1, .slice a2 (pcN (pcO cr) 2).length k2, .slice a3 (pcN (pcO cr) 3).length k3, .slice a4 (pcN (pcO cr) 4).length k4] 194)) fun x w' => x = .returned (.tuple #[.string tx, .bool (cronB (pcN (pcO cr) 0) (pcN (pcO cr) 1) (pcN (pcO cr) 2) (pcN (pcO cr) 3) (pcN (pcO cr) 4))]) ∧ Below (w1.alloc (.cells #[.slice a0 (pcN (pcO cr) 0).length k0, .slice a1 (pcN (pcO cr) 1).length k1, .slice a2 (pcN (pcO cr) 2).length k2, .slice a3 (pcN (pcO cr) 3).length k3, .slice a4 (pcN (pcO cr) 4).length k4] 194)).heap.size (w1.alloc (.cells #[.slice a0 (pcN (pcO cr) 0).length k0, .slice a1 (pcN (pcO cr) 1).length k1, .slice a2 (pcN (pcO cr) 2).length k2, .slice a3 (pcN (pcO cr) 3).length k3, .slice a4 (pcN (pcO cr) 4).length k4] 194)) w') := by
    have := cronText_any _ _ _ _ _ _ _ _ _ _ _ (o0.reads.below hX) (o1.reads.below hX) (o2.reads.below hX) (o3.reads.below hX) (o4.reads.below hX) (by have := qbd cr 0; omega) (by have := qbd cr 1; omega) (by have := qbd cr 2; omega) (by have := qbd cr 3; omega) (by have := qbd cr 4; omega)
    rw [show cronX _ _ _ _ _ = tx from HTX.out] at this
    exact this
  clear o0 o1 o2 o3 o4 hb1 hsz0 HPC
  generalize (pcN (pcO cr) 0).length = l0 at *
  generalize (pcN (pcO cr) 1).length = l1 at *
  generalize (pcN (pcO cr) 2).length = l2 at *
  generalize (pcN (pcO cr) 3).length = l3 at *
  generalize (pcN (pcO cr) 4).length = l4 at *
  go_wp2_with fail
  refine HCT.out.mono ?_
  rintro e w2 ⟨rfl, hb2⟩
  have hY := Below.on hX hb2
  have B2 := Below.on B1 hY
  have y0 := (hY.cell hg).trans x0
  have y1 := (hY.cell hg).trans x1
  have y2 := (hY.cell hg).trans x2
  have y3 := (hY.cell hg).trans x3
  have y5 := (hY.cell hg).trans x5
  have hg2 := Nat.lt_of_lt_of_le hg hY.size
  clear hX hb2 hY x0 x1 x2 x3 x5 HCT B1 hg
  cases q1 with
  | false =>
    have HF : Hid (R = false) := HDF.out
    go_wp2_with (first | (go_at_call 102; refine (HNA.out _).mono ?_; rintro e w3 ⟨rfl, hw⟩; have hw2 := hw.symm; subst hw2) | (go_at_call 24; with_reducible refine (I1.out _).mono ?_; rintro e w3 ⟨rfl, hw⟩; have hw2 := hw.symm; subst hw2) | (go_at_call 24; with_reducible refine (I2.out _).mono ?_; rintro e w3 ⟨rfl, hw⟩; have hw2 := hw.symm; subst hw2) | (go_at_call 24; with_reducible refine (I3.out _).mono ?_; rintro e w3 ⟨rfl, hw⟩; have hw2 := hw.symm; subst hw2))
    go_ret
    exact ⟨by rw [HF.out]; rfl, B2⟩
  | true =>
    cases q2 with
    | false =>
      have HF : Hid (R = false) := HDF.out
      go_wp2_with (first | (go_at_call 102; refine (HNA.out _).mono ?_; rintro e w3 ⟨rfl, hw⟩; have hw2 := hw.symm; subst hw2) | (go_at_call 24; with_reducible refine (I1.out _).mono ?_; rintro e w3 ⟨rfl, hw⟩; have hw2 := hw.symm; subst hw2) | (go_at_call 24; with_reducible refine (I2.out _).mono ?_; rintro e w3 ⟨rfl, hw⟩; have hw2 := hw.symm; subst hw2) | (go_at_call 24; with_reducible refine (I3.out _).mono ?_; rintro e w3 ⟨rfl, hw⟩; have hw2 := hw.symm; subst hw2))
      go_ret
      exact ⟨by rw [HF.out]; rfl, B2⟩
    | true =>
      by_cases ht : tx = cr
      case neg =>
        have HF : Hid (R = false) := HDF.out.trans (by rw [decide_eq_false ht]; rfl)
        have e1 := qab ht
        go_wp2_with (first | (go_at_call 102; refine (HNA.out _).mono ?_; rintro e w3 ⟨rfl, hw⟩; have hw2 := hw.symm; subst hw2) | (go_at_call 24; with_reducible refine (I1.out _).mono ?_; rintro e w3 ⟨rfl, hw⟩; have hw2 := hw.symm; subst hw2) | (go_at_call 24; with_reducible refine (I2.out _).mono ?_; rintro e w3 ⟨rfl, hw⟩; have hw2 := hw.symm; subst hw2) | (go_at_call 24; with_reducible refine (I3.out _).mono ?_; rintro e w3 ⟨rfl, hw⟩; have hw2 := hw.symm; subst hw2))
        go_ret
        exact ⟨by rw [HF.out]; rfl, B2⟩
      have HD2 : Hid (R = (decide (0 ≤ up ∧ up ≤ 68374079) && (decide (0 ≤ fr ∧ fr ≤ up) && (decide (1 ≤ (n : Int) ∧ (n : Int) ≤ 4) && (qje ts 0 ts && decide (OL = n)))))) := HDF.out.trans (by rw [decide_eq_true ht]; rfl)
      subst ht
      clear HDF
      cases h1 : decide (0 ≤ up ∧ up ≤ 68374079) with
      | false =>
        rw [h1] at I1 HD2
        have HF : Hid (R = false) := HD2.out
        clear h1
        go_wp2_with (first | (go_at_call 102; refine (HNA.out _).mono ?_; rintro e w3 ⟨rfl, hw⟩; have hw2 := hw.symm; subst hw2) | (go_at_call 24; with_reducible refine (I1.out _).mono ?_; rintro e w3 ⟨rfl, hw⟩; have hw2 := hw.symm; subst hw2) | (go_at_call 24; with_reducible refine (I2.out _).mono ?_; rintro e w3 ⟨rfl, hw⟩; have hw2 := hw.symm; subst hw2) | (go_at_call 24; with_reducible refine (I3.out _).mono ?_; rintro e w3 ⟨rfl, hw⟩; have hw2 := hw.symm; subst hw2))
        go_ret
        exact ⟨by rw [HF.out]; rfl, B2⟩
      | true =>
        rw [h1] at I1 HD2
        clear h1
        cases h2 : decide (0 ≤ fr ∧ fr ≤ up) with
        | false =>
          rw [h2] at I2 HD2
          have HF : Hid (R = false) := HD2.out
          clear h2
          go_wp2_with (first | (go_at_call 102; refine (HNA.out _).mono ?_; rintro e w3 ⟨rfl, hw⟩; have hw2 := hw.symm; subst hw2) | (go_at_call 24; with_reducible refine (I1.out _).mono ?_; rintro e w3 ⟨rfl, hw⟩; have hw2 := hw.symm; subst hw2) | (go_at_call 24; with_reducible refine (I2.out _).mono ?_; rintro e w3 ⟨rfl, hw⟩; have hw2 := hw.symm; subst hw2) | (go_at_call 24; with_reducible refine (I3.out _).mono ?_; rintro e w3 ⟨rfl, hw⟩; have hw2 := hw.symm; subst hw2))
          go_ret
          exact ⟨by rw [HF.out]; rfl, B2⟩
        | true =>
          rw [h2] at I2 HD2
          clear h2
          cases h3 : decide (1 ≤ (n : Int) ∧ (n : Int) ≤ 4) with
          | false =>
            rw [h3] at I3 HD2
            have HF : Hid (R = false) := HD2.out
            clear h3
            go_wp2_with (first | (go_at_call 102; refine (HNA.out _).mono ?_; rintro e w3 ⟨rfl, hw⟩; have hw2 := hw.symm; subst hw2) | (go_at_call 24; with_reducible refine (I1.out _).mono ?_; rintro e w3 ⟨rfl, hw⟩; have hw2 := hw.symm; subst hw2) | (go_at_call 24; with_reducible refine (I2.out _).mono ?_; rintro e w3 ⟨rfl, hw⟩; have hw2 := hw.symm; subst hw2) | (go_at_call 24; with_reducible refine (I3.out _).mono ?_; rintro e w3 ⟨rfl, hw⟩; have hw2 := hw.symm; subst hw2))
            go_ret
            exact ⟨by rw [HF.out]; rfl, B2⟩
          | true =>
            rw [h3] at I3 HD2
            have h4 := of_decide_eq_true h3
            have HOR : Hid (∀ W, Below w.heap.size w W → Calls Tryz.prog 127 #[.slice ao n cap] W fun e w' => ∃ v', e = .returned v' ∧ ownsR w' W.heap.size 3 v' (orderL ts) ∧ Below W.heap.size W w') := HOR0.out (by omega)
            have HTK : Hid (∀ W i t, Below w.heap.size w W → ts[i]? = some t → Calls Tryz.prog 126 #[.slice ao n cap, .int .i64 (i : Nat)] W fun e w' => e = .returned (.bool (taskB ts i t)) ∧ Below W.heap.size W w') := HTK0.out (by omega)
            clear HOR0 HTK0
            have HF : Hid (R = (qje ts 0 ts && decide (OL = n))) := HD2.out
            clear h3 HD2
            go_wp2_with (first | (go_at_call 102; refine (HNA.out _).mono ?_; rintro e w3 ⟨rfl, hw⟩; have hw2 := hw.symm; subst hw2) | (go_at_call 24; with_reducible refine (I1.out _).mono ?_; rintro e w3 ⟨rfl, hw⟩; have hw2 := hw.symm; subst hw2) | (go_at_call 24; with_reducible refine (I2.out _).mono ?_; rintro e w3 ⟨rfl, hw⟩; have hw2 := hw.symm; subst hw2) | (go_at_call 24; with_reducible refine (I3.out _).mono ?_; rintro e w3 ⟨rfl, hw⟩; have hw2 := hw.symm; subst hw2))
            clear I1 I2 I3 HNA
            go_loopw [7] (fun kv wr => ∃ k : Nat, k ≤ n ∧ kv = .int .i64 k ∧ Hid (R = (qje ts k (ts.drop k) && decide (OL = n))) ∧ Below w2.heap.size w2 wr) (fun kv _ => n - (intOf kv).toNat)
            case atStart => exact ⟨0, Nat.zero_le _, rfl, (by rw [List.drop_zero]; exact HF), Below.refl _ _⟩
            case round =>
              obtain ⟨k, hk, rfl, HE, hbel⟩ := hrel
              have z5 := (hbel.cell hg2).trans y5
              have BR := Below.on B2 hbel
              by_cases hkn : k < n
              · obtain ⟨t, ht⟩ : ∃ t, ts[k]? = some t := ⟨_, List.getElem?_eq_getElem (by rw [HN.out]; exact hkn)⟩
                have H1 := HTK.out wr k t BR ht
                have HE2 : Hid (R = ((taskB ts k t && qje ts (k + 1) (ts.drop (k + 1))) && decide (OL = n))) := by show R = _; rw [HE.out, tasksB_at ht]
                clear ht
                cases hq : taskB ts k t with
                | false =>
                  rw [hq] at H1 HE2
                  have HF2 : Hid (R = false) := HE2.out
                  clear hq
                  go_wp2_with (go_at_call 126; refine H1.mono ?_; rintro e w3 ⟨rfl, hb3⟩)
                  go_ret
                  exact ⟨by rw [HF2.out]; rfl, Below.on BR hb3⟩
                | true =>
                  rw [hq] at H1 HE2
                  have HF2 : Hid (R = (qje ts (k + 1) (ts.drop (k + 1)) && decide (OL = n))) := HE2.out
                  clear hq
                  go_wp2_with (go_at_call 126; refine H1.mono ?_; rintro e w3 ⟨rfl, hb3⟩)
                  go_roundw
                  case rel => exact ⟨k + 1, by omega, by go_num, HF2, Below.on hbel hb3⟩
                  case measure => simp [intOf]; omega
              · have HF2 : Hid (R = decide (OL = n)) := HE.out.trans (by rw [tasksB_end (by rw [HN.out]; omega)]; rfl)
                have hol : OL ≤ 100000 := by have := ordL_len ts ts.length; rw [← HOL.out]; show (ordL ts ts.length).length ≤ _; rw [HN.out] at this ⊢; omega
                go_wp2
                have K5 := Below.cellOf (B := wr.heap.size) (World.block_lt_of_cell? _ _ z5) z5
                go_region_held3 (fun w' => Below wr.heap.size wr w') ((first | exact (Below.refl _ _).drew | exact hS0)) ((go_at_call 127; refine (HOR.out _ (Below.on BR (by assumption))).mono ?_; rintro e w4 ⟨v', rfl, ho, hb4⟩; have hS0 := keep_on (B := wr.heap.size) (W := wr) hb4 (by assumption) (Nat.le_refl _); obtain ⟨oo, oc, rfl⟩ := ho.slice; rw [HOL.out] at *))
                all_goals
                  go_wp2
                  go_ret
                  exact ⟨by rw [HF2.out, ← natbeq]; rfl, Below.on BR hS0⟩
end Go.Proofs.YtpjpheicldegkaaGreatDoor
