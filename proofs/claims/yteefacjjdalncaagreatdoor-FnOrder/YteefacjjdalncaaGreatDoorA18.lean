/-
  Whether a task of a plan is right, as the specification tells it: the walk. Whether a plan is right, as the specification tells it: the walk. The text of a rule that is written in any way, as the program makes it: the walk; the tables that the program's walks read.
-/
import Derived.Test.YteefacjjdalncaaGreatDoorA17
import Derived.Test.YteefacjjdalncaaGreatDoorA11
import Derived.Test.YteefacjjdalncaaGreatDoorA14
import Derived.Test.YteefacjjdalncaaGreatDoorA16
namespace Go.Proofs.YteefacjjdalncaaGreatDoor
open Go Go.RowKit

/-- One text ahead of another. -/
def lessB (a b : ByteArray) : Bool := Op.bytesLess a.toList b.toList
/-- What a task is after. -/
def afterB (ts : List Ta) (nm : ByteArray) : Option ByteArray → List ByteArray → Bool
  | _, [] => true
  | p, s :: r => (decide (0 ≤ atN ts s) && (!decide (s = nm) && p.all fun x => lessB x s)) && afterB ts nm (some s) r
/-- A right task. -/
def taskB (ts : List Ta) (i : Nat) (t : Ta) : Bool := nameB t.name && (decide (atN ts t.name = i) && (!decide (poolN t.pool = 0) && (decide (0 ≤ t.ret ∧ t.ret ≤ 3) && afterB ts t.name none t.after)))
theorem afterB_at {ts : List Ta} {nm : ByteArray} {l : List ByteArray} {k : Nat} {p : Option ByteArray} {s : ByteArray} (h : l[k]? = some s) : afterB ts nm p (l.drop k) = ((decide (0 ≤ atN ts s) && (!decide (s = nm) && p.all fun x => lessB x s)) && afterB ts nm (some s) (l.drop (k + 1))) := by
  obtain ⟨hk, rfl⟩ := List.getElem?_eq_some_iff.1 h
  rw [List.drop_eq_getElem_cons hk]
  rfl
theorem afterB_end {ts : List Ta} {nm : ByteArray} {l : List ByteArray} {k : Nat} {p : Option ByteArray} (h : k = l.length) : afterB ts nm p (l.drop k) = true := by
  subst h
  rw [List.drop_length]
  rfl
theorem task_1 {ts : List Ta} {i : Nat} {t : Ta} (h : nameB t.name = false) : taskB ts i t = false := by unfold taskB; rw [h]; rfl
theorem task_2 {ts : List Ta} {i : Nat} {t : Ta} (h : ¬ atN ts t.name = i) : taskB ts i t = false := by unfold taskB; rw [decide_eq_false h]; simp
theorem task_3 {ts : List Ta} {i : Nat} {t : Ta} (h : poolN t.pool = 0) : taskB ts i t = false := by unfold taskB; rw [decide_eq_true h]; simp
theorem task_4 {ts : List Ta} {i : Nat} {t : Ta} (h : ¬ (0 ≤ t.ret ∧ t.ret ≤ 3)) : taskB ts i t = false := by unfold taskB; rw [decide_eq_false h]; simp
theorem task_5 {ts : List Ta} {i : Nat} {t : Ta} (h1 : nameB t.name = true) (h2 : atN ts t.name = i) (h3 : ¬ poolN t.pool = 0) (h4 : 0 ≤ t.ret ∧ t.ret ≤ 3) : taskB ts i t = afterB ts t.name none t.after := by unfold taskB; rw [h1, decide_eq_true h2, decide_eq_false h3, decide_eq_true h4]; rfl

set_option maxRecDepth 10000 in
set_option maxHeartbeats 4000000 in
theorem l12Task_any {w : World} {v : Value} {ts : List Ta} {i : Nat} {t : Ta} (hr : Tasks w v ts) (hn : ts.length ≤ 100000) (hi : ts[i]? = some t) (ht : t.after.length ≤ 1048576 ∧ t.name.size ≤ 9223372036854775807) :
    Calls Tryz.prog 59 #[v, .int .i64 i] w fun e w' => e = .returned (.bool (taskB ts i t)) ∧ Below w.heap.size w w' := by
  obtain ⟨ao, cap, rfl⟩ := hr.slice
  have HR : Hid (Tasks w (.slice ao ts.length cap) ts) := hr
  have hil : i < ts.length := (List.getElem?_eq_some_iff.1 hi).1
  obtain ⟨n, HN⟩ : ∃ n, Hid (ts.length = n) := ⟨_, rfl⟩
  rw [HN.out] at hn HR hil ⊢
  have HAT : Hid (∀ W s, Below w.heap.size w W → Calls Tryz.prog 109 #[.slice ao n cap, .string s] W fun e w' => e = .returned (.int .i64 (atN ts s)) ∧ w' = W) := fun W s hb => l12At_any s (HR.out.below hb) (by rw [HN.out]; omega)
  obtain ⟨gb, ob, av, hao, hgb, c0, c1, c2, c3, c4, HA0⟩ := hr.at hi
  clear hr
  obtain ⟨fo, fc, rfl, -⟩ := id HA0
  have HA : Hid (Reads w (.slice fo t.after.length fc) t.after) := HA0
  clear HA0
  obtain ⟨m, HMM⟩ : ∃ m, Hid (t.after.length = m) := ⟨_, rfl⟩
  have hm : m ≤ 1048576 := by rw [← HMM.out]; exact ht.1
  rw [HMM.out] at c4 HA
  have HNA : Hid (∀ w, Calls Tryz.prog 24 #[.string t.name] w fun e w' => e = .returned (.bool (nameB t.name)) ∧ w' = w) := fun w => nameOk_any t.name w ht.2
  have HPO : Hid (∀ w, Calls Tryz.prog 26 #[.string t.pool] w fun e w' => e = .returned (.int .i64 (poolN t.pool)) ∧ w' = w) := fun w => poolSize_any t.pool w
  have HAN := HAT.out
  have HF1 : Hid (nameB t.name = false → taskB ts i t = false) := task_1
  have HF2 : Hid (¬ atN ts t.name = i → taskB ts i t = false) := task_2
  have HF3 : Hid (poolN t.pool = 0 → taskB ts i t = false) := task_3
  have HF4 : Hid (¬ (0 ≤ t.ret ∧ t.ret ≤ 3) → taskB ts i t = false) := task_4
  have HF5 : Hid (nameB t.name = true → atN ts t.name = i → ¬ poolN t.pool = 0 → (0 ≤ t.ret ∧ t.ret ≤ 3) → taskB ts i t = afterB ts t.name none t.after) := task_5
  obtain ⟨nm, po, rt, pa, af⟩ := t
  simp only at *
  have HAN : Hid (∀ W, Below w.heap.size w W → Calls Tryz.prog 109 #[.slice ao n cap, .string nm] W fun e w' => e = .returned (.int .i64 (atN ts nm)) ∧ w' = W) := fun W hb => HAT.out W nm hb
  obtain ⟨q, HQ⟩ : ∃ q, Hid (nameB nm = q) := ⟨_, rfl⟩
  obtain ⟨A, HAA⟩ : ∃ A, Hid (atN ts nm = A) := ⟨_, rfl⟩
  obtain ⟨P, HP⟩ : ∃ P, Hid (poolN po = P) := ⟨_, rfl⟩
  obtain ⟨R, HRR⟩ : ∃ R, Hid (taskB ts i ⟨nm, po, rt, pa, af⟩ = R) := ⟨_, rfl⟩
  rw [HQ.out] at HNA HF1 HF5
  rw [HAA.out] at HAN HF2 HF5
  rw [HP.out] at HPO HF3 HF5
  rw [HRR.out] at HF1 HF2 HF3 HF4 HF5 ⊢
  clear HQ HAA HP HRR hi ht
  subst hao
  have HI : Hid (∀ w, Calls Tryz.prog 58 #[.int .i64 rt, .int .i64 0, .int .i64 3] w fun e w' => e = .returned (.bool (decide (0 ≤ rt) && decide (rt ≤ 3))) ∧ w' = w) := fun w => in_any rt 0 3 w
  cases q with
  | false =>
    have HF := HF1.out rfl
    go_enter Tryz.func59, Tryz.ntmps59
    go_wp2_with (first | (go_at_call 24; refine (HNA.out _).mono ?_; rintro e w1 ⟨rfl, hw⟩; have hw2 := hw.symm; subst hw2) | (go_at_call 109; refine (HAN.out _ (ba (Below.refl _ _) _)).mono ?_; rintro e w1 ⟨rfl, hw⟩; have hw2 := hw.symm; subst hw2) | (go_at_call 26; refine (HPO.out _).mono ?_; rintro e w1 ⟨rfl, hw⟩; have hw2 := hw.symm; subst hw2) | (go_at_call 58; refine (HI.out _).mono ?_; rintro e w1 ⟨rfl, hw⟩; have hw2 := hw.symm; subst hw2))
    go_ret
    exact ⟨by rw [HF]; rfl, ba (Below.refl _ _) _⟩
  | true =>
    by_cases hA : A = (i : Int)
    case neg =>
      have HF := HF2.out hA
      go_enter Tryz.func59, Tryz.ntmps59
      go_wp2_with (first | (go_at_call 24; refine (HNA.out _).mono ?_; rintro e w1 ⟨rfl, hw⟩; have hw2 := hw.symm; subst hw2) | (go_at_call 109; refine (HAN.out _ (ba (Below.refl _ _) _)).mono ?_; rintro e w1 ⟨rfl, hw⟩; have hw2 := hw.symm; subst hw2) | (go_at_call 26; refine (HPO.out _).mono ?_; rintro e w1 ⟨rfl, hw⟩; have hw2 := hw.symm; subst hw2) | (go_at_call 58; refine (HI.out _).mono ?_; rintro e w1 ⟨rfl, hw⟩; have hw2 := hw.symm; subst hw2))
      go_ret
      exact ⟨by rw [HF]; rfl, ba (Below.refl _ _) _⟩
    by_cases hP : P = 0
    case pos =>
      have HF := HF3.out hP
      subst hP hA
      go_enter Tryz.func59, Tryz.ntmps59
      go_wp2_with (first | (go_at_call 24; refine (HNA.out _).mono ?_; rintro e w1 ⟨rfl, hw⟩; have hw2 := hw.symm; subst hw2) | (go_at_call 109; refine (HAN.out _ (ba (Below.refl _ _) _)).mono ?_; rintro e w1 ⟨rfl, hw⟩; have hw2 := hw.symm; subst hw2) | (go_at_call 26; refine (HPO.out _).mono ?_; rintro e w1 ⟨rfl, hw⟩; have hw2 := hw.symm; subst hw2) | (go_at_call 58; refine (HI.out _).mono ?_; rintro e w1 ⟨rfl, hw⟩; have hw2 := hw.symm; subst hw2))
      go_ret
      exact ⟨by rw [HF]; rfl, ba (Below.refl _ _) _⟩
    by_cases hR : 0 ≤ rt ∧ rt ≤ 3
    case neg =>
      have HF := HF4.out hR
      have HI2 : Hid (∀ w, Calls Tryz.prog 58 #[.int .i64 rt, .int .i64 0, .int .i64 3] w fun e w' => e = .returned (.bool false) ∧ w' = w) := by
        intro w; have := HI.out w; rwa [← Bool.decide_and, decide_eq_false hR] at this
      subst hA
      go_enter Tryz.func59, Tryz.ntmps59
      go_wp2_with (first | (go_at_call 24; refine (HNA.out _).mono ?_; rintro e w1 ⟨rfl, hw⟩; have hw2 := hw.symm; subst hw2) | (go_at_call 109; refine (HAN.out _ (ba (Below.refl _ _) _)).mono ?_; rintro e w1 ⟨rfl, hw⟩; have hw2 := hw.symm; subst hw2) | (go_at_call 26; refine (HPO.out _).mono ?_; rintro e w1 ⟨rfl, hw⟩; have hw2 := hw.symm; subst hw2) | (go_at_call 58; refine (HI2.out _).mono ?_; rintro e w1 ⟨rfl, hw⟩; have hw2 := hw.symm; subst hw2))
      go_ret
      exact ⟨by rw [HF]; rfl, ba (Below.refl _ _) _⟩
    have HF := HF5.out rfl hA hP hR
    have HFH : Hid (R = afterB ts nm none af) := HF
    have HI2 : Hid (∀ w, Calls Tryz.prog 58 #[.int .i64 rt, .int .i64 0, .int .i64 3] w fun e w' => e = .returned (.bool true) ∧ w' = w) := by
      intro w; have := HI.out w; rwa [← Bool.decide_and, decide_eq_true hR] at this
    clear HF HF1 HF2 HF3 HF4 HF5 HI
    subst hA
    go_enter Tryz.func59, Tryz.ntmps59
    go_wp2_with (first | (go_at_call 24; refine (HNA.out _).mono ?_; rintro e w1 ⟨rfl, hw⟩; have hw2 := hw.symm; subst hw2) | (go_at_call 109; refine (HAN.out _ (ba (Below.refl _ _) _)).mono ?_; rintro e w1 ⟨rfl, hw⟩; have hw2 := hw.symm; subst hw2) | (go_at_call 26; refine (HPO.out _).mono ?_; rintro e w1 ⟨rfl, hw⟩; have hw2 := hw.symm; subst hw2) | (go_at_call 58; refine (HI2.out _).mono ?_; rintro e w1 ⟨rfl, hw⟩; have hw2 := hw.symm; subst hw2))
    obtain ⟨W, hW⟩ : ∃ W, w.alloc (.cells #[.string nm, .string po, .int .i64 rt, .bool pa, .slice fo m fc] 45) = W := ⟨_, rfl⟩
    have BW : Below w.heap.size w W := by rw [← hW]; exact ba (Below.refl _ _) _
    have x0 : W.cell? ⟨w.heap.size, 0, none⟩ = some (.string nm) := by rw [← hW]; simp [go_sem]
    have x4 : W.cell? ⟨w.heap.size, 4, none⟩ = some (.slice fo m fc) := by rw [← hW]; simp [go_sem]
    rw [hW]
    rw [beq_eq_false_iff_ne.2 hP]
    clear hW c0 c1 c2 c3 c4 HNA HPO HAN HI2
    go_loopw [6] (fun kv wr => ∃ (k : Nat) (p : Option ByteArray), k ≤ m ∧ kv = .int .i64 k ∧ Hid (R = afterB ts nm p (af.drop k) ∧ (k = 0 → p = none) ∧ ∀ j, k = j + 1 → ∃ a, p = some a ∧ af[j]? = some a) ∧ Below W.heap.size W wr) (fun kv _ => m - (intOf kv).toNat)
    case atStart => exact ⟨0, none, Nat.zero_le _, rfl, ⟨by rw [List.drop_zero]; exact HFH.out, fun _ => rfl, fun j hj => by omega⟩, Below.refl _ _⟩
    case round =>
      obtain ⟨k, p, hk, rfl, HE, hbel⟩ := hrel
      have y0 := cell_up hbel x0
      have y4 := cell_up hbel x4
      have BR := Below.on BW hbel
      by_cases hkm : k < m
      · obtain ⟨s, hs⟩ : ∃ s, af[k]? = some s := ⟨_, List.getElem?_eq_getElem (by rw [HMM.out]; exact hkm)⟩
        have HS : Hid (af[k]? = some s) := hs
        obtain ⟨A, HAA⟩ : ∃ A, Hid (atN ts s = A) := ⟨_, rfl⟩
        have HX : Hid (R = ((decide (0 ≤ A) && (!decide (s = nm) && p.all fun x => lessB x s)) && afterB ts nm (some s) (af.drop (k + 1)))) := by
          show R = _
          rw [HE.out.1, afterB_at hs, HAA.out]
        have H1 : Hid (∀ x : Wd wr, Calls Tryz.prog 109 #[.slice (some ⟨gb, ob, none⟩) n cap, .string s] x.at' fun e w' => e = .returned (.int .i64 A) ∧ w' = x.at') := by
          intro x; rw [← HAA.out]; exact HAT.out x.at' s (Below.on BR x.ok)
        obtain ⟨sb, so, rfl, hsb, cs⟩ := text_at (HA.out.below BR) hs
        clear hs
        have q0 := Wd.cell y0
        have q4 := Wd.cell y4
        have qs := Wd.cell cs
        by_cases hA : A < 0
        · have HF : Hid (R = false) := HX.out.trans (by rw [decide_eq_false (by omega)]; rfl)
          have g0 : decide (A < 0) = true := decide_eq_true hA
          go_wp2
          refine wp_region_wd (by kernel_rfl) (by kernel_rfl) ?_
          repeat (go_big_quiet_step ((go_at_call 109; refine calls_wd_same (v := .int .i64 A) ?_; with_reducible exact H1.out _)))
          refine wpQuiet_nil ?_
          rintro _ ⟨x, rfl⟩
          go_wp2
          go_ret
          exact ⟨by rw [HF.out]; rfl, Below.on BR x.ok⟩
        · have g0 : decide (A < 0) = false := decide_eq_false hA
          have g1 : decide (0 ≤ A) = true := decide_eq_true (by omega)
          by_cases hsn : s = nm
          · have HF : Hid (R = false) := HX.out.trans (by rw [g1, decide_eq_true hsn]; rfl)
            subst hsn
            go_wp2
            refine wp_region_wd (by kernel_rfl) (by kernel_rfl) ?_
            repeat (go_big_quiet_step ((go_at_call 109; refine calls_wd_same (v := .int .i64 A) ?_; with_reducible exact H1.out _)))
            refine wpQuiet_nil ?_
            rintro _ ⟨x, rfl⟩
            go_wp2
            go_ret
            exact ⟨by rw [HF.out]; rfl, Below.on BR x.ok⟩
          · have e1 := ne_list hsn
            rcases Nat.eq_zero_or_pos k with hk0 | hk0
            · have HF : Hid (R = afterB ts nm (some s) (af.drop (k + 1)) ∧ (k + 1 = 0 → some s = none) ∧ ∀ j, k + 1 = j + 1 → ∃ a, some s = some a ∧ af[j]? = some a) := by
                refine ⟨HX.out.trans ?_, fun h => by omega, fun j hj => ⟨s, rfl, by rw [← Nat.succ.inj hj]; exact HS.out⟩⟩
                rw [g1, decide_eq_false hsn, HE.out.2.1 hk0]
                rfl
              have hg0 : decide ((0 : Int) < (k : Int)) = false := decide_eq_false (by omega)
              have hg1 : decide (0 < k) = false := decide_eq_false (by omega)
              clear hk0
              go_wp2
              refine wp_region_wd (by kernel_rfl) (by kernel_rfl) ?_
              repeat (go_big_quiet_step ((go_at_call 109; refine calls_wd_same (v := .int .i64 A) ?_; with_reducible exact H1.out _)))
              refine wpQuiet_nil ?_
              rintro _ ⟨x, rfl⟩
              go_wp2
              go_roundw
              case rel => exact ⟨k + 1, some s, by omega, by go_num, HF, Below.on hbel x.ok⟩
              case measure => simp [intOf]; omega
            · obtain ⟨j, rfl⟩ : ∃ j, k = j + 1 := ⟨k - 1, by omega⟩
              obtain ⟨a, hpa, hp⟩ := HE.out.2.2 j rfl
              have HPA : Hid (p = some a) := hpa
              obtain ⟨b', o', hbo, -, cp⟩ := text_at (HA.out.below BR) hp
              clear hp hpa
              simp only [Option.some.injEq, Addr.mk.injEq, and_true] at hbo
              obtain ⟨rfl, rfl⟩ := hbo
              have qp := Wd.cell cp
              cases hlb : Op.bytesLess a.toList s.toList with
              | false =>
                have HF : Hid (R = false) := HX.out.trans (by rw [g1, decide_eq_false hsn, HPA.out]; simp [lessB, hlb])
                go_wp2
                refine wp_region_wd (by kernel_rfl) (by kernel_rfl) ?_
                repeat (go_big_quiet_step ((go_at_call 109; refine calls_wd_same (v := .int .i64 A) ?_; with_reducible exact H1.out _)))
                refine wpQuiet_nil ?_
                rintro _ ⟨x, rfl⟩
                go_wp2
                go_ret
                exact ⟨by rw [HF.out]; rfl, Below.on BR x.ok⟩
              | true =>
                have HF : Hid (R = afterB ts nm (some s) (af.drop (j + 1 + 1)) ∧ (j + 1 + 1 = 0 → some s = none) ∧ ∀ i, j + 1 + 1 = i + 1 → ∃ a, some s = some a ∧ af[i]? = some a) := by
                  refine ⟨HX.out.trans ?_, fun h => by omega, fun i hi => ⟨s, rfl, by rw [← Nat.succ.inj hi]; exact HS.out⟩⟩
                  rw [g1, decide_eq_false hsn, HPA.out]
                  simp [lessB, hlb]
                go_wp2
                refine wp_region_wd (by kernel_rfl) (by kernel_rfl) ?_
                repeat (go_big_quiet_step ((go_at_call 109; refine calls_wd_same (v := .int .i64 A) ?_; with_reducible exact H1.out _)))
                refine wpQuiet_nil ?_
                rintro _ ⟨x, rfl⟩
                go_wp2
                go_roundw
                case rel => exact ⟨j + 2, some s, by omega, by go_num, HF, Below.on hbel x.ok⟩
                case measure => simp [intOf]; omega
      · have HF : Hid (R = true) := HE.out.1.trans (afterB_end (by rw [HMM.out]; omega))
        go_wp2
        go_ret
        exact ⟨by rw [HF.out]; rfl, BR⟩
end Go.Proofs.YteefacjjdalncaaGreatDoor

namespace Go.Proofs.YteefacjjdalncaaGreatDoor
open Go Go.RowKit

/-- A plan, plain. -/
structure Dg where
  name : ByteArray
  cron : ByteArray
  fr : Int
  up : Int
  cu : Bool
  tasks : List Ta
def tasksB (ts : List Ta) : Nat → List Ta → Bool
  | _, [] => true
  | i, t :: r => taskB ts i t && tasksB ts (i + 1) r
theorem tasksB_at {ts : List Ta} {i : Nat} {t : Ta} (h : ts[i]? = some t) : tasksB ts i (ts.drop i) = (taskB ts i t && tasksB ts (i + 1) (ts.drop (i + 1))) := by
  obtain ⟨hk, rfl⟩ := List.getElem?_eq_some_iff.1 h
  rw [List.drop_eq_getElem_cons hk]
  rfl
theorem tasksB_end {ts : List Ta} {i : Nat} (h : i = ts.length) : tasksB ts i (ts.drop i) = true := by
  subst h
  rw [List.drop_length]
  rfl
/-- A rule's text, told again. -/
def againS (s : ByteArray) : ByteArray := cronX (pcN (pcO s) 0) (pcN (pcO s) 1) (pcN (pcO s) 2) (pcN (pcO s) 3) (pcN (pcO s) 4)
/-- A right plan. -/
def dagB (d : Dg) : Bool := nameB d.name && ((pcO d.cron).isSome && (decide (againS d.cron = d.cron) && (decide (0 ≤ d.up ∧ d.up ≤ 68374079) && (decide (0 ≤ d.fr ∧ d.fr ≤ d.up) && (decide (1 ≤ (d.tasks.length : Int) ∧ (d.tasks.length : Int) ≤ 4) && (tasksB d.tasks 0 d.tasks && decide ((orderL d.tasks).length = d.tasks.length)))))))
theorem fieldL_len (s : ByteArray) (lo hi : Int) (h : hi - lo + 1 ≤ 60) : (fieldL s lo hi).length ≤ 60 := by
  unfold fieldL picksO
  split
  · simp
  · have := picks_length ‹List Bool› lo (hi - lo + 1).toNat
    omega
theorem pcN_len (s : ByteArray) (k : Nat) : (pcN (pcO s) k).length ≤ 60 := by
  unfold pcN pcO
  split
  · unfold pcT
    split
    · split
      · rename_i x1 x2 x3 x4 x5 _ _
        have f1 := fieldL_len x1 0 59 (by decide)
        have f2 := fieldL_len x2 0 23 (by decide)
        have f3 := fieldL_len x3 1 31 (by decide)
        have f4 := fieldL_len x4 1 12 (by decide)
        have f5 := fieldL_len x5 0 6 (by decide)
        match k with
        | 0 => exact f1
        | 1 => exact f2
        | 2 => exact f3
        | 3 => exact f4
        | 4 => exact f5
        | k + 5 => simp
      · simp
    · simp
  · simp
theorem natbeq (a b : Nat) : ((a : Int) == (b : Int)) = decide (a = b) := by
  by_cases h : a = b
  · subst h; simp
  · rw [decide_eq_false h, beq_eq_false_iff_ne]; omega
/-- A plan as it lies there. -/
structure DagAt (w : World) (tv : Value) (d : Dg) : Prop where
  tasks : Tasks w tv d.tasks
  few : d.tasks.length ≤ 1048577
  small : ∀ t ∈ d.tasks, t.after.length ≤ 1048576 ∧ t.name.size ≤ 9223372036854775807
  cron : d.cron.size ≤ 1048576
  name : d.name.size ≤ 9223372036854775807
theorem DagAt.below {w w' : World} {tv : Value} {d : Dg} (h : DagAt w tv d) (hb : Below w.heap.size w w') : DagAt w' tv d := ⟨h.tasks.below hb, h.few, h.small, h.cron, h.name⟩

set_option maxRecDepth 10000 in
set_option maxHeartbeats 4000000 in
theorem dagOk_try (tv : Value) (nm cr : ByteArray) (fr up : Int) (cu : Bool) (ts : List Ta) (w : World) (hd : DagAt w tv ⟨nm, cr, fr, up, cu, ts⟩) :
    Calls Tryz.prog 15 #[.agg #[.string nm, .string cr, .int .i64 fr, .int .i64 up, .bool cu, tv]] w fun e w' => e = .returned (.bool (dagB ⟨nm, cr, fr, up, cu, ts⟩)) ∧ Below w.heap.size w w' := by
  have hn : ts.length ≤ 1048577 := hd.few
  obtain ⟨ao, cap, htv⟩ := hd.tasks.slice
  subst htv
  obtain ⟨n, HN⟩ : ∃ n, Hid (ts.length = n) := ⟨_, rfl⟩
  have HT : Hid (Tasks w (.slice ao ts.length cap) ts) := hd.tasks
  have HSM : Hid (∀ t ∈ ts, t.after.length ≤ 1048576 ∧ t.name.size ≤ 9223372036854775807) := hd.small
  have HDF : Hid (dagB ⟨nm, cr, fr, up, cu, ts⟩ = (nameB nm && ((pcO cr).isSome && (decide (againS cr = cr) && (decide (0 ≤ up ∧ up ≤ 68374079) && (decide (0 ≤ fr ∧ fr ≤ up) && (decide (1 ≤ (ts.length : Int) ∧ (ts.length : Int) ≤ 4) && (tasksB ts 0 ts && decide ((orderL ts).length = ts.length))))))))) := rfl
  show Calls Tryz.prog 15 #[.agg #[.string nm, .string cr, .int .i64 fr, .int .i64 up, .bool cu, .slice ao ts.length cap]] w _
  rw [HN.out] at hn HT HDF
  rw [HN.out]
  have HPC : Hid (∀ w, Calls Tryz.prog 56 #[.string cr] w (PcP cr w)) := fun w => parseCron_any cr w hd.cron
  have HNA : Hid (∀ w, Calls Tryz.prog 24 #[.string nm] w fun e w' => e = .returned (.bool (nameB nm)) ∧ w' = w) := fun w => nameOk_any nm w hd.name
  have HOR0 : Hid (n ≤ 4 → ∀ W, Below w.heap.size w W → Calls Tryz.prog 60 #[.slice ao n cap] W fun e w' => ∃ v', e = .returned v' ∧ ownsR w' W.heap.size 3 v' (orderL ts) ∧ Below W.heap.size W w') := fun h4 W hb => l12Order_any (HT.out.below hb) (by rw [HN.out]; omega) (fun t ht => (HSM.out t ht).1)
  have HTK0 : Hid (n ≤ 4 → ∀ W i t, Below w.heap.size w W → ts[i]? = some t → Calls Tryz.prog 59 #[.slice ao n cap, .int .i64 (i : Nat)] W fun e w' => e = .returned (.bool (taskB ts i t)) ∧ Below W.heap.size W w') := fun h4 W i t hb hi => l12Task_any (HT.out.below hb) (by rw [HN.out]; omega) hi (HSM.out t (List.mem_of_getElem? hi))
  clear hd
  obtain ⟨R, HR⟩ : ∃ R, Hid (dagB ⟨nm, cr, fr, up, cu, ts⟩ = R) := ⟨_, rfl⟩
  rw [HR.out] at HDF ⊢
  obtain ⟨q1, HQ1⟩ : ∃ q, Hid (nameB nm = q) := ⟨_, rfl⟩
  obtain ⟨q2, HQ2⟩ : ∃ q, Hid ((pcO cr).isSome = q) := ⟨_, rfl⟩
  obtain ⟨tx, HTX⟩ : ∃ x, Hid (againS cr = x) := ⟨_, rfl⟩
  obtain ⟨OL, HOL⟩ : ∃ x, Hid ((orderL ts).length = x) := ⟨_, rfl⟩
  rw [HQ1.out] at HNA HDF
  rw [HQ2.out, HTX.out, HOL.out] at HDF
  clear HR HQ1
  have I1 : Hid (∀ w, Calls Tryz.prog 58 #[.int .i64 up, .int .i64 0, .int .i64 68374079] w fun e w' => e = .returned (.bool (decide (0 ≤ up ∧ up ≤ 68374079))) ∧ w' = w) := by intro w; rw [Bool.decide_and]; exact in_any up 0 68374079 w
  have I2 : Hid (∀ w, Calls Tryz.prog 58 #[.int .i64 fr, .int .i64 0, .int .i64 up] w fun e w' => e = .returned (.bool (decide (0 ≤ fr ∧ fr ≤ up))) ∧ w' = w) := by intro w; rw [Bool.decide_and]; exact in_any fr 0 up w
  have I3 : Hid (∀ w, Calls Tryz.prog 58 #[.int .i64 n, .int .i64 1, .int .i64 4] w fun e w' => e = .returned (.bool (decide (1 ≤ (n : Int) ∧ (n : Int) ≤ 4))) ∧ w' = w) := by intro w; rw [Bool.decide_and]; exact in_any n 1 4 w
  go_enter Tryz.func15, Tryz.ntmps15
  go_wp2_with fail
  refine (HPC.out _).mono ?_
  rintro e w1 ⟨v0, v1, v2, v3, v4, rfl, o0, o1, o2, o3, o4, hb1⟩
  rw [HQ2.out]
  obtain ⟨a0, k0, rfl⟩ := o0.slice
  obtain ⟨a1, k1, rfl⟩ := o1.slice
  obtain ⟨a2, k2, rfl⟩ := o2.slice
  obtain ⟨a3, k3, rfl⟩ := o3.slice
  obtain ⟨a4, k4, rfl⟩ := o4.slice
  have hsz0 : w.heap.size < (w.alloc (.cells #[.string nm, .string cr, .int .i64 fr, .int .i64 up, .bool cu, .slice ao n cap] 26)).heap.size := by simp
  have B1 := below_new hb1
  have x0 : w1.cell? ⟨w.heap.size, 0, none⟩ = some (.string nm) := (hb1.cell (by simp)).trans (by simp [go_sem])
  have x1 : w1.cell? ⟨w.heap.size, 1, none⟩ = some (.string cr) := (hb1.cell (by simp)).trans (by simp [go_sem])
  have x2 : w1.cell? ⟨w.heap.size, 2, none⟩ = some (.int .i64 fr) := (hb1.cell (by simp)).trans (by simp [go_sem])
  have x3 : w1.cell? ⟨w.heap.size, 3, none⟩ = some (.int .i64 up) := (hb1.cell (by simp)).trans (by simp [go_sem])
  have x5 : w1.cell? ⟨w.heap.size, 5, none⟩ = some (.slice ao n cap) := (hb1.cell (by simp)).trans (by simp [go_sem])
  have hg : w.heap.size < w1.heap.size := World.block_lt_of_cell? _ _ x0
  have hX : Below w1.heap.size w1 (w1.alloc (.cells #[.slice a0 (pcN (pcO cr) 0).length k0, .slice a1 (pcN (pcO cr) 1).length k1, .slice a2 (pcN (pcO cr) 2).length k2, .slice a3 (pcN (pcO cr) 3).length k3, .slice a4 (pcN (pcO cr) 4).length k4] 71)) := ba (Below.refl _ _) _
  have HCT : Hid (Calls Tryz.prog 57 #[.agg #[.slice a0 (pcN (pcO cr) 0).length k0, .slice a1 (pcN (pcO cr) 1).length k1, .slice a2 (pcN (pcO cr) 2).length k2, .slice a3 (pcN (pcO cr) 3).length k3, .slice a4 (pcN (pcO cr) 4).length k4]] (w1.alloc (.cells #[.slice a0 (pcN (pcO cr) 0).length k0, .slice a1 (pcN (pcO cr) 1).length k1, .slice a2 (pcN (pcO cr) 2).length k2, .slice a3 (pcN (pcO cr) 3).length k3, .slice a4 (pcN (pcO cr) 4).length k4] 71)) fun x w' => x = .returned (.tuple #[.string tx, .bool (cronB (pcN (pcO cr) 0) (pcN (pcO cr) 1) (pcN (pcO cr) 2) (pcN (pcO cr) 3) (pcN (pcO cr) 4))]) ∧ Below (w1.alloc (.cells #[.slice a0 (pcN (pcO cr) 0).length k0, .slice a1 (pcN (pcO cr) 1).length k1, .slice a2 (pcN (pcO cr) 2).length k2, .slice a3 (pcN (pcO cr) 3).length k3, .slice a4 (pcN (pcO cr) 4).length k4] 71)).heap.size (w1.alloc (.cells #[.slice a0 (pcN (pcO cr) 0).length k0, .slice a1 (pcN (pcO cr) 1).length k1, .slice a2 (pcN (pcO cr) 2).length k2, .slice a3 (pcN (pcO cr) 3).length k3, .slice a4 (pcN (pcO cr) 4).length k4] 71)) w') := by
    have := cronText_any _ _ _ _ _ _ _ _ _ _ _ (o0.reads.below hX) (o1.reads.below hX) (o2.reads.below hX) (o3.reads.below hX) (o4.reads.below hX) (by have := pcN_len cr 0; omega) (by have := pcN_len cr 1; omega) (by have := pcN_len cr 2; omega) (by have := pcN_len cr 3; omega) (by have := pcN_len cr 4; omega)
    rw [show cronX _ _ _ _ _ = tx from HTX.out] at this
    exact this
  clear o0 o1 o2 o3 o4 hb1 hsz0 HPC
  generalize (pcN (pcO cr) 0).length = l0 at *
  generalize (pcN (pcO cr) 1).length = l1 at *
  generalize (pcN (pcO cr) 2).length = l2 at *
  generalize (pcN (pcO cr) 3).length = l3 at *
  generalize (pcN (pcO cr) 4).length = l4 at *
  go_wp2_with fail
  refine HCT.out.mono ?_
  rintro e w2 ⟨rfl, hb2⟩
  have hY := Below.on hX hb2
  have B2 := Below.on B1 hY
  have y0 := (hY.cell hg).trans x0
  have y1 := (hY.cell hg).trans x1
  have y2 := (hY.cell hg).trans x2
  have y3 := (hY.cell hg).trans x3
  have y5 := (hY.cell hg).trans x5
  have hg2 := Nat.lt_of_lt_of_le hg hY.size
  clear hX hb2 hY x0 x1 x2 x3 x5 HCT B1 hg
  cases q1 with
  | false =>
    have HF : Hid (R = false) := HDF.out
    go_wp2_with (first | (go_at_call 24; refine (HNA.out _).mono ?_; rintro e w3 ⟨rfl, hw⟩; have hw2 := hw.symm; subst hw2) | (go_at_call 58; with_reducible refine (I1.out _).mono ?_; rintro e w3 ⟨rfl, hw⟩; have hw2 := hw.symm; subst hw2) | (go_at_call 58; with_reducible refine (I2.out _).mono ?_; rintro e w3 ⟨rfl, hw⟩; have hw2 := hw.symm; subst hw2) | (go_at_call 58; with_reducible refine (I3.out _).mono ?_; rintro e w3 ⟨rfl, hw⟩; have hw2 := hw.symm; subst hw2))
    go_ret
    exact ⟨by rw [HF.out]; rfl, B2⟩
  | true =>
    cases q2 with
    | false =>
      have HF : Hid (R = false) := HDF.out
      go_wp2_with (first | (go_at_call 24; refine (HNA.out _).mono ?_; rintro e w3 ⟨rfl, hw⟩; have hw2 := hw.symm; subst hw2) | (go_at_call 58; with_reducible refine (I1.out _).mono ?_; rintro e w3 ⟨rfl, hw⟩; have hw2 := hw.symm; subst hw2) | (go_at_call 58; with_reducible refine (I2.out _).mono ?_; rintro e w3 ⟨rfl, hw⟩; have hw2 := hw.symm; subst hw2) | (go_at_call 58; with_reducible refine (I3.out _).mono ?_; rintro e w3 ⟨rfl, hw⟩; have hw2 := hw.symm; subst hw2))
      go_ret
      exact ⟨by rw [HF.out]; rfl, B2⟩
    | true =>
      by_cases ht : tx = cr
      case neg =>
        have HF : Hid (R = false) := HDF.out.trans (by rw [decide_eq_false ht]; rfl)
        have e1 := ne_list ht
        go_wp2_with (first | (go_at_call 24; refine (HNA.out _).mono ?_; rintro e w3 ⟨rfl, hw⟩; have hw2 := hw.symm; subst hw2) | (go_at_call 58; with_reducible refine (I1.out _).mono ?_; rintro e w3 ⟨rfl, hw⟩; have hw2 := hw.symm; subst hw2) | (go_at_call 58; with_reducible refine (I2.out _).mono ?_; rintro e w3 ⟨rfl, hw⟩; have hw2 := hw.symm; subst hw2) | (go_at_call 58; with_reducible refine (I3.out _).mono ?_; rintro e w3 ⟨rfl, hw⟩; have hw2 := hw.symm; subst hw2))
        go_ret
        exact ⟨by rw [HF.out]; rfl, B2⟩
      have HD2 : Hid (R = (decide (0 ≤ up ∧ up ≤ 68374079) && (decide (0 ≤ fr ∧ fr ≤ up) && (decide (1 ≤ (n : Int) ∧ (n : Int) ≤ 4) && (tasksB ts 0 ts && decide (OL = n)))))) := HDF.out.trans (by rw [decide_eq_true ht]; rfl)
      subst ht
      clear HDF
      cases h1 : decide (0 ≤ up ∧ up ≤ 68374079) with
      | false =>
        rw [h1] at I1 HD2
        have HF : Hid (R = false) := HD2.out
        clear h1
        go_wp2_with (first | (go_at_call 24; refine (HNA.out _).mono ?_; rintro e w3 ⟨rfl, hw⟩; have hw2 := hw.symm; subst hw2) | (go_at_call 58; with_reducible refine (I1.out _).mono ?_; rintro e w3 ⟨rfl, hw⟩; have hw2 := hw.symm; subst hw2) | (go_at_call 58; with_reducible refine (I2.out _).mono ?_; rintro e w3 ⟨rfl, hw⟩; have hw2 := hw.symm; subst hw2) | (go_at_call 58; with_reducible refine (I3.out _).mono ?_; rintro e w3 ⟨rfl, hw⟩; have hw2 := hw.symm; subst hw2))
        go_ret
        exact ⟨by rw [HF.out]; rfl, B2⟩
      | true =>
        rw [h1] at I1 HD2
        clear h1
        cases h2 : decide (0 ≤ fr ∧ fr ≤ up) with
        | false =>
          rw [h2] at I2 HD2
          have HF : Hid (R = false) := HD2.out
          clear h2
          go_wp2_with (first | (go_at_call 24; refine (HNA.out _).mono ?_; rintro e w3 ⟨rfl, hw⟩; have hw2 := hw.symm; subst hw2) | (go_at_call 58; with_reducible refine (I1.out _).mono ?_; rintro e w3 ⟨rfl, hw⟩; have hw2 := hw.symm; subst hw2) | (go_at_call 58; with_reducible refine (I2.out _).mono ?_; rintro e w3 ⟨rfl, hw⟩; have hw2 := hw.symm; subst hw2) | (go_at_call 58; with_reducible refine (I3.out _).mono ?_; rintro e w3 ⟨rfl, hw⟩; have hw2 := hw.symm; subst hw2))
          go_ret
          exact ⟨by rw [HF.out]; rfl, B2⟩
        | true =>
          rw [h2] at I2 HD2
          clear h2
          cases h3 : decide (1 ≤ (n : Int) ∧ (n : Int) ≤ 4) with
          | false =>
            rw [h3] at I3 HD2
            have HF : Hid (R = false) := HD2.out
            clear h3
            go_wp2_with (first | (go_at_call 24; refine (HNA.out _).mono ?_; rintro e w3 ⟨rfl, hw⟩; have hw2 := hw.symm; subst hw2) | (go_at_call 58; with_reducible refine (I1.out _).mono ?_; rintro e w3 ⟨rfl, hw⟩; have hw2 := hw.symm; subst hw2) | (go_at_call 58; with_reducible refine (I2.out _).mono ?_; rintro e w3 ⟨rfl, hw⟩; have hw2 := hw.symm; subst hw2) | (go_at_call 58; with_reducible refine (I3.out _).mono ?_; rintro e w3 ⟨rfl, hw⟩; have hw2 := hw.symm; subst hw2))
            go_ret
            exact ⟨by rw [HF.out]; rfl, B2⟩
          | true =>
            rw [h3] at I3 HD2
            have h4 := of_decide_eq_true h3
            have HOR : Hid (∀ W, Below w.heap.size w W → Calls Tryz.prog 60 #[.slice ao n cap] W fun e w' => ∃ v', e = .returned v' ∧ ownsR w' W.heap.size 3 v' (orderL ts) ∧ Below W.heap.size W w') := HOR0.out (by omega)
            have HTK : Hid (∀ W i t, Below w.heap.size w W → ts[i]? = some t → Calls Tryz.prog 59 #[.slice ao n cap, .int .i64 (i : Nat)] W fun e w' => e = .returned (.bool (taskB ts i t)) ∧ Below W.heap.size W w') := HTK0.out (by omega)
            clear HOR0 HTK0
            have HF : Hid (R = (tasksB ts 0 ts && decide (OL = n))) := HD2.out
            clear h3 HD2
            go_wp2_with (first | (go_at_call 24; refine (HNA.out _).mono ?_; rintro e w3 ⟨rfl, hw⟩; have hw2 := hw.symm; subst hw2) | (go_at_call 58; with_reducible refine (I1.out _).mono ?_; rintro e w3 ⟨rfl, hw⟩; have hw2 := hw.symm; subst hw2) | (go_at_call 58; with_reducible refine (I2.out _).mono ?_; rintro e w3 ⟨rfl, hw⟩; have hw2 := hw.symm; subst hw2) | (go_at_call 58; with_reducible refine (I3.out _).mono ?_; rintro e w3 ⟨rfl, hw⟩; have hw2 := hw.symm; subst hw2))
            clear I1 I2 I3 HNA
            go_loopw [7] (fun kv wr => ∃ k : Nat, k ≤ n ∧ kv = .int .i64 k ∧ Hid (R = (tasksB ts k (ts.drop k) && decide (OL = n))) ∧ Below w2.heap.size w2 wr) (fun kv _ => n - (intOf kv).toNat)
            case atStart => exact ⟨0, Nat.zero_le _, rfl, (by rw [List.drop_zero]; exact HF), Below.refl _ _⟩
            case round =>
              obtain ⟨k, hk, rfl, HE, hbel⟩ := hrel
              have z5 := (hbel.cell hg2).trans y5
              have BR := Below.on B2 hbel
              by_cases hkn : k < n
              · obtain ⟨t, ht⟩ : ∃ t, ts[k]? = some t := ⟨_, List.getElem?_eq_getElem (by rw [HN.out]; exact hkn)⟩
                have H1 := HTK.out wr k t BR ht
                have HE2 : Hid (R = ((taskB ts k t && tasksB ts (k + 1) (ts.drop (k + 1))) && decide (OL = n))) := by show R = _; rw [HE.out, tasksB_at ht]
                clear ht
                cases hq : taskB ts k t with
                | false =>
                  rw [hq] at H1 HE2
                  have HF2 : Hid (R = false) := HE2.out
                  clear hq
                  go_wp2_with (go_at_call 59; refine H1.mono ?_; rintro e w3 ⟨rfl, hb3⟩)
                  go_ret
                  exact ⟨by rw [HF2.out]; rfl, Below.on BR hb3⟩
                | true =>
                  rw [hq] at H1 HE2
                  have HF2 : Hid (R = (tasksB ts (k + 1) (ts.drop (k + 1)) && decide (OL = n))) := HE2.out
                  clear hq
                  go_wp2_with (go_at_call 59; refine H1.mono ?_; rintro e w3 ⟨rfl, hb3⟩)
                  go_roundw
                  case rel => exact ⟨k + 1, by omega, by go_num, HF2, Below.on hbel hb3⟩
                  case measure => simp [intOf]; omega
              · have HF2 : Hid (R = decide (OL = n)) := HE.out.trans (by rw [tasksB_end (by rw [HN.out]; omega)]; rfl)
                have hol : OL ≤ 100000 := by have := ordL_len ts ts.length; rw [← HOL.out]; show (ordL ts ts.length).length ≤ _; rw [HN.out] at this ⊢; omega
                go_wp2
                have K5 := Below.cellOf (B := wr.heap.size) (World.block_lt_of_cell? _ _ z5) z5
                go_region_held3 (fun w' => Below wr.heap.size wr w') ((first | exact (Below.refl _ _).drew | exact hS0)) ((go_at_call 60; refine (HOR.out _ (Below.on BR (by assumption))).mono ?_; rintro e w4 ⟨v', rfl, ho, hb4⟩; have hS0 := keep_on (B := wr.heap.size) (W := wr) hb4 (by assumption) (Nat.le_refl _); obtain ⟨oo, oc, rfl⟩ := ho.slice; rw [HOL.out] at *))
                all_goals
                  go_wp2
                  go_ret
                  exact ⟨by rw [HF2.out, ← natbeq]; rfl, Below.on BR hS0⟩
end Go.Proofs.YteefacjjdalncaaGreatDoor

namespace Go.Proofs.YteefacjjdalncaaGreatDoor
open Go Go.RowKit

/-- The tables that are read. -/
structure Gl (w : World) : Prop where
  rch : RchIs w
  max : MaxIs w
  space : SpaceIs w
  pow : PowIs w
theorem Gl.up {w W : World} (h : Gl w) (hb : Below w.heap.size w W) : Gl W := ⟨h.rch.up hb, h.max.up hb, h.space.below hb, h.pow.below hb⟩
theorem again_ok (s : ByteArray) : cronB (pcN (pcO s) 0) (pcN (pcO s) 1) (pcN (pcO s) 2) (pcN (pcO s) 3) (pcN (pcO s) 4) = (pcO s).isSome := by
  cases h : pcO s with
  | none => rfl
  | some l =>
    obtain ⟨a, b, c, d, e, rfl, hq⟩ := rule_right h
    exact hq
theorem pcn_len (s : ByteArray) (k : Nat) : (pcN (pcO s) k).length ≤ 1048577 := Nat.le_trans (pcN_len s k) (by decide)
set_option maxRecDepth 10000 in
set_option maxHeartbeats 1000000 in
theorem cronTextOf_any (s : ByteArray) (w : World) (hs : s.size ≤ 1048576) (hg : Gl w) :
    Calls Tryz.prog 61 #[.string s] w fun e w' => e = .returned (.tuple #[.string (againS s), .bool (pcO s).isSome]) ∧ Below w.heap.size w w' := by
  have HP : Hid (Calls Tryz.prog 111 #[.string s] w (PcI s w)) := implParse_any s w hs hg.rch hg.max hg.space
  have HG : Hid (∀ W, Below w.heap.size w W → Gl W) := fun W hb => hg.up hb
  clear hs hg
  go_enter Tryz.func61, Tryz.ntmps61
  go_wp2_with fail
  refine HP.out.mono ?_
  rintro e w1 ⟨v0, v1, v2, v3, v4, rfl, o0, o1, o2, o3, o4, hb1, _⟩
  obtain ⟨a0, l0, k0, rfl⟩ := o0.slice3
  obtain ⟨a1, l1, k1, rfl⟩ := o1.slice3
  obtain ⟨a2, l2, k2, rfl⟩ := o2.slice3
  obtain ⟨a3, l3, k3, rfl⟩ := o3.slice3
  obtain ⟨a4, l4, k4, rfl⟩ := o4.slice3
  have HT : Hid (∀ W, Below w1.heap.size w1 W → Calls Tryz.prog 112 #[.agg #[.slice a0 l0 k0, .slice a1 l1 k1, .slice a2 l2 k2, .slice a3 l3 k3, .slice a4 l4 k4]] W fun x w' => x = .returned (.tuple #[.string (againS s), .bool (pcO s).isSome]) ∧ Below W.heap.size W w') := by
    intro W hb
    have := implText_any _ _ _ _ _ _ _ _ _ _ W (o0.reads.below hb) (o1.reads.below hb) (o2.reads.below hb) (o3.reads.below hb) (o4.reads.below hb) (pcn_len s 0) (pcn_len s 1) (pcn_len s 2) (pcn_len s 3) (pcn_len s 4) (HG.out W (hb1.trans (hb.mono hb1.size))).rch (HG.out W (hb1.trans (hb.mono hb1.size))).pow
    rw [again_ok] at this
    exact this
  clear o0 o1 o2 o3 o4 HP HG
  obtain ⟨T, HTT⟩ : ∃ T, Hid (againS s = T) := ⟨_, rfl⟩
  obtain ⟨q, HQ⟩ : ∃ q, Hid ((pcO s).isSome = q) := ⟨_, rfl⟩
  rw [HTT.out, HQ.out] at HT
  rw [HQ.out]
  go_wp2_with (go_at_call 112; refine (HT.out _ (ba (Below.refl _ _) _)).mono ?_; rintro e w2 ⟨rfl, hb2⟩)
  go_ret2
  refine ⟨by rw [HTT.out, HQ.out]; rfl, ?_⟩
  exact hb1.trans ((below_new hb2).mono hb1.size)
end Go.Proofs.YteefacjjdalncaaGreatDoor
