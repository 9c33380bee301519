/-
  Whether a task of a plan is right, as the specification tells it: the walk.
-/
import Derived.Test.YtehkebdncfljmaaOrd
namespace Go.Proofs.Ytehkebdncfljmaa
open Go Go.RowKit

/-- One text ahead of another. -/
def lessB (a b : ByteArray) : Bool := Op.bytesLess a.toList b.toList
/-- What a task is after. -/
def afterB (ts : List Ta) (nm : ByteArray) : Option ByteArray → List ByteArray → Bool
  | _, [] => true
  | p, s :: r => (decide (0 ≤ atN ts s) && (!decide (s = nm) && p.all fun x => lessB x s)) && afterB ts nm (some s) r
/-- A right task. -/
def taskB (ts : List Ta) (i : Nat) (t : Ta) : Bool := nameB t.name && (decide (atN ts t.name = i) && (!decide (poolN t.pool = 0) && (decide (0 ≤ t.ret ∧ t.ret ≤ 3) && afterB ts t.name none t.after)))
theorem afterB_at {ts : List Ta} {nm : ByteArray} {l : List ByteArray} {k : Nat} {p : Option ByteArray} {s : ByteArray} (h : l[k]? = some s) : afterB ts nm p (l.drop k) = ((decide (0 ≤ atN ts s) && (!decide (s = nm) && p.all fun x => lessB x s)) && afterB ts nm (some s) (l.drop (k + 1))) := by
  obtain ⟨hk, rfl⟩ := List.getElem?_eq_some_iff.1 h
  rw [List.drop_eq_getElem_cons hk]
  rfl
theorem afterB_end {ts : List Ta} {nm : ByteArray} {l : List ByteArray} {k : Nat} {p : Option ByteArray} (h : k = l.length) : afterB ts nm p (l.drop k) = true := by
  subst h
  rw [List.drop_length]
  rfl
theorem task_1 {ts : List Ta} {i : Nat} {t : Ta} (h : nameB t.name = false) : taskB ts i t = false := by unfold taskB; rw [h]; rfl
theorem task_2 {ts : List Ta} {i : Nat} {t : Ta} (h : ¬ atN ts t.name = i) : taskB ts i t = false := by unfold taskB; rw [decide_eq_false h]; simp
theorem task_3 {ts : List Ta} {i : Nat} {t : Ta} (h : poolN t.pool = 0) : taskB ts i t = false := by unfold taskB; rw [decide_eq_true h]; simp
theorem task_4 {ts : List Ta} {i : Nat} {t : Ta} (h : ¬ (0 ≤ t.ret ∧ t.ret ≤ 3)) : taskB ts i t = false := by unfold taskB; rw [decide_eq_false h]; simp
theorem task_5 {ts : List Ta} {i : Nat} {t : Ta} (h1 : nameB t.name = true) (h2 : atN ts t.name = i) (h3 : ¬ poolN t.pool = 0) (h4 : 0 ≤ t.ret ∧ t.ret ≤ 3) : taskB ts i t = afterB ts t.name none t.after := by unfold taskB; rw [h1, decide_eq_true h2, decide_eq_false h3, decide_eq_true h4]; rfl

set_option maxRecDepth 10000 in
set_option maxHeartbeats 4000000 in
theorem l12Task_any {w : World} {v : Value} {ts : List Ta} {i : Nat} {t : Ta} (hr : Tasks w v ts) (hn : ts.length ≤ 100000) (hi : ts[i]? = some t) (ht : t.after.length ≤ 1048576 ∧ t.name.size ≤ 9223372036854775807) :
    Calls Try.prog 103 #[v, .int .i64 i] w fun e w' => e = .returned (.bool (taskB ts i t)) ∧ Below w.heap.size w w' := by
  obtain ⟨ao, cap, rfl⟩ := hr.slice
  have HR : Hid (Tasks w (.slice ao ts.length cap) ts) := hr
  have hil : i < ts.length := (List.getElem?_eq_some_iff.1 hi).1
  obtain ⟨n, HN⟩ : ∃ n, Hid (ts.length = n) := ⟨_, rfl⟩
  rw [HN.out] at hn HR hil ⊢
  have HAT : Hid (∀ W s, Below w.heap.size w W → Calls Try.prog 100 #[.slice ao n cap, .string s] W fun e w' => e = .returned (.int .i64 (atN ts s)) ∧ w' = W) := fun W s hb => l12At_any s (HR.out.below hb) (by rw [HN.out]; omega)
  obtain ⟨gb, ob, av, hao, hgb, c0, c1, c2, c3, c4, HA0⟩ := hr.at hi
  clear hr
  obtain ⟨fo, fc, rfl, -⟩ := id HA0
  have HA : Hid (Reads w (.slice fo t.after.length fc) t.after) := HA0
  clear HA0
  obtain ⟨m, HMM⟩ : ∃ m, Hid (t.after.length = m) := ⟨_, rfl⟩
  have hm : m ≤ 1048576 := by rw [← HMM.out]; exact ht.1
  rw [HMM.out] at c4 HA
  have HNA : Hid (∀ w, Calls Try.prog 79 #[.string t.name] w fun e w' => e = .returned (.bool (nameB t.name)) ∧ w' = w) := fun w => nameOk_any t.name w ht.2
  have HPO : Hid (∀ w, Calls Try.prog 101 #[.string t.pool] w fun e w' => e = .returned (.int .i64 (poolN t.pool)) ∧ w' = w) := fun w => poolSize_any t.pool w
  have HAN := HAT.out
  have HF1 : Hid (nameB t.name = false → taskB ts i t = false) := task_1
  have HF2 : Hid (¬ atN ts t.name = i → taskB ts i t = false) := task_2
  have HF3 : Hid (poolN t.pool = 0 → taskB ts i t = false) := task_3
  have HF4 : Hid (¬ (0 ≤ t.ret ∧ t.ret ≤ 3) → taskB ts i t = false) := task_4
  have HF5 : Hid (nameB t.name = true → atN ts t.name = i → ¬ poolN t.pool = 0 → (0 ≤ t.ret ∧ t.ret ≤ 3) → taskB ts i t = afterB ts t.name none t.after) := task_5
  obtain ⟨nm, po, rt, pa, af⟩ := t
  simp only at *
  have HAN : Hid (∀ W, Below w.heap.size w W → Calls Try.prog 100 #[.slice ao n cap, .string nm] W fun e w' => e = .returned (.int .i64 (atN ts nm)) ∧ w' = W) := fun W hb => HAT.out W nm hb
  obtain ⟨q, HQ⟩ : ∃ q, Hid (nameB nm = q) := ⟨_, rfl⟩
  obtain ⟨A, HAA⟩ : ∃ A, Hid (atN ts nm = A) := ⟨_, rfl⟩
  obtain ⟨P, HP⟩ : ∃ P, Hid (poolN po = P) := ⟨_, rfl⟩
  obtain ⟨R, HRR⟩ : ∃ R, Hid (taskB ts i ⟨nm, po, rt, pa, af⟩ = R) := ⟨_, rfl⟩
  rw [HQ.out] at HNA HF1 HF5
  rw [HAA.out] at HAN HF2 HF5
  rw [HP.out] at HPO HF3 HF5
  rw [HRR.out] at HF1 HF2 HF3 HF4 HF5 ⊢
  clear HQ HAA HP HRR hi ht
  subst hao
  have HI : Hid (∀ w, Calls Try.prog 38 #[.int .i64 rt, .int .i64 0, .int .i64 3] w fun e w' => e = .returned (.bool (decide (0 ≤ rt) && decide (rt ≤ 3))) ∧ w' = w) := fun w => in_any rt 0 3 w
  cases q with
  | false =>
    have HF := HF1.out rfl
    go_enter Try.func103, Try.ntmps103
    go_wp2_with (first | (go_at_call 79; refine (HNA.out _).mono ?_; rintro e w1 ⟨rfl, hw⟩; have hw2 := hw.symm; subst hw2) | (go_at_call 100; refine (HAN.out _ (ba (Below.refl _ _) _)).mono ?_; rintro e w1 ⟨rfl, hw⟩; have hw2 := hw.symm; subst hw2) | (go_at_call 101; refine (HPO.out _).mono ?_; rintro e w1 ⟨rfl, hw⟩; have hw2 := hw.symm; subst hw2) | (go_at_call 38; refine (HI.out _).mono ?_; rintro e w1 ⟨rfl, hw⟩; have hw2 := hw.symm; subst hw2))
    go_ret
    exact ⟨by rw [HF]; rfl, ba (Below.refl _ _) _⟩
  | true =>
    by_cases hA : A = (i : Int)
    case neg =>
      have HF := HF2.out hA
      go_enter Try.func103, Try.ntmps103
      go_wp2_with (first | (go_at_call 79; refine (HNA.out _).mono ?_; rintro e w1 ⟨rfl, hw⟩; have hw2 := hw.symm; subst hw2) | (go_at_call 100; refine (HAN.out _ (ba (Below.refl _ _) _)).mono ?_; rintro e w1 ⟨rfl, hw⟩; have hw2 := hw.symm; subst hw2) | (go_at_call 101; refine (HPO.out _).mono ?_; rintro e w1 ⟨rfl, hw⟩; have hw2 := hw.symm; subst hw2) | (go_at_call 38; refine (HI.out _).mono ?_; rintro e w1 ⟨rfl, hw⟩; have hw2 := hw.symm; subst hw2))
      go_ret
      exact ⟨by rw [HF]; rfl, ba (Below.refl _ _) _⟩
    by_cases hP : P = 0
    case pos =>
      have HF := HF3.out hP
      subst hP hA
      go_enter Try.func103, Try.ntmps103
      go_wp2_with (first | (go_at_call 79; refine (HNA.out _).mono ?_; rintro e w1 ⟨rfl, hw⟩; have hw2 := hw.symm; subst hw2) | (go_at_call 100; refine (HAN.out _ (ba (Below.refl _ _) _)).mono ?_; rintro e w1 ⟨rfl, hw⟩; have hw2 := hw.symm; subst hw2) | (go_at_call 101; refine (HPO.out _).mono ?_; rintro e w1 ⟨rfl, hw⟩; have hw2 := hw.symm; subst hw2) | (go_at_call 38; refine (HI.out _).mono ?_; rintro e w1 ⟨rfl, hw⟩; have hw2 := hw.symm; subst hw2))
      go_ret
      exact ⟨by rw [HF]; rfl, ba (Below.refl _ _) _⟩
    by_cases hR : 0 ≤ rt ∧ rt ≤ 3
    case neg =>
      have HF := HF4.out hR
      have HI2 : Hid (∀ w, Calls Try.prog 38 #[.int .i64 rt, .int .i64 0, .int .i64 3] w fun e w' => e = .returned (.bool false) ∧ w' = w) := by
        intro w; have := HI.out w; rwa [← Bool.decide_and, decide_eq_false hR] at this
      subst hA
      go_enter Try.func103, Try.ntmps103
      go_wp2_with (first | (go_at_call 79; refine (HNA.out _).mono ?_; rintro e w1 ⟨rfl, hw⟩; have hw2 := hw.symm; subst hw2) | (go_at_call 100; refine (HAN.out _ (ba (Below.refl _ _) _)).mono ?_; rintro e w1 ⟨rfl, hw⟩; have hw2 := hw.symm; subst hw2) | (go_at_call 101; refine (HPO.out _).mono ?_; rintro e w1 ⟨rfl, hw⟩; have hw2 := hw.symm; subst hw2) | (go_at_call 38; refine (HI2.out _).mono ?_; rintro e w1 ⟨rfl, hw⟩; have hw2 := hw.symm; subst hw2))
      go_ret
      exact ⟨by rw [HF]; rfl, ba (Below.refl _ _) _⟩
    have HF := HF5.out rfl hA hP hR
    have HFH : Hid (R = afterB ts nm none af) := HF
    have HI2 : Hid (∀ w, Calls Try.prog 38 #[.int .i64 rt, .int .i64 0, .int .i64 3] w fun e w' => e = .returned (.bool true) ∧ w' = w) := by
      intro w; have := HI.out w; rwa [← Bool.decide_and, decide_eq_true hR] at this
    clear HF HF1 HF2 HF3 HF4 HF5 HI
    subst hA
    go_enter Try.func103, Try.ntmps103
    go_wp2_with (first | (go_at_call 79; refine (HNA.out _).mono ?_; rintro e w1 ⟨rfl, hw⟩; have hw2 := hw.symm; subst hw2) | (go_at_call 100; refine (HAN.out _ (ba (Below.refl _ _) _)).mono ?_; rintro e w1 ⟨rfl, hw⟩; have hw2 := hw.symm; subst hw2) | (go_at_call 101; refine (HPO.out _).mono ?_; rintro e w1 ⟨rfl, hw⟩; have hw2 := hw.symm; subst hw2) | (go_at_call 38; refine (HI2.out _).mono ?_; rintro e w1 ⟨rfl, hw⟩; have hw2 := hw.symm; subst hw2))
    obtain ⟨W, hW⟩ : ∃ W, w.alloc (.cells #[.string nm, .string po, .int .i64 rt, .bool pa, .slice fo m fc] 144) = W := ⟨_, rfl⟩
    have BW : Below w.heap.size w W := by rw [← hW]; exact ba (Below.refl _ _) _
    have x0 : W.cell? ⟨w.heap.size, 0, none⟩ = some (.string nm) := by rw [← hW]; simp [go_sem]
    have x4 : W.cell? ⟨w.heap.size, 4, none⟩ = some (.slice fo m fc) := by rw [← hW]; simp [go_sem]
    rw [hW]
    rw [beq_eq_false_iff_ne.2 hP]
    clear hW c0 c1 c2 c3 c4 HNA HPO HAN HI2
    go_loopw [6] (fun kv wr => ∃ (k : Nat) (p : Option ByteArray), k ≤ m ∧ kv = .int .i64 k ∧ Hid (R = afterB ts nm p (af.drop k) ∧ (k = 0 → p = none) ∧ ∀ j, k = j + 1 → ∃ a, p = some a ∧ af[j]? = some a) ∧ Below W.heap.size W wr) (fun kv _ => m - (intOf kv).toNat)
    case atStart => exact ⟨0, none, Nat.zero_le _, rfl, ⟨by rw [List.drop_zero]; exact HFH.out, fun _ => rfl, fun j hj => by omega⟩, Below.refl _ _⟩
    case round =>
      obtain ⟨k, p, hk, rfl, HE, hbel⟩ := hrel
      have y0 := cell_up hbel x0
      have y4 := cell_up hbel x4
      have BR := Below.on BW hbel
      by_cases hkm : k < m
      · obtain ⟨s, hs⟩ : ∃ s, af[k]? = some s := ⟨_, List.getElem?_eq_getElem (by rw [HMM.out]; exact hkm)⟩
        have HS : Hid (af[k]? = some s) := hs
        obtain ⟨A, HAA⟩ : ∃ A, Hid (atN ts s = A) := ⟨_, rfl⟩
        have HX : Hid (R = ((decide (0 ≤ A) && (!decide (s = nm) && p.all fun x => lessB x s)) && afterB ts nm (some s) (af.drop (k + 1)))) := by
          show R = _
          rw [HE.out.1, afterB_at hs, HAA.out]
        have H1 : Hid (∀ x : Wd wr, Calls Try.prog 100 #[.slice (some ⟨gb, ob, none⟩) n cap, .string s] x.at' fun e w' => e = .returned (.int .i64 A) ∧ w' = x.at') := by
          intro x; rw [← HAA.out]; exact HAT.out x.at' s (Below.on BR x.ok)
        obtain ⟨sb, so, rfl, hsb, cs⟩ := text_at (HA.out.below BR) hs
        clear hs
        have q0 := Wd.cell y0
        have q4 := Wd.cell y4
        have qs := Wd.cell cs
        by_cases hA : A < 0
        · have HF : Hid (R = false) := HX.out.trans (by rw [decide_eq_false (by omega)]; rfl)
          have g0 : decide (A < 0) = true := decide_eq_true hA
          go_wp2
          refine wp_region_wd (by kernel_rfl) (by kernel_rfl) ?_
          repeat (go_big_quiet_step ((go_at_call 100; refine calls_wd_same (v := .int .i64 A) ?_; with_reducible exact H1.out _)))
          refine wpQuiet_nil ?_
          rintro _ ⟨x, rfl⟩
          go_wp2
          go_ret
          exact ⟨by rw [HF.out]; rfl, Below.on BR x.ok⟩
        · have g0 : decide (A < 0) = false := decide_eq_false hA
          have g1 : decide (0 ≤ A) = true := decide_eq_true (by omega)
          by_cases hsn : s = nm
          · have HF : Hid (R = false) := HX.out.trans (by rw [g1, decide_eq_true hsn]; rfl)
            subst hsn
            go_wp2
            refine wp_region_wd (by kernel_rfl) (by kernel_rfl) ?_
            repeat (go_big_quiet_step ((go_at_call 100; refine calls_wd_same (v := .int .i64 A) ?_; with_reducible exact H1.out _)))
            refine wpQuiet_nil ?_
            rintro _ ⟨x, rfl⟩
            go_wp2
            go_ret
            exact ⟨by rw [HF.out]; rfl, Below.on BR x.ok⟩
          · have e1 := ne_list hsn
            rcases Nat.eq_zero_or_pos k with hk0 | hk0
            · have HF : Hid (R = afterB ts nm (some s) (af.drop (k + 1)) ∧ (k + 1 = 0 → some s = none) ∧ ∀ j, k + 1 = j + 1 → ∃ a, some s = some a ∧ af[j]? = some a) := by
                refine ⟨HX.out.trans ?_, fun h => by omega, fun j hj => ⟨s, rfl, by rw [← Nat.succ.inj hj]; exact HS.out⟩⟩
                rw [g1, decide_eq_false hsn, HE.out.2.1 hk0]
                rfl
              have hg0 : decide ((0 : Int) < (k : Int)) = false := decide_eq_false (by omega)
              have hg1 : decide (0 < k) = false := decide_eq_false (by omega)
              clear hk0
              go_wp2
              refine wp_region_wd (by kernel_rfl) (by kernel_rfl) ?_
              repeat (go_big_quiet_step ((go_at_call 100; refine calls_wd_same (v := .int .i64 A) ?_; with_reducible exact H1.out _)))
              refine wpQuiet_nil ?_
              rintro _ ⟨x, rfl⟩
              go_wp2
              go_roundw
              case rel => exact ⟨k + 1, some s, by omega, by go_num, HF, Below.on hbel x.ok⟩
              case measure => simp [intOf]; omega
            · obtain ⟨j, rfl⟩ : ∃ j, k = j + 1 := ⟨k - 1, by omega⟩
              obtain ⟨a, hpa, hp⟩ := HE.out.2.2 j rfl
              have HPA : Hid (p = some a) := hpa
              obtain ⟨b', o', hbo, -, cp⟩ := text_at (HA.out.below BR) hp
              clear hp hpa
              simp only [Option.some.injEq, Addr.mk.injEq, and_true] at hbo
              obtain ⟨rfl, rfl⟩ := hbo
              have qp := Wd.cell cp
              cases hlb : Op.bytesLess a.toList s.toList with
              | false =>
                have HF : Hid (R = false) := HX.out.trans (by rw [g1, decide_eq_false hsn, HPA.out]; simp [lessB, hlb])
                go_wp2
                refine wp_region_wd (by kernel_rfl) (by kernel_rfl) ?_
                repeat (go_big_quiet_step ((go_at_call 100; refine calls_wd_same (v := .int .i64 A) ?_; with_reducible exact H1.out _)))
                refine wpQuiet_nil ?_
                rintro _ ⟨x, rfl⟩
                go_wp2
                go_ret
                exact ⟨by rw [HF.out]; rfl, Below.on BR x.ok⟩
              | true =>
                have HF : Hid (R = afterB ts nm (some s) (af.drop (j + 1 + 1)) ∧ (j + 1 + 1 = 0 → some s = none) ∧ ∀ i, j + 1 + 1 = i + 1 → ∃ a, some s = some a ∧ af[i]? = some a) := by
                  refine ⟨HX.out.trans ?_, fun h => by omega, fun i hi => ⟨s, rfl, by rw [← Nat.succ.inj hi]; exact HS.out⟩⟩
                  rw [g1, decide_eq_false hsn, HPA.out]
                  simp [lessB, hlb]
                go_wp2
                refine wp_region_wd (by kernel_rfl) (by kernel_rfl) ?_
                repeat (go_big_quiet_step ((go_at_call 100; refine calls_wd_same (v := .int .i64 A) ?_; with_reducible exact H1.out _)))
                refine wpQuiet_nil ?_
                rintro _ ⟨x, rfl⟩
                go_wp2
                go_roundw
                case rel => exact ⟨j + 2, some s, by omega, by go_num, HF, Below.on hbel x.ok⟩
                case measure => simp [intOf]; omega
      · have HF : Hid (R = true) := HE.out.1.trans (afterB_end (by rw [HMM.out]; omega))
        go_wp2
        go_ret
        exact ⟨by rw [HF.out]; rfl, BR⟩
end Go.Proofs.Ytehkebdncfljmaa
