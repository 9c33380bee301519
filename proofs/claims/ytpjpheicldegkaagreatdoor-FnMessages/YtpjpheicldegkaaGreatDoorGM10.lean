/- Tsk,Nms -/
import Derived.Test.YtpjpheicldegkaaGreatDoorGM8
import Derived.Test.YtpjpheicldegkaaGreatDoorPi
import Derived.Test.YtpjpheicldegkaaGreatDoorGM9
namespace Go.Proofs.YtpjpheicldegkaaGreatDoor
open Go Go.RowKit

def lessB (a b : ByteArray) : Bool := Op.bytesLess a.toList b.toList
def qvd (ts : List Ta) (nm : ByteArray) : Option ByteArray → List ByteArray → Bool
  | _, [] => true
  | p, s :: r => (decide (0 ≤ atN ts s) && (!decide (s = nm) && p.all fun x => lessB x s)) && qvd ts nm (some s) r
def taskB (ts : List Ta) (i : Nat) (t : Ta) : Bool := nameB t.name && (decide (atN ts t.name = i) && (!decide (poolN t.pool = 0) && (decide (0 ≤ t.ret ∧ t.ret ≤ 3) && qvd ts t.name none t.after)))
theorem afterB_at {ts : List Ta} {nm : ByteArray} {l : List ByteArray} {k : Nat} {p : Option ByteArray} {s : ByteArray} (h : l[k]? = some s) : qvd ts nm p (l.drop k) = ((decide (0 ≤ atN ts s) && (!decide (s = nm) && p.all fun x => lessB x s)) && qvd ts nm (some s) (l.drop (k + 1))) := by
  obtain ⟨hk, rfl⟩ := List.getElem?_eq_some_iff.1 h
  rw [List.drop_eq_getElem_cons hk]
  rfl
theorem afterB_end {ts : List Ta} {nm : ByteArray} {l : List ByteArray} {k : Nat} {p : Option ByteArray} (h : k = l.length) : qvd ts nm p (l.drop k) = true := by
  subst h
  rw [List.drop_length]
  rfl
theorem task_1 {ts : List Ta} {i : Nat} {t : Ta} (h : nameB t.name = false) : taskB ts i t = false := by unfold taskB; rw [h]; rfl
theorem task_2 {ts : List Ta} {i : Nat} {t : Ta} (h : ¬ atN ts t.name = i) : taskB ts i t = false := by unfold taskB; rw [decide_eq_false h]; simp
theorem task_3 {ts : List Ta} {i : Nat} {t : Ta} (h : poolN t.pool = 0) : taskB ts i t = false := by unfold taskB; rw [decide_eq_true h]; simp
theorem task_4 {ts : List Ta} {i : Nat} {t : Ta} (h : ¬ (0 ≤ t.ret ∧ t.ret ≤ 3)) : taskB ts i t = false := by unfold taskB; rw [decide_eq_false h]; simp
theorem task_5 {ts : List Ta} {i : Nat} {t : Ta} (h1 : nameB t.name = true) (h2 : atN ts t.name = i) (h3 : ¬ poolN t.pool = 0) (h4 : 0 ≤ t.ret ∧ t.ret ≤ 3) : taskB ts i t = qvd ts t.name none t.after := by unfold taskB; rw [h1, decide_eq_true h2, decide_eq_false h3, decide_eq_true h4]; rfl

set_option maxRecDepth 10000 in
set_option maxHeartbeats 4000000 in
theorem l12Task_any {w : World} {v : Value} {ts : List Ta} {i : Nat} {t : Ta} (hr : Tasks w v ts) (hn : ts.length ≤ 100000) (hi : ts[i]? = some t) (ht : t.after.length ≤ 1048576 ∧ t.name.size ≤ 9223372036854775807) :
    Calls Tryz.prog 126 #[v, .int .i64 i] w fun e w' => e = .returned (.bool (taskB ts i t)) ∧ Below w.heap.size w w' := by
  obtain ⟨ao, cap, rfl⟩ := hr.slice
  have HR : Hid (Tasks w (.slice ao ts.length cap) ts) := hr
  have hil : i < ts.length := (List.getElem?_eq_some_iff.1 hi).1
  obtain ⟨n, HN⟩ : ∃ n, Hid (ts.length = n) := ⟨_, rfl⟩
  rw [HN.out] at hn HR hil ⊢
  have HAT : Hid (∀ W s, Below w.heap.size w W → Calls Tryz.prog 123 #[.slice ao n cap, .string s] W fun e w' => e = .returned (.int .i64 (atN ts s)) ∧ w' = W) := fun W s hb => qzd s (HR.out.below hb) (by rw [HN.out]; omega)
  obtain ⟨gb, ob, av, hao, hgb, c0, c1, c2, c3, c4, HA0⟩ := hr.at hi
  clear hr
  obtain ⟨fo, fc, rfl, -⟩ := id HA0
  have HA : Hid (Reads w (.slice fo t.after.length fc) t.after) := HA0
  clear HA0
  obtain ⟨m, HMM⟩ : ∃ m, Hid (t.after.length = m) := ⟨_, rfl⟩
  have hm : m ≤ 1048576 := by rw [← HMM.out]; exact ht.1
  rw [HMM.out] at c4 HA
  have HNA : Hid (∀ w, Calls Tryz.prog 102 #[.string t.name] w fun e w' => e = .returned (.bool (nameB t.name)) ∧ w' = w) := fun w => qib t.name w ht.2
  have HPO : Hid (∀ w, Calls Tryz.prog 124 #[.string t.pool] w fun e w' => e = .returned (.int .i64 (poolN t.pool)) ∧ w' = w) := fun w => qcd t.pool w
  have HAN := HAT.out
  have HF1 : Hid (nameB t.name = false → taskB ts i t = false) := task_1
  have HF2 : Hid (¬ atN ts t.name = i → taskB ts i t = false) := task_2
  have HF3 : Hid (poolN t.pool = 0 → taskB ts i t = false) := task_3
  have HF4 : Hid (¬ (0 ≤ t.ret ∧ t.ret ≤ 3) → taskB ts i t = false) := task_4
  have HF5 : Hid (nameB t.name = true → atN ts t.name = i → ¬ poolN t.pool = 0 → (0 ≤ t.ret ∧ t.ret ≤ 3) → taskB ts i t = qvd ts t.name none t.after) := task_5
  obtain ⟨nm, po, rt, pa, af⟩ := t
  simp only at *
  have HAN : Hid (∀ W, Below w.heap.size w W → Calls Tryz.prog 123 #[.slice ao n cap, .string nm] W fun e w' => e = .returned (.int .i64 (atN ts nm)) ∧ w' = W) := fun W hb => HAT.out W nm hb
  obtain ⟨q, HQ⟩ : ∃ q, Hid (nameB nm = q) := ⟨_, rfl⟩
  obtain ⟨A, HAA⟩ : ∃ A, Hid (atN ts nm = A) := ⟨_, rfl⟩
  obtain ⟨P, HP⟩ : ∃ P, Hid (poolN po = P) := ⟨_, rfl⟩
  obtain ⟨R, HRR⟩ : ∃ R, Hid (taskB ts i ⟨nm, po, rt, pa, af⟩ = R) := ⟨_, rfl⟩
  rw [HQ.out] at HNA HF1 HF5
  rw [HAA.out] at HAN HF2 HF5
  rw [HP.out] at HPO HF3 HF5
  rw [HRR.out] at HF1 HF2 HF3 HF4 HF5 ⊢
  clear HQ HAA HP HRR hi ht
  subst hao
  have HI : Hid (∀ w, Calls Tryz.prog 24 #[.int .i64 rt, .int .i64 0, .int .i64 3] w fun e w' => e = .returned (.bool (decide (0 ≤ rt) && decide (rt ≤ 3))) ∧ w' = w) := fun w => qub rt 0 3 w
  cases q with
  | false =>
    have HF := HF1.out rfl
    go_enter Tryz.func126, Tryz.ntmps126
    go_wp2_with (first | (go_at_call 102; refine (HNA.out _).mono ?_; rintro e w1 ⟨rfl, hw⟩; have hw2 := hw.symm; subst hw2) | (go_at_call 123; refine (HAN.out _ (ba (Below.refl _ _) _)).mono ?_; rintro e w1 ⟨rfl, hw⟩; have hw2 := hw.symm; subst hw2) | (go_at_call 124; refine (HPO.out _).mono ?_; rintro e w1 ⟨rfl, hw⟩; have hw2 := hw.symm; subst hw2) | (go_at_call 24; refine (HI.out _).mono ?_; rintro e w1 ⟨rfl, hw⟩; have hw2 := hw.symm; subst hw2))
    go_ret
    exact ⟨by rw [HF]; rfl, ba (Below.refl _ _) _⟩
  | true =>
    by_cases hA : A = (i : Int)
    case neg =>
      have HF := HF2.out hA
      go_enter Tryz.func126, Tryz.ntmps126
      go_wp2_with (first | (go_at_call 102; refine (HNA.out _).mono ?_; rintro e w1 ⟨rfl, hw⟩; have hw2 := hw.symm; subst hw2) | (go_at_call 123; refine (HAN.out _ (ba (Below.refl _ _) _)).mono ?_; rintro e w1 ⟨rfl, hw⟩; have hw2 := hw.symm; subst hw2) | (go_at_call 124; refine (HPO.out _).mono ?_; rintro e w1 ⟨rfl, hw⟩; have hw2 := hw.symm; subst hw2) | (go_at_call 24; refine (HI.out _).mono ?_; rintro e w1 ⟨rfl, hw⟩; have hw2 := hw.symm; subst hw2))
      go_ret
      exact ⟨by rw [HF]; rfl, ba (Below.refl _ _) _⟩
    by_cases hP : P = 0
    case pos =>
      have HF := HF3.out hP
      subst hP hA
      go_enter Tryz.func126, Tryz.ntmps126
      go_wp2_with (first | (go_at_call 102; refine (HNA.out _).mono ?_; rintro e w1 ⟨rfl, hw⟩; have hw2 := hw.symm; subst hw2) | (go_at_call 123; refine (HAN.out _ (ba (Below.refl _ _) _)).mono ?_; rintro e w1 ⟨rfl, hw⟩; have hw2 := hw.symm; subst hw2) | (go_at_call 124; refine (HPO.out _).mono ?_; rintro e w1 ⟨rfl, hw⟩; have hw2 := hw.symm; subst hw2) | (go_at_call 24; refine (HI.out _).mono ?_; rintro e w1 ⟨rfl, hw⟩; have hw2 := hw.symm; subst hw2))
      go_ret
      exact ⟨by rw [HF]; rfl, ba (Below.refl _ _) _⟩
    by_cases hR : 0 ≤ rt ∧ rt ≤ 3
    case neg =>
      have HF := HF4.out hR
      have HI2 : Hid (∀ w, Calls Tryz.prog 24 #[.int .i64 rt, .int .i64 0, .int .i64 3] w fun e w' => e = .returned (.bool false) ∧ w' = w) := by
        intro w; have := HI.out w; rwa [← Bool.decide_and, decide_eq_false hR] at this
      subst hA
      go_enter Tryz.func126, Tryz.ntmps126
      go_wp2_with (first | (go_at_call 102; refine (HNA.out _).mono ?_; rintro e w1 ⟨rfl, hw⟩; have hw2 := hw.symm; subst hw2) | (go_at_call 123; refine (HAN.out _ (ba (Below.refl _ _) _)).mono ?_; rintro e w1 ⟨rfl, hw⟩; have hw2 := hw.symm; subst hw2) | (go_at_call 124; refine (HPO.out _).mono ?_; rintro e w1 ⟨rfl, hw⟩; have hw2 := hw.symm; subst hw2) | (go_at_call 24; refine (HI2.out _).mono ?_; rintro e w1 ⟨rfl, hw⟩; have hw2 := hw.symm; subst hw2))
      go_ret
      exact ⟨by rw [HF]; rfl, ba (Below.refl _ _) _⟩
    have HF := HF5.out rfl hA hP hR
    have HFH : Hid (R = qvd ts nm none af) := HF
    have HI2 : Hid (∀ w, Calls Tryz.prog 24 #[.int .i64 rt, .int .i64 0, .int .i64 3] w fun e w' => e = .returned (.bool true) ∧ w' = w) := by
      intro w; have := HI.out w; rwa [← Bool.decide_and, decide_eq_true hR] at this
    clear HF HF1 HF2 HF3 HF4 HF5 HI
    subst hA
    go_enter Tryz.func126, Tryz.ntmps126
    go_wp2_with (first | (go_at_call 102; refine (HNA.out _).mono ?_; rintro e w1 ⟨rfl, hw⟩; have hw2 := hw.symm; subst hw2) | (go_at_call 123; refine (HAN.out _ (ba (Below.refl _ _) _)).mono ?_; rintro e w1 ⟨rfl, hw⟩; have hw2 := hw.symm; subst hw2) | (go_at_call 124; refine (HPO.out _).mono ?_; rintro e w1 ⟨rfl, hw⟩; have hw2 := hw.symm; subst hw2) | (go_at_call 24; refine (HI2.out _).mono ?_; rintro e w1 ⟨rfl, hw⟩; have hw2 := hw.symm; subst hw2))
    obtain ⟨W, hW⟩ : ∃ W, w.alloc (.cells #[.string nm, .string po, .int .i64 rt, .bool pa, .slice fo m fc] 192) = W := ⟨_, rfl⟩
    have BW : Below w.heap.size w W := by rw [← hW]; exact ba (Below.refl _ _) _
    have x0 : W.cell? ⟨w.heap.size, 0, none⟩ = some (.string nm) := by rw [← hW]; simp [go_sem]
    have x4 : W.cell? ⟨w.heap.size, 4, none⟩ = some (.slice fo m fc) := by rw [← hW]; simp [go_sem]
    rw [hW]
    rw [beq_eq_false_iff_ne.2 hP]
    clear hW c0 c1 c2 c3 c4 HNA HPO HAN HI2
    go_loopw [6] (fun kv wr => ∃ (k : Nat) (p : Option ByteArray), k ≤ m ∧ kv = .int .i64 k ∧ Hid (R = qvd ts nm p (af.drop k) ∧ (k = 0 → p = none) ∧ ∀ j, k = j + 1 → ∃ a, p = some a ∧ af[j]? = some a) ∧ Below W.heap.size W wr) (fun kv _ => m - (intOf kv).toNat)
    case atStart => exact ⟨0, none, Nat.zero_le _, rfl, ⟨by rw [List.drop_zero]; exact HFH.out, fun _ => rfl, fun j hj => by omega⟩, Below.refl _ _⟩
    case round =>
      obtain ⟨k, p, hk, rfl, HE, hbel⟩ := hrel
      have y0 := qia hbel x0
      have y4 := qia hbel x4
      have BR := Below.on BW hbel
      by_cases hkm : k < m
      · obtain ⟨s, hs⟩ : ∃ s, af[k]? = some s := ⟨_, List.getElem?_eq_getElem (by rw [HMM.out]; exact hkm)⟩
        have HS : Hid (af[k]? = some s) := hs
        obtain ⟨A, HAA⟩ : ∃ A, Hid (atN ts s = A) := ⟨_, rfl⟩
        have HX : Hid (R = ((decide (0 ≤ A) && (!decide (s = nm) && p.all fun x => lessB x s)) && qvd ts nm (some s) (af.drop (k + 1)))) := by
          show R = _
          rw [HE.out.1, afterB_at hs, HAA.out]
        have H1 : Hid (∀ x : Wd wr, Calls Tryz.prog 123 #[.slice (some ⟨gb, ob, none⟩) n cap, .string s] x.at' fun e w' => e = .returned (.int .i64 A) ∧ w' = x.at') := by
          intro x; rw [← HAA.out]; exact HAT.out x.at' s (Below.on BR x.ok)
        obtain ⟨sb, so, rfl, hsb, cs⟩ := qka (HA.out.below BR) hs
        clear hs
        have q0 := Wd.cell y0
        have q4 := Wd.cell y4
        have qs := Wd.cell cs
        by_cases hA : A < 0
        · have HF : Hid (R = false) := HX.out.trans (by rw [decide_eq_false (by omega)]; rfl)
          have g0 : decide (A < 0) = true := decide_eq_true hA
          go_wp2
          refine qba (by kernel_rfl) (by kernel_rfl) ?_
          repeat (go_big_quiet_step ((go_at_call 123; refine qaa (v := .int .i64 A) ?_; with_reducible exact H1.out _)))
          refine wpQuiet_nil ?_
          rintro _ ⟨x, rfl⟩
          go_wp2
          go_ret
          exact ⟨by rw [HF.out]; rfl, Below.on BR x.ok⟩
        · have g0 : decide (A < 0) = false := decide_eq_false hA
          have g1 : decide (0 ≤ A) = true := decide_eq_true (by omega)
          by_cases hsn : s = nm
          · have HF : Hid (R = false) := HX.out.trans (by rw [g1, decide_eq_true hsn]; rfl)
            subst hsn
            go_wp2
            refine qba (by kernel_rfl) (by kernel_rfl) ?_
            repeat (go_big_quiet_step ((go_at_call 123; refine qaa (v := .int .i64 A) ?_; with_reducible exact H1.out _)))
            refine wpQuiet_nil ?_
            rintro _ ⟨x, rfl⟩
            go_wp2
            go_ret
            exact ⟨by rw [HF.out]; rfl, Below.on BR x.ok⟩
          · have e1 := qab hsn
            rcases Nat.eq_zero_or_pos k with hk0 | hk0
            · have HF : Hid (R = qvd ts nm (some s) (af.drop (k + 1)) ∧ (k + 1 = 0 → some s = none) ∧ ∀ j, k + 1 = j + 1 → ∃ a, some s = some a ∧ af[j]? = some a) := by
                refine ⟨HX.out.trans ?_, fun h => by omega, fun j hj => ⟨s, rfl, by rw [← Nat.succ.inj hj]; exact HS.out⟩⟩
                rw [g1, decide_eq_false hsn, HE.out.2.1 hk0]
                rfl
              have hg0 : decide ((0 : Int) < (k : Int)) = false := decide_eq_false (by omega)
              have hg1 : decide (0 < k) = false := decide_eq_false (by omega)
              clear hk0
              go_wp2
              refine qba (by kernel_rfl) (by kernel_rfl) ?_
              repeat (go_big_quiet_step ((go_at_call 123; refine qaa (v := .int .i64 A) ?_; with_reducible exact H1.out _)))
              refine wpQuiet_nil ?_
              rintro _ ⟨x, rfl⟩
              go_wp2
              go_roundw
              case rel => exact ⟨k + 1, some s, by omega, by go_num, HF, Below.on hbel x.ok⟩
              case measure => simp [intOf]; omega
            · obtain ⟨j, rfl⟩ : ∃ j, k = j + 1 := ⟨k - 1, by omega⟩
              obtain ⟨a, hpa, hp⟩ := HE.out.2.2 j rfl
              have HPA : Hid (p = some a) := hpa
              obtain ⟨b', o', hbo, -, cp⟩ := qka (HA.out.below BR) hp
              clear hp hpa
              simp only [Option.some.injEq, Addr.mk.injEq, and_true] at hbo
              obtain ⟨rfl, rfl⟩ := hbo
              have qp := Wd.cell cp
              cases hlb : Op.bytesLess a.toList s.toList with
              | false =>
                have HF : Hid (R = false) := HX.out.trans (by rw [g1, decide_eq_false hsn, HPA.out]; simp [lessB, hlb])
                go_wp2
                refine qba (by kernel_rfl) (by kernel_rfl) ?_
                repeat (go_big_quiet_step ((go_at_call 123; refine qaa (v := .int .i64 A) ?_; with_reducible exact H1.out _)))
                refine wpQuiet_nil ?_
                rintro _ ⟨x, rfl⟩
                go_wp2
                go_ret
                exact ⟨by rw [HF.out]; rfl, Below.on BR x.ok⟩
              | true =>
                have HF : Hid (R = qvd ts nm (some s) (af.drop (j + 1 + 1)) ∧ (j + 1 + 1 = 0 → some s = none) ∧ ∀ i, j + 1 + 1 = i + 1 → ∃ a, some s = some a ∧ af[i]? = some a) := by
                  refine ⟨HX.out.trans ?_, fun h => by omega, fun i hi => ⟨s, rfl, by rw [← Nat.succ.inj hi]; exact HS.out⟩⟩
                  rw [g1, decide_eq_false hsn, HPA.out]
                  simp [lessB, hlb]
                go_wp2
                refine qba (by kernel_rfl) (by kernel_rfl) ?_
                repeat (go_big_quiet_step ((go_at_call 123; refine qaa (v := .int .i64 A) ?_; with_reducible exact H1.out _)))
                refine wpQuiet_nil ?_
                rintro _ ⟨x, rfl⟩
                go_wp2
                go_roundw
                case rel => exact ⟨j + 2, some s, by omega, by go_num, HF, Below.on hbel x.ok⟩
                case measure => simp [intOf]; omega
      · have HF : Hid (R = true) := HE.out.1.trans (afterB_end (by rw [HMM.out]; omega))
        go_wp2
        go_ret
        exact ⟨by rw [HF.out]; rfl, BR⟩
end Go.Proofs.YtpjpheicldegkaaGreatDoor

namespace Go.Proofs.YtpjpheicldegkaaGreatDoor
open Go Go.RowKit

theorem qpd {w : World} {B : Nat} {e : TypeId} {v : Value} {l : List ByteArray} (h : ownsS w B e v l) : Reads w v l := by
  by_cases hne : l = []
  · subst hne
    obtain ⟨ao, c, rfl⟩ := ownsS_empty h
    exact reads_none w ao c
  · obtain ⟨g, c, rfl, _, hg, _, hc, _⟩ := ownsS_form h hne
    refine ⟨_, c, rfl, fun _ => ⟨g, 0, rfl, hg, fun i x hx j u hu => ?_⟩⟩
    obtain ⟨hi, rfl⟩ := List.getElem?_eq_some_iff.1 hx
    match j, hu with
    | 0, hu =>
      simp only [Rec.cells, List.getElem?_cons_zero, Option.some.injEq] at hu
      subst hu
      rw [show 0 + i * Rec.width ByteArray + 0 = i by show 0 + i * 1 + 0 = i; omega]
      exact hc i hi
    | j + 1, hu => simp [Rec.cells] at hu
def moreB (a b : ByteArray) : Bool := !(Op.bytesLess a.toList b.toList || a.toList == b.toList)
theorem ownsS_drewN {w : World} {B : Nat} {e : TypeId} {v : Value} {l : List ByteArray} (h : ownsS w B e v l) (m : Nat) : ownsS (w.drewN m) B e v l := h
theorem made_cell (w : World) (m : Nat) (v : Value) (t : TypeId) : ((w.drewN m).alloc (.cells #[v] t)).cell? ⟨w.heap.size, 0, none⟩ = some v := by
  obtain ⟨u, hu⟩ : ∃ u, w.drewN m = u := ⟨_, rfl⟩
  have h : w.heap.size = u.heap.size := by rw [← hu]; rfl
  rw [h, hu]
  simp
def insN (l : List ByteArray) (s : ByteArray) : List ByteArray := l.filter (fun x => lessB x s) ++ [s] ++ l.filter (fun x => moreB x s)
def qad : List ByteArray → List ByteArray → Option (List ByteArray)
  | [], l => some l
  | s :: r, l => if (nameB s && l.all fun x => !decide (x = s)) = true then qad r (insN l s) else none
def qre (s : ByteArray) : Option (List ByteArray) := qad (splitB s 44) []
theorem namesGo_at {p l : List ByteArray} {k : Nat} {s : ByteArray} (h : p[k]? = some s) : qad (p.drop k) l = if (nameB s && l.all fun x => !decide (x = s)) = true then qad (p.drop (k + 1)) (insN l s) else none := by
  obtain ⟨hk, rfl⟩ := List.getElem?_eq_some_iff.1 h
  rw [List.drop_eq_getElem_cons hk]
  rfl
theorem namesGo_end {p l : List ByteArray} {k : Nat} (h : k = p.length) : qad (p.drop k) l = some l := by
  subst h; rw [List.drop_length]; rfl
theorem filter_take {l : List ByteArray} {k : Nat} {x : ByteArray} (f : ByteArray → Bool) (h : l[k]? = some x) : (l.take (k + 1)).filter f = (l.take k).filter f ++ (if f x then [x] else []) := by
  rw [List.take_add_one, h, List.filter_append]
  congr 1
  cases hf : f x <;> simp [hf]
theorem filter_len {l : List ByteArray} (k : Nat) (f : ByteArray → Bool) : ((l.take k).filter f).length ≤ k := by
  have h1 := List.length_filter_le f (l.take k)
  have h2 := List.length_take_le k l
  omega
theorem less_not {s : ByteArray} : ∀ l : List ByteArray, (∀ x ∈ l, lessB x s = true → moreB x s = false) → (l.filter (fun x => lessB x s)).length + (l.filter (fun x => moreB x s)).length ≤ l.length
  | [], _ => Nat.le_refl _
  | x :: r, h => by
    have ih := less_not r fun y hy => h y (List.mem_cons_of_mem _ hy)
    have hx := h x (List.mem_cons_self ..)
    simp only [List.filter_cons, List.length_cons]
    cases h1 : lessB x s with
    | true => rw [hx h1]; simp; omega
    | false => cases h2 : moreB x s <;> simp <;> omega
theorem insN_len1 {l : List ByteArray} (s : ByteArray) : (insN l s).length ≤ l.length + 1 := by
  have := less_not (s := s) l fun x _ h => by unfold moreB; unfold lessB at h; rw [h]; rfl
  unfold insN
  simp only [List.length_append, List.length_cons, List.length_nil]
  omega
theorem all_take {l : List ByteArray} {k : Nat} {x : ByteArray} (f : ByteArray → Bool) (h : l[k]? = some x) : (l.take (k + 1)).all f = ((l.take k).all f && f x) := by
  rw [List.take_add_one, h]
  simp
theorem all_no {l : List ByteArray} {k : Nat} {x : ByteArray} (f : ByteArray → Bool) (h : l[k]? = some x) (hf : f x = false) : l.all f = false := by
  rw [List.all_eq_false]
  exact ⟨x, List.mem_of_getElem? h, by simp [hf]⟩
def NamP (s : ByteArray) (w : World) (e : Ending) (w' : World) : Prop :=
  ∃ v, e = .returned (.tuple #[v, .bool (qre s).isSome]) ∧ ownsS w' w.heap.size 9 v ((qre s).getD []) ∧ Below w.heap.size w w'
theorem nam_no {s : ByteArray} {w W : World} (h : qre s = none) (hb : Below w.heap.size w W) : NamP s w (.returned (.tuple #[.slice (some ⟨W.heap.size, 0, none⟩) 0 0, .bool false])) (W.alloc (.cells #[] 9)) := by
  refine ⟨_, by rw [h]; rfl, ?_, ba hb _⟩
  rw [h]
  exact qmd _ _ _ _ _ hb.size (by decide) rfl

set_option maxRecDepth 10000 in
set_option maxHeartbeats 4000000 in
theorem l12Names_any (s : ByteArray) (w : World) (hs : s.size ≤ 100000) : Calls Tryz.prog 125 #[.string s] w (NamP s w) := by
  have HNO : Hid (qre s = qad (splitB s 44) []) := rfl
  have HSP : Hid (∀ w, Calls Tryz.prog 132 #[.string s, .int .u8 44] w fun e w' => ∃ v, e = .returned v ∧ ownsS w' w.heap.size 9 v (splitB s 44) ∧ Below w.heap.size w w') := fun w => qed s 44 w (by omega)
  obtain ⟨P, HP⟩ : ∃ P, Hid (splitB s 44 = P) := ⟨_, rfl⟩
  have HPZ : Hid (∀ t ∈ P, t.size ≤ 9223372036854775807) := fun t ht => by have := splitB_sz s 44 t (by rw [HP.out]; exact ht); omega
  have hpl : P.length ≤ 100001 := by rw [← HP.out]; unfold splitB; have := (cutsN_bd s 44 (s.size + 1)).2; omega
  rw [HP.out] at HNO HSP
  clear HP
  go_enter Tryz.func125, Tryz.ntmps125
  go_wp2_with fail
  refine (HSP.out _).mono ?_
  rintro e w1 ⟨v1, rfl, ho1, B1⟩
  have HPR0 : Hid (Reads w1 v1 P) := qpd ho1
  obtain ⟨po, pc, rfl, -⟩ := id HPR0.out
  clear ho1
  obtain ⟨np, HNP⟩ : ∃ n, Hid (P.length = n) := ⟨_, rfl⟩
  rw [HNP.out] at hpl HPR0 ⊢
  go_wp2
  go_loopw [5, 6] (fun ov iv wr => ∃ (i : Nat) (l : List ByteArray), i ≤ np ∧ iv = .int .i64 i ∧ l.length ≤ i ∧ Hid (qre s = qad (P.drop i) l) ∧ ownsS wr w.heap.size 9 ov l ∧ Below w1.heap.size w1 wr) (fun _ iv _ => np - (intOf iv).toNat)
  case atStart => exact ⟨0, [], Nat.zero_le _, rfl, Nat.le_refl _, (by rw [List.drop_zero]; exact HNO), qmd _ _ _ _ _ B1.size (by decide) rfl, ba (Below.refl _ _) _⟩
  case round =>
    obtain ⟨i, l, hi, rfl, hl, HE, hown, hbel⟩ := hrel
    obtain ⟨W, rfl⟩ : ∃ W, W = wr := ⟨_, rfl⟩
    have BR := Below.on B1 hbel
    have HPR : Hid (Reads W (.slice po np pc) P) := HPR0.out.below hbel
    by_cases hin : i < np
    · obtain ⟨t, ht⟩ : ∃ t, P[i]? = some t := ⟨_, List.getElem?_eq_getElem (by rw [HNP.out]; exact hin)⟩
      have HE2 : Hid (qre s = if (nameB t && l.all fun x => !decide (x = t)) = true then qad (P.drop (i + 1)) (insN l t) else none) := HE.out.trans (namesGo_at ht)
      have HNA := qib t W (HPZ.out t (List.mem_of_getElem? ht))
      obtain ⟨pb, pp, rfl, hpb, ct⟩ := qka HPR.out ht
      clear ht
      cases hq : nameB t with
      | false =>
        rw [hq] at HNA HE2
        have HF : Hid (qre s = none) := HE2.out
        clear hq
        go_wp2_with (go_at_call 102; refine HNA.mono ?_; rintro e w2 ⟨rfl, hw⟩; have hw2 := hw.symm; subst hw2)
        go_ret2
        exact nam_no HF.out BR
      | true =>
        rw [hq, Bool.true_and] at HE2
        rw [hq] at HNA
        clear hq
        obtain ⟨oo, oc, rfl⟩ := ownsS_slice hown
        have HLR : Hid (Reads W (.slice oo l.length oc) l) := qpd hown
        obtain ⟨n, HN⟩ : ∃ n, Hid (l.length = n) := ⟨_, rfl⟩
        rw [HN.out] at hl HLR
        have hown2 := hown
        rw [HN.out]
        go_wp2_with (go_at_call 102; refine HNA.mono ?_; rintro e w2 ⟨rfl, hw⟩; have hw2 := hw.symm; subst hw2)
        clear HNA hown
        go_loopw [7, 8] (fun nv kv wx => ∃ k : Nat, k ≤ n ∧ kv = .int .i64 k ∧ ownsS wx W.heap.size 9 nv ((l.take k).filter fun x => lessB x t) ∧ Hid ((l.take k).all (fun x => !decide (x = t)) = true) ∧ Below W.heap.size W wx) (fun _ kv _ => n - (intOf kv).toNat)
        case atStart => exact ⟨0, Nat.zero_le _, rfl, qmd _ _ _ _ _ (Nat.le_refl _) (by decide) rfl, rfl, ba (Below.refl _ _) _⟩
        case round =>
          obtain ⟨k, hk, rfl, ho, HAL, hbx⟩ := hrel
          have ct2 := (hbx.cell hpb).trans ct
          by_cases hkn : k < n
          · obtain ⟨x, hx⟩ : ∃ x, l[k]? = some x := ⟨_, List.getElem?_eq_getElem (by rw [HN.out]; exact hkn)⟩
            have HFT : Hid ((l.take (k + 1)).filter (fun x => lessB x t) = (l.take k).filter (fun x => lessB x t) ++ (if lessB x t then [x] else [])) := filter_take _ hx
            have HAT : Hid ((l.take (k + 1)).all (fun x => !decide (x = t)) = ((l.take k).all (fun x => !decide (x = t)) && !decide (x = t))) := all_take _ hx
            have HNO2 : Hid (x = t → (l.all fun x => !decide (x = t)) = false) := fun e => all_no _ hx (by simp [e])
            have hfl := filter_len (l := l) k (fun x => lessB x t)
            obtain ⟨ob, op, rfl, hob, cx⟩ := qka (HLR.out.below hbx) hx
            clear hx
            by_cases hxt : x = t
            · have HF : Hid (qre s = none) := HE2.out.trans (by rw [HNO2.out hxt]; rfl)
              subst hxt
              go_wp2
              go_quiet (fail)
              go_wp2
              go_ret2
              exact nam_no HF.out (bdrewN (Below.on BR hbx) _)
            · have e1 := qab hxt
              have HA2 : Hid ((l.take (k + 1)).all (fun x => !decide (x = t)) = true) := by show _ = true; rw [HAT.out, HAL.out, decide_eq_false hxt]; rfl
              have hsx := hbx.size
              cases hlb : Op.bytesLess x.toList t.toList with
              | false =>
                have HF2 : Hid ((l.take (k + 1)).filter (fun x => lessB x t) = (l.take k).filter (fun x => lessB x t)) := by show _ = _; rw [HFT.out]; simp [lessB, hlb]
                go_wp2
                go_quiet (fail)
                go_wp2
                go_quiet (fail)
                go_wp2
                go_roundw
                case rel => exact ⟨k + 1, by omega, by go_num, by rw [HF2.out]; exact ho, HA2, bdrewN hbx _⟩
                case measure => simp [intOf]; omega
              | true =>
                have HF2 : Hid ((l.take (k + 1)).filter (fun x => lessB x t) = (l.take k).filter (fun x => lessB x t) ++ [x]) := by show _ = _; rw [HFT.out]; simp [lessB, hlb]
                go_wp2
                go_quiet (fail)
                go_wp2
                go_quiet (fail)
                go_wp2_with (at_builtin; refine wpList_append_text _ W rfl (.tmp 52) (.tmp 57) 103 rfl W.heap.size 9 Tryz.underlying103 info9 _ ((l.take k).filter fun x => lessB x t) rfl ((ownsS_drewN ho _).alloc _) ((bdrewN hbx _).alloc hsx _) ⟨wr.heap.size, 0, none⟩ 1 x rfl ?c1 ?c2 ?c3 ?_)
                case c1 => exact made_cell _ _ _ _
                case c2 => omega
                case c3 => simp; omega
                intro v' w4 ho4 hb4
                rw [← HF2.out] at ho4
                go_wp2
                go_roundw
                case rel => exact ⟨k + 1, by omega, by go_num, ho4, HA2, hb4⟩
                case measure => simp [intOf]; omega
          · have HK : Hid (l.take k = l) := by show _ = _; exact List.take_of_length_le (by rw [HN.out]; omega)
            rw [HK.out] at ho HAL
            have HE3 : Hid (qre s = qad (P.drop (i + 1)) (insN l t)) := HE2.out.trans (by rw [if_pos HAL.out])
            have hfl := List.length_filter_le (fun x => lessB x t) l
            rw [HN.out] at hfl
            have hsx := hbx.size
            clear HE2 HAL HK
            go_wp2_with (at_builtin; refine wpList_append_text _ W rfl (.tmp 59) (.tmp 64) 103 rfl W.heap.size 9 Tryz.underlying103 info9 _ (l.filter fun x => lessB x t) rfl (ho.alloc _) (hbx.alloc hsx _) ⟨wr.heap.size, 0, none⟩ 1 t rfl ?c1 ?c2 ?c3 ?_)
            case c1 => simp
            case c2 => omega
            case c3 => simp; omega
            intro v' w4 ho4 hb4
            clear ho hbx ct2 hsx
            go_wp2
            go_loopw [7, 9] (fun nv kv wx => ∃ k : Nat, k ≤ n ∧ kv = .int .i64 k ∧ ownsS wx W.heap.size 9 nv ((l.filter fun x => lessB x t) ++ [t] ++ ((l.take k).filter fun x => moreB x t)) ∧ Below W.heap.size W wx) (fun _ kv _ => n - (intOf kv).toNat)
            case atStart => exact ⟨0, Nat.zero_le _, rfl, (by rw [List.take_zero, List.filter_nil, List.append_nil]; exact ho4), hb4⟩
            case round =>
              clear ho4 hb4
              obtain ⟨k, hk, rfl, ho, hbx⟩ := hrel
              have ct2 := (hbx.cell hpb).trans ct
              by_cases hkn : k < n
              · obtain ⟨x, hx⟩ : ∃ x, l[k]? = some x := ⟨_, List.getElem?_eq_getElem (by rw [HN.out]; exact hkn)⟩
                have HFT : Hid ((l.take (k + 1)).filter (fun x => moreB x t) = (l.take k).filter (fun x => moreB x t) ++ (if moreB x t then [x] else [])) := filter_take _ hx
                have hfl2 := filter_len (l := l) k (fun x => moreB x t)
                obtain ⟨ob, op, rfl, hob, cx⟩ := qka (HLR.out.below hbx) hx
                clear hx
                have hsx := hbx.size
                cases hlb : Op.bytesLess x.toList t.toList with
                | true =>
                  have HF2 : Hid ((l.take (k + 1)).filter (fun x => moreB x t) = (l.take k).filter (fun x => moreB x t)) := by show _ = _; rw [HFT.out]; simp [moreB, hlb]
                  go_wp2
                  go_quiet (fail)
                  go_wp2
                  go_roundw
                  case rel => exact ⟨k + 1, by omega, by go_num, by rw [HF2.out]; exact ho, bdrewN hbx _⟩
                  case measure => simp [intOf]; omega
                | false =>
                  by_cases hxt : x = t
                  · have e1 := eq_list hxt
                    have HF2 : Hid ((l.take (k + 1)).filter (fun x => moreB x t) = (l.take k).filter (fun x => moreB x t)) := by show _ = _; rw [HFT.out]; simp [moreB, e1]
                    go_wp2
                    go_quiet (fail)
                    go_wp2
                    go_roundw
                    case rel => exact ⟨k + 1, by omega, by go_num, by rw [HF2.out]; exact ho, bdrewN hbx _⟩
                    case measure => simp [intOf]; omega
                  · have e1 := qab hxt
                    have HF2 : Hid ((l.take (k + 1)).filter (fun x => moreB x t) = (l.take k).filter (fun x => moreB x t) ++ [x]) := by show _ = _; rw [HFT.out]; simp [moreB, hlb, e1]
                    go_wp2
                    go_quiet (fail)
                    go_wp2_with (at_builtin; refine wpList_append_text _ W rfl (.tmp 81) (.tmp 86) 103 rfl W.heap.size 9 Tryz.underlying103 info9 _ ((l.filter fun x => lessB x t) ++ [t] ++ ((l.take k).filter fun x => moreB x t)) rfl ((ownsS_drewN ho _).alloc _) ((bdrewN hbx _).alloc hsx _) ⟨wr.heap.size, 0, none⟩ 1 x rfl ?c1 ?c2 ?c3 ?_)
                    case c1 => exact made_cell _ _ _ _
                    case c2 => simp only [List.length_append, List.length_cons, List.length_nil]; omega
                    case c3 => simp; omega
                    intro v' w4 ho4 hb4
                    go_wp2
                    go_roundw
                    case rel => exact ⟨k + 1, by omega, by go_num, by rw [HF2.out]; simpa using ho4, hb4⟩
                    case measure => simp [intOf]; omega
              · have HK : Hid (l.take k = l) := by show _ = _; exact List.take_of_length_le (by rw [HN.out]; omega)
                rw [HK.out] at ho
                have hil := insN_len1 (l := l) t
                rw [HN.out] at hil
                go_wp2
                go_roundw
                case rel => exact ⟨i + 1, insN l t, by omega, by go_num, by omega, HE3, ownsS.mono ho BR.size, Below.on hbel hbx⟩
                case measure => simp [intOf]; omega
    · have HF : Hid (qre s = some l) := HE.out.trans (namesGo_end (by rw [HNP.out]; omega))
      go_wp2
      go_ret2
      exact ⟨_, by rw [HF.out]; rfl, by rw [HF.out]; exact hown, BR⟩
end Go.Proofs.YtpjpheicldegkaaGreatDoor
