/-
  Whether all tasks come, as the program reckons it: the walk. Whether a plan is right, as the program asks it: the walks of isRight, areTasks and DagOk. Whether the tasks of a plan are right, as the program asks it: the walk of areTasks. A plan in words, as the specification writes it: the walks. A plan is right for the program just when it is for the specification: plain facts.
-/
import Derived.Test.YtjmclcjhimcehaaGreatDoorG17
import Derived.Test.YtjmclcjhimcehaaGreatDoorG13
import Derived.Test.YtjmclcjhimcehaaGreatDoorG3
import Derived.OneCell
import Derived.Test.YtjmclcjhimcehaaGreatDoorG16
import Derived.Test.YtjmclcjhimcehaaGreatDoorG2
namespace Go.Proofs.YtjmclcjhimcehaaGreatDoor
open Go Go.RowKit

/-- A box of one cell. -/
def Bx (t : TypeId) (W : World) (g : Nat) (v : Value) : Prop := W.heap[g]? = some (.cells #[v] t)
theorem Bx.lt {t : TypeId} {W : World} {g : Nat} {v : Value} (h : Bx t W g v) : g < W.heap.size := (Array.getElem?_eq_some_iff.1 (show W.heap[g]? = _ from h)).1
theorem Bx.cell {t : TypeId} {W : World} {g : Nat} {v : Value} (h : Bx t W g v) : W.cell? ⟨g, 0, none⟩ = some v := by simp [World.cell?, show W.heap[g]? = _ from h]
theorem Bx.fz {t : TypeId} {W : World} {g : Nat} {v : Value} (h : Bx t W g v) : W.frozen? ⟨g, 0, none⟩ = false := by simp [World.frozen?, show W.heap[g]? = _ from h]
theorem Bx.up {t : TypeId} {W W' : World} {g : Nat} {v : Value} (h : Bx t W g v) (hb : Below W.heap.size W W') : Bx t W' g v := (hb.block g h.lt).trans h
theorem Bx.set {t : TypeId} {W : World} {g : Nat} {v : Value} (h : Bx t W g v) (u : Value) : Bx t (W.setCell ⟨g, 0, none⟩ u) g u := by simp [Bx, World.setCell, Array.getElem?_modify, show W.heap[g]? = _ from h]
theorem Bx.new (t : TypeId) (W : World) (v : Value) : Bx t (W.alloc (.cells #[v] t)) W.heap.size v := by
  show (W.heap.push _)[W.heap.size]? = _
  simp
theorem Bx.grown {t : TypeId} {W W' : World} {g : Nat} {v : Value} {r : Option Nat} (h : Bx t W g v) (hg : W.grownBy W' r) (hr : some g ≠ r) : Bx t W' g v := (hg.block g h.lt hr).trans h
theorem Bx.row {w : World} {B : Nat} {u v : Value} {T : List ByteArray} {t : TypeId} {g : Nat} (hf : Bx t w g u) (h : ownsS w B 9 v T) (ht : t ≠ 9) : v.ownBlock ≠ some g := by
  intro e
  rcases h.2 with ⟨rfl, _⟩ | ⟨g', cap', cur', rfl, _, hg', _⟩
  · cases e
  · have : g' = g := Option.some.inj e
    subst this
    unfold Bx at hf
    rw [hf] at hg'
    simp only [Option.some.injEq, Obj.cells.injEq] at hg'
    exact ht hg'.2.1
/-- What lies there while tasks come: the names that have come, in a box. -/
structure AcS (w : World) (g : Nat) (W : World) (C : List ByteArray) (v : Value) : Prop where
  box : Bx 86 W g v
  own : ownsS W w.heap.size 9 v C
  bel : Below w.heap.size w W
  low : w.heap.size ≤ g
theorem AcS.up {w W W' : World} {g : Nat} {C : List ByteArray} {v : Value} (h : AcS w g W C v) (hb : Below W.heap.size W W') : AcS w g W' C v := ⟨h.box.up hb, h.own.all hb, h.bel.trans (hb.mono h.bel.size), h.low⟩
theorem AcS.put {w W W' : World} {g : Nat} {C C' : List ByteArray} {v v' : Value} (h : AcS w g W C v) (ho : ownsS W' w.heap.size 9 v' C') (hb : Below w.heap.size w W') (hg : W.grownBy W' v.ownBlock) : AcS w g (W'.setCell ⟨g, 0, none⟩ v') C' v' := by
  have h1 : Bx 86 W' g v := h.box.grown hg (fun e => h.box.row h.own (by decide) e.symm)
  have h2 := h1.row ho (by decide)
  exact ⟨h1.set v', ownsRow_setCell_other ho h2 v', hb.setCell (p := ⟨g, 0, none⟩) h.low v', h.low⟩
theorem AcS.kept {w W W' : World} {g : Nat} {C : List ByteArray} {v : Value} (h : AcS w g W C v) (hg : W.grownBy W' v.ownBlock) : Bx 86 W' g v := h.box.grown hg (fun e => h.box.row h.own (by decide) e.symm)
theorem comeR_at {C : List ByteArray} {l : List Ta} {k : Nat} {t : Ta} (h : l[k]? = some t) : comeR C (l.drop k) = comeR (comeS C t) (l.drop (k + 1)) := by
  obtain ⟨hk, rfl⟩ := List.getElem?_eq_some_iff.1 h
  rw [List.drop_eq_getElem_cons hk]
  rfl
theorem comeR_end {C : List ByteArray} {l : List Ta} {k : Nat} (h : k = l.length) : comeR C (l.drop k) = C := by subst h; rw [List.drop_length]; rfl
set_option maxRecDepth 10000 in
set_option maxHeartbeats 4000000 in
theorem allCome_any {w : World} {v : Value} {ts : List Ta} (hr : Tasks w v ts) (hn : ts.length ≤ 4) (ha : ∀ t ∈ ts, t.after.length ≤ 1048576) :
    Calls Tryz.prog 143 #[v] w fun e w' => e = .returned (.bool (allB ts)) ∧ Below w.heap.size w w' := by
  obtain ⟨ao, cap, rfl⟩ := hr.slice
  have HR : Hid (∀ W, Below w.heap.size w W → Tasks W (.slice ao ts.length cap) ts) := fun W h => hr.below h
  have HA : Hid (∀ t ∈ ts, t.after.length ≤ 1048576) := ha
  clear hr ha
  obtain ⟨n, HN⟩ : ∃ n, Hid (ts.length = n) := ⟨_, rfl⟩
  have HAB : Hid (allB ts = decide ((comeN ts n).length = n)) := by show allB ts = _; unfold allB; rw [HN.out]
  rw [HN.out] at hn
  rw [HN.out] at HR ⊢
  rw [HAB.out]
  clear HAB
  go_enter Tryz.func143, Tryz.ntmps143
  go_wp2
  go_loopw [11] (fun i wr => ∃ (k : Nat) (C : List ByteArray) (u : Value), k ≤ n ∧ i = .int .i64 k ∧ C.length ≤ 4 * k ∧ Hid (C = comeN ts k) ∧ Hid (AcS w (w.heap.size + 1) wr C u)) (fun i _ => n - (intOf i).toNat)
  case atStart => 
    refine ⟨0, [], .slice (some ⟨w.heap.size, 0, none⟩) 0 0, Nat.zero_le _, rfl, Nat.le_refl _, rfl, ?_, ?_, ?_, Nat.le_succ _⟩
    · have := Bx.new 86 (w.alloc (.cells #[] 9)) (.slice (some ⟨w.heap.size, 0, none⟩) 0 0)
      simpa using this
    · exact (ownsS_made _ _ _ _ _ (Nat.le_refl _) (by decide) rfl).alloc _
    · exact ba (ba (Below.refl _ _) _) _
  case round =>
    obtain ⟨i, C, u, hi, rfl, hC, HC, HS⟩ := hrel
    by_cases hlt : i < n
    · go_wp2
      go_loopw [15] (fun j wr => ∃ (k : Nat) (E : List ByteArray) (u : Value), k ≤ n ∧ j = .int .i64 k ∧ E.length ≤ 4 * i + k ∧ Hid (comeR C ts = comeR E (ts.drop k)) ∧ Hid (AcS w (w.heap.size + 1) wr E u)) (fun j _ => n - (intOf j).toNat)
      case atStart => exact ⟨0, C, u, Nat.zero_le _, rfl, hC, (by show comeR C ts = comeR C (ts.drop 0); rw [List.drop_zero]), HS⟩
      case round =>
        clear hC HS
        obtain ⟨k, E, u, hk, rfl, hE, HE, HS⟩ := hrel
        by_cases hkn : k < n
        · obtain ⟨t, ht⟩ : ∃ t, ts[k]? = some t := ⟨_, List.getElem?_eq_getElem (by rw [HN.out]; exact hkn)⟩
          obtain ⟨b', o, av, rfl, hb, c0, c1, c2, c3, c4, hav⟩ := (HR.out wr HS.out.bel).at ht
          obtain ⟨fo, fc, rfl, _⟩ := id hav
          obtain ⟨m, HM⟩ : ∃ m, Hid (t.after.length = m) := ⟨_, rfl⟩
          rw [HM.out] at hav c4
          have HV : Hid (Reads wr (.slice fo m fc) t.after) := hav
          clear hav
          obtain ⟨uo, uc, rfl⟩ := ownsS_slice HS.out.own
          obtain ⟨el, HEL⟩ : ∃ el, Hid (E.length = el) := ⟨_, rfl⟩
          have hel : el ≤ 4 * i + k := by rw [← HEL.out]; exact hE
          clear hE
          rw [HEL.out] at HS
          have hm : m ≤ 1048577 := by rw [← HM.out]; exact Nat.le_succ_of_le (HA.out t (List.mem_of_getElem? ht))
          have HX : Hid (∀ W, Below wr.heap.size wr W → AcS w (w.heap.size + 1) W E (.slice uo el uc)) := fun W hb => HS.out.up hb
          have HL : Hid (∀ W, Below wr.heap.size wr W → Calls Tryz.prog 170 #[.string t.name, .pointer (some ⟨w.heap.size + 1, 0, none⟩)] W fun e w' => e = .returned (.bool (!memB E t.name)) ∧ w' = W) :=
            fun W hb => lacks_any _ _ (HX.out W hb).box.cell (ownsS_reads (HX.out W hb).own) (by rw [HEL.out]; omega)
          have HK : Hid (∀ W, Below wr.heap.size wr W → Calls Tryz.prog 171 #[.slice fo m fc, .func (.func 170) #[] #[.pointer (some ⟨w.heap.size + 1, 0, none⟩)]] W fun e w' => e = .returned (.bool (lackB E t.after)) ∧ w' = W) :=
            fun W hb => containsLack_any _ (HV.out.below hb) (by rw [HM.out]; exact hm) (HX.out W hb).box.cell (ownsS_reads (HX.out W hb).own) (by rw [HEL.out]; omega)
          have HT : Hid (comeR C ts = comeR (comeS E t) (ts.drop (k + 1))) := HE.out.trans (comeR_at ht)
          have HCS : Hid (comeS E t = if (!memB E t.name && !lackB E t.after) = true then E ++ [t.name] else E) := rfl
          clear HE ht HV HR
          obtain ⟨q1, HQ1⟩ : ∃ q, Hid (memB E t.name = q) := ⟨_, rfl⟩
          obtain ⟨q2, HQ2⟩ : ∃ q, Hid (lackB E t.after = q) := ⟨_, rfl⟩
          rw [HQ1.out] at HL HCS
          rw [HQ2.out] at HK HCS
          clear HQ1 HQ2
          have cb : wr.cell? ⟨w.heap.size + 1, 0, none⟩ = some (.slice uo el uc) := HS.out.box.cell
          have hbx : w.heap.size + 1 < wr.heap.size := HS.out.box.lt
          cases q1 with
          | true =>
            have HF : Hid (comeR C ts = comeR E (ts.drop (k + 1))) := HT.out.trans (by rw [HCS.out]; rfl)
            clear HT HCS cb
            go_wp2_with (first | (go_at_call 170; refine (HL.out _ (ba (Below.refl _ _) _)).mono ?_; rintro e w1 ⟨rfl, hw⟩; have hw2 := hw.symm; subst hw2) | (go_at_call 171; refine (HK.out _ (ba (Below.refl _ _) _)).mono ?_; rintro e w1 ⟨rfl, hw⟩; have hw2 := hw.symm; subst hw2))
            go_roundw
            case rel => exact ⟨k + 1, E, _, by omega, by go_num, by rw [HEL.out]; omega, HF, HX.out _ (ba (Below.refl _ _) _)⟩
            case measure => simp [intOf]; omega
          | false =>
            cases q2 with
            | true =>
              have HF : Hid (comeR C ts = comeR E (ts.drop (k + 1))) := HT.out.trans (by rw [HCS.out]; rfl)
              clear HT HCS cb
              go_wp2_with (first | (go_at_call 170; refine (HL.out _ (ba (Below.refl _ _) _)).mono ?_; rintro e w1 ⟨rfl, hw⟩; have hw2 := hw.symm; subst hw2) | (go_at_call 171; refine (HK.out _ (ba (Below.refl _ _) _)).mono ?_; rintro e w1 ⟨rfl, hw⟩; have hw2 := hw.symm; subst hw2))
              go_roundw
              case rel => exact ⟨k + 1, E, _, by omega, by go_num, by rw [HEL.out]; omega, HF, HX.out _ (ba (Below.refl _ _) _)⟩
              case measure => simp [intOf]; omega
            | false =>
              have HV1 : Hid (∀ o1 o2, AcS w (w.heap.size + 1) ((wr.alloc o1).alloc o2) E (.slice uo el uc)) := fun o1 o2 => HX.out _ (ba (ba (Below.refl _ _) _) _)
              have HF : Hid (comeR C ts = comeR (E ++ [t.name]) (ts.drop (k + 1))) := HT.out.trans (by rw [HCS.out]; rfl)
              clear HT HCS
              go_wp2_with (first | (go_at_call 170; refine (HL.out _ (ba (Below.refl _ _) _)).mono ?_; rintro e w1 ⟨rfl, hw⟩; have hw2 := hw.symm; subst hw2) | (go_at_call 171; refine (HK.out _ (ba (Below.refl _ _) _)).mono ?_; rintro e w1 ⟨rfl, hw⟩; have hw2 := hw.symm; subst hw2) | (at_builtin; refine wpList_append_text_g _ w rfl (.tmp 30) (.tmp 33) 86 rfl w.heap.size 9 Tryz.underlying86 info9 _ E rfl (HV1.out _ _).own (HV1.out _ _).bel ⟨wr.heap.size + 1, 0, none⟩ 1 t.name rfl ?c1 ?c2 ?c3 ?_))
              case c1 => simp
              case c2 => rw [HEL.out]; omega
              case c3 => simp; omega
              intro v' w1 hown1 hbel1 hgr1
              obtain ⟨vo, vc, rfl⟩ := ownsS_slice hown1
              have HY : Hid (AcS w (w.heap.size + 1) (w1.setCell ⟨w.heap.size + 1, 0, none⟩ (.slice vo (E ++ [t.name]).length vc)) (E ++ [t.name]) (.slice vo (E ++ [t.name]).length vc)) := (HV1.out _ _).put hown1 hbel1 hgr1
              have HB1 : Bx 86 w1 (w.heap.size + 1) (.slice uo el uc) := (HV1.out _ _).kept hgr1
              have hel2 : (E ++ [t.name]).length ≤ 4 * i + (k + 1) := by simp; rw [HEL.out]; omega
              obtain ⟨E2, HE2⟩ : ∃ E2, Hid (E ++ [t.name] = E2) := ⟨_, rfl⟩
              rw [HE2.out] at HF HY hel2
              rw [HE2.out]
              have cb1 : w1.cell? ⟨w.heap.size + 1, 0, none⟩ = some (.slice uo el uc) := HB1.cell
              have fb1 : w1.frozen? ⟨w.heap.size + 1, 0, none⟩ = false := HB1.fz
              clear hown1 hbel1 hgr1 HB1 HV1 HX HL HK HS c0 c1 c2 c3 c4 cb
              go_wp2
              go_roundw
              case rel => exact ⟨k + 1, E2, _, by omega, by go_num, hel2, HF, HY⟩
              case measure => simp [intOf]; omega
        · have HF : Hid (comeR C ts = E) := HE.out.trans (comeR_end (by rw [HN.out]; omega))
          go_wp2
          go_roundw
          case rel => exact ⟨i + 1, E, u, by omega, by go_num, by omega, (by show E = comeN ts (i + 1); rw [← HF.out, HC.out]; rfl), HS⟩
          case measure => simp [intOf]; omega
    · have e : i = n := by omega
      subst e
      obtain ⟨uo, uc, rfl⟩ := ownsS_slice HS.out.own
      have cb : wr.cell? ⟨w.heap.size + 1, 0, none⟩ = some (.slice uo C.length uc) := HS.out.box.cell
      have HD : Hid ((comeN ts i).length = C.length) := by rw [HC.out]; rfl
      obtain ⟨el, HEL⟩ : ∃ el, Hid (C.length = el) := ⟨_, rfl⟩
      rw [HEL.out] at cb hC HD
      have HB := HS.out.bel
      go_wp2
      go_ret
      exact ⟨by rw [HD.out, ← natbeq]; rfl, HB⟩
end Go.Proofs.YtjmclcjhimcehaaGreatDoor

namespace Go.Proofs.YtjmclcjhimcehaaGreatDoor
open Go Go.RowKit

/-- Whether a task is as it must be, whichever others there are. -/
def rightB (t : Ta) : Bool := nameB t.name && (decide (0 < poolN t.pool) && (decide (0 ≤ t.ret) && (decide (t.ret ≤ 3) && ascB ⟨#[]⟩ t.after)))
/-- What its walk asks. -/
structure Sm (t : Ta) : Prop where
  few : t.after.length ≤ 1048576
  name : t.name.size ≤ 9223372036854775807
  small : ∀ s ∈ t.after, s.size ≤ 9223372036854775807
set_option maxRecDepth 10000 in
set_option maxHeartbeats 2000000 in
theorem isRight_any (nm po : ByteArray) (rt : Int) (pa : Bool) (fo : Option Addr) (m fc : Nat) (af : List ByteArray) (w : World) (hr : Reads w (.slice fo m fc) af) (hs : Sm ⟨nm, po, rt, pa, af⟩) :
    Calls Tryz.prog 141 #[.agg #[.string nm, .string po, .int .i64 rt, .bool pa, .slice fo m fc]] w fun e w' => e = .returned (.bool (rightB ⟨nm, po, rt, pa, af⟩)) ∧ Below w.heap.size w w' := by
  have H1 : Hid (∀ W, Calls Tryz.prog 96 #[.string nm] W fun e w' => e = .returned (.bool (nameB nm)) ∧ Below W.heap.size W w') := fun W => implName_any nm W hs.name
  have H2 : Hid (∀ W, Calls Tryz.prog 128 #[.string po] W fun e w' => e = .returned (.int .i64 (poolN po)) ∧ w' = W) := fun W => implPool_any po W
  have H3 : Hid (∀ W, Below w.heap.size w W → Calls Tryz.prog 167 #[.slice fo m fc] W fun e w' => e = .returned (.bool (ascB ⟨#[]⟩ af)) ∧ Below W.heap.size W w') := fun W hb => asc_any (hr.below hb) (Nat.le_succ_of_le hs.few) hs.small
  have HD : Hid (rightB ⟨nm, po, rt, pa, af⟩ = (nameB nm && (decide (0 < poolN po) && (decide (0 ≤ rt) && (decide (rt ≤ 3) && ascB ⟨#[]⟩ af))))) := rfl
  clear hr hs
  obtain ⟨R, HR⟩ : ∃ R, Hid (rightB ⟨nm, po, rt, pa, af⟩ = R) := ⟨_, rfl⟩
  obtain ⟨q1, HQ1⟩ : ∃ q, Hid (nameB nm = q) := ⟨_, rfl⟩
  obtain ⟨P, HP⟩ : ∃ P, Hid (poolN po = P) := ⟨_, rfl⟩
  obtain ⟨q3, HQ3⟩ : ∃ q, Hid (ascB ⟨#[]⟩ af = q) := ⟨_, rfl⟩
  rw [HR.out] at HD ⊢
  rw [HQ1.out] at H1 HD
  rw [HP.out] at H2 HD
  rw [HQ3.out] at H3 HD
  clear HR HQ1 HP HQ3
  cases q1 with
  | false =>
    have HF : Hid (R = false) := HD.out
    clear HD
    go_enter Tryz.func141, Tryz.ntmps141
    go_wp2_with (go_at_call 96; refine (H1.out _).mono ?_; rintro e w1 ⟨rfl, hb1⟩)
    go_ret
    exact ⟨by rw [HF.out]; rfl, below_new hb1⟩
  | true =>
    obtain ⟨W0, hW0⟩ : ∃ W0, w.alloc (.cells #[.string nm, .string po, .int .i64 rt, .bool pa, .slice fo m fc] 88) = W0 := ⟨_, rfl⟩
    have Z0 : B5 88 W0 w.heap.size (.string nm) (.string po) (.int .i64 rt) (.bool pa) (.slice fo m fc) := by rw [← hW0]; exact B5.new _ _ _ _ _ _ _
    have B0 : Below w.heap.size w W0 := by rw [← hW0]; exact ba (Below.refl _ _) _
    have d0 := Z0.c0
    by_cases hP : 0 < P
    case neg =>
      have HF : Hid (R = false) := HD.out.trans (by rw [decide_eq_false hP]; rfl)
      have hP2 : decide (0 < P) = false := decide_eq_false hP
      clear HD
      go_enter Tryz.func141, Tryz.ntmps141
      go_wp2_with (first | (go_at_call 96; refine (H1.out _).mono ?_; rintro e w1 ⟨rfl, hb1⟩; have Z1 := Z0.up hb1; have B1 := B0.trans (hb1.mono B0.size); have d1 := Z1.c1; have d2 := Z1.c2; have d4 := Z1.c4; clear hb1 Z1) | (go_at_call 128; refine (H2.out _).mono ?_; rintro e w2 ⟨rfl, hw⟩; have hw2 := hw.symm; subst hw2) | (go_at_call 167; refine (H3.out _ B1).mono ?_; rintro e w3 ⟨rfl, hb3⟩))
      go_ret
      exact ⟨by rw [HF.out]; rfl, B1⟩
    have hP2 : decide (0 < P) = true := decide_eq_true hP
    by_cases h0 : 0 ≤ rt
    case neg =>
      have HF : Hid (R = false) := HD.out.trans (by rw [hP2, decide_eq_false h0]; rfl)
      clear HD
      go_enter Tryz.func141, Tryz.ntmps141
      go_wp2_with (first | (go_at_call 96; refine (H1.out _).mono ?_; rintro e w1 ⟨rfl, hb1⟩; have Z1 := Z0.up hb1; have B1 := B0.trans (hb1.mono B0.size); have d1 := Z1.c1; have d2 := Z1.c2; have d4 := Z1.c4; clear hb1 Z1) | (go_at_call 128; refine (H2.out _).mono ?_; rintro e w2 ⟨rfl, hw⟩; have hw2 := hw.symm; subst hw2) | (go_at_call 167; refine (H3.out _ B1).mono ?_; rintro e w3 ⟨rfl, hb3⟩))
      go_ret
      exact ⟨by rw [HF.out]; rfl, B1⟩
    by_cases h3 : rt ≤ 3
    case neg =>
      have HF : Hid (R = false) := HD.out.trans (by rw [hP2, decide_eq_true h0, decide_eq_false h3]; rfl)
      clear HD
      go_enter Tryz.func141, Tryz.ntmps141
      go_wp2_with (first | (go_at_call 96; refine (H1.out _).mono ?_; rintro e w1 ⟨rfl, hb1⟩; have Z1 := Z0.up hb1; have B1 := B0.trans (hb1.mono B0.size); have d1 := Z1.c1; have d2 := Z1.c2; have d4 := Z1.c4; clear hb1 Z1) | (go_at_call 128; refine (H2.out _).mono ?_; rintro e w2 ⟨rfl, hw⟩; have hw2 := hw.symm; subst hw2) | (go_at_call 167; refine (H3.out _ B1).mono ?_; rintro e w3 ⟨rfl, hb3⟩))
      go_ret
      exact ⟨by rw [HF.out]; rfl, B1⟩
    have HF : Hid (R = q3) := HD.out.trans (by rw [hP2, decide_eq_true h0, decide_eq_true h3]; rfl)
    clear HD
    go_enter Tryz.func141, Tryz.ntmps141
    go_wp2_with (first | (go_at_call 96; refine (H1.out _).mono ?_; rintro e w1 ⟨rfl, hb1⟩; have Z1 := Z0.up hb1; have B1 := B0.trans (hb1.mono B0.size); have d1 := Z1.c1; have d2 := Z1.c2; have d4 := Z1.c4; clear hb1 Z1) | (go_at_call 128; refine (H2.out _).mono ?_; rintro e w2 ⟨rfl, hw⟩; have hw2 := hw.symm; subst hw2) | (go_at_call 167; refine (H3.out _ B1).mono ?_; rintro e w3 ⟨rfl, hb3⟩))
    go_ret
    exact ⟨by rw [HF.out]; rfl, B1.trans (hb3.mono B1.size)⟩
end Go.Proofs.YtjmclcjhimcehaaGreatDoor

namespace Go.Proofs.YtjmclcjhimcehaaGreatDoor
open Go Go.RowKit

theorem Reads.firstN {α : Type} [Rec α] {w : World} {ao : Option Addr} {n cap : Nat} {l : List α} (h : Reads w (.slice ao n cap) l) {k : Nat} (hk : k ≤ n) : Reads w (.slice ao k cap) (l.take k) := by
  obtain ⟨ao', cap', e, h⟩ := h
  injection e with e1 e2 e3
  subst e1 e2 e3
  have hl : (l.take k).length = k := by rw [List.length_take]; omega
  refine ⟨ao, cap, by rw [hl], fun hne => ?_⟩
  obtain ⟨b, o, rfl, hlt, hc⟩ := h (fun e => hne (by rw [e]; simp))
  refine ⟨b, o, rfl, hlt, fun i x hx => hc i x ?_⟩
  rw [List.getElem?_take] at hx
  split at hx
  · exact hx
  · cases hx
theorem Tasks.take {w : World} {ao : Option Addr} {n cap : Nat} {l : List Ta} (h : Tasks w (.slice ao n cap) l) {k : Nat} (hk : k ≤ n) : Tasks w (.slice ao k cap) (l.take k) := by
  obtain ⟨ks, h1, h2, h3⟩ := h
  refine ⟨ks.take k, h1.firstN hk, by rw [List.length_take, List.length_take, h2], fun i t ht => ?_⟩
  rw [List.getElem?_take] at ht
  split at ht
  · rename_i hik
    obtain ⟨x, hx, ho⟩ := h3 i t ht
    exact ⟨x, by rw [List.getElem?_take, if_pos hik]; exact hx, ho⟩
  · cases ht
def oneB (ts : List Ta) (k : Nat) (t : Ta) : Bool := rightB t && !hasB (ts.take k) t.name
def onesB (ts : List Ta) : Nat → List Ta → Bool
  | _, [] => true
  | k, t :: r => oneB ts k t && onesB ts (k + 1) r
theorem onesB_at {ts : List Ta} {k : Nat} {t : Ta} (h : ts[k]? = some t) : onesB ts k (ts.drop k) = (oneB ts k t && onesB ts (k + 1) (ts.drop (k + 1))) := by
  obtain ⟨hk, rfl⟩ := List.getElem?_eq_some_iff.1 h
  rw [List.drop_eq_getElem_cons hk]
  rfl
theorem onesB_end {ts : List Ta} {k : Nat} (h : k = ts.length) : onesB ts k (ts.drop k) = true := by subst h; rw [List.drop_length]; rfl
/-- Whether tasks are right. -/
def areB (ts : List Ta) : Bool := decide (1 ≤ ts.length ∧ ts.length ≤ 4) && (onesB ts 0 ts && allB ts)
set_option maxRecDepth 10000 in
set_option maxHeartbeats 4000000 in
theorem areTasks_any (ao : Option Addr) (n cap : Nat) (ts : List Ta) (w : World) (hr : Tasks w (.slice ao n cap) ts) (hcap : n ≤ cap) (hn : n ≤ 1048577) (hs : ∀ t ∈ ts, Sm t) :
    Calls Tryz.prog 97 #[.slice ao n cap] w fun e w' => e = .returned (.bool (areB ts)) ∧ Below w.heap.size w w' := by
  have HN : Hid (ts.length = n) := by
    obtain ⟨ao', cap', e⟩ := hr.slice
    injection e with _ e2 _
    exact e2.symm
  by_cases hz : 1 ≤ n ∧ n ≤ 4
  · have h1 : 1 ≤ n := hz.1
    have h4 : n ≤ 4 := hz.2
    have HD : Hid (areB ts = (onesB ts 0 ts && allB ts)) := by show areB ts = _; unfold areB; rw [HN.out, decide_eq_true hz]; rfl
    have HR : Hid (∀ W, Below w.heap.size w W → Tasks W (.slice ao n cap) ts) := fun W hb => hr.below hb
    have HS : Hid (∀ t ∈ ts, Sm t) := hs
    have HA : Hid (∀ W, Below w.heap.size w W → Calls Tryz.prog 143 #[.slice ao n cap] W fun e w' => e = .returned (.bool (allB ts)) ∧ Below W.heap.size W w') := fun W hb => allCome_any (hr.below hb) (by rw [HN.out]; exact h4) (fun t ht => (hs t ht).few)
    clear hr hs hz hn
    obtain ⟨R, HRR⟩ : ∃ R, Hid (areB ts = R) := ⟨_, rfl⟩
    rw [HRR.out] at HD ⊢
    clear HRR
    go_enter Tryz.func97, Tryz.ntmps97
    go_wp2
    go_loopw [15] (fun i wr => ∃ k : Nat, k ≤ n ∧ i = .int .i64 k ∧ Hid (R = (onesB ts k (ts.drop k) && allB ts)) ∧ Below w.heap.size w wr) (fun i _ => n - (intOf i).toNat)
    case atStart => exact ⟨0, Nat.zero_le _, rfl, (by show R = (onesB ts 0 (ts.drop 0) && allB ts); rw [List.drop_zero]; exact HD.out), Below.refl _ _⟩
    case round =>
      obtain ⟨k, hk, rfl, HE, hbel⟩ := hrel
      by_cases hlt : k < n
      · obtain ⟨t, ht⟩ : ∃ t, ts[k]? = some t := ⟨_, List.getElem?_eq_getElem (by rw [HN.out]; exact hlt)⟩
        obtain ⟨b', o, av, rfl, hb, c0, c1, c2, c3, c4, hav⟩ := (HR.out wr hbel).at ht
        obtain ⟨fo, fc, rfl, _⟩ := id hav
        obtain ⟨m, HM⟩ : ∃ m, Hid (t.after.length = m) := ⟨_, rfl⟩
        rw [HM.out] at hav c4
        have HX : Hid (R = ((rightB t && !hasB (ts.take k) t.name) && onesB ts (k + 1) (ts.drop (k + 1)) && allB ts)) := HE.out.trans (by rw [onesB_at ht]; rfl)
        have hSm := HS.out t (List.mem_of_getElem? ht)
        obtain ⟨nm, po, rt, pa, af⟩ := t
        have HC1 : Hid (∀ W, Below wr.heap.size wr W → Calls Tryz.prog 141 #[.agg #[.string nm, .string po, .int .i64 rt, .bool pa, .slice fo m fc]] W fun e w' => e = .returned (.bool (rightB ⟨nm, po, rt, pa, af⟩)) ∧ Below W.heap.size W w') := fun W hb => isRight_any nm po rt pa fo m fc af W (hav.below hb) hSm
        have HC2 : Hid (∀ W, Below wr.heap.size wr W → Calls Tryz.prog 142 #[.slice (some ⟨b', o, none⟩) k cap, .string nm] W fun e w' => e = .returned (.bool (hasB (ts.take k) nm)) ∧ Below W.heap.size W w') := fun W hb => hasTask_any nm ((HR.out W (Below.on hbel hb)).take hk) (by rw [List.length_take]; omega)
        obtain ⟨q1, HQ1⟩ : ∃ q, Hid (rightB ⟨nm, po, rt, pa, af⟩ = q) := ⟨_, rfl⟩
        obtain ⟨q2, HQ2⟩ : ∃ q, Hid (hasB (ts.take k) nm = q) := ⟨_, rfl⟩
        rw [HQ1.out] at HC1
        rw [HQ2.out] at HC2
        have HX2 : Hid (R = ((q1 && !q2) && onesB ts (k + 1) (ts.drop (k + 1)) && allB ts)) := by
          have := HX.out
          dsimp only at this
          rw [HQ1.out, HQ2.out] at this
          exact this
        clear HX HE ht hav hSm HQ1 HQ2
        obtain ⟨V, hV⟩ : ∃ V, wr.alloc (.cells #[.string nm, .string po, .int .i64 rt, .bool pa, .slice fo m fc] 88) = V := ⟨_, rfl⟩
        have Z0 : B5 88 V wr.heap.size (.string nm) (.string po) (.int .i64 rt) (.bool pa) (.slice fo m fc) := by rw [← hV]; exact B5.new _ _ _ _ _ _ _
        have BV : Below wr.heap.size wr V := by rw [← hV]; exact ba (Below.refl _ _) _
        have HB1 : Hid (∀ x : Wd V, Calls Tryz.prog 141 #[.agg #[.string nm, .string po, .int .i64 rt, .bool pa, .slice fo m fc]] x.at' fun e w' => e = .returned (.bool q1) ∧ Below x.at'.heap.size x.at' w') := fun x => HC1.out _ (Below.on BV x.ok)
        have HB2 : Hid (∀ x : Wd V, Calls Tryz.prog 142 #[.slice (some ⟨b', o, none⟩) k cap, .string nm] x.at' fun e w' => e = .returned (.bool q2) ∧ Below x.at'.heap.size x.at' w') := fun x => HC2.out _ (Below.on BV x.ok)
        have BW : Below w.heap.size w V := Below.on hbel BV
        clear HC1 HC2
        dsimp only at c0 c1 c2 c3 c4
        have y0 := Wd.cell Z0.c0
        have y1 := Wd.cell Z0.c1
        have y2 := Wd.cell Z0.c2
        have y3 := Wd.cell Z0.c3
        have y4 := Wd.cell Z0.c4
        have hcut : ∀ wx, (Instr.slice 34 (.slice (some ⟨b', o, none⟩) n cap) none (some (.int .i64 (k : Int))) none).run Tryz.prog wx = .ok (.slice (some ⟨b', o, none⟩) k cap) wx := fun wx => by
          have hk2 : (k : Int) ≤ cap := by omega
          simp [go_sem, hk2, Tryz.underlying34]
        cases q1 with
        | false =>
          have HF : Hid (R = false) := HX2.out
          clear HX2
          go_wp2
          refine wp_region_wd (by kernel_rfl) (by kernel_rfl) ?_
          repeat (go_big_quiet_step (first | (go_at_call 141; refine calls_wd (v := .bool false) ?_; with_reducible exact HB1.out _) | (go_at_call 142; refine calls_wd (v := .bool q2) ?_; with_reducible exact HB2.out _)))
          refine wpQuiet_nil ?_
          rintro _ ⟨x, rfl⟩
          go_wp2
          go_ret
          exact ⟨by rw [HF.out]; rfl, Below.on BW x.ok⟩
        | true =>
          cases q2 with
          | true =>
            have HF : Hid (R = false) := HX2.out
            clear HX2
            go_wp2
            refine wp_region_wd (by kernel_rfl) (by kernel_rfl) ?_
            repeat (go_big_quiet_step (first | (go_at_call 141; refine calls_wd (v := .bool true) ?_; with_reducible exact HB1.out _) | (go_at_call 142; refine calls_wd (v := .bool true) ?_; with_reducible exact HB2.out _)))
            refine wpQuiet_nil ?_
            rintro _ ⟨x, rfl⟩
            go_wp2
            go_ret
            exact ⟨by rw [HF.out]; rfl, Below.on BW x.ok⟩
          | false =>
            have HF : Hid (R = (onesB ts (k + 1) (ts.drop (k + 1)) && allB ts)) := HX2.out.trans (by simp)
            clear HX2
            go_wp2
            refine wp_region_wd (by kernel_rfl) (by kernel_rfl) ?_
            repeat (go_big_quiet_step (first | (go_at_call 141; refine calls_wd (v := .bool true) ?_; with_reducible exact HB1.out _) | (go_at_call 142; refine calls_wd (v := .bool false) ?_; with_reducible exact HB2.out _)))
            refine wpQuiet_nil ?_
            rintro _ ⟨x, rfl⟩
            have BX := Below.on BW x.ok
            clear y0 y1 y2 y3 y4 HB1 HB2 Z0 hcut
            go_wp2
            go_roundw
            case rel => exact ⟨k + 1, by omega, by go_num, HF, BX⟩
            case measure => simp [intOf]; omega
      · have HF : Hid (R = allB ts) := HE.out.trans (by rw [onesB_end (by rw [HN.out]; omega)]; rfl)
        obtain ⟨q, HQ⟩ : ∃ q, Hid (allB ts = q) := ⟨_, rfl⟩
        rw [HQ.out] at HA HF
        go_wp2_with (go_at_call 143; refine (HA.out _ hbel).mono ?_; rintro e w1 ⟨rfl, hb1⟩)
        go_ret
        exact ⟨by rw [HF.out]; rfl, Below.on hbel hb1⟩
  · have HF : Hid (areB ts = false) := by show areB ts = false; unfold areB; rw [HN.out, decide_eq_false hz]; rfl
    by_cases h0 : n < 1
    · clear hz
      go_enter Tryz.func97, Tryz.ntmps97
      go_wp2
      go_ret
      exact ⟨by rw [HF.out]; rfl, Below.refl _ _⟩
    · have h5 : 4 < n := by omega
      clear hz
      go_enter Tryz.func97, Tryz.ntmps97
      go_wp2
      go_ret
      exact ⟨by rw [HF.out]; rfl, Below.refl _ _⟩
end Go.Proofs.YtjmclcjhimcehaaGreatDoor

namespace Go.Proofs.YtjmclcjhimcehaaGreatDoor
open Go Go.RowKit

/-- The first k texts, with a comma between. -/
def joinP (l : List ByteArray) : Nat → ByteArray
  | 0 => ⟨#[]⟩
  | k + 1 => (if k = 0 then joinP l k else joinP l k ++ ⟨#[44]⟩) ++ (l[k]?).getD ⟨#[]⟩
def joinS (l : List ByteArray) : ByteArray := joinP l l.length
theorem joinP_size {l : List ByteArray} (h : ∀ s ∈ l, s.size ≤ 8) : ∀ k, k ≤ l.length → (joinP l k).size ≤ 9 * k
  | 0, _ => by show 0 ≤ _; omega
  | k + 1, hk => by
    have ih := joinP_size h k (by omega)
    have hx := h _ (List.getElem_mem (show k < l.length by omega))
    unfold joinP
    rw [List.getElem?_eq_getElem (by omega), ByteArray.size_append]
    show _ + (l[k]).size ≤ _
    split
    · omega
    · rw [ByteArray.size_append]
      have : (ByteArray.mk #[44]).size = 1 := rfl
      omega
/-- The head of a plan in words. -/
def headS (d : Dg) : ByteArray := (⟨#[100, 97, 103, 32]⟩ ++ d.name ++ ⟨#[10, 99, 114, 111, 110, 32]⟩ ++ d.cron ++ ⟨#[10, 102, 114, 111, 109, 32]⟩ ++ bstr (decI d.fr.toNat) ++ ⟨#[10, 116, 111, 32]⟩ ++ bstr (decI d.up.toNat) ++ ⟨#[10]⟩) ++ (if d.cu then ⟨#[99, 97, 116, 99, 104, 117, 112, 10]⟩ else ⟨#[108, 97, 116, 101, 115, 116, 10]⟩)
/-- A task's line behind a text. -/
def baseL (s : ByteArray) (t : Ta) : ByteArray := s ++ ⟨#[116, 97, 115, 107, 32]⟩ ++ t.name ++ ⟨#[32]⟩ ++ t.pool ++ ⟨#[32]⟩ ++ bstr (decI t.ret.toNat) ++ (if t.past then ⟨#[32, 112, 97, 115, 116]⟩ else ⟨#[32, 102, 114, 101, 101]⟩)
def lineS (s : ByteArray) (t : Ta) : ByteArray := (if 0 < t.after.length then baseL s t ++ ⟨#[32]⟩ ++ joinS t.after else baseL s t) ++ ⟨#[10]⟩
def dagP (d : Dg) : List Ta → ByteArray → ByteArray
  | [], s => s
  | t :: r, s => dagP d r (lineS s t)
/-- A plan in words. -/
def dagS (d : Dg) : ByteArray := dagP d d.tasks (headS d)
def dagX (d : Dg) : ByteArray := if dagB d then dagS d else ⟨#[]⟩
theorem dagP_at {d : Dg} {s : ByteArray} {ts : List Ta} {i : Nat} {t : Ta} (h : ts[i]? = some t) : dagP d (ts.drop i) s = dagP d (ts.drop (i + 1)) (lineS s t) := by
  obtain ⟨hk, rfl⟩ := List.getElem?_eq_some_iff.1 h
  rw [List.drop_eq_getElem_cons hk]
  rfl
theorem tasksB_mem {ts : List Ta} : ∀ (r : List Ta) (i : Nat), tasksB ts i r = true → ∀ t ∈ r, ∃ k, taskB ts k t = true
  | [], _, _, t, ht => by cases ht
  | x :: r, i, h, t, ht => by
    unfold tasksB at h
    rw [Bool.and_eq_true] at h
    rcases List.mem_cons.1 ht with rfl | ht
    · exact ⟨i, h.1⟩
    · exact tasksB_mem r (i + 1) h.2 t ht
theorem atG_some {s : ByteArray} : ∀ (l : List Ta) (k : Nat), 0 ≤ atG s k l → ∃ t ∈ l, t.name = s
  | [], _, h => by simp [atG] at h
  | t :: r, k, h => by
    unfold atG at h
    split at h
    · rename_i e; exact ⟨t, List.mem_cons_self .., e⟩
    · obtain ⟨x, hx, e⟩ := atG_some r (k + 1) h
      exact ⟨x, List.mem_cons_of_mem _ hx, e⟩
theorem afterB_mem {ts : List Ta} {nm : ByteArray} : ∀ (l : List ByteArray) (p : Option ByteArray), afterB ts nm p l = true → ∀ s ∈ l, 0 ≤ atN ts s
  | [], _, _, s, hs => by cases hs
  | x :: r, p, h, s, hs => by
    unfold afterB at h
    simp only [Bool.and_eq_true, decide_eq_true_eq] at h
    rcases List.mem_cons.1 hs with rfl | hs
    · exact h.1.1
    · exact afterB_mem r (some x) h.2 s hs
theorem nameB_size {s : ByteArray} (h : nameB s = true) : s.size ≤ 8 := by
  unfold nameB at h
  simp only [Bool.and_eq_true, decide_eq_true_eq] at h
  exact h.1.2
theorem pool_size {s : ByteArray} (h : poolN s ≠ 0) : s.size ≤ 4 := by
  unfold poolN at h
  split at h
  · subst s; decide
  · split at h
    · subst s; decide
    · split at h
      · subst s; decide
      · exact absurd rfl h
/-- What a right plan's tasks are. -/
structure FineT (t : Ta) : Prop where
  name : t.name.size ≤ 8
  pool : t.pool.size ≤ 4
  r0 : 0 ≤ t.ret
  r1 : t.ret ≤ 3
  after : ∀ s ∈ t.after, s.size ≤ 8
theorem dag_fine {d : Dg} (h : dagB d = true) : d.name.size ≤ 8 ∧ 0 ≤ d.fr ∧ d.fr ≤ 68374079 ∧ 0 ≤ d.up ∧ d.up ≤ 68374079 ∧ d.tasks.length ≤ 4 ∧ ∀ t ∈ d.tasks, FineT t := by
  unfold dagB at h
  simp only [Bool.and_eq_true, decide_eq_true_eq] at h
  obtain ⟨h1, _, _, h4, h5, h6, h7, _⟩ := h
  have key : ∀ t ∈ d.tasks, nameB t.name = true ∧ poolN t.pool ≠ 0 ∧ (0 ≤ t.ret ∧ t.ret ≤ 3) ∧ afterB d.tasks t.name none t.after = true := by
    intro t ht
    obtain ⟨k, hk⟩ := tasksB_mem d.tasks 0 h7 t ht
    unfold taskB at hk
    simp only [Bool.and_eq_true, decide_eq_true_eq, Bool.not_eq_true', decide_eq_false_iff_not] at hk
    exact ⟨hk.1, hk.2.2.1, hk.2.2.2.1, hk.2.2.2.2⟩
  refine ⟨nameB_size h1, h5.1, by omega, h4.1, h4.2, by omega, fun t ht => ?_⟩
  obtain ⟨k1, k2, k3, k4⟩ := key t ht
  refine ⟨nameB_size k1, pool_size k2, k3.1, k3.2, fun s hs => ?_⟩
  obtain ⟨x, hx, rfl⟩ := atG_some d.tasks 0 (afterB_mem _ _ k4 s hs)
  exact nameB_size (key x hx).1
theorem dec_size {n : Int} (h : n ≤ 1000000000) : (bstr (decI n.toNat)).size ≤ 10 := by rw [bstr_size']; exact decI_len 9 _ (by omega)
end Go.Proofs.YtjmclcjhimcehaaGreatDoor

namespace Go.Proofs.YtjmclcjhimcehaaGreatDoor
open Go Go.RowKit

theorem atG_le {s : ByteArray} : ∀ (l : List Ta) (k j : Nat) (u : Ta), l[j]? = some u → u.name = s → (k : Int) ≤ atG s k l ∧ atG s k l ≤ ((k + j : Nat) : Int)
  | [], _, _, _, h, _ => by simp at h
  | t :: r, k, j, u, h, e => by
    unfold atG
    by_cases ht : t.name = s
    · rw [if_pos ht]; omega
    · rw [if_neg ht]
      match j, h with
      | 0, h => simp at h; subst h; exact absurd e ht
      | j + 1, h =>
        have := atG_le r (k + 1) j u (by simpa using h) e
        omega
theorem at_le {ts : List Ta} {s : ByteArray} {j : Nat} {u : Ta} (h : ts[j]? = some u) (e : u.name = s) : 0 ≤ atN ts s ∧ atN ts s ≤ (j : Int) := by
  have := atG_le ts 0 j u h e
  unfold atN
  omega
theorem hasB_take {ts : List Ta} {i : Nat} {t : Ta} (h : ts[i]? = some t) : hasB (ts.take i) t.name = false ↔ atN ts t.name = (i : Int) := by
  constructor
  · intro hf
    obtain ⟨h0, h1⟩ := at_le h rfl
    obtain ⟨j, u, hj, he, ha⟩ := at_find h0
    by_cases hlt : j < i
    · exfalso
      unfold hasB at hf
      rw [List.any_eq_false] at hf
      have hm : u ∈ ts.take i := List.mem_of_getElem? (i := j) (by rw [List.getElem?_take, if_pos hlt]; exact hj)
      exact hf u hm (decide_eq_true he)
    · omega
  · intro ha
    unfold hasB
    rw [List.any_eq_false]
    intro u hu hq
    obtain ⟨j, hj, rfl⟩ := List.getElem_of_mem hu
    have hjl : j < i := by
      have := hj
      rw [List.length_take] at this
      omega
    have hju : ts[j]? = some (ts.take i)[j] := by
      have := List.getElem?_eq_getElem hj
      rw [List.getElem?_take, if_pos hjl] at this
      exact this
    have := (at_le hju (of_decide_eq_true hq)).2
    omega
theorem onesB_iff {ts : List Ta} : ∀ (r : List Ta) (k : Nat), ts.drop k = r → (onesB ts k r = true ↔ ∀ (i : Nat) (t : Ta), k ≤ i → ts[i]? = some t → oneB ts i t = true)
  | [], k, h => by
    refine ⟨fun _ i t hi ht => ?_, fun _ => rfl⟩
    have h2 := congrArg List.length h
    have := (List.getElem?_eq_some_iff.1 ht).1
    rw [List.length_drop] at h2
    simp at h2
    omega
  | t :: r, k, h => by
    have hk : ts[k]? = some t := by
      have := congrArg (fun l => l[0]?) h
      simpa [List.getElem?_drop] using this
    have hr : ts.drop (k + 1) = r := by
      have := congrArg List.tail h
      simpa using this
    unfold onesB
    rw [Bool.and_eq_true, onesB_iff r (k + 1) hr]
    constructor
    · rintro ⟨h1, h2⟩ i u hi hu
      by_cases e : i = k
      · subst e; rw [hk] at hu; cases hu; exact h1
      · exact h2 i u (by omega) hu
    · intro h1
      exact ⟨h1 k t (Nat.le_refl _) hk, fun i u hi hu => h1 i u (by omega) hu⟩
theorem tasksB_iff {ts : List Ta} : ∀ (r : List Ta) (k : Nat), ts.drop k = r → (tasksB ts k r = true ↔ ∀ (i : Nat) (t : Ta), k ≤ i → ts[i]? = some t → taskB ts i t = true)
  | [], k, h => by
    refine ⟨fun _ i t hi ht => ?_, fun _ => rfl⟩
    have h2 := congrArg List.length h
    have := (List.getElem?_eq_some_iff.1 ht).1
    rw [List.length_drop] at h2
    simp at h2
    omega
  | t :: r, k, h => by
    have hk : ts[k]? = some t := by
      have := congrArg (fun l => l[0]?) h
      simpa [List.getElem?_drop] using this
    have hr : ts.drop (k + 1) = r := by
      have := congrArg List.tail h
      simpa using this
    unfold tasksB
    rw [Bool.and_eq_true, tasksB_iff r (k + 1) hr]
    constructor
    · rintro ⟨h1, h2⟩ i u hi hu
      by_cases e : i = k
      · subst e; rw [hk] at hu; cases hu; exact h1
      · exact h2 i u (by omega) hu
    · intro h1
      exact ⟨h1 k t (Nat.le_refl _) hk, fun i u hi hu => h1 i u (by omega) hu⟩
theorem pool_pos (s : ByteArray) : decide (0 < poolN s) = !decide (poolN s = 0) := by
  unfold poolN
  split
  · rfl
  · split
    · rfl
    · split <;> rfl
theorem asc_after {ts : List Ta} {nm : ByteArray} : ∀ (l : List ByteArray) (p : ByteArray), ascB p l = true → (∀ s ∈ l, 0 ≤ atN ts s ∧ s ≠ nm) → afterB ts nm (some p) l = true
  | [], _, _, _ => rfl
  | s :: r, p, h, ha => by
    unfold ascB at h
    unfold afterB
    simp only [Bool.and_eq_true] at h
    obtain ⟨⟨_, h2⟩, h3⟩ := h
    obtain ⟨a1, a2⟩ := ha s (List.mem_cons_self ..)
    rw [decide_eq_true a1, decide_eq_false a2, asc_after r s h3 fun x hx => ha x (List.mem_cons_of_mem _ hx)]
    show (true && (!false && lessB p s)) && true = true
    rw [less_le, h2]
    rfl
theorem asc_after0 {ts : List Ta} {nm : ByteArray} {l : List ByteArray} (h : ascB ⟨#[]⟩ l = true) (ha : ∀ s ∈ l, 0 ≤ atN ts s ∧ s ≠ nm) : afterB ts nm none l = true := by
  match l, h, ha with
  | [], _, _ => rfl
  | s :: r, h, ha =>
    unfold ascB at h
    unfold afterB
    simp only [Bool.and_eq_true] at h
    obtain ⟨_, h3⟩ := h
    obtain ⟨a1, a2⟩ := ha s (List.mem_cons_self ..)
    rw [decide_eq_true a1, decide_eq_false a2, asc_after r s h3 fun x hx => ha x (List.mem_cons_of_mem _ hx)]
    rfl
theorem after_asc {ts : List Ta} {nm : ByteArray} : ∀ (l : List ByteArray) (p : ByteArray), afterB ts nm (some p) l = true → (∀ s ∈ l, nameB s = true) → ascB p l = true
  | [], _, _, _ => rfl
  | s :: r, p, h, ha => by
    unfold afterB at h
    unfold ascB
    simp only [Bool.and_eq_true] at h
    obtain ⟨⟨_, _, h2⟩, h3⟩ := h
    have h4 : lessB p s = true := h2
    rw [less_le] at h4
    rw [ha s (List.mem_cons_self ..), h4, after_asc r s h3 fun x hx => ha x (List.mem_cons_of_mem _ hx)]
    rfl
theorem name_some {s : ByteArray} (h : nameB s = true) : 0 < s.size := by
  unfold nameB at h
  rw [Bool.and_eq_true] at h
  exact (of_decide_eq_true h.1).1
theorem after_asc0 {ts : List Ta} {nm : ByteArray} {l : List ByteArray} (h : afterB ts nm none l = true) (ha : ∀ s ∈ l, nameB s = true) : ascB ⟨#[]⟩ l = true := by
  match l, h, ha with
  | [], _, _ => rfl
  | s :: r, h, ha =>
    unfold afterB at h
    unfold ascB
    simp only [Bool.and_eq_true] at h
    have hn := ha s (List.mem_cons_self ..)
    rw [hn, leB_none (name_some hn), after_asc r s h.2 fun x hx => ha x (List.mem_cons_of_mem _ hx)]
    rfl
theorem after_mem {ts : List Ta} {nm : ByteArray} {l : List ByteArray} {p : Option ByteArray} (h : afterB ts nm p l = true) {s : ByteArray} (hs : s ∈ l) : 0 ≤ atN ts s := afterB_mem l p h s hs
/-- Tasks are right for both alike. -/
theorem tasks_same (ts : List Ta) : (onesB ts 0 ts && allB ts) = (tasksB ts 0 ts && decide ((orderL ts).length = ts.length)) := by
  rw [Bool.eq_iff_iff, Bool.and_eq_true, Bool.and_eq_true, onesB_iff ts 0 rfl, tasksB_iff ts 0 rfl]
  constructor
  · rintro ⟨h1, h2⟩
    have ho : Own ts := fun i t ht => by
      have := h1 i t (Nat.zero_le _) ht
      unfold oneB at this
      rw [Bool.and_eq_true, Bool.not_eq_true'] at this
      exact (hasB_take ht).1 this.2
    obtain ⟨L, hL, hlen⟩ := row_of_all h2
    have hall := nodup_full hL.1 hL.names (by rw [List.length_map]; omega)
    have haft : ∀ (i : Nat) (t : Ta), ts[i]? = some t → ∀ s ∈ t.after, 0 ≤ atN ts s ∧ s ≠ t.name := by
      intro i t ht s hs
      have hm : t.name ∈ L := hall _ (List.mem_map.2 ⟨t, List.mem_of_getElem? ht, rfl⟩)
      obtain ⟨A, B, rfl⟩ := List.append_of_mem hm
      obtain ⟨u, hu, hn, ha⟩ := hL.2 A t.name B rfl
      obtain ⟨j, hj, rfl⟩ := List.getElem_of_mem hu
      have hju : ts[j]? = some ts[j] := List.getElem?_eq_getElem hj
      have hji := ho.inj hju ht hn
      subst hji
      rw [hju] at ht
      cases ht
      have hsA := ha s hs
      constructor
      · have := hL.names s (List.mem_append_left _ hsA)
        obtain ⟨v, hv, rfl⟩ := List.mem_map.1 this
        obtain ⟨k, hk, rfl⟩ := List.getElem_of_mem hv
        exact (at_le (List.getElem?_eq_getElem hk) rfl).1
      · intro e
        have hnd := hL.1
        rw [List.nodup_append] at hnd
        exact hnd.2.2 s hsA _ (List.mem_cons_self ..) e
    refine ⟨fun i t _ ht => ?_, ?_⟩
    · have h3 := h1 i t (Nat.zero_le _) ht
      unfold oneB rightB at h3
      simp only [Bool.and_eq_true] at h3
      obtain ⟨⟨a1, a2, a3, a4, a5⟩, _⟩ := h3
      rw [pool_pos] at a2
      unfold taskB
      rw [a1, decide_eq_true (ho i t ht), a2, decide_eq_true (p := 0 ≤ t.ret ∧ t.ret ≤ 3) ⟨of_decide_eq_true a3, of_decide_eq_true a4⟩, asc_after0 a5 (haft i t ht)]
      rfl
    · rw [order_all ho fun t ht s hs => by
        obtain ⟨i, hi, rfl⟩ := List.getElem_of_mem ht
        exact (haft i _ (List.getElem?_eq_getElem hi) s hs).1]
      exact h2
  · rintro ⟨h1, h2⟩
    have hp : ∀ (i : Nat) (t : Ta), ts[i]? = some t → nameB t.name = true ∧ atN ts t.name = (i : Int) ∧ (!decide (poolN t.pool = 0)) = true ∧ (0 ≤ t.ret ∧ t.ret ≤ 3) ∧ afterB ts t.name none t.after = true := by
      intro i t ht
      have := h1 i t (Nat.zero_le _) ht
      unfold taskB at this
      simp only [Bool.and_eq_true] at this
      obtain ⟨a1, a2, a3, a4, a5⟩ := this
      exact ⟨a1, of_decide_eq_true a2, a3, of_decide_eq_true a4, a5⟩
    have ho : Own ts := fun i t ht => (hp i t ht).2.1
    have hmem : ∀ t ∈ ts, ∀ s ∈ t.after, 0 ≤ atN ts s := by
      intro t ht s hs
      obtain ⟨i, hi, rfl⟩ := List.getElem_of_mem ht
      exact after_mem (hp i _ (List.getElem?_eq_getElem hi)).2.2.2.2 hs
    refine ⟨fun i t _ ht => ?_, ?_⟩
    · obtain ⟨a1, a2, a3, a4, a5⟩ := hp i t ht
      have hn : ∀ s ∈ t.after, nameB s = true := by
        intro s hs
        obtain ⟨j, u, hj, he, _⟩ := at_find (hmem t (List.mem_of_getElem? ht) s hs)
        rw [← he]
        exact (hp j u hj).1
      unfold oneB rightB
      rw [a1, pool_pos, a3, decide_eq_true a4.1, decide_eq_true a4.2, after_asc0 a5 hn, (hasB_take ht).2 a2]
      rfl
    · rw [← order_all ho hmem]
      exact h2
theorem are_same (ts : List Ta) : areB ts = (decide (1 ≤ (ts.length : Int) ∧ (ts.length : Int) ≤ 4) && (tasksB ts 0 ts && decide ((orderL ts).length = ts.length))) := by
  unfold areB
  rw [tasks_same]
  congr 1
  apply decide_eq_decide.2
  omega
/-- A plan is right for both alike. -/
theorem dag_same (d : Dg) : dagB d = (nameB d.name && ((pcO d.cron).isSome && (decide (againS d.cron = d.cron) && (decide (0 ≤ d.fr) && (decide (d.fr ≤ d.up) && (decide (d.up ≤ 68374079) && areB d.tasks)))))) := by
  rw [are_same]
  unfold dagB
  congr 3
  by_cases h : 0 ≤ d.fr ∧ d.fr ≤ d.up ∧ d.up ≤ 68374079
  · obtain ⟨h1, h2, h3⟩ := h
    rw [decide_eq_true (p := 0 ≤ d.up ∧ d.up ≤ 68374079) ⟨by omega, h3⟩, decide_eq_true (p := 0 ≤ d.fr ∧ d.fr ≤ d.up) ⟨h1, h2⟩, decide_eq_true h1, decide_eq_true h2, decide_eq_true h3]
    rfl
  · have e1 : (decide (0 ≤ d.up ∧ d.up ≤ 68374079) && decide (0 ≤ d.fr ∧ d.fr ≤ d.up)) = false := by
      rw [Bool.and_eq_false_iff]
      by_cases h1 : 0 ≤ d.fr ∧ d.fr ≤ d.up
      · left; exact decide_eq_false (fun h2 => h ⟨h1.1, h1.2, h2.2⟩)
      · right; exact decide_eq_false h1
    have e2 : (decide (0 ≤ d.fr) && (decide (d.fr ≤ d.up) && decide (d.up ≤ 68374079))) = false := by
      cases hq : (decide (0 ≤ d.fr) && (decide (d.fr ≤ d.up) && decide (d.up ≤ 68374079))) with
      | false => rfl
      | true =>
        simp only [Bool.and_eq_true, decide_eq_true_eq] at hq
        exact absurd ⟨hq.1, hq.2.1, hq.2.2⟩ h
    have e3 : ∀ X : Bool, (decide (0 ≤ d.fr) && (decide (d.fr ≤ d.up) && (decide (d.up ≤ 68374079) && X))) = false := fun X => by
      rw [← Bool.and_assoc (decide (d.fr ≤ d.up)), ← Bool.and_assoc, e2]
      rfl
    rw [e3, ← Bool.and_assoc, e1]
    rfl
end Go.Proofs.YtjmclcjhimcehaaGreatDoor
