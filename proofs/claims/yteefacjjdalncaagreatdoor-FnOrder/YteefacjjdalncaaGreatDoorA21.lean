/-
  Whether all tasks come, as the program reckons it: the walk. Whether a plan is right, as the program asks it: the walks of isRight, areTasks and DagOk. Whether the tasks of a plan are right, as the program asks it: the walk of areTasks.
-/
import Derived.Test.YteefacjjdalncaaGreatDoorA20
import Derived.Test.YteefacjjdalncaaGreatDoorA15
import Derived.Test.YteefacjjdalncaaGreatDoorTak
import Derived.OneCell
import Derived.Test.YteefacjjdalncaaGreatDoorA18
import Derived.Test.YteefacjjdalncaaGreatDoorWd
namespace Go.Proofs.YteefacjjdalncaaGreatDoor
open Go Go.RowKit

/-- A box of one cell. -/
def Bx (t : TypeId) (W : World) (g : Nat) (v : Value) : Prop := W.heap[g]? = some (.cells #[v] t)
theorem Bx.lt {t : TypeId} {W : World} {g : Nat} {v : Value} (h : Bx t W g v) : g < W.heap.size := (Array.getElem?_eq_some_iff.1 (show W.heap[g]? = _ from h)).1
theorem Bx.cell {t : TypeId} {W : World} {g : Nat} {v : Value} (h : Bx t W g v) : W.cell? ⟨g, 0, none⟩ = some v := by simp [World.cell?, show W.heap[g]? = _ from h]
theorem Bx.fz {t : TypeId} {W : World} {g : Nat} {v : Value} (h : Bx t W g v) : W.frozen? ⟨g, 0, none⟩ = false := by simp [World.frozen?, show W.heap[g]? = _ from h]
theorem Bx.up {t : TypeId} {W W' : World} {g : Nat} {v : Value} (h : Bx t W g v) (hb : Below W.heap.size W W') : Bx t W' g v := (hb.block g h.lt).trans h
theorem Bx.set {t : TypeId} {W : World} {g : Nat} {v : Value} (h : Bx t W g v) (u : Value) : Bx t (W.setCell ⟨g, 0, none⟩ u) g u := by simp [Bx, World.setCell, Array.getElem?_modify, show W.heap[g]? = _ from h]
theorem Bx.new (t : TypeId) (W : World) (v : Value) : Bx t (W.alloc (.cells #[v] t)) W.heap.size v := by
  show (W.heap.push _)[W.heap.size]? = _
  simp
theorem Bx.grown {t : TypeId} {W W' : World} {g : Nat} {v : Value} {r : Option Nat} (h : Bx t W g v) (hg : W.grownBy W' r) (hr : some g ≠ r) : Bx t W' g v := (hg.block g h.lt hr).trans h
theorem Bx.row {w : World} {B : Nat} {u v : Value} {T : List ByteArray} {t : TypeId} {g : Nat} (hf : Bx t w g u) (h : ownsS w B 9 v T) (ht : t ≠ 9) : v.ownBlock ≠ some g := by
  intro e
  rcases h.2 with ⟨rfl, _⟩ | ⟨g', cap', cur', rfl, _, hg', _⟩
  · cases e
  · have : g' = g := Option.some.inj e
    subst this
    unfold Bx at hf
    rw [hf] at hg'
    simp only [Option.some.injEq, Obj.cells.injEq] at hg'
    exact ht hg'.2.1
/-- What lies there while tasks come: the names that have come, in a box. -/
structure AcS (w : World) (g : Nat) (W : World) (C : List ByteArray) (v : Value) : Prop where
  box : Bx 43 W g v
  own : ownsS W w.heap.size 9 v C
  bel : Below w.heap.size w W
  low : w.heap.size ≤ g
theorem AcS.up {w W W' : World} {g : Nat} {C : List ByteArray} {v : Value} (h : AcS w g W C v) (hb : Below W.heap.size W W') : AcS w g W' C v := ⟨h.box.up hb, h.own.all hb, h.bel.trans (hb.mono h.bel.size), h.low⟩
theorem AcS.put {w W W' : World} {g : Nat} {C C' : List ByteArray} {v v' : Value} (h : AcS w g W C v) (ho : ownsS W' w.heap.size 9 v' C') (hb : Below w.heap.size w W') (hg : W.grownBy W' v.ownBlock) : AcS w g (W'.setCell ⟨g, 0, none⟩ v') C' v' := by
  have h1 : Bx 43 W' g v := h.box.grown hg (fun e => h.box.row h.own (by decide) e.symm)
  have h2 := h1.row ho (by decide)
  exact ⟨h1.set v', ownsRow_setCell_other ho h2 v', hb.setCell (p := ⟨g, 0, none⟩) h.low v', h.low⟩
theorem AcS.kept {w W W' : World} {g : Nat} {C : List ByteArray} {v : Value} (h : AcS w g W C v) (hg : W.grownBy W' v.ownBlock) : Bx 43 W' g v := h.box.grown hg (fun e => h.box.row h.own (by decide) e.symm)
theorem comeR_at {C : List ByteArray} {l : List Ta} {k : Nat} {t : Ta} (h : l[k]? = some t) : comeR C (l.drop k) = comeR (comeS C t) (l.drop (k + 1)) := by
  obtain ⟨hk, rfl⟩ := List.getElem?_eq_some_iff.1 h
  rw [List.drop_eq_getElem_cons hk]
  rfl
theorem comeR_end {C : List ByteArray} {l : List Ta} {k : Nat} (h : k = l.length) : comeR C (l.drop k) = C := by subst h; rw [List.drop_length]; rfl
set_option maxRecDepth 10000 in
set_option maxHeartbeats 4000000 in
theorem allCome_any {w : World} {v : Value} {ts : List Ta} (hr : Tasks w v ts) (hn : ts.length ≤ 4) (ha : ∀ t ∈ ts, t.after.length ≤ 1048576) :
    Calls Tryz.prog 114 #[v] w fun e w' => e = .returned (.bool (allB ts)) ∧ Below w.heap.size w w' := by
  obtain ⟨ao, cap, rfl⟩ := hr.slice
  have HR : Hid (∀ W, Below w.heap.size w W → Tasks W (.slice ao ts.length cap) ts) := fun W h => hr.below h
  have HA : Hid (∀ t ∈ ts, t.after.length ≤ 1048576) := ha
  clear hr ha
  obtain ⟨n, HN⟩ : ∃ n, Hid (ts.length = n) := ⟨_, rfl⟩
  have HAB : Hid (allB ts = decide ((comeN ts n).length = n)) := by show allB ts = _; unfold allB; rw [HN.out]
  rw [HN.out] at hn
  rw [HN.out] at HR ⊢
  rw [HAB.out]
  clear HAB
  go_enter Tryz.func114, Tryz.ntmps114
  go_wp2
  go_loopw [11] (fun i wr => ∃ (k : Nat) (C : List ByteArray) (u : Value), k ≤ n ∧ i = .int .i64 k ∧ C.length ≤ 4 * k ∧ Hid (C = comeN ts k) ∧ Hid (AcS w (w.heap.size + 1) wr C u)) (fun i _ => n - (intOf i).toNat)
  case atStart => 
    refine ⟨0, [], .slice (some ⟨w.heap.size, 0, none⟩) 0 0, Nat.zero_le _, rfl, Nat.le_refl _, rfl, ?_, ?_, ?_, Nat.le_succ _⟩
    · have := Bx.new 43 (w.alloc (.cells #[] 9)) (.slice (some ⟨w.heap.size, 0, none⟩) 0 0)
      simpa using this
    · exact (ownsS_made _ _ _ _ _ (Nat.le_refl _) (by decide) rfl).alloc _
    · exact ba (ba (Below.refl _ _) _) _
  case round =>
    obtain ⟨i, C, u, hi, rfl, hC, HC, HS⟩ := hrel
    by_cases hlt : i < n
    · go_wp2
      go_loopw [15] (fun j wr => ∃ (k : Nat) (E : List ByteArray) (u : Value), k ≤ n ∧ j = .int .i64 k ∧ E.length ≤ 4 * i + k ∧ Hid (comeR C ts = comeR E (ts.drop k)) ∧ Hid (AcS w (w.heap.size + 1) wr E u)) (fun j _ => n - (intOf j).toNat)
      case atStart => exact ⟨0, C, u, Nat.zero_le _, rfl, hC, (by show comeR C ts = comeR C (ts.drop 0); rw [List.drop_zero]), HS⟩
      case round =>
        clear hC HS
        obtain ⟨k, E, u, hk, rfl, hE, HE, HS⟩ := hrel
        by_cases hkn : k < n
        · obtain ⟨t, ht⟩ : ∃ t, ts[k]? = some t := ⟨_, List.getElem?_eq_getElem (by rw [HN.out]; exact hkn)⟩
          obtain ⟨b', o, av, rfl, hb, c0, c1, c2, c3, c4, hav⟩ := (HR.out wr HS.out.bel).at ht
          obtain ⟨fo, fc, rfl, _⟩ := id hav
          obtain ⟨m, HM⟩ : ∃ m, Hid (t.after.length = m) := ⟨_, rfl⟩
          rw [HM.out] at hav c4
          have HV : Hid (Reads wr (.slice fo m fc) t.after) := hav
          clear hav
          obtain ⟨uo, uc, rfl⟩ := ownsS_slice HS.out.own
          obtain ⟨el, HEL⟩ : ∃ el, Hid (E.length = el) := ⟨_, rfl⟩
          have hel : el ≤ 4 * i + k := by rw [← HEL.out]; exact hE
          clear hE
          rw [HEL.out] at HS
          have hm : m ≤ 1048577 := by rw [← HM.out]; exact Nat.le_succ_of_le (HA.out t (List.mem_of_getElem? ht))
          have HX : Hid (∀ W, Below wr.heap.size wr W → AcS w (w.heap.size + 1) W E (.slice uo el uc)) := fun W hb => HS.out.up hb
          have HL : Hid (∀ W, Below wr.heap.size wr W → Calls Tryz.prog 157 #[.string t.name, .pointer (some ⟨w.heap.size + 1, 0, none⟩)] W fun e w' => e = .returned (.bool (!memB E t.name)) ∧ w' = W) :=
            fun W hb => lacks_any _ _ (HX.out W hb).box.cell (ownsS_reads (HX.out W hb).own) (by rw [HEL.out]; omega)
          have HK : Hid (∀ W, Below wr.heap.size wr W → Calls Tryz.prog 158 #[.slice fo m fc, .func (.func 157) #[] #[.pointer (some ⟨w.heap.size + 1, 0, none⟩)]] W fun e w' => e = .returned (.bool (lackB E t.after)) ∧ w' = W) :=
            fun W hb => containsLack_any _ (HV.out.below hb) (by rw [HM.out]; exact hm) (HX.out W hb).box.cell (ownsS_reads (HX.out W hb).own) (by rw [HEL.out]; omega)
          have HT : Hid (comeR C ts = comeR (comeS E t) (ts.drop (k + 1))) := HE.out.trans (comeR_at ht)
          have HCS : Hid (comeS E t = if (!memB E t.name && !lackB E t.after) = true then E ++ [t.name] else E) := rfl
          clear HE ht HV HR
          obtain ⟨q1, HQ1⟩ : ∃ q, Hid (memB E t.name = q) := ⟨_, rfl⟩
          obtain ⟨q2, HQ2⟩ : ∃ q, Hid (lackB E t.after = q) := ⟨_, rfl⟩
          rw [HQ1.out] at HL HCS
          rw [HQ2.out] at HK HCS
          clear HQ1 HQ2
          have cb : wr.cell? ⟨w.heap.size + 1, 0, none⟩ = some (.slice uo el uc) := HS.out.box.cell
          have hbx : w.heap.size + 1 < wr.heap.size := HS.out.box.lt
          cases q1 with
          | true =>
            have HF : Hid (comeR C ts = comeR E (ts.drop (k + 1))) := HT.out.trans (by rw [HCS.out]; rfl)
            clear HT HCS cb
            go_wp2_with (first | (go_at_call 157; refine (HL.out _ (ba (Below.refl _ _) _)).mono ?_; rintro e w1 ⟨rfl, hw⟩; have hw2 := hw.symm; subst hw2) | (go_at_call 158; refine (HK.out _ (ba (Below.refl _ _) _)).mono ?_; rintro e w1 ⟨rfl, hw⟩; have hw2 := hw.symm; subst hw2))
            go_roundw
            case rel => exact ⟨k + 1, E, _, by omega, by go_num, by rw [HEL.out]; omega, HF, HX.out _ (ba (Below.refl _ _) _)⟩
            case measure => simp [intOf]; omega
          | false =>
            cases q2 with
            | true =>
              have HF : Hid (comeR C ts = comeR E (ts.drop (k + 1))) := HT.out.trans (by rw [HCS.out]; rfl)
              clear HT HCS cb
              go_wp2_with (first | (go_at_call 157; refine (HL.out _ (ba (Below.refl _ _) _)).mono ?_; rintro e w1 ⟨rfl, hw⟩; have hw2 := hw.symm; subst hw2) | (go_at_call 158; refine (HK.out _ (ba (Below.refl _ _) _)).mono ?_; rintro e w1 ⟨rfl, hw⟩; have hw2 := hw.symm; subst hw2))
              go_roundw
              case rel => exact ⟨k + 1, E, _, by omega, by go_num, by rw [HEL.out]; omega, HF, HX.out _ (ba (Below.refl _ _) _)⟩
              case measure => simp [intOf]; omega
            | false =>
              have HV1 : Hid (∀ o1 o2, AcS w (w.heap.size + 1) ((wr.alloc o1).alloc o2) E (.slice uo el uc)) := fun o1 o2 => HX.out _ (ba (ba (Below.refl _ _) _) _)
              have HF : Hid (comeR C ts = comeR (E ++ [t.name]) (ts.drop (k + 1))) := HT.out.trans (by rw [HCS.out]; rfl)
              clear HT HCS
              go_wp2_with (first | (go_at_call 157; refine (HL.out _ (ba (Below.refl _ _) _)).mono ?_; rintro e w1 ⟨rfl, hw⟩; have hw2 := hw.symm; subst hw2) | (go_at_call 158; refine (HK.out _ (ba (Below.refl _ _) _)).mono ?_; rintro e w1 ⟨rfl, hw⟩; have hw2 := hw.symm; subst hw2) | (at_builtin; refine wpList_append_text_g _ w rfl (.tmp 30) (.tmp 33) 43 rfl w.heap.size 9 Tryz.underlying43 info9 _ E rfl (HV1.out _ _).own (HV1.out _ _).bel ⟨wr.heap.size + 1, 0, none⟩ 1 t.name rfl ?c1 ?c2 ?c3 ?_))
              case c1 => simp
              case c2 => rw [HEL.out]; omega
              case c3 => simp; omega
              intro v' w1 hown1 hbel1 hgr1
              obtain ⟨vo, vc, rfl⟩ := ownsS_slice hown1
              have HY : Hid (AcS w (w.heap.size + 1) (w1.setCell ⟨w.heap.size + 1, 0, none⟩ (.slice vo (E ++ [t.name]).length vc)) (E ++ [t.name]) (.slice vo (E ++ [t.name]).length vc)) := (HV1.out _ _).put hown1 hbel1 hgr1
              have HB1 : Bx 43 w1 (w.heap.size + 1) (.slice uo el uc) := (HV1.out _ _).kept hgr1
              have hel2 : (E ++ [t.name]).length ≤ 4 * i + (k + 1) := by simp; rw [HEL.out]; omega
              obtain ⟨E2, HE2⟩ : ∃ E2, Hid (E ++ [t.name] = E2) := ⟨_, rfl⟩
              rw [HE2.out] at HF HY hel2
              rw [HE2.out]
              have cb1 : w1.cell? ⟨w.heap.size + 1, 0, none⟩ = some (.slice uo el uc) := HB1.cell
              have fb1 : w1.frozen? ⟨w.heap.size + 1, 0, none⟩ = false := HB1.fz
              clear hown1 hbel1 hgr1 HB1 HV1 HX HL HK HS c0 c1 c2 c3 c4 cb
              go_wp2
              go_roundw
              case rel => exact ⟨k + 1, E2, _, by omega, by go_num, hel2, HF, HY⟩
              case measure => simp [intOf]; omega
        · have HF : Hid (comeR C ts = E) := HE.out.trans (comeR_end (by rw [HN.out]; omega))
          go_wp2
          go_roundw
          case rel => exact ⟨i + 1, E, u, by omega, by go_num, by omega, (by show E = comeN ts (i + 1); rw [← HF.out, HC.out]; rfl), HS⟩
          case measure => simp [intOf]; omega
    · have e : i = n := by omega
      subst e
      obtain ⟨uo, uc, rfl⟩ := ownsS_slice HS.out.own
      have cb : wr.cell? ⟨w.heap.size + 1, 0, none⟩ = some (.slice uo C.length uc) := HS.out.box.cell
      have HD : Hid ((comeN ts i).length = C.length) := by rw [HC.out]; rfl
      obtain ⟨el, HEL⟩ : ∃ el, Hid (C.length = el) := ⟨_, rfl⟩
      rw [HEL.out] at cb hC HD
      have HB := HS.out.bel
      go_wp2
      go_ret
      exact ⟨by rw [HD.out, ← natbeq]; rfl, HB⟩
end Go.Proofs.YteefacjjdalncaaGreatDoor

namespace Go.Proofs.YteefacjjdalncaaGreatDoor
open Go Go.RowKit

/-- Whether a task is as it must be, whichever others there are. -/
def rightB (t : Ta) : Bool := nameB t.name && (decide (0 < poolN t.pool) && (decide (0 ≤ t.ret) && (decide (t.ret ≤ 3) && ascB ⟨#[]⟩ t.after)))
/-- What its walk asks. -/
structure Sm (t : Ta) : Prop where
  few : t.after.length ≤ 1048576
  name : t.name.size ≤ 9223372036854775807
  small : ∀ s ∈ t.after, s.size ≤ 9223372036854775807
set_option maxRecDepth 10000 in
set_option maxHeartbeats 2000000 in
theorem isRight_any (nm po : ByteArray) (rt : Int) (pa : Bool) (fo : Option Addr) (m fc : Nat) (af : List ByteArray) (w : World) (hr : Reads w (.slice fo m fc) af) (hs : Sm ⟨nm, po, rt, pa, af⟩) :
    Calls Tryz.prog 113 #[.agg #[.string nm, .string po, .int .i64 rt, .bool pa, .slice fo m fc]] w fun e w' => e = .returned (.bool (rightB ⟨nm, po, rt, pa, af⟩)) ∧ Below w.heap.size w w' := by
  have H1 : Hid (∀ W, Calls Tryz.prog 23 #[.string nm] W fun e w' => e = .returned (.bool (nameB nm)) ∧ Below W.heap.size W w') := fun W => implName_any nm W hs.name
  have H2 : Hid (∀ W, Calls Tryz.prog 25 #[.string po] W fun e w' => e = .returned (.int .i64 (poolN po)) ∧ w' = W) := fun W => implPool_any po W
  have H3 : Hid (∀ W, Below w.heap.size w W → Calls Tryz.prog 156 #[.slice fo m fc] W fun e w' => e = .returned (.bool (ascB ⟨#[]⟩ af)) ∧ Below W.heap.size W w') := fun W hb => asc_any (hr.below hb) (Nat.le_succ_of_le hs.few) hs.small
  have HD : Hid (rightB ⟨nm, po, rt, pa, af⟩ = (nameB nm && (decide (0 < poolN po) && (decide (0 ≤ rt) && (decide (rt ≤ 3) && ascB ⟨#[]⟩ af))))) := rfl
  clear hr hs
  obtain ⟨R, HR⟩ : ∃ R, Hid (rightB ⟨nm, po, rt, pa, af⟩ = R) := ⟨_, rfl⟩
  obtain ⟨q1, HQ1⟩ : ∃ q, Hid (nameB nm = q) := ⟨_, rfl⟩
  obtain ⟨P, HP⟩ : ∃ P, Hid (poolN po = P) := ⟨_, rfl⟩
  obtain ⟨q3, HQ3⟩ : ∃ q, Hid (ascB ⟨#[]⟩ af = q) := ⟨_, rfl⟩
  rw [HR.out] at HD ⊢
  rw [HQ1.out] at H1 HD
  rw [HP.out] at H2 HD
  rw [HQ3.out] at H3 HD
  clear HR HQ1 HP HQ3
  cases q1 with
  | false =>
    have HF : Hid (R = false) := HD.out
    clear HD
    go_enter Tryz.func113, Tryz.ntmps113
    go_wp2_with (go_at_call 23; refine (H1.out _).mono ?_; rintro e w1 ⟨rfl, hb1⟩)
    go_ret
    exact ⟨by rw [HF.out]; rfl, below_new hb1⟩
  | true =>
    obtain ⟨W0, hW0⟩ : ∃ W0, w.alloc (.cells #[.string nm, .string po, .int .i64 rt, .bool pa, .slice fo m fc] 45) = W0 := ⟨_, rfl⟩
    have Z0 : B5 45 W0 w.heap.size (.string nm) (.string po) (.int .i64 rt) (.bool pa) (.slice fo m fc) := by rw [← hW0]; exact B5.new _ _ _ _ _ _ _
    have B0 : Below w.heap.size w W0 := by rw [← hW0]; exact ba (Below.refl _ _) _
    have d0 := Z0.c0
    by_cases hP : 0 < P
    case neg =>
      have HF : Hid (R = false) := HD.out.trans (by rw [decide_eq_false hP]; rfl)
      have hP2 : decide (0 < P) = false := decide_eq_false hP
      clear HD
      go_enter Tryz.func113, Tryz.ntmps113
      go_wp2_with (first | (go_at_call 23; refine (H1.out _).mono ?_; rintro e w1 ⟨rfl, hb1⟩; have Z1 := Z0.up hb1; have B1 := B0.trans (hb1.mono B0.size); have d1 := Z1.c1; have d2 := Z1.c2; have d4 := Z1.c4; clear hb1 Z1) | (go_at_call 25; refine (H2.out _).mono ?_; rintro e w2 ⟨rfl, hw⟩; have hw2 := hw.symm; subst hw2) | (go_at_call 156; refine (H3.out _ B1).mono ?_; rintro e w3 ⟨rfl, hb3⟩))
      go_ret
      exact ⟨by rw [HF.out]; rfl, B1⟩
    have hP2 : decide (0 < P) = true := decide_eq_true hP
    by_cases h0 : 0 ≤ rt
    case neg =>
      have HF : Hid (R = false) := HD.out.trans (by rw [hP2, decide_eq_false h0]; rfl)
      clear HD
      go_enter Tryz.func113, Tryz.ntmps113
      go_wp2_with (first | (go_at_call 23; refine (H1.out _).mono ?_; rintro e w1 ⟨rfl, hb1⟩; have Z1 := Z0.up hb1; have B1 := B0.trans (hb1.mono B0.size); have d1 := Z1.c1; have d2 := Z1.c2; have d4 := Z1.c4; clear hb1 Z1) | (go_at_call 25; refine (H2.out _).mono ?_; rintro e w2 ⟨rfl, hw⟩; have hw2 := hw.symm; subst hw2) | (go_at_call 156; refine (H3.out _ B1).mono ?_; rintro e w3 ⟨rfl, hb3⟩))
      go_ret
      exact ⟨by rw [HF.out]; rfl, B1⟩
    by_cases h3 : rt ≤ 3
    case neg =>
      have HF : Hid (R = false) := HD.out.trans (by rw [hP2, decide_eq_true h0, decide_eq_false h3]; rfl)
      clear HD
      go_enter Tryz.func113, Tryz.ntmps113
      go_wp2_with (first | (go_at_call 23; refine (H1.out _).mono ?_; rintro e w1 ⟨rfl, hb1⟩; have Z1 := Z0.up hb1; have B1 := B0.trans (hb1.mono B0.size); have d1 := Z1.c1; have d2 := Z1.c2; have d4 := Z1.c4; clear hb1 Z1) | (go_at_call 25; refine (H2.out _).mono ?_; rintro e w2 ⟨rfl, hw⟩; have hw2 := hw.symm; subst hw2) | (go_at_call 156; refine (H3.out _ B1).mono ?_; rintro e w3 ⟨rfl, hb3⟩))
      go_ret
      exact ⟨by rw [HF.out]; rfl, B1⟩
    have HF : Hid (R = q3) := HD.out.trans (by rw [hP2, decide_eq_true h0, decide_eq_true h3]; rfl)
    clear HD
    go_enter Tryz.func113, Tryz.ntmps113
    go_wp2_with (first | (go_at_call 23; refine (H1.out _).mono ?_; rintro e w1 ⟨rfl, hb1⟩; have Z1 := Z0.up hb1; have B1 := B0.trans (hb1.mono B0.size); have d1 := Z1.c1; have d2 := Z1.c2; have d4 := Z1.c4; clear hb1 Z1) | (go_at_call 25; refine (H2.out _).mono ?_; rintro e w2 ⟨rfl, hw⟩; have hw2 := hw.symm; subst hw2) | (go_at_call 156; refine (H3.out _ B1).mono ?_; rintro e w3 ⟨rfl, hb3⟩))
    go_ret
    exact ⟨by rw [HF.out]; rfl, B1.trans (hb3.mono B1.size)⟩
end Go.Proofs.YteefacjjdalncaaGreatDoor

namespace Go.Proofs.YteefacjjdalncaaGreatDoor
open Go Go.RowKit

theorem Reads.firstN {α : Type} [Rec α] {w : World} {ao : Option Addr} {n cap : Nat} {l : List α} (h : Reads w (.slice ao n cap) l) {k : Nat} (hk : k ≤ n) : Reads w (.slice ao k cap) (l.take k) := by
  obtain ⟨ao', cap', e, h⟩ := h
  injection e with e1 e2 e3
  subst e1 e2 e3
  have hl : (l.take k).length = k := by rw [List.length_take]; omega
  refine ⟨ao, cap, by rw [hl], fun hne => ?_⟩
  obtain ⟨b, o, rfl, hlt, hc⟩ := h (fun e => hne (by rw [e]; simp))
  refine ⟨b, o, rfl, hlt, fun i x hx => hc i x ?_⟩
  rw [List.getElem?_take] at hx
  split at hx
  · exact hx
  · cases hx
theorem Tasks.take {w : World} {ao : Option Addr} {n cap : Nat} {l : List Ta} (h : Tasks w (.slice ao n cap) l) {k : Nat} (hk : k ≤ n) : Tasks w (.slice ao k cap) (l.take k) := by
  obtain ⟨ks, h1, h2, h3⟩ := h
  refine ⟨ks.take k, h1.firstN hk, by rw [List.length_take, List.length_take, h2], fun i t ht => ?_⟩
  rw [List.getElem?_take] at ht
  split at ht
  · rename_i hik
    obtain ⟨x, hx, ho⟩ := h3 i t ht
    exact ⟨x, by rw [List.getElem?_take, if_pos hik]; exact hx, ho⟩
  · cases ht
def oneB (ts : List Ta) (k : Nat) (t : Ta) : Bool := rightB t && !hasB (ts.take k) t.name
def onesB (ts : List Ta) : Nat → List Ta → Bool
  | _, [] => true
  | k, t :: r => oneB ts k t && onesB ts (k + 1) r
theorem onesB_at {ts : List Ta} {k : Nat} {t : Ta} (h : ts[k]? = some t) : onesB ts k (ts.drop k) = (oneB ts k t && onesB ts (k + 1) (ts.drop (k + 1))) := by
  obtain ⟨hk, rfl⟩ := List.getElem?_eq_some_iff.1 h
  rw [List.drop_eq_getElem_cons hk]
  rfl
theorem onesB_end {ts : List Ta} {k : Nat} (h : k = ts.length) : onesB ts k (ts.drop k) = true := by subst h; rw [List.drop_length]; rfl
/-- Whether tasks are right. -/
def areB (ts : List Ta) : Bool := decide (1 ≤ ts.length ∧ ts.length ≤ 4) && (onesB ts 0 ts && allB ts)
set_option maxRecDepth 10000 in
set_option maxHeartbeats 4000000 in
theorem areTasks_any (ao : Option Addr) (n cap : Nat) (ts : List Ta) (w : World) (hr : Tasks w (.slice ao n cap) ts) (hcap : n ≤ cap) (hn : n ≤ 1048577) (hs : ∀ t ∈ ts, Sm t) :
    Calls Tryz.prog 62 #[.slice ao n cap] w fun e w' => e = .returned (.bool (areB ts)) ∧ Below w.heap.size w w' := by
  have HN : Hid (ts.length = n) := by
    obtain ⟨ao', cap', e⟩ := hr.slice
    injection e with _ e2 _
    exact e2.symm
  by_cases hz : 1 ≤ n ∧ n ≤ 4
  · have h1 : 1 ≤ n := hz.1
    have h4 : n ≤ 4 := hz.2
    have HD : Hid (areB ts = (onesB ts 0 ts && allB ts)) := by show areB ts = _; unfold areB; rw [HN.out, decide_eq_true hz]; rfl
    have HR : Hid (∀ W, Below w.heap.size w W → Tasks W (.slice ao n cap) ts) := fun W hb => hr.below hb
    have HS : Hid (∀ t ∈ ts, Sm t) := hs
    have HA : Hid (∀ W, Below w.heap.size w W → Calls Tryz.prog 114 #[.slice ao n cap] W fun e w' => e = .returned (.bool (allB ts)) ∧ Below W.heap.size W w') := fun W hb => allCome_any (hr.below hb) (by rw [HN.out]; exact h4) (fun t ht => (hs t ht).few)
    clear hr hs hz hn
    obtain ⟨R, HRR⟩ : ∃ R, Hid (areB ts = R) := ⟨_, rfl⟩
    rw [HRR.out] at HD ⊢
    clear HRR
    go_enter Tryz.func62, Tryz.ntmps62
    go_wp2
    go_loopw [15] (fun i wr => ∃ k : Nat, k ≤ n ∧ i = .int .i64 k ∧ Hid (R = (onesB ts k (ts.drop k) && allB ts)) ∧ Below w.heap.size w wr) (fun i _ => n - (intOf i).toNat)
    case atStart => exact ⟨0, Nat.zero_le _, rfl, (by show R = (onesB ts 0 (ts.drop 0) && allB ts); rw [List.drop_zero]; exact HD.out), Below.refl _ _⟩
    case round =>
      obtain ⟨k, hk, rfl, HE, hbel⟩ := hrel
      by_cases hlt : k < n
      · obtain ⟨t, ht⟩ : ∃ t, ts[k]? = some t := ⟨_, List.getElem?_eq_getElem (by rw [HN.out]; exact hlt)⟩
        obtain ⟨b', o, av, rfl, hb, c0, c1, c2, c3, c4, hav⟩ := (HR.out wr hbel).at ht
        obtain ⟨fo, fc, rfl, _⟩ := id hav
        obtain ⟨m, HM⟩ : ∃ m, Hid (t.after.length = m) := ⟨_, rfl⟩
        rw [HM.out] at hav c4
        have HX : Hid (R = ((rightB t && !hasB (ts.take k) t.name) && onesB ts (k + 1) (ts.drop (k + 1)) && allB ts)) := HE.out.trans (by rw [onesB_at ht]; rfl)
        have hSm := HS.out t (List.mem_of_getElem? ht)
        obtain ⟨nm, po, rt, pa, af⟩ := t
        have HC1 : Hid (∀ W, Below wr.heap.size wr W → Calls Tryz.prog 113 #[.agg #[.string nm, .string po, .int .i64 rt, .bool pa, .slice fo m fc]] W fun e w' => e = .returned (.bool (rightB ⟨nm, po, rt, pa, af⟩)) ∧ Below W.heap.size W w') := fun W hb => isRight_any nm po rt pa fo m fc af W (hav.below hb) hSm
        have HC2 : Hid (∀ W, Below wr.heap.size wr W → Calls Tryz.prog 101 #[.slice (some ⟨b', o, none⟩) k cap, .string nm] W fun e w' => e = .returned (.bool (hasB (ts.take k) nm)) ∧ Below W.heap.size W w') := fun W hb => hasTask_any nm ((HR.out W (Below.on hbel hb)).take hk) (by rw [List.length_take]; omega)
        obtain ⟨q1, HQ1⟩ : ∃ q, Hid (rightB ⟨nm, po, rt, pa, af⟩ = q) := ⟨_, rfl⟩
        obtain ⟨q2, HQ2⟩ : ∃ q, Hid (hasB (ts.take k) nm = q) := ⟨_, rfl⟩
        rw [HQ1.out] at HC1
        rw [HQ2.out] at HC2
        have HX2 : Hid (R = ((q1 && !q2) && onesB ts (k + 1) (ts.drop (k + 1)) && allB ts)) := by
          have := HX.out
          dsimp only at this
          rw [HQ1.out, HQ2.out] at this
          exact this
        clear HX HE ht hav hSm HQ1 HQ2
        obtain ⟨V, hV⟩ : ∃ V, wr.alloc (.cells #[.string nm, .string po, .int .i64 rt, .bool pa, .slice fo m fc] 45) = V := ⟨_, rfl⟩
        have Z0 : B5 45 V wr.heap.size (.string nm) (.string po) (.int .i64 rt) (.bool pa) (.slice fo m fc) := by rw [← hV]; exact B5.new _ _ _ _ _ _ _
        have BV : Below wr.heap.size wr V := by rw [← hV]; exact ba (Below.refl _ _) _
        have HB1 : Hid (∀ x : Wd V, Calls Tryz.prog 113 #[.agg #[.string nm, .string po, .int .i64 rt, .bool pa, .slice fo m fc]] x.at' fun e w' => e = .returned (.bool q1) ∧ Below x.at'.heap.size x.at' w') := fun x => HC1.out _ (Below.on BV x.ok)
        have HB2 : Hid (∀ x : Wd V, Calls Tryz.prog 101 #[.slice (some ⟨b', o, none⟩) k cap, .string nm] x.at' fun e w' => e = .returned (.bool q2) ∧ Below x.at'.heap.size x.at' w') := fun x => HC2.out _ (Below.on BV x.ok)
        have BW : Below w.heap.size w V := Below.on hbel BV
        clear HC1 HC2
        dsimp only at c0 c1 c2 c3 c4
        have y0 := Wd.cell Z0.c0
        have y1 := Wd.cell Z0.c1
        have y2 := Wd.cell Z0.c2
        have y3 := Wd.cell Z0.c3
        have y4 := Wd.cell Z0.c4
        have hcut : ∀ wx, (Instr.slice 24 (.slice (some ⟨b', o, none⟩) n cap) none (some (.int .i64 (k : Int))) none).run Tryz.prog wx = .ok (.slice (some ⟨b', o, none⟩) k cap) wx := fun wx => by
          have hk2 : (k : Int) ≤ cap := by omega
          simp [go_sem, hk2, Tryz.underlying24]
        cases q1 with
        | false =>
          have HF : Hid (R = false) := HX2.out
          clear HX2
          go_wp2
          refine wp_region_wd (by kernel_rfl) (by kernel_rfl) ?_
          repeat (go_big_quiet_step (first | (go_at_call 113; refine calls_wd (v := .bool false) ?_; with_reducible exact HB1.out _) | (go_at_call 101; refine calls_wd (v := .bool q2) ?_; with_reducible exact HB2.out _)))
          refine wpQuiet_nil ?_
          rintro _ ⟨x, rfl⟩
          go_wp2
          go_ret
          exact ⟨by rw [HF.out]; rfl, Below.on BW x.ok⟩
        | true =>
          cases q2 with
          | true =>
            have HF : Hid (R = false) := HX2.out
            clear HX2
            go_wp2
            refine wp_region_wd (by kernel_rfl) (by kernel_rfl) ?_
            repeat (go_big_quiet_step (first | (go_at_call 113; refine calls_wd (v := .bool true) ?_; with_reducible exact HB1.out _) | (go_at_call 101; refine calls_wd (v := .bool true) ?_; with_reducible exact HB2.out _)))
            refine wpQuiet_nil ?_
            rintro _ ⟨x, rfl⟩
            go_wp2
            go_ret
            exact ⟨by rw [HF.out]; rfl, Below.on BW x.ok⟩
          | false =>
            have HF : Hid (R = (onesB ts (k + 1) (ts.drop (k + 1)) && allB ts)) := HX2.out.trans (by simp)
            clear HX2
            go_wp2
            refine wp_region_wd (by kernel_rfl) (by kernel_rfl) ?_
            repeat (go_big_quiet_step (first | (go_at_call 113; refine calls_wd (v := .bool true) ?_; with_reducible exact HB1.out _) | (go_at_call 101; refine calls_wd (v := .bool false) ?_; with_reducible exact HB2.out _)))
            refine wpQuiet_nil ?_
            rintro _ ⟨x, rfl⟩
            have BX := Below.on BW x.ok
            clear y0 y1 y2 y3 y4 HB1 HB2 Z0 hcut
            go_wp2
            go_roundw
            case rel => exact ⟨k + 1, by omega, by go_num, HF, BX⟩
            case measure => simp [intOf]; omega
      · have HF : Hid (R = allB ts) := HE.out.trans (by rw [onesB_end (by rw [HN.out]; omega)]; rfl)
        obtain ⟨q, HQ⟩ : ∃ q, Hid (allB ts = q) := ⟨_, rfl⟩
        rw [HQ.out] at HA HF
        go_wp2_with (go_at_call 114; refine (HA.out _ hbel).mono ?_; rintro e w1 ⟨rfl, hb1⟩)
        go_ret
        exact ⟨by rw [HF.out]; rfl, Below.on hbel hb1⟩
  · have HF : Hid (areB ts = false) := by show areB ts = false; unfold areB; rw [HN.out, decide_eq_false hz]; rfl
    by_cases h0 : n < 1
    · clear hz
      go_enter Tryz.func62, Tryz.ntmps62
      go_wp2
      go_ret
      exact ⟨by rw [HF.out]; rfl, Below.refl _ _⟩
    · have h5 : 4 < n := by omega
      clear hz
      go_enter Tryz.func62, Tryz.ntmps62
      go_wp2
      go_ret
      exact ⟨by rw [HF.out]; rfl, Below.refl _ _⟩
end Go.Proofs.YteefacjjdalncaaGreatDoor
