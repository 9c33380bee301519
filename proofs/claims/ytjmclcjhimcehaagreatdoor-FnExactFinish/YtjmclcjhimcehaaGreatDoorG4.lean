/-
  Whether a rule of five fields is right, as the specification tells it: the walk. The flags of a rule's five lists, as the program makes them. Flags: each so many-th of a reach. Whether a rule's flags have all of a reach, and whether they have a minute's time: the walks.
-/
import Derived.Test.YtjmclcjhimcehaaGreatDoorG3
import Derived.Test.YtjmclcjhimcehaaGreatDoorG2
namespace Go.Proofs.YtjmclcjhimcehaaGreatDoor
open Go Go.RowKit

def cronB (a b c d e : List Int) : Bool := listB 0 59 a && (listB 0 23 b && (listB 1 31 c && (listB 1 12 d && listB 0 6 e)))
set_option maxRecDepth 10000 in
set_option maxHeartbeats 2000000 in
theorem cronOk_any (va vb vc vd ve : Value) (a b c d e : List Int) (w : World) (h1 : Reads w va a) (h2 : Reads w vb b) (h3 : Reads w vc c) (h4 : Reads w vd d) (h5 : Reads w ve e)
    (n1 : a.length ≤ 1048577) (n2 : b.length ≤ 1048577) (n3 : c.length ≤ 1048577) (n4 : d.length ≤ 1048577) (n5 : e.length ≤ 1048577) :
    Calls Tryz.prog 134 #[.agg #[va, vb, vc, vd, ve]] w fun x w' => x = .returned (.bool (cronB a b c d e)) ∧ Below w.heap.size w w' := by
  obtain ⟨ao, ac, rfl, _⟩ := id h1
  obtain ⟨bo, bc, rfl, _⟩ := id h2
  obtain ⟨co, cc, rfl, _⟩ := id h3
  obtain ⟨d0, dc, rfl, _⟩ := id h4
  obtain ⟨eo, ec, rfl, _⟩ := id h5
  have H1 : Hid (∀ w', Below w.heap.size w w' → Calls Tryz.prog 159 #[.slice ao a.length ac, .int .i64 0, .int .i64 59] w' fun x w'' => x = .returned (.bool (listB 0 59 a)) ∧ Below w'.heap.size w' w'') := fun w' hb => l10List_any 0 59 (h1.below hb) n1
  have H2 : Hid (∀ w', Below w.heap.size w w' → Calls Tryz.prog 159 #[.slice bo b.length bc, .int .i64 0, .int .i64 23] w' fun x w'' => x = .returned (.bool (listB 0 23 b)) ∧ Below w'.heap.size w' w'') := fun w' hb => l10List_any 0 23 (h2.below hb) n2
  have H3 : Hid (∀ w', Below w.heap.size w w' → Calls Tryz.prog 159 #[.slice co c.length cc, .int .i64 1, .int .i64 31] w' fun x w'' => x = .returned (.bool (listB 1 31 c)) ∧ Below w'.heap.size w' w'') := fun w' hb => l10List_any 1 31 (h3.below hb) n3
  have H4 : Hid (∀ w', Below w.heap.size w w' → Calls Tryz.prog 159 #[.slice d0 d.length dc, .int .i64 1, .int .i64 12] w' fun x w'' => x = .returned (.bool (listB 1 12 d)) ∧ Below w'.heap.size w' w'') := fun w' hb => l10List_any 1 12 (h4.below hb) n4
  have H5 : Hid (∀ w', Below w.heap.size w w' → Calls Tryz.prog 159 #[.slice eo e.length ec, .int .i64 0, .int .i64 6] w' fun x w'' => x = .returned (.bool (listB 0 6 e)) ∧ Below w'.heap.size w' w'') := fun w' hb => l10List_any 0 6 (h5.below hb) n5
  unfold cronB
  clear h1 h2 h3 h4 h5
  generalize listB 0 59 a = q1 at *
  generalize listB 0 23 b = q2 at *
  generalize listB 1 31 c = q3 at *
  generalize listB 1 12 d = q4 at *
  generalize listB 0 6 e = q5 at *
  go_enter Tryz.func134, Tryz.ntmps134
  go_wp2_with fail
  refine (H1.out _ (ba (Below.refl _ _) _)).mono ?_
  rintro x w1 ⟨rfl, hb1⟩
  have B1 := below_new hb1
  have c11 : w1.cell? ⟨w.heap.size, 1, none⟩ = some (.slice bo b.length bc) := (hb1.cell (by simp)).trans (by simp [go_sem])
  have c21 : w1.cell? ⟨w.heap.size, 2, none⟩ = some (.slice co c.length cc) := (hb1.cell (by simp)).trans (by simp [go_sem])
  have c31 : w1.cell? ⟨w.heap.size, 3, none⟩ = some (.slice d0 d.length dc) := (hb1.cell (by simp)).trans (by simp [go_sem])
  have c41 : w1.cell? ⟨w.heap.size, 4, none⟩ = some (.slice eo e.length ec) := (hb1.cell (by simp)).trans (by simp [go_sem])
  clear hb1
  cases q1 with
  | false =>
    go_wp2
    go_ret
    exact ⟨by simp, B1⟩
  | true =>
    go_wp2_with fail
    refine (H2.out _ B1).mono ?_
    rintro x w2 ⟨rfl, hb2⟩
    have B2 := Below.on B1 hb2
    have c22 := cell_up hb2 c21
    have c32 := cell_up hb2 c31
    have c42 := cell_up hb2 c41
    clear hb2 c11 c21 c31 c41
    cases q2 with
    | false =>
      go_wp2
      go_ret
      exact ⟨by simp, B2⟩
    | true =>
      go_wp2_with fail
      refine (H3.out _ B2).mono ?_
      rintro x w3 ⟨rfl, hb3⟩
      have B3 := Below.on B2 hb3
      have c33 := cell_up hb3 c32
      have c43 := cell_up hb3 c42
      clear hb3 c22 c32 c42
      cases q3 with
      | false =>
        go_wp2
        go_ret
        exact ⟨by simp, B3⟩
      | true =>
        go_wp2_with fail
        refine (H4.out _ B3).mono ?_
        rintro x w4 ⟨rfl, hb4⟩
        have B4 := Below.on B3 hb4
        have c44 := cell_up hb4 c43
        clear hb4 c33 c43
        cases q4 with
        | false =>
          go_wp2
          go_ret
          exact ⟨by simp, B4⟩
        | true =>
          go_wp2_with fail
          refine (H5.out _ B4).mono ?_
          rintro x w5 ⟨rfl, hb5⟩
          have B5 := Below.on B4 hb5
          clear hb5 c44
          go_wp2
          go_ret
          exact ⟨by simp, B5⟩
end Go.Proofs.YtjmclcjhimcehaaGreatDoor

namespace Go.Proofs.YtjmclcjhimcehaaGreatDoor
open Go Go.RowKit
set_option linter.unusedVariables false

/-- The reaches of the five fields. -/
def reachL : List Int := [0, 59, 0, 23, 1, 31, 1, 12, 0, 6]
/-- The program's own table of reaches lies there. -/
def RchIs (w : World) : Prop := 0 < w.heap.size ∧ ∀ j v, reachL[j]? = some v → w.cell? ⟨0, j, none⟩ = some (.int .i64 v)
theorem RchIs.up {w w' : World} (h : RchIs w) (hb : Below w.heap.size w w') : RchIs w' := ⟨Nat.lt_of_lt_of_le h.1 hb.size, fun j v hv => (hb.cell (p := ⟨0, j, none⟩) h.1).trans (h.2 j v hv)⟩
theorem RchIs.at {w : World} (h : RchIs w) (j : Nat) (v : Int) (hv : reachL[j]? = some v) : w.cell? ⟨0, j, none⟩ = some (.int .i64 v) := h.2 j v hv
/-- One of five lists. -/
def fiveL (a b c d e : List Int) : Nat → List Int
  | 0 => a
  | 1 => b
  | 2 => c
  | 3 => d
  | _ => e
def rloN : Nat → Int
  | 2 => 1
  | 3 => 1
  | _ => 0
def rhiN : Nat → Int
  | 0 => 59
  | 1 => 23
  | 2 => 31
  | 3 => 12
  | _ => 6
def okN (a b c d e : List Int) (k : Nat) : Bool := listB (rloN k) (rhiN k) (fiveL a b c d e k)
theorem cronB_all {a b c d e : List Int} (h : ∀ k, k < 5 → okN a b c d e k = true) : cronB a b c d e = true := by
  have h0 : listB 0 59 a = true := h 0 (by decide)
  have h1 : listB 0 23 b = true := h 1 (by decide)
  have h2 : listB 1 31 c = true := h 2 (by decide)
  have h3 : listB 1 12 d = true := h 3 (by decide)
  have h4 : listB 0 6 e = true := h 4 (by decide)
  simp [cronB, h0, h1, h2, h3, h4]
theorem cronB_not {a b c d e : List Int} (k : Nat) (hk : k < 5) (h : okN a b c d e k = false) : cronB a b c d e = false := by
  unfold cronB
  rcases k with _ | _ | _ | _ | _ | k
  · have h0 : listB 0 59 a = false := h
    simp [h0]
  · have h0 : listB 0 23 b = false := h
    simp [h0]
  · have h0 : listB 1 31 c = false := h
    simp [h0]
  · have h0 : listB 1 12 d = false := h
    simp [h0]
  · have h0 : listB 0 6 e = false := h
    simp [h0]
  · omega
/-- The flags of a rule. -/
def mem5 (a b c d e : List Int) (k : Nat) : Nat → Bool := memP (fiveL a b c d e k)
def ruleP (a b c d e : List Int) : Nat → Nat → Bool := if cronB a b c d e = true then mem5 a b c d e else fun _ _ => false
theorem ruleP_yes {a b c d e : List Int} (h : cronB a b c d e = true) : ruleP a b c d e = mem5 a b c d e := if_pos h
theorem ruleP_no {a b c d e : List Int} (h : cronB a b c d e = false) : ruleP a b c d e = fun _ _ => false := if_neg (by rw [h]; exact Bool.false_ne_true)
/-- What lies there in the rounds. -/
structure RoS (w : World) (B : Nat) (W : World) (r : Nat → Nat → Bool) : Prop where
  z1 : ∃ q, Rb W (B + 1) q
  z2 : Rb W (B + 1 + 1) r
  be : Below B w W
theorem RoS.put {w W : World} {B : Nat} {r : Nat → Nat → Bool} (h : RoS w B W r) {k : Nat} (hk : k < 5) (p : Nat → Bool) : RoS w B (W.setCells (B + 1 + 1) (k * 60) (fldA p).toList) (fun m => if m = k then p else r m) := by
  obtain ⟨⟨q, z1⟩, z2, be⟩ := h
  exact ⟨⟨q, z1.far (by omega)⟩, z2.setSub hk p, below_setCells (by omega) _ _ _ be⟩
theorem RoS.up {w W W' : World} {B : Nat} {r : Nat → Nat → Bool} (h : RoS w B W r) (hb : Below W.heap.size W W') (hB : B ≤ W.heap.size) : RoS w B W' r := by
  obtain ⟨⟨q, z1⟩, z2, be⟩ := h
  exact ⟨⟨q, z1.up hb⟩, z2.up hb, be.trans (hb.mono hB)⟩

set_option maxRecDepth 10000 in
set_option maxHeartbeats 4000000 in
theorem ruleOf_any (va vb vc vd ve : Value) (a b c d e : List Int) (w : World) (h1 : Reads w va a) (h2 : Reads w vb b) (h3 : Reads w vc c) (h4 : Reads w vd d) (h5 : Reads w ve e)
    (n1 : a.length ≤ 1048577) (n2 : b.length ≤ 1048577) (n3 : c.length ≤ 1048577) (n4 : d.length ≤ 1048577) (n5 : e.length ≤ 1048577) (hg : RchIs w) :
    Calls Tryz.prog 164 #[.agg #[va, vb, vc, vd, ve]] w fun x w' => x = .returned (.tuple #[.agg (rulA (ruleP a b c d e)), .bool (cronB a b c d e)]) ∧ Below w.heap.size w w' := by
  obtain ⟨ao, ac, rfl, _⟩ := id h1
  obtain ⟨bo, bc, rfl, _⟩ := id h2
  obtain ⟨co, cc, rfl, _⟩ := id h3
  obtain ⟨d0, dc, rfl, _⟩ := id h4
  obtain ⟨eo, ec, rfl, _⟩ := id h5
  have H0 : Hid (∀ w', Below w.heap.size w w' → Calls Tryz.prog 195 #[.slice ao a.length ac, .agg #[.int .i64 0, .int .i64 59]] w' fun x w'' => x = .returned (.tuple #[.agg (fldA (fldO 0 59 a)), .bool (listB 0 59 a)]) ∧ Below w'.heap.size w' w'') := fun w' hb => fieldOf_any 0 59 (h1.below hb) n1 (by decide) (by decide) (by decide)
  have H1 : Hid (∀ w', Below w.heap.size w w' → Calls Tryz.prog 195 #[.slice bo b.length bc, .agg #[.int .i64 0, .int .i64 23]] w' fun x w'' => x = .returned (.tuple #[.agg (fldA (fldO 0 23 b)), .bool (listB 0 23 b)]) ∧ Below w'.heap.size w' w'') := fun w' hb => fieldOf_any 0 23 (h2.below hb) n2 (by decide) (by decide) (by decide)
  have H2 : Hid (∀ w', Below w.heap.size w w' → Calls Tryz.prog 195 #[.slice co c.length cc, .agg #[.int .i64 1, .int .i64 31]] w' fun x w'' => x = .returned (.tuple #[.agg (fldA (fldO 1 31 c)), .bool (listB 1 31 c)]) ∧ Below w'.heap.size w' w'') := fun w' hb => fieldOf_any 1 31 (h3.below hb) n3 (by decide) (by decide) (by decide)
  have H3 : Hid (∀ w', Below w.heap.size w w' → Calls Tryz.prog 195 #[.slice d0 d.length dc, .agg #[.int .i64 1, .int .i64 12]] w' fun x w'' => x = .returned (.tuple #[.agg (fldA (fldO 1 12 d)), .bool (listB 1 12 d)]) ∧ Below w'.heap.size w' w'') := fun w' hb => fieldOf_any 1 12 (h4.below hb) n4 (by decide) (by decide) (by decide)
  have H4 : Hid (∀ w', Below w.heap.size w w' → Calls Tryz.prog 195 #[.slice eo e.length ec, .agg #[.int .i64 0, .int .i64 6]] w' fun x w'' => x = .returned (.tuple #[.agg (fldA (fldO 0 6 e)), .bool (listB 0 6 e)]) ∧ Below w'.heap.size w' w'') := fun w' hb => fieldOf_any 0 6 (h5.below hb) n5 (by decide) (by decide) (by decide)
  have HG : Hid (RchIs w) := hg
  have HGB : Hid (∀ w', Below w.heap.size w w' → RchIs w') := fun w' hb => HG.out.up hb
  clear h1 h2 h3 h4 h5 hg
  go_enter Tryz.func164, Tryz.ntmps164
  go_wp2_with (refine wpr_alloc rfl rfl ?_)
  obtain ⟨W, hW⟩ : ∃ W, ((w.alloc (.cells #[.slice ao a.length ac, .slice bo b.length bc, .slice co c.length cc, .slice d0 d.length dc, .slice eo e.length ec] 120)).alloc (.cells (rulA fun _ _ => false) 202)).alloc (.cells (rulA fun _ _ => false) 202) = W := ⟨_, rfl⟩
  have hb : Below w.heap.size w W := by rw [← hW]; exact ba (ba (ba (Below.refl _ _) _) _) _
  have Z1 : Rb W (w.heap.size + 1) (fun _ _ => false) := by rw [← hW]; exact (Rb.new _ _ 202 (by simp)).alloc _
  have Z2 : Rb W (w.heap.size + 1 + 1) (fun _ _ => false) := by rw [← hW]; exact Rb.new _ _ 202 (by simp)
  have HZ : Hid (RoS w w.heap.size W fun _ _ => false) := ⟨⟨_, Z1⟩, Z2, hb⟩
  rw [hW]
  clear hW hb Z1 Z2
  generalize hB : w.heap.size = B at *
  have HBW : Hid (∀ W r, RoS w B W r → B ≤ W.heap.size) := fun W r h => by have := h.z2.lt; omega
  go_loopw [20] (fun i wr => ∃ (k : Nat) (r : Nat → Nat → Bool), k ≤ 5 ∧ i = .int .i64 k ∧ Hid ((∀ j, j < k → okN a b c d e j = true) ∧ ∀ j, j < k → r j = memP (fiveL a b c d e j)) ∧ Hid (RoS w B wr r)) (fun i _ => 5 - (intOf i).toNat)
  case atStart => exact ⟨0, _, Nat.zero_le _, rfl, ⟨fun j hj => by omega, fun j hj => by omega⟩, HZ⟩
  case round =>
    obtain ⟨k, r, hk, rfl, HE, HS⟩ := hrel
    clear HZ
    obtain ⟨q1, z1⟩ := HS.out.z1
    have HZ1 : Hid (Rb wr (B + 1) q1) := z1
    clear z1
    obtain rfl | rfl | rfl | rfl | rfl | rfl : k = 0 ∨ k = 1 ∨ k = 2 ∨ k = 3 ∨ k = 4 ∨ k = 5 := by omega
    · have g0 := (HGB.out _ HS.out.be).at (2 * 0) _ rfl
      have g1 := (HGB.out _ HS.out.be).at (2 * 0 + 1) _ rfl
      have hx : (Instr.index 238 (.agg #[.slice ao a.length ac, .slice bo b.length bc, .slice co c.length cc, .slice d0 d.length dc, .slice eo e.length ec]) (.int .i64 0)).run Tryz.prog wr = .ok (.slice ao a.length ac) wr := by kernel_rfl
      go_wp2_with fail
      refine (H0.out _ HS.out.be).mono ?_
      rintro x w1 ⟨rfl, hb1⟩
      have HB1 : Hid (Below wr.heap.size wr w1) := hb1
      have HS1 : Hid (RoS w B w1 r) := HS.out.up hb1 (HBW.out _ _ HS.out)
      clear hb1 g0 g1 hx
      cases hq : listB 0 59 a with
      | false =>
        have HF : Hid (cronB a b c d e = false) := cronB_not 0 (by decide) hq
        have HY : Hid (fldA (fldO 0 59 a) = fldA fun _ => false) := by show _ = _; rw [fldO_no hq]
        obtain ⟨pp, HP⟩ : ∃ pp, Hid (fldO 0 59 a = pp) := ⟨_, rfl⟩
        rw [HP.out]
        have HS2 : Hid (RoS w B (w1.alloc (.cells (fldA pp) 200)) r) := HS1.out.up (ba (Below.refl _ _) _) (HBW.out _ _ HS1.out)
        obtain ⟨q2, z2⟩ := HS2.out.z1
        have HZ2 : Hid (Rb (w1.alloc (.cells (fldA pp) 200)) (B + 1) q2) := z2
        have HRR : Hid (Rb ((w1.alloc (.cells (fldA pp) 200)).setCells (B + 1) 0 (rulA fun _ _ => false).toList) (B + 1) (fun _ _ => false) ∧ Below B w ((w1.alloc (.cells (fldA pp) 200)).setCells (B + 1) 0 (rulA fun _ _ => false).toList)) := ⟨z2.setAll _, below_setCells (by omega) _ _ _ HS2.out.be⟩
        clear z2 hq HE
        go_wp2_with (first | (refine wpl_alloc rfl rfl ?_) | (refine wpl_store_new pp (.tmp 7) (.tmp 30) rfl rfl rfl rfl ?_) | (refine wpr_build rfl rfl ?_) | (refine wpr_store HZ2.out (fun _ _ => false) (.tmp 2) (.tmp 34) rfl rfl rfl rfl ?_))
        refine bodyPost_ret (ret_r2 rfl rfl rfl HRR.out.1) rfl ?_
        subst hB
        exact ⟨by rw [HF.out, ruleP_no HF.out]; rfl, HRR.out.2⟩
      | true =>
        have HY : Hid (fldO 0 59 a = memP a) := fldO_yes hq
        rw [HY.out]
        have HS2 : Hid (RoS w B (w1.alloc (.cells (fldA (memP a)) 200)) r) := HS1.out.up (ba (Below.refl _ _) _) (HBW.out _ _ HS1.out)
        have HFB : Hid (Fb 200 (w1.alloc (.cells (fldA (memP a)) 200)) w1.heap.size (memP a)) := Fb.new 200 _ _ rfl
        have HT : Hid (RoS w B ((w1.alloc (.cells (fldA (memP a)) 200)).setCells (B + 1 + 1) (0 * 60) (fldA (memP a)).toList) (fun m => if m = 0 then memP a else r m)) := HS2.out.put (by decide) _
        have HN : Hid ((∀ j, j < 0 + 1 → okN a b c d e j = true) ∧ ∀ j, j < 0 + 1 → (if j = 0 then memP a else r j) = memP (fiveL a b c d e j)) := by
          refine ⟨fun j hj => ?_, fun j hj => ?_⟩
          · by_cases hjk : j = 0
            · subst hjk; exact hq
            · exact HE.out.1 j (by omega)
          · by_cases hjk : j = 0
            · rw [if_pos hjk]; subst hjk; rfl
            · rw [if_neg hjk]; exact HE.out.2 j (by omega)
        clear hq HE
        go_wp2_with (first | (refine wpl_alloc rfl rfl ?_) | (refine wpl_store_new (memP a) (.tmp 7) (.tmp 30) rfl rfl rfl rfl ?_) | (refine wpl_load HFB.out (.tmp 7) rfl rfl rfl ?_) | (refine wpr_storeSub HS2.out.z2 0 (by decide) (memP a) (.tmp 37) (.tmp 36) rfl rfl rfl rfl ?_))
        go_roundw
        case rel => exact ⟨0 + 1, _, by decide, by go_num, HN, HT⟩
        case measure => simp [intOf]
    · have g0 := (HGB.out _ HS.out.be).at (2 * 1) _ rfl
      have g1 := (HGB.out _ HS.out.be).at (2 * 1 + 1) _ rfl
      have hx : (Instr.index 238 (.agg #[.slice ao a.length ac, .slice bo b.length bc, .slice co c.length cc, .slice d0 d.length dc, .slice eo e.length ec]) (.int .i64 1)).run Tryz.prog wr = .ok (.slice bo b.length bc) wr := by kernel_rfl
      go_wp2_with fail
      refine (H1.out _ HS.out.be).mono ?_
      rintro x w1 ⟨rfl, hb1⟩
      have HB1 : Hid (Below wr.heap.size wr w1) := hb1
      have HS1 : Hid (RoS w B w1 r) := HS.out.up hb1 (HBW.out _ _ HS.out)
      clear hb1 g0 g1 hx
      cases hq : listB 0 23 b with
      | false =>
        have HF : Hid (cronB a b c d e = false) := cronB_not 1 (by decide) hq
        have HY : Hid (fldA (fldO 0 23 b) = fldA fun _ => false) := by show _ = _; rw [fldO_no hq]
        obtain ⟨pp, HP⟩ : ∃ pp, Hid (fldO 0 23 b = pp) := ⟨_, rfl⟩
        rw [HP.out]
        have HS2 : Hid (RoS w B (w1.alloc (.cells (fldA pp) 200)) r) := HS1.out.up (ba (Below.refl _ _) _) (HBW.out _ _ HS1.out)
        obtain ⟨q2, z2⟩ := HS2.out.z1
        have HZ2 : Hid (Rb (w1.alloc (.cells (fldA pp) 200)) (B + 1) q2) := z2
        have HRR : Hid (Rb ((w1.alloc (.cells (fldA pp) 200)).setCells (B + 1) 0 (rulA fun _ _ => false).toList) (B + 1) (fun _ _ => false) ∧ Below B w ((w1.alloc (.cells (fldA pp) 200)).setCells (B + 1) 0 (rulA fun _ _ => false).toList)) := ⟨z2.setAll _, below_setCells (by omega) _ _ _ HS2.out.be⟩
        clear z2 hq HE
        go_wp2_with (first | (refine wpl_alloc rfl rfl ?_) | (refine wpl_store_new pp (.tmp 7) (.tmp 30) rfl rfl rfl rfl ?_) | (refine wpr_build rfl rfl ?_) | (refine wpr_store HZ2.out (fun _ _ => false) (.tmp 2) (.tmp 34) rfl rfl rfl rfl ?_))
        refine bodyPost_ret (ret_r2 rfl rfl rfl HRR.out.1) rfl ?_
        subst hB
        exact ⟨by rw [HF.out, ruleP_no HF.out]; rfl, HRR.out.2⟩
      | true =>
        have HY : Hid (fldO 0 23 b = memP b) := fldO_yes hq
        rw [HY.out]
        have HS2 : Hid (RoS w B (w1.alloc (.cells (fldA (memP b)) 200)) r) := HS1.out.up (ba (Below.refl _ _) _) (HBW.out _ _ HS1.out)
        have HFB : Hid (Fb 200 (w1.alloc (.cells (fldA (memP b)) 200)) w1.heap.size (memP b)) := Fb.new 200 _ _ rfl
        have HT : Hid (RoS w B ((w1.alloc (.cells (fldA (memP b)) 200)).setCells (B + 1 + 1) (1 * 60) (fldA (memP b)).toList) (fun m => if m = 1 then memP b else r m)) := HS2.out.put (by decide) _
        have HN : Hid ((∀ j, j < 1 + 1 → okN a b c d e j = true) ∧ ∀ j, j < 1 + 1 → (if j = 1 then memP b else r j) = memP (fiveL a b c d e j)) := by
          refine ⟨fun j hj => ?_, fun j hj => ?_⟩
          · by_cases hjk : j = 1
            · subst hjk; exact hq
            · exact HE.out.1 j (by omega)
          · by_cases hjk : j = 1
            · rw [if_pos hjk]; subst hjk; rfl
            · rw [if_neg hjk]; exact HE.out.2 j (by omega)
        clear hq HE
        go_wp2_with (first | (refine wpl_alloc rfl rfl ?_) | (refine wpl_store_new (memP b) (.tmp 7) (.tmp 30) rfl rfl rfl rfl ?_) | (refine wpl_load HFB.out (.tmp 7) rfl rfl rfl ?_) | (refine wpr_storeSub HS2.out.z2 1 (by decide) (memP b) (.tmp 37) (.tmp 36) rfl rfl rfl rfl ?_))
        go_roundw
        case rel => exact ⟨1 + 1, _, by decide, by go_num, HN, HT⟩
        case measure => simp [intOf]
    · have g0 := (HGB.out _ HS.out.be).at (2 * 2) _ rfl
      have g1 := (HGB.out _ HS.out.be).at (2 * 2 + 1) _ rfl
      have hx : (Instr.index 238 (.agg #[.slice ao a.length ac, .slice bo b.length bc, .slice co c.length cc, .slice d0 d.length dc, .slice eo e.length ec]) (.int .i64 2)).run Tryz.prog wr = .ok (.slice co c.length cc) wr := by kernel_rfl
      go_wp2_with fail
      refine (H2.out _ HS.out.be).mono ?_
      rintro x w1 ⟨rfl, hb1⟩
      have HB1 : Hid (Below wr.heap.size wr w1) := hb1
      have HS1 : Hid (RoS w B w1 r) := HS.out.up hb1 (HBW.out _ _ HS.out)
      clear hb1 g0 g1 hx
      cases hq : listB 1 31 c with
      | false =>
        have HF : Hid (cronB a b c d e = false) := cronB_not 2 (by decide) hq
        have HY : Hid (fldA (fldO 1 31 c) = fldA fun _ => false) := by show _ = _; rw [fldO_no hq]
        obtain ⟨pp, HP⟩ : ∃ pp, Hid (fldO 1 31 c = pp) := ⟨_, rfl⟩
        rw [HP.out]
        have HS2 : Hid (RoS w B (w1.alloc (.cells (fldA pp) 200)) r) := HS1.out.up (ba (Below.refl _ _) _) (HBW.out _ _ HS1.out)
        obtain ⟨q2, z2⟩ := HS2.out.z1
        have HZ2 : Hid (Rb (w1.alloc (.cells (fldA pp) 200)) (B + 1) q2) := z2
        have HRR : Hid (Rb ((w1.alloc (.cells (fldA pp) 200)).setCells (B + 1) 0 (rulA fun _ _ => false).toList) (B + 1) (fun _ _ => false) ∧ Below B w ((w1.alloc (.cells (fldA pp) 200)).setCells (B + 1) 0 (rulA fun _ _ => false).toList)) := ⟨z2.setAll _, below_setCells (by omega) _ _ _ HS2.out.be⟩
        clear z2 hq HE
        go_wp2_with (first | (refine wpl_alloc rfl rfl ?_) | (refine wpl_store_new pp (.tmp 7) (.tmp 30) rfl rfl rfl rfl ?_) | (refine wpr_build rfl rfl ?_) | (refine wpr_store HZ2.out (fun _ _ => false) (.tmp 2) (.tmp 34) rfl rfl rfl rfl ?_))
        refine bodyPost_ret (ret_r2 rfl rfl rfl HRR.out.1) rfl ?_
        subst hB
        exact ⟨by rw [HF.out, ruleP_no HF.out]; rfl, HRR.out.2⟩
      | true =>
        have HY : Hid (fldO 1 31 c = memP c) := fldO_yes hq
        rw [HY.out]
        have HS2 : Hid (RoS w B (w1.alloc (.cells (fldA (memP c)) 200)) r) := HS1.out.up (ba (Below.refl _ _) _) (HBW.out _ _ HS1.out)
        have HFB : Hid (Fb 200 (w1.alloc (.cells (fldA (memP c)) 200)) w1.heap.size (memP c)) := Fb.new 200 _ _ rfl
        have HT : Hid (RoS w B ((w1.alloc (.cells (fldA (memP c)) 200)).setCells (B + 1 + 1) (2 * 60) (fldA (memP c)).toList) (fun m => if m = 2 then memP c else r m)) := HS2.out.put (by decide) _
        have HN : Hid ((∀ j, j < 2 + 1 → okN a b c d e j = true) ∧ ∀ j, j < 2 + 1 → (if j = 2 then memP c else r j) = memP (fiveL a b c d e j)) := by
          refine ⟨fun j hj => ?_, fun j hj => ?_⟩
          · by_cases hjk : j = 2
            · subst hjk; exact hq
            · exact HE.out.1 j (by omega)
          · by_cases hjk : j = 2
            · rw [if_pos hjk]; subst hjk; rfl
            · rw [if_neg hjk]; exact HE.out.2 j (by omega)
        clear hq HE
        go_wp2_with (first | (refine wpl_alloc rfl rfl ?_) | (refine wpl_store_new (memP c) (.tmp 7) (.tmp 30) rfl rfl rfl rfl ?_) | (refine wpl_load HFB.out (.tmp 7) rfl rfl rfl ?_) | (refine wpr_storeSub HS2.out.z2 2 (by decide) (memP c) (.tmp 37) (.tmp 36) rfl rfl rfl rfl ?_))
        go_roundw
        case rel => exact ⟨2 + 1, _, by decide, by go_num, HN, HT⟩
        case measure => simp [intOf]
    · have g0 := (HGB.out _ HS.out.be).at (2 * 3) _ rfl
      have g1 := (HGB.out _ HS.out.be).at (2 * 3 + 1) _ rfl
      have hx : (Instr.index 238 (.agg #[.slice ao a.length ac, .slice bo b.length bc, .slice co c.length cc, .slice d0 d.length dc, .slice eo e.length ec]) (.int .i64 3)).run Tryz.prog wr = .ok (.slice d0 d.length dc) wr := by kernel_rfl
      go_wp2_with fail
      refine (H3.out _ HS.out.be).mono ?_
      rintro x w1 ⟨rfl, hb1⟩
      have HB1 : Hid (Below wr.heap.size wr w1) := hb1
      have HS1 : Hid (RoS w B w1 r) := HS.out.up hb1 (HBW.out _ _ HS.out)
      clear hb1 g0 g1 hx
      cases hq : listB 1 12 d with
      | false =>
        have HF : Hid (cronB a b c d e = false) := cronB_not 3 (by decide) hq
        have HY : Hid (fldA (fldO 1 12 d) = fldA fun _ => false) := by show _ = _; rw [fldO_no hq]
        obtain ⟨pp, HP⟩ : ∃ pp, Hid (fldO 1 12 d = pp) := ⟨_, rfl⟩
        rw [HP.out]
        have HS2 : Hid (RoS w B (w1.alloc (.cells (fldA pp) 200)) r) := HS1.out.up (ba (Below.refl _ _) _) (HBW.out _ _ HS1.out)
        obtain ⟨q2, z2⟩ := HS2.out.z1
        have HZ2 : Hid (Rb (w1.alloc (.cells (fldA pp) 200)) (B + 1) q2) := z2
        have HRR : Hid (Rb ((w1.alloc (.cells (fldA pp) 200)).setCells (B + 1) 0 (rulA fun _ _ => false).toList) (B + 1) (fun _ _ => false) ∧ Below B w ((w1.alloc (.cells (fldA pp) 200)).setCells (B + 1) 0 (rulA fun _ _ => false).toList)) := ⟨z2.setAll _, below_setCells (by omega) _ _ _ HS2.out.be⟩
        clear z2 hq HE
        go_wp2_with (first | (refine wpl_alloc rfl rfl ?_) | (refine wpl_store_new pp (.tmp 7) (.tmp 30) rfl rfl rfl rfl ?_) | (refine wpr_build rfl rfl ?_) | (refine wpr_store HZ2.out (fun _ _ => false) (.tmp 2) (.tmp 34) rfl rfl rfl rfl ?_))
        refine bodyPost_ret (ret_r2 rfl rfl rfl HRR.out.1) rfl ?_
        subst hB
        exact ⟨by rw [HF.out, ruleP_no HF.out]; rfl, HRR.out.2⟩
      | true =>
        have HY : Hid (fldO 1 12 d = memP d) := fldO_yes hq
        rw [HY.out]
        have HS2 : Hid (RoS w B (w1.alloc (.cells (fldA (memP d)) 200)) r) := HS1.out.up (ba (Below.refl _ _) _) (HBW.out _ _ HS1.out)
        have HFB : Hid (Fb 200 (w1.alloc (.cells (fldA (memP d)) 200)) w1.heap.size (memP d)) := Fb.new 200 _ _ rfl
        have HT : Hid (RoS w B ((w1.alloc (.cells (fldA (memP d)) 200)).setCells (B + 1 + 1) (3 * 60) (fldA (memP d)).toList) (fun m => if m = 3 then memP d else r m)) := HS2.out.put (by decide) _
        have HN : Hid ((∀ j, j < 3 + 1 → okN a b c d e j = true) ∧ ∀ j, j < 3 + 1 → (if j = 3 then memP d else r j) = memP (fiveL a b c d e j)) := by
          refine ⟨fun j hj => ?_, fun j hj => ?_⟩
          · by_cases hjk : j = 3
            · subst hjk; exact hq
            · exact HE.out.1 j (by omega)
          · by_cases hjk : j = 3
            · rw [if_pos hjk]; subst hjk; rfl
            · rw [if_neg hjk]; exact HE.out.2 j (by omega)
        clear hq HE
        go_wp2_with (first | (refine wpl_alloc rfl rfl ?_) | (refine wpl_store_new (memP d) (.tmp 7) (.tmp 30) rfl rfl rfl rfl ?_) | (refine wpl_load HFB.out (.tmp 7) rfl rfl rfl ?_) | (refine wpr_storeSub HS2.out.z2 3 (by decide) (memP d) (.tmp 37) (.tmp 36) rfl rfl rfl rfl ?_))
        go_roundw
        case rel => exact ⟨3 + 1, _, by decide, by go_num, HN, HT⟩
        case measure => simp [intOf]
    · have g0 := (HGB.out _ HS.out.be).at (2 * 4) _ rfl
      have g1 := (HGB.out _ HS.out.be).at (2 * 4 + 1) _ rfl
      have hx : (Instr.index 238 (.agg #[.slice ao a.length ac, .slice bo b.length bc, .slice co c.length cc, .slice d0 d.length dc, .slice eo e.length ec]) (.int .i64 4)).run Tryz.prog wr = .ok (.slice eo e.length ec) wr := by kernel_rfl
      go_wp2_with fail
      refine (H4.out _ HS.out.be).mono ?_
      rintro x w1 ⟨rfl, hb1⟩
      have HB1 : Hid (Below wr.heap.size wr w1) := hb1
      have HS1 : Hid (RoS w B w1 r) := HS.out.up hb1 (HBW.out _ _ HS.out)
      clear hb1 g0 g1 hx
      cases hq : listB 0 6 e with
      | false =>
        have HF : Hid (cronB a b c d e = false) := cronB_not 4 (by decide) hq
        have HY : Hid (fldA (fldO 0 6 e) = fldA fun _ => false) := by show _ = _; rw [fldO_no hq]
        obtain ⟨pp, HP⟩ : ∃ pp, Hid (fldO 0 6 e = pp) := ⟨_, rfl⟩
        rw [HP.out]
        have HS2 : Hid (RoS w B (w1.alloc (.cells (fldA pp) 200)) r) := HS1.out.up (ba (Below.refl _ _) _) (HBW.out _ _ HS1.out)
        obtain ⟨q2, z2⟩ := HS2.out.z1
        have HZ2 : Hid (Rb (w1.alloc (.cells (fldA pp) 200)) (B + 1) q2) := z2
        have HRR : Hid (Rb ((w1.alloc (.cells (fldA pp) 200)).setCells (B + 1) 0 (rulA fun _ _ => false).toList) (B + 1) (fun _ _ => false) ∧ Below B w ((w1.alloc (.cells (fldA pp) 200)).setCells (B + 1) 0 (rulA fun _ _ => false).toList)) := ⟨z2.setAll _, below_setCells (by omega) _ _ _ HS2.out.be⟩
        clear z2 hq HE
        go_wp2_with (first | (refine wpl_alloc rfl rfl ?_) | (refine wpl_store_new pp (.tmp 7) (.tmp 30) rfl rfl rfl rfl ?_) | (refine wpr_build rfl rfl ?_) | (refine wpr_store HZ2.out (fun _ _ => false) (.tmp 2) (.tmp 34) rfl rfl rfl rfl ?_))
        refine bodyPost_ret (ret_r2 rfl rfl rfl HRR.out.1) rfl ?_
        subst hB
        exact ⟨by rw [HF.out, ruleP_no HF.out]; rfl, HRR.out.2⟩
      | true =>
        have HY : Hid (fldO 0 6 e = memP e) := fldO_yes hq
        rw [HY.out]
        have HS2 : Hid (RoS w B (w1.alloc (.cells (fldA (memP e)) 200)) r) := HS1.out.up (ba (Below.refl _ _) _) (HBW.out _ _ HS1.out)
        have HFB : Hid (Fb 200 (w1.alloc (.cells (fldA (memP e)) 200)) w1.heap.size (memP e)) := Fb.new 200 _ _ rfl
        have HT : Hid (RoS w B ((w1.alloc (.cells (fldA (memP e)) 200)).setCells (B + 1 + 1) (4 * 60) (fldA (memP e)).toList) (fun m => if m = 4 then memP e else r m)) := HS2.out.put (by decide) _
        have HN : Hid ((∀ j, j < 4 + 1 → okN a b c d e j = true) ∧ ∀ j, j < 4 + 1 → (if j = 4 then memP e else r j) = memP (fiveL a b c d e j)) := by
          refine ⟨fun j hj => ?_, fun j hj => ?_⟩
          · by_cases hjk : j = 4
            · subst hjk; exact hq
            · exact HE.out.1 j (by omega)
          · by_cases hjk : j = 4
            · rw [if_pos hjk]; subst hjk; rfl
            · rw [if_neg hjk]; exact HE.out.2 j (by omega)
        clear hq HE
        go_wp2_with (first | (refine wpl_alloc rfl rfl ?_) | (refine wpl_store_new (memP e) (.tmp 7) (.tmp 30) rfl rfl rfl rfl ?_) | (refine wpl_load HFB.out (.tmp 7) rfl rfl rfl ?_) | (refine wpr_storeSub HS2.out.z2 4 (by decide) (memP e) (.tmp 37) (.tmp 36) rfl rfl rfl rfl ?_))
        go_roundw
        case rel => exact ⟨4 + 1, _, by decide, by go_num, HN, HT⟩
        case measure => simp [intOf]
    · have HF : Hid (cronB a b c d e = true ∧ rulA r = rulA (ruleP a b c d e)) := by
        have h0 := cronB_all HE.out.1
        refine ⟨h0, ?_⟩
        rw [ruleP_yes h0]
        exact rulA_ext fun j i hj _ => by rw [HE.out.2 j hj]; rfl
      have HRR : Hid (Rb (wr.setCells (B + 1) 0 (rulA r).toList) (B + 1) r ∧ Below B w (wr.setCells (B + 1) 0 (rulA r).toList)) := ⟨HZ1.out.setAll r, below_setCells (by omega) _ _ _ HS.out.be⟩
      go_wp2_with (first | (refine wpr_load HS.out.z2 (.tmp 4) rfl rfl rfl ?_) | (refine wpr_store HZ1.out r (.tmp 2) (.tmp 39) rfl rfl rfl rfl ?_))
      refine bodyPost_ret (ret_r2 rfl rfl rfl HRR.out.1) rfl ?_
      subst hB
      exact ⟨by rw [HF.out.1, HF.out.2]; rfl, HRR.out.2⟩
end Go.Proofs.YtjmclcjhimcehaaGreatDoor

namespace Go.Proofs.YtjmclcjhimcehaaGreatDoor
open Go Go.RowKit
set_option linter.unusedVariables false

/-- Each so many-th of a reach. -/
def eachP (l : Nat) (hi : Int) (s : Nat) (i : Nat) : Bool := decide (l ≤ i ∧ (i : Int) ≤ hi ∧ (i - l) % s = 0)
def eachTo (l s n : Nat) (i : Nat) : Bool := decide (l ≤ i ∧ i < n ∧ (i - l) % s = 0)
theorem eachTo_start (l s i : Nat) : eachTo l s l i = false := decide_eq_false (by omega)
theorem eachTo_next {l s q i : Nat} (hs : 1 ≤ s) : eachTo l s (l + s * q + s) i = if i = l + s * q then true else eachTo l s (l + s * q) i := by
  by_cases h : i = l + s * q
  · subst h
    rw [if_pos rfl]
    exact decide_eq_true ⟨by omega, by omega, by rw [Nat.add_sub_cancel_left, Nat.mul_mod_right]⟩
  · rw [if_neg h]
    unfold eachTo
    congr 1
    apply propext
    constructor
    · rintro ⟨h1, h2, h3⟩
      refine ⟨h1, ?_, h3⟩
      refine Nat.lt_of_not_le fun hle => h ?_
      obtain ⟨j, rfl⟩ : ∃ j, i = l + s * q + j := ⟨i - (l + s * q), by omega⟩
      have e : l + s * q + j - l = s * q + j := by omega
      rw [e, Nat.mul_add_mod, Nat.mod_eq_of_lt (by omega)] at h3
      omega
    · rintro ⟨h1, h2, h3⟩
      exact ⟨h1, by omega, h3⟩
theorem eachTo_end {l s n : Nat} {hi : Int} (h : hi < n) {q : Nat} (hn : n = l + s * q) (hs : 1 ≤ s) (hlast : ∀ m, n = m + s → l ≤ m → (m : Int) ≤ hi) (i : Nat) : eachTo l s n i = eachP l hi s i := by
  unfold eachTo eachP
  congr 1
  apply propext
  constructor
  · rintro ⟨h1, h2, h3⟩
    refine ⟨h1, ?_, h3⟩
    cases q with
    | zero => omega
    | succ q =>
      have hm := hlast (l + s * q) (by rw [hn, Nat.mul_succ]; omega) (by omega)
      rcases Nat.lt_or_ge (l + s * q) i with hc | hc
      · exfalso
        obtain ⟨j, rfl⟩ : ∃ j, i = l + s * q + j := ⟨i - (l + s * q), by omega⟩
        have e : l + s * q + j - l = s * q + j := by omega
        rw [hn, Nat.mul_succ] at h2
        rw [e, Nat.mul_add_mod, Nat.mod_eq_of_lt (by omega)] at h3
        omega
      · omega
  · rintro ⟨h1, h2, h3⟩
    exact ⟨h1, by omega, h3⟩
/-- What lies there while the flags are set. -/
structure EaS (w : World) (B : Nat) (hi : Int) (W : World) (p : Nat → Bool) : Prop where
  z1 : ∃ q, Fb 200 W (B + 1) q
  z2 : Fb 200 W (B + 1 + 1) p
  c1 : W.cell? ⟨B, 1, none⟩ = some (.int .i64 hi)
  be : Below B w W
theorem EaS.put {w W : World} {B : Nat} {hi : Int} {p : Nat → Bool} (h : EaS w B hi W p) (n : Nat) : EaS w B hi (W.setCell ⟨B + 1 + 1, n, none⟩ (.bool true)) (fun i => if i = n then true else p i) := by
  obtain ⟨⟨q, z1⟩, z2, c1, be⟩ := h
  refine ⟨⟨q, z1.far (by show B + 1 + 1 ≠ B + 1; omega) _⟩, z2.set n true, ?_, be.setCell (by show B ≤ B + 1 + 1; omega) _⟩
  have e := heap_setCell_other W ⟨B + 1 + 1, n, none⟩ B (.bool true) (by show B ≠ B + 1 + 1; omega)
  unfold World.cell? at c1 ⊢
  rw [e]
  exact c1

set_option maxRecDepth 10000 in
set_option maxHeartbeats 1000000 in
theorem eachOf_nat (l s : Nat) (hi : Int) (w : World) (hl : l ≤ 60) (h1 : hi ≤ 59) (hs : 1 ≤ s) (hs2 : s ≤ 4611686018427387904) :
    Calls Tryz.prog 196 #[.agg #[.int .i64 (l : Int), .int .i64 hi], .int .i64 (s : Int)] w fun e w' => e = .returned (.agg (fldA (eachP l hi s))) ∧ Below w.heap.size w w' := by
  go_enter Tryz.func196, Tryz.ntmps196
  go_wp2
  rw [none55]
  obtain ⟨W, hW⟩ : ∃ W, ((w.alloc (.cells #[.int .i64 (l : Int), .int .i64 hi] 206)).alloc (.cells (fldA fun _ => false) 200)).alloc (.cells (fldA fun _ => false) 200) = W := ⟨_, rfl⟩
  have Z1 : Fb 200 W (w.heap.size + 1) (fun _ => false) := by rw [← hW]; exact ((Fb.new 200 (w.alloc (.cells #[.int .i64 (l : Int), .int .i64 hi] 206)) _ (by simp)).alloc _)
  have Z2 : Fb 200 W (w.heap.size + 1 + 1) (fun _ => false) := by rw [← hW]; exact (Fb.new 200 _ _ (by simp))
  have c1 : W.cell? ⟨w.heap.size, 1, none⟩ = some (.int .i64 hi) := by rw [← hW]; simp [go_sem]
  have hb : Below w.heap.size w W := by rw [← hW]; exact ba (ba (ba (Below.refl _ _) _) _) _
  rw [hW]
  clear hW
  have HZ : Hid (EaS w w.heap.size hi W fun _ => false) := ⟨⟨_, Z1⟩, Z2, c1, hb⟩
  clear Z1 Z2 c1 hb
  generalize hB : w.heap.size = B at *
  go_loopw [6] (fun i wr => ∃ (k q : Nat) (p : Nat → Bool), i = .int .i64 k ∧ k ≤ 60 + s ∧ l ≤ k ∧ Hid (k = l + s * q ∧ (∀ m, k = m + s → l ≤ m → (m : Int) ≤ hi) ∧ ∀ i, p i = eachTo l s k i) ∧ Hid (EaS w B hi wr p)) (fun i _ => 60 + s + 1 - (intOf i).toNat)
  case atStart => exact ⟨l, 0, _, rfl, by omega, Nat.le_refl _, ⟨by omega, fun m hm hlm => by omega, fun i => (eachTo_start l s i).symm⟩, HZ⟩
  case round =>
    obtain ⟨k, q, p, rfl, hk, hlk, HE, HS⟩ := hrel
    have c1 := HS.out.c1
    by_cases hle : (k : Int) ≤ hi
    · have f0 := HS.out.z2.fr k
      have d0 := HS.out.z2.cell (i := k) (by omega)
      have HN : Hid (k + s = l + s * (q + 1) ∧ (∀ m, k + s = m + s → l ≤ m → (m : Int) ≤ hi) ∧ ∀ i, (if i = k then true else p i) = eachTo l s (k + s) i) := by
        have h3 : ∀ m, k + s = m + s → l ≤ m → (m : Int) ≤ hi := fun m hm _ => by omega
        refine ⟨by have := HE.out.1; rw [Nat.mul_succ]; omega, h3, fun i => ?_⟩
        rw [HE.out.2.2 i, HE.out.1, eachTo_next hs]
      have HT : Hid (EaS w B hi (wr.setCell ⟨B + 1 + 1, k, none⟩ (.bool true)) (fun i => if i = k then true else p i)) := HS.out.put k
      go_wp2
      go_roundw
      case rel => exact ⟨k + s, q + 1, _, by go_num, by omega, by omega, HN, HT⟩
      case measure => simp [intOf]; omega
    · obtain ⟨q1, z1⟩ := HS.out.z1
      have HF : Hid (fldA p = fldA (eachP l hi s)) := fldA_ext fun i _ => (HE.out.2.2 i).trans (eachTo_end (by omega) HE.out.1 hs HE.out.2.1 i)
      have HR : Hid (Fb 200 (wr.setRow (B + 1) (fldA p)) (B + 1) p ∧ Below B w (wr.setRow (B + 1) (fldA p))) := ⟨z1.row p, below_setRow HS.out.be (by omega) _⟩
      have HZ1 : Hid (Fb 200 wr (B + 1) q1) := z1
      clear z1 HZ
      go_wp2_with (first | (refine wpl_load HS.out.z2 (.tmp 5) rfl rfl rfl ?_) | (refine wpl_store HZ1.out p (.tmp 4) (.tmp 18) rfl rfl rfl rfl ?_))
      refine bodyPost_ret (ret_f rfl rfl HR.out.1) rfl ?_
      subst hB
      exact ⟨by rw [HF.out], HR.out.2⟩
end Go.Proofs.YtjmclcjhimcehaaGreatDoor

namespace Go.Proofs.YtjmclcjhimcehaaGreatDoor
open Go Go.RowKit
set_option linter.unusedVariables false

theorem wpq_loadSub {ops : Array Oper} {C : World → Prop} {Q : Act → Prop} {rest : List Oper} {o : Oper} {a : Act} {b : Nat} {r : Nat → Nat → Bool} (h : ∀ w, C w → Rb w b r) (n : Nat) (hn : n < 5) (x : Operand) (hgd : o.guard = none) (ho : o.op = .load 200 x) (hx : a.eval x = .pointer (some ⟨b, n * 60, none⟩))
    (k : wpQuiet Tryz.prog ops C Q rest (a.put o.dst (.agg (fldA (r n))))) : wpQuiet Tryz.prog ops C Q (o :: rest) a := by
  refine wpq_of _ hgd (fun w hw => ?_) k
  have hl := run_loadVar_mid (P := Tryz.prog) w b (n * 60) 200 (fldA (r n)).toList _ ((h w hw).sub hn) under55 rfl (by rw [Array.length_toList, fldA_size]; exact info55)
  have e : (fldA (r n)).toList.toArray = fldA (r n) := by simp
  rw [e] at hl
  unfold execOp
  simp only [ho, hx, Instr.loadAt, Instr.sureAddr, Sem.run_bind, Sem.run_pure, Result.andThen_ok, hl]
theorem wpr_load_g {ops : Array Oper} {rest : List Oper} {o : Oper} {a : Act} {W : World} {b : Nat} {r : Nat → Nat → Bool} {Q : Exit → Act → World → Prop} (h : Rb W b r) (x : Operand) (hw : Region.wanted o (yielded ops a.tmps) = true) (ho : o.op = .load 202 x) (hx : a.eval x = .pointer (some ⟨b, 0, none⟩))
    (k : wpList Tryz.prog ops Q rest (a.put o.dst (.agg (rulA r))) W) : wpList Tryz.prog ops Q (o :: rest) a W := by
  unfold wpList
  rw [if_pos hw]
  refine .inl ?_
  refine wp_load_mid 202 x ho b 0 hx (rulA r).toList _ h.all under57 rfl (by rw [Array.length_toList, rulA_size]; exact info57) ?_
  rw [listA]
  exact k

end Go.Proofs.YtjmclcjhimcehaaGreatDoor
