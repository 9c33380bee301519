/-
  The flags of a list of numbers, as the program makes them.
-/
import Derived.Test.YtbecdaholpiaeaaDoorFq
import Derived.Test.YtbecdaholpiaeaaDoorCrl
namespace Go.Proofs.YtbecdaholpiaeaaDoor
open Go Go.RowKit
set_option linter.unusedVariables false

/-- A list's numbers, as flags. -/
def memP (l : List Int) (i : Nat) : Bool := decide ((i : Int) ∈ l)
theorem memP_next {l : List Int} {k : Nat} {x : Nat} (h : l[k]? = some (x : Int)) (i : Nat) : memP (l.take (k + 1)) i = if i = x then true else memP (l.take k) i := by
  unfold memP
  rw [List.take_add_one, h]
  by_cases e : i = x
  · subst e; simp
  · rw [if_neg e]
    congr 1
    apply propext
    simp only [Option.toList_some, List.mem_append, List.mem_singleton]
    exact ⟨fun h => h.resolve_right (by omega), .inl⟩
/-- What fieldOf answers. -/
def fldO (lo hi : Int) (l : List Int) : Nat → Bool := if listB lo hi l = true then memP l else fun _ => false
theorem fldO_yes {lo hi : Int} {l : List Int} (h : listB lo hi l = true) : fldO lo hi l = memP l := if_pos h
theorem fldO_no {lo hi : Int} {l : List Int} (h : listB lo hi l = false) : fldO lo hi l = fun _ => false := if_neg (by rw [h]; exact Bool.false_ne_true)
theorem riseB_up2 {lo hi : Int} : ∀ (l : List Int) (p : Option Int), riseB lo hi p l = true → ∀ x ∈ l, lo ≤ x ∧ x ≤ hi
  | [], _, _, x, hx => by cases hx
  | y :: r, p, h, x, hx => by
    unfold riseB at h
    simp only [Bool.and_eq_true, decide_eq_true_eq] at h
    rcases List.mem_cons.1 hx with rfl | hx
    · exact h.1.1
    · exact riseB_up2 r _ h.2 x hx
/-- What lies there in the round. -/
structure FoS (w : World) (B : Nat) (lo hi : Int) (W : World) (p : Nat → Bool) : Prop where
  z1 : ∃ q, Fb 88 W (B + 1) q
  z2 : Fb 88 W (B + 1 + 1) p
  c0 : W.cell? ⟨B, 0, none⟩ = some (.int .i64 lo)
  c1 : W.cell? ⟨B, 1, none⟩ = some (.int .i64 hi)
  be : Below B w W
theorem cell_not {W : World} {p q : Addr} {x : Value} (h : W.cell? q = some x) (hne : q.block ≠ p.block) (u : Value) : (W.setCell p u).cell? q = some x := by
  have e := heap_setCell_other W p q.block u hne
  unfold World.cell? at h ⊢
  rw [e]
  exact h
theorem FoS.put {w W : World} {B : Nat} {lo hi : Int} {p : Nat → Bool} (h : FoS w B lo hi W p) (n : Nat) : FoS w B lo hi (W.setCell ⟨B + 1 + 1, n, none⟩ (.bool true)) (fun i => if i = n then true else p i) := by
  obtain ⟨⟨q, z1⟩, z2, c0, c1, be⟩ := h
  exact ⟨⟨q, z1.far (by show B + 1 + 1 ≠ B + 1; omega) _⟩, z2.set n true, cell_not c0 (by show B ≠ B + 1 + 1; omega) _, cell_not c1 (by show B ≠ B + 1 + 1; omega) _, be.setCell (by show B ≤ B + 1 + 1; omega) _⟩

set_option maxRecDepth 10000 in
set_option maxHeartbeats 2000000 in
theorem fieldOf_try (ao : Option Addr) (n c : Nat) (l : List Int) (lo hi : Int) (w : World) (hr : Reads w (.slice ao n c) l) (hn : n ≤ 1048577) (h0 : 0 ≤ lo) (hl : lo ≤ 60) (h1 : hi ≤ 59) :
    Calls Tryd.prog 64 #[.slice ao n c, .agg #[.int .i64 lo, .int .i64 hi]] w fun e w' => e = .returned (.tuple #[.agg (fldA (fldO lo hi l)), .bool (listB lo hi l)]) ∧ Below w.heap.size w w' := by
  have HR : Hid (Reads w (.slice ao n c) l) := hr
  have HN : Hid (n = l.length) := hr.len
  clear hr
  go_enter Tryd.func64, Tryd.ntmps64
  go_wp2
  rw [none55]
  obtain ⟨W, hW⟩ : ∃ W, ((w.alloc (.cells #[.int .i64 lo, .int .i64 hi] 100)).alloc (.cells (fldA fun _ => false) 88)).alloc (.cells (fldA fun _ => false) 88) = W := ⟨_, rfl⟩
  have Z1 : Fb 88 W (w.heap.size + 1) (fun _ => false) := by rw [← hW]; exact ((Fb.new 88 (w.alloc (.cells #[.int .i64 lo, .int .i64 hi] 100)) _ (by simp)).alloc _)
  have Z2 : Fb 88 W (w.heap.size + 1 + 1) (fun _ => false) := by rw [← hW]; exact (Fb.new 88 _ _ (by simp))
  have c0 : W.cell? ⟨w.heap.size, 0, none⟩ = some (.int .i64 lo) := by rw [← hW]; simp [go_sem]
  have c1 : W.cell? ⟨w.heap.size, 1, none⟩ = some (.int .i64 hi) := by rw [← hW]; simp [go_sem]
  have hb : Below w.heap.size w W := by rw [← hW]; exact ba (ba (ba (Below.refl _ _) _) _) _
  rw [hW]
  clear hW
  have HZ : Hid (FoS w w.heap.size lo hi W fun _ => false) := ⟨⟨_, Z1⟩, Z2, c0, c1, hb⟩
  clear Z1 Z2 c0 c1 hb
  have HRB : Hid (∀ wr, Below w.heap.size w wr → Reads wr (.slice ao n c) l) := fun wr hb => HR.out.below hb
  generalize hB : w.heap.size = B at *
  go_loopw [7, 15] (fun a i wr => ∃ (k : Nat) (y : Int) (p : Nat → Bool) (pr : Option Int), k ≤ n ∧ i = .int .i64 k ∧ a = .int .i64 y ∧ lo - 1 ≤ y ∧ y ≤ 59 ∧ Hid (riseB lo hi none l = riseB lo hi pr (l.drop k) ∧ (pr = none → y = lo - 1) ∧ (∀ z, pr = some z → z = y) ∧ ∀ i, p i = memP (l.take k) i) ∧ Hid (FoS w B lo hi wr p)) (fun _ i _ => n - (intOf i).toNat)
  case atStart => exact ⟨0, lo - 1, _, none, Nat.zero_le _, rfl, by go_num, by omega, by omega, ⟨rfl, fun _ => rfl, fun z hz => (by cases hz), fun i => (by simp [memP])⟩, HZ⟩
  case round =>
    obtain ⟨k, y, p, pr, hk, rfl, rfl, hy0, hy1, HE, HS⟩ := hrel
    have c1 := HS.out.c1
    by_cases hlt : k < n
    · obtain ⟨x, hx⟩ : ∃ x, l[k]? = some x := ⟨_, List.getElem?_eq_getElem (by rw [← HN.out]; exact hlt)⟩
      have HX : Hid (l[k]? = some x) := hx
      have HA : Hid (riseB lo hi none l = ((decide (lo ≤ x) && decide (x ≤ hi)) && pr.all (fun y => decide (y < x)) && riseB lo hi (some x) (l.drop (k + 1)))) := HE.out.1.trans (riseB_at hx)
      obtain ⟨b, o, rfl, hb, d0⟩ := int_at (HRB.out _ HS.out.be) hx
      clear hx
      by_cases hgo : y < x ∧ x ≤ hi
      · obtain ⟨hyx, hxh⟩ := hgo
        obtain ⟨m, rfl⟩ : ∃ m : Nat, x = (m : Int) := ⟨x.toNat, by omega⟩
        have f0 := HS.out.z2.fr m
        have e0 := HS.out.z2.cell (i := m) (by omega)
        have HNX : Hid (riseB lo hi none l = riseB lo hi (some (m : Int)) (l.drop (k + 1)) ∧ (some (m : Int) = none → (m : Int) = lo - 1) ∧ (∀ z, some (m : Int) = some z → z = m) ∧ ∀ i, (if i = m then true else p i) = memP (l.take (k + 1)) i) := by
          refine ⟨HA.out.trans ?_, fun h => (by cases h), fun z hz => (Option.some.inj hz).symm, fun i => ?_⟩
          · have h2 : pr.all (fun y => decide (y < (m : Int))) = true := by
              cases pr with
              | none => rfl
              | some z => have := HE.out.2.2.1 z rfl
                          subst this
                          simpa using hyx
            rw [h2]
            simp [show lo ≤ (m : Int) by omega, hxh]
          · rw [memP_next HX.out, HE.out.2.2.2 i]
        have HT : Hid (FoS w B lo hi (wr.setCell ⟨B + 1 + 1, m, none⟩ (.bool true)) (fun i => if i = m then true else p i)) := HS.out.put m
        have g1 : decide ((m : Int) ≤ y) = false := decide_eq_false (by omega)
        have g2 : decide (hi < (m : Int)) = false := decide_eq_false (by omega)
        go_wp2
        go_roundw
        case rel => exact ⟨k + 1, m, _, some (m : Int), by omega, by go_num, rfl, by omega, by omega, HNX, HT⟩
        case measure => simp [intOf]; omega
      · have HF : Hid (listB lo hi l = false) := listB_no (HA.out.trans (by
          by_cases h3 : x ≤ hi
          · have h4 : ¬ y < x := fun h => hgo ⟨h, h3⟩
            cases pr with
            | none => have := HE.out.2.1 rfl
                      have h5 : decide (lo ≤ x) = false := decide_eq_false (by omega)
                      rw [h5]; rfl
            | some z => have := HE.out.2.2.1 z rfl
                        subst this
                        simp [h4]
          · simp [h3]))
        obtain ⟨q1, z1⟩ := HS.out.z1
        have HZ1 : Hid (Fb 88 wr (B + 1) q1) := z1
        have HRR : Hid (Fb 88 (wr.setRow (B + 1) (fldA fun _ => false)) (B + 1) (fun _ => false) ∧ Below B w (wr.setRow (B + 1) (fldA fun _ => false))) := ⟨z1.row _, below_setRow HS.out.be (by omega) _⟩
        clear z1
        by_cases h3 : x ≤ y
        · have g1 : decide (x ≤ y) = true := decide_eq_true h3
          go_wp2_with (first | (refine wpl_build rfl rfl ?_) | (refine wpl_store HZ1.out (fun _ => false) (.tmp 4) (.tmp 28) rfl rfl rfl rfl ?_))
          refine bodyPost_ret (ret_f2 rfl rfl rfl HRR.out.1) rfl ?_
          subst hB
          exact ⟨by rw [HF.out, fldO_no HF.out]; rfl, HRR.out.2⟩
        · have g1 : decide (x ≤ y) = false := decide_eq_false h3
          have g2 : decide (hi < x) = true := decide_eq_true (by omega)
          go_wp2_with (first | (refine wpl_build rfl rfl ?_) | (refine wpl_store HZ1.out (fun _ => false) (.tmp 4) (.tmp 28) rfl rfl rfl rfl ?_))
          refine bodyPost_ret (ret_f2 rfl rfl rfl HRR.out.1) rfl ?_
          subst hB
          exact ⟨by rw [HF.out, fldO_no HF.out]; rfl, HRR.out.2⟩
    · have hkn : k = n := by omega
      have HF : Hid (listB lo hi l = !fldE p (fun _ => false) ∧ fldA p = fldA (fldO lo hi l)) := by
        have hkl : k = l.length := by rw [← HN.out]; omega
        have h2 : riseB lo hi none l = true := HE.out.1.trans (riseB_end hkl)
        have h3 := listB_rise h2
        have hp : ∀ i, p i = memP l i := fun i => by rw [HE.out.2.2.2 i, hkl, List.take_length]
        have hup := riseB_up2 l none h2
        by_cases h4 : 0 < l.length
        · have h5 : listB lo hi l = true := by rw [h3]; exact decide_eq_true h4
          refine ⟨?_, by rw [fldO_yes h5]; exact fldA_ext fun i _ => hp i⟩
          rw [h5]
          cases he : fldE p (fun _ => false) with
          | false => rfl
          | true =>
            exfalso
            obtain ⟨x, hx⟩ : ∃ x, x ∈ l := ⟨l[0], List.getElem_mem h4⟩
            have hb := hup x hx
            have := fldE_iff.1 he x.toNat (by omega)
            rw [hp] at this
            exact absurd hx (by have := of_decide_eq_false this; rw [Int.toNat_of_nonneg (by omega)] at this; exact this)
        · have h5 : listB lo hi l = false := by rw [h3]; exact decide_eq_false h4
          have h6 : l = [] := List.eq_nil_of_length_eq_zero (by omega)
          refine ⟨?_, by rw [fldO_no h5]; exact fldA_ext fun i _ => by rw [hp, h6]; simp [memP]⟩
          rw [h5]
          have : fldE p (fun _ => false) = true := fldE_iff.2 fun i _ => by rw [hp, h6]; simp [memP]
          rw [this]; rfl
      obtain ⟨q1, z1⟩ := HS.out.z1
      have HZ1 : Hid (Fb 88 wr.drew (B + 1) q1) := z1
      have HZ2 : Hid (Fb 88 wr.drew (B + 1 + 1) p) := HS.out.z2
      have HRR : Hid (Fb 88 (wr.drew.setRow (B + 1) (fldA p)) (B + 1) p ∧ Below B w (wr.drew.setRow (B + 1) (fldA p))) := ⟨Fb.row (W := wr.drew) z1 p, below_setRow HS.out.be.drew (by omega) _⟩
      clear z1 hkn
      go_wp2
      refine wp_region_pick (fun w' => Fb 88 w' (B + 1 + 1) p) [0, 1, 2, 3] 5 1 (by kernel_rfl) (by decide) (by decide) (by kernel_rfl) (fun _ _ d _ _ h => by cases d <;> exact h) HZ2.out ?_
      refine wpTakes_l rfl (fun x h => by cases h) (wpq_load (fun _ h => h) (.tmp 6) rfl rfl rfl ?_)
      refine wpQuiet_nil ?_
      refine wpTakes_l rfl (fun x h => by cases h) (wpq_load (fun _ h => h) (.tmp 6) rfl rfl rfl ?_)
      refine wpQuiet_nil ?_
      refine wpTakes_l rfl (fun x h => by cases h) (wpq_build rfl rfl ?_)
      refine wpQuiet_nil ?_
      refine wpTakes_l rfl (fun x h => by cases h) (wpq_neq (.tmp 34) (.tmp 35) rfl rfl rfl rfl ?_)
      refine wpQuiet_nil ?_
      refine takes_nil ?_
      refine any_one (fuel := 0) (i := 4) (by kernel_rfl) rfl rfl ?_
      intro K hK
      refine wpl_store HZ1.out p (.tmp 4) (.tmp 33) rfl rfl rfl rfl ?_
      go_wp2
      refine hK.out _ _ (HZ2.out.rowFar (by omega)) ?_
      clear hK K
      refine any_done (by kernel_rfl) ?_
      simp only [List.drop_succ_cons, List.drop_zero]
      go_wp2
      refine bodyPost_ret (ret_f2 rfl rfl rfl HRR.out.1) rfl ?_
      subst hB
      exact ⟨by rw [HF.out.1, HF.out.2]; rfl, HRR.out.2⟩
theorem fieldOf_any {w : World} {v : Value} {l : List Int} (lo hi : Int) (hr : Reads w v l) (hn : l.length ≤ 1048577) (h0 : 0 ≤ lo) (hl : lo ≤ 60) (h1 : hi ≤ 59) : Calls Tryd.prog 64 #[v, .agg #[.int .i64 lo, .int .i64 hi]] w fun e w' => e = .returned (.tuple #[.agg (fldA (fldO lo hi l)), .bool (listB lo hi l)]) ∧ Below w.heap.size w w' := by
  obtain ⟨ao, c, rfl, _⟩ := id hr
  exact fieldOf_try ao _ c l lo hi w hr hn h0 hl h1
end Go.Proofs.YtbecdaholpiaeaaDoor
